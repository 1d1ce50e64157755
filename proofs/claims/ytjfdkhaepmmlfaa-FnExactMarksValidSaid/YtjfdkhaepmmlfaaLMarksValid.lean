/- The law on MarksValid, walked. -/
import Derived.Test.YtjfdkhaepmmlfaaLaw
import Derived.Test.YtjfdkhaepmmlfaaMkV
namespace Go.Proofs.Ytjfdkhaepmmlfaa
open Go.RowKit

set_option maxRecDepth 100000 in
set_option maxHeartbeats 4000000 in
/-- laws.FnExactMarksValid -/
theorem lawMarksValid (B : ByteArray) (A : Option Addr) (cap : Nat) (es : List (ByteArray × ByteArray)) (P : Option Addr) (pcap : Nat) (xs : List Mk) (w : World) (hs : B.size ≤ maxLen) (hE : EdgesIn w w.heap.size A es) (hl : es.length ≤ maxLen) (hS : ∀ e ∈ es, e.1.size ≤ maxLen ∧ e.2.size ≤ maxLen)
    (hX : MarksIn w w.heap.size P xs) (hxl : xs.length ≤ maxLen) (hxs : ∀ m ∈ xs, m.1.size ≤ maxLen ∧ (Lit.int .i64 m.2.1).wf = true) :
    Calls Try.prog 4 #[.agg #[.string B, .slice A es.length cap], .slice P xs.length pcap] w fun e w' => e = .returned (.bool true) ∧ Below w.heap.size w w' := by
  have HXM := Lib.hid hxl
  have HXS : Hid (∀ m ∈ xs, m.1.size ≤ maxLen) := Lib.hid fun m hm => (hxs m hm).1
  clear hxs hxl
  have hb1 : Below w.heap.size w (w.alloc (.cells #[.string B, .slice A es.length cap] 24)) := (Below.refl _ _).alloc (Nat.le_refl _) _
  have hc0 : (w.alloc (.cells #[.string B, .slice A es.length cap] 24)).cell? ⟨w.heap.size, 0, none⟩ = some (.string B) := by go_simp
  have hc1 : (w.alloc (.cells #[.string B, .slice A es.length cap] 24)).cell? ⟨w.heap.size, 1, none⟩ = some (.slice A es.length cap) := by go_simp
  have hz1 : (w.alloc (.cells #[.string B, .slice A es.length cap] 24)).heap.size = w.heap.size + 1 := by simp
  have HS := Lib.hid hS; have HL := Lib.hid hl; have HM := Lib.hid hs
  clear hS hl hs
  obtain ⟨v, hv⟩ : ∃ v, szv (B.size + (es.length + letters es)) 1048576 = v := ⟨_, rfl⟩
  have HV := Lib.hid hv; clear hv
  go_enter Try.func4, Try.ntmps4
  go_wp2_with fail
  refine (szNet_any B A cap es 1048576 _ HM.out ((hE.below hb1).more hb1.size) HL.out HS.out (by omega) (by omega)).mono ?_
  rintro e w2 ⟨rfl, hb2⟩
  rw [HV.out]
  have hd0 := (hb2.cell (p := ⟨w.heap.size, 0, none⟩) (by simp)).trans hc0
  have hd1 := (hb2.cell (p := ⟨w.heap.size, 1, none⟩) (by simp)).trans hc1
  have hb2' := hb1.trans (hb2.mono hb1.size)
  have hz2 := hb2.size
  rw [hz1] at hz2
  clear hb2 hc0 hc1
  by_cases h0 : v < 0
  · go_wp2_with fail
    go_ret
    exact ⟨rfl, hb2'⟩
  have hle : B.size + (es.length + letters es) ≤ 1048576 := by
    have := HV.out
    unfold szv at this
    split at this <;> omega
  have hv1 : v ≤ 1048576 := by
    have := HV.out
    unfold szv at this
    split at this <;> omega
  have HL' : Hid (es.length ≤ 1099511627776) := Lib.hid (by omega)
  have HS' : Hid (∀ e ∈ es, e.1.size ≤ 1099511627776 ∧ e.2.size ≤ 1099511627776) := Lib.hid fun e he => by
    have := letters_mem he
    omega
  clear hle
  obtain ⟨u, hu⟩ : ∃ u, szm (xs.length + lettersM xs) v = u := ⟨_, rfl⟩
  have HU := Lib.hid hu; clear hu
  go_wp2_with fail
  refine (szMarkS_any P pcap xs v _ ((hX.below hb2').more hb2'.size) HXM.out HXS.out (by omega) hv1).mono ?_
  unfold SzM
  rw [HU.out]
  rintro e w2b ⟨rfl, hb2b⟩
  have hd0 := (hb2b.cell (p := ⟨w.heap.size, 0, none⟩) (by simp only; omega)).trans hd0
  have hd1 := (hb2b.cell (p := ⟨w.heap.size, 1, none⟩) (by simp only; omega)).trans hd1
  have hz2 := Nat.le_trans hz2 hb2b.size
  have hb2' := hb2'.trans (hb2b.mono hb2'.size)
  clear hb2b
  by_cases hu0 : u < 0
  · go_wp2_with fail
    go_ret
    exact ⟨rfl, hb2'⟩
  have HXL : Hid (xs.length ≤ 1099511627776) := Lib.hid (by
    have := HU.out
    unfold szm at this
    split at this <;> omega)
  obtain ⟨q, hq⟩ : ∃ q, marksOkV B es xs = q := ⟨_, rfl⟩
  have hp : ∀ (W W' : World) (e : Ending), BoolPost (marksOkV B es xs) W e W' → e = .returned (.bool q) ∧ Below W.heap.size W W' := fun W W' e h => by
    unfold BoolPost at h
    rw [hq] at h
    exact h
  have HP := Lib.hid hp
  clear hq hp
  go_wp2_with fail
  refine (toNet_any B A cap es _ ((hE.below hb2').more hb2'.size) HL'.out).mono ?_
  rintro e w3 ⟨g3, rfl, hg3, hE3, hb3⟩
  have hb3' := hb2'.trans (hb3.mono hb2'.size)
  have he0 := (hb3.cell (p := ⟨w.heap.size, 0, none⟩) (by simp only; omega)).trans hd0
  have he1 := (hb3.cell (p := ⟨w.heap.size, 1, none⟩) (by simp only; omega)).trans hd1
  have hz3' := Nat.le_trans hz2 hb3.size
  clear hb3 hd0 hd1
  go_wp2_with fail
  refine (toMarkS_row P pcap xs _ ((hX.below hb3').more hb3'.size) HXL.out).mono ?_
  rintro e w4 ⟨g4, rfl, hg4, hX4, hb4, _⟩
  have hb4' := hb3'.trans (hb4.mono hb3'.size)
  have hf0 := (hb4.cell (p := ⟨w.heap.size, 0, none⟩) (by simp only; omega)).trans he0
  have hf1 := (hb4.cell (p := ⟨w.heap.size, 1, none⟩) (by simp only; omega)).trans he1
  have hz4' := Nat.le_trans hz3' hb4.size
  have hE4 := (hE3.below hb4).more hb4.size
  clear hb4 he0 he1 hE3
  go_wp2_with fail
  refine (specMarksValid_any B (some ⟨g3, 0, none⟩) es.length es (some ⟨g4, 0, none⟩) xs.length xs _ HM.out hE4 HL'.out HS'.out hX4 HXL.out).mono ?_
  intro e w5 h5
  obtain ⟨rfl, hb5⟩ := HP.out _ _ _ h5
  clear h5
  have hb5' := hb4'.trans (hb5.mono hb4'.size)
  have hi0 := (hb5.cell (p := ⟨w.heap.size, 0, none⟩) (by simp only; omega)).trans hf0
  have hi1 := (hb5.cell (p := ⟨w.heap.size, 1, none⟩) (by simp only; omega)).trans hf1
  have hz5' := Nat.le_trans hz4' hb5.size
  clear hb5 hf0 hf1 hE4 hX4
  go_wp2_with fail
  refine (toNet_any B A cap es _ ((hE.below hb5').more hb5'.size) HL'.out).mono ?_
  rintro e w6 ⟨g6, rfl, hg6, hE6, hb6⟩
  have hb6' := hb5'.trans (hb6.mono hb5'.size)
  have hj0 := (hb6.cell (p := ⟨w.heap.size, 0, none⟩) (by simp only; omega)).trans hi0
  have hj1 := (hb6.cell (p := ⟨w.heap.size, 1, none⟩) (by simp only; omega)).trans hi1
  have hz6' := Nat.le_trans hz5' hb6.size
  clear hb6 hi0 hi1
  have hbx : Below w6.heap.size w6 (w6.alloc (.cells #[.string B, .slice (some ⟨g6, 0, none⟩) es.length es.length] 30)) := (Below.refl _ _).alloc (Nat.le_refl _) _
  have tx := Two.made w6 B (some ⟨g6, 0, none⟩) es.length es.length 30
  have hzx : (w6.alloc (.cells #[.string B, .slice (some ⟨g6, 0, none⟩) es.length es.length] 30)).heap.size = w6.heap.size + 1 := by simp
  have hbx' := hb6'.trans (hbx.mono hb6'.size)
  have hEx := (hE6.below hbx).more hbx.size
  have hn0 := (hbx.cell (p := ⟨w.heap.size, 0, none⟩) (by simp only; omega)).trans hj0
  have hn1 := (hbx.cell (p := ⟨w.heap.size, 1, none⟩) (by simp only; omega)).trans hj1
  clear hj0 hj1 hE6 hbx
  go_wp2_with fail
  refine (toMarkS_row P pcap xs _ ((hX.below hbx').more hbx'.size) HXL.out).mono ?_
  rintro e w7 ⟨g7, rfl, hg7, hX7, hb7, _⟩
  have t7 := tx.below hb7 (by omega)
  have hb7' := hbx'.trans (hb7.mono hbx'.size)
  have hE7 := (hEx.below hb7).more hb7.size
  have hm0 := (hb7.cell (p := ⟨w.heap.size, 0, none⟩) (by simp only; omega)).trans hn0
  have hm1 := (hb7.cell (p := ⟨w.heap.size, 1, none⟩) (by simp only; omega)).trans hn1
  have hz7 := hb7.size
  rw [hzx] at hz7
  clear hb7 hn0 hn1 tx hEx hbx'
  have u0 := t7.1; have u1 := t7.2
  go_wp2_with fail
  refine (implMarksValid_any B (some ⟨g6, 0, none⟩) es.length es (some ⟨g7, 0, none⟩) xs.length xs _ HM.out hE7 HL'.out HS'.out hX7 HXL.out).mono ?_
  intro e w8 h8
  obtain ⟨rfl, hb8⟩ := HP.out _ _ _ h8
  clear h8 u0 u1
  have t8 := t7.below hb8 (by omega)
  have hb8' := hb7'.trans (hb8.mono hb7'.size)
  have hE8 := (hE7.below hb8).more hb8.size
  have hX8 := (hX7.below hb8).more hb8.size
  have hk2 := (hb8.cell (p := ⟨w.heap.size, 0, none⟩) (by simp only; omega)).trans hm0
  have hk3 := (hb8.cell (p := ⟨w.heap.size, 1, none⟩) (by simp only; omega)).trans hm1
  have hz8 := Nat.le_trans hz7 hb8.size
  have q1 : (q != q) = false := by simp
  clear hb8 hm0 hm1 t7 hE7 hX7
  go_wp2_with fail
  have hS : ∀ W, Below w8.heap.size w8 W → (W.cell? ⟨w6.heap.size, 0, none⟩ = some (.string B) ∧ W.cell? ⟨w6.heap.size, 1, none⟩ = some (.slice (some ⟨g6, 0, none⟩) es.length es.length) ∧ W.cell? ⟨w.heap.size, 0, none⟩ = some (.string B) ∧ W.cell? ⟨w.heap.size, 1, none⟩ = some (.slice A es.length cap) ∧ Below w8.heap.size w8 W) :=
    fun W h => ⟨(h.cell (by simp only; omega)).trans t8.1, (h.cell (by simp only; omega)).trans t8.2, (h.cell (by simp only; omega)).trans hk2, (h.cell (by simp only; omega)).trans hk3, h⟩
  have hA : ∀ W, Below w8.heap.size w8 W → EdgesIn W W.heap.size A es := fun W h => (hE.below (hb8'.trans (h.mono hb8'.size))).more (hb8'.trans (h.mono hb8'.size)).size
  have hG : ∀ W, Below w8.heap.size w8 W → EdgesIn W W.heap.size (some ⟨g6, 0, none⟩) es := fun W h => (hE8.below h).more h.size
  have HSS := Lib.hid hS; have HA := Lib.hid hA; have HG := Lib.hid hG
  have HX8 := Lib.hid hX8
  clear hS hA hG hE8 hk2 hk3 t8 hX8
  go_region_held3 (fun W => W.cell? ⟨w6.heap.size, 0, none⟩ = some (.string B) ∧ W.cell? ⟨w6.heap.size, 1, none⟩ = some (.slice (some ⟨g6, 0, none⟩) es.length es.length) ∧ W.cell? ⟨w.heap.size, 0, none⟩ = some (.string B) ∧ W.cell? ⟨w.heap.size, 1, none⟩ = some (.slice A es.length cap) ∧ Below w8.heap.size w8 W)
    (first | exact HSS.out _ (Below.refl _ _).drew | exact HSS.out _ ((Below.refl _ _).drew.trans hb9) | exact HSS.out _ (((Below.refl _ _).drew.trans hb9).trans (hb10.mono hb9.size)))
    (first
      | (go_at_call 10; refine (toNet_any B A cap es _ (HA.out _ (Below.refl _ _).drew) HL'.out).mono ?_; rintro e w9 ⟨g9, rfl, hg9, hE9, hb9⟩)
      | (go_at_call 12; refine (eqNet_t B _ _ _ _ es _ (HG.out _ ((Below.refl _ _).drew.trans hb9)) hE9 HL'.out).mono ?_; rintro e w10 ⟨rfl, hb10⟩))
  rename_i hHeld
  have hbx := hHeld.2.2.2.2
  have hb10' := hb8'.trans (hbx.mono hb8'.size)
  have hX10 := (HX8.out.below hbx).more hbx.size
  clear hHeld hbx
  go_wp2_with fail
  refine (toMarkS_row P pcap xs _ ((hX.below hb10').more hb10'.size) HXL.out).mono ?_
  rintro e w11 ⟨g11, rfl, hg11, hX11, hb11, _⟩
  have hb11' := hb10'.trans (hb11.mono hb10'.size)
  have hXo := (hX10.below hb11).more hb11.size
  clear hb11 hX10
  go_wp2_with fail
  refine (eqMarkS_t _ _ _ _ xs _ hXo hX11 HXL.out).mono ?_
  rintro e w12 ⟨rfl, hb12⟩
  have hb12' := hb11'.trans (hb12.mono hb11'.size)
  clear hb12
  go_wp2_with fail
  go_ret
  exact ⟨rfl, hb12'⟩

end Go.Proofs.Ytjfdkhaepmmlfaa
