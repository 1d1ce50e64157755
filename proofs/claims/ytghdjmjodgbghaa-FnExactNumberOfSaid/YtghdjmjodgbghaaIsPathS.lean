/- Whether a text is a path, by the model. -/
import Derived.Test.YtghdjmjodgbghaaIsPath
import Derived.Test.YtghdjmjodgbghaaSpec2
namespace Go.Proofs.Ytghdjmjodgbghaa
open Go.RowKit

/-- the edge that a text of one letter names -/
def edgeB (es : List (ByteArray × ByteArray)) (b : ByteArray) : ByteArray × ByteArray := es.getD (eIdx es.length b.data.toList).toNat (⟨#[]⟩, ⟨#[]⟩)

theorem edgeB_at {es : List (ByteArray × ByteArray)} {p : ByteArray} {i : Nat} (h : i < p.size) (hx : 0 ≤ eIdx es.length [p.data.toList.getD i 0]) : edgeB es (p.extract i (i + 1)) = edgeOf es (p.data.toList.getD i 0) := by
  obtain ⟨k, hk, he⟩ := eIdx_some hx
  rw [edgeOf_at hk he]
  unfold edgeB
  rw [letter_at h, he]
  simp [List.getD, hk]

theorem l2Edge_b (B : ByteArray) (A : Option Addr) (cap : Nat) (es : List (ByteArray × ByteArray)) (b : ByteArray) (w : World) (hE : EdgesIn w w.heap.size A es) (hl : es.length ≤ 1099511627776) (hi : 0 ≤ eIdx es.length b.data.toList) :
    Calls Try.prog 58 #[.agg #[.string B, .slice A es.length cap], .string b] w fun e w' => e = .returned (.agg #[.string (edgeB es b).1, .string (edgeB es b).2]) ∧ Below w.heap.size w w' := by
  obtain ⟨k, hk, he⟩ := eIdx_some hi
  have : edgeB es b = es[k] := by
    unfold edgeB
    rw [he]
    simp [List.getD, hk]
  rw [this]
  exact l2Edge_any B A cap es b k w hE hl hk he

set_option maxRecDepth 100000 in
set_option maxHeartbeats 4000000 in
/-- spec.l2Path -/
theorem l2Path_any (B : ByteArray) (A : Option Addr) (cap : Nat) (es : List (ByteArray × ByteArray)) (p : ByteArray) (w : World) (hE : EdgesIn w w.heap.size A es) (hl : es.length ≤ 1099511627776) (hp : p.size ≤ 1099511627776) :
    Calls Try.prog 95 #[.agg #[.string B, .slice A es.length cap], .string p] w (BoolPost (decB (PathOk es p.data.toList)) w) := by
  have HL := Lib.hid hl
  clear hl
  have hb1 : Below w.heap.size w (w.alloc (.cells #[.string B, .slice A es.length cap] 29)) := (Below.refl _ _).alloc (Nat.le_refl _) _
  have t1 := Two.made w B A es.length cap 29
  have hz1 : (w.alloc (.cells #[.string B, .slice A es.length cap] 29)).heap.size = w.heap.size + 1 := by simp
  go_enter Try.func95, Try.ntmps95
  go_wp2_with fail
  generalize hW1 : w.alloc (.cells #[.string B, .slice A es.length cap] 29) = w1 at hb1 t1 hz1 ⊢
  clear hW1
  have HT1 := Lib.hid t1; have HB1 := Lib.hid hb1
  clear t1 hb1
  go_loopw [8] (fun c wr => ∃ (k : Nat), k ≤ p.size ∧ c = .int .i64 k ∧ (∀ i, i < k → Goes es p.data.toList i) ∧ Below w1.heap.size w1 wr) (fun c _ => p.size - (intOf c).toNat)
  case atStart => exact ⟨0, Nat.zero_le _, rfl, fun i hi => absurd hi (by omega), Below.refl _ _⟩
  case round =>
    obtain ⟨k, hk, rfl, hgo, hb⟩ := hrel
    have HGO := Lib.hid hgo; have HB := Lib.hid hb
    have tr := HT1.out.below hb (by omega)
    have hzr := hb.size
    clear hgo hb
    by_cases hlt : k < p.size
    case neg =>
      have hkp : k = p.size := by omega
      clear tr
      by_cases h60 : (p.size : Int) ≤ 60
      · have HQ : Hid (decB (PathOk es p.data.toList) = true) := Lib.hid (decB_t ⟨by simp; omega, fun i hi => HGO.out i (by simp at hi; omega)⟩)
        have hd : decide ((p.size : Int) ≤ 60) = true := by simpa using h60
        go_wp2_with fail
        go_ret
        exact ⟨by rw [HQ.out]; first | rfl | simp [h60], HB1.out.trans (HB.out.mono (by omega))⟩
      · have HQ : Hid (decB (PathOk es p.data.toList) = false) := Lib.hid (decB_f fun h => by have := h.1; simp at this; omega)
        have hd : decide ((p.size : Int) ≤ 60) = false := by simpa using h60
        go_wp2_with fail
        go_ret
        exact ⟨by rw [HQ.out]; first | rfl | simp [h60], HB1.out.trans (HB.out.mono (by omega))⟩
    obtain ⟨x, hx⟩ : ∃ x, eIdx es.length (p.extract k (k + 1)).data.toList = x := ⟨_, rfl⟩
    have hlet : eIdx es.length [p.data.toList.getD k 0] = x := by rw [← letter_at hlt, hx]
    have HX := Lib.hid hx; have HLET := Lib.hid hlet
    clear hx hlet
    have hS : ∀ W, Below wr.heap.size wr W → (W.cell? ⟨w.heap.size, 0, none⟩ = some (.string B) ∧ W.cell? ⟨w.heap.size, 1, none⟩ = some (.slice A es.length cap) ∧ Below wr.heap.size wr W) :=
      fun W h => ⟨(h.cell (by simp only; omega)).trans tr.1, (h.cell (by simp only; omega)).trans tr.2, h⟩
    have HSS := Lib.hid hS
    clear hS
    have a1 : (0 : Int) ≤ (k : Int) := by omega
    have a2 : (k : Int) < (p.size : Int) := by omega
    have a4 : (0 : Int) ≤ (k : Int) + 1 := by omega
    have a5 : ((k : Int) + 1).toNat = k + 1 := by omega
    have a6 : (k : Int) + 1 ≤ (p.size : Int) := by omega
    have a7 : k + 1 ≤ p.size := by omega
    have a8 : (k : Int) ≤ (k : Int) + 1 := by omega
    have a3 : IntKind.i64.wrap ((k : Int) + 1) = (k : Int) + 1 := IntWalk.i64_in _ (by omega)
    go_wp2_with fail
    go_region_held3 (fun W => W.cell? ⟨w.heap.size, 0, none⟩ = some (.string B) ∧ W.cell? ⟨w.heap.size, 1, none⟩ = some (.slice A es.length cap) ∧ Below wr.heap.size wr W)
      (first
        | exact HSS.out _ (Below.refl _ _).drew
        | exact HSS.out _ ((Below.refl _ _).drew.trans hb4))
      (first
        | (go_at_call 45; refine (l1Index_any _ A es.length cap _ _ HL.out).mono ?_; rw [HX.out]; rintro e w4 ⟨rfl, hb4⟩))
    rename_i hHeld
    have hbx := hHeld.2.2
    have HBX := Lib.hid hbx
    have hzx := hbx.size
    clear hHeld a1 a2 a3 a4 a5 a6 a7 a8 HSS hbx hb4
    have HBW := Lib.hid (HB1.out.trans ((HB.out.trans (HBX.out.mono (by omega))).mono (show w.heap.size ≤ w1.heap.size by omega)))
    by_cases hx0 : x < 0
    · have HQ : Hid (decB (PathOk es p.data.toList) = false) := Lib.hid (decB_f fun h => goes_not (by simp; omega) (fun g => by have := g.1; rw [HLET.out] at this; omega) h)
      go_wp2_with fail
      go_ret
      exact ⟨by rw [HQ.out]; rfl, HBW.out⟩
    have tx := tr.below HBX.out (by omega)
    have hS : ∀ W, Below w4.heap.size w4 W → (W.cell? ⟨w.heap.size, 0, none⟩ = some (.string B) ∧ W.cell? ⟨w.heap.size, 1, none⟩ = some (.slice A es.length cap) ∧ Below w4.heap.size w4 W) :=
      fun W h => ⟨(h.cell (by simp only; omega)).trans tx.1, (h.cell (by simp only; omega)).trans tx.2, h⟩
    have hA : ∀ W, Below w4.heap.size w4 W → EdgesIn W W.heap.size A es := fun W h => by
      have hbW := HBW.out.trans (h.mono HBW.out.size)
      exact (hE.below hbW).more hbW.size
    have HSS := Lib.hid hS; have HA := Lib.hid hA
    clear hS hA tx tr
    by_cases hk0 : k = 0
    · subst hk0
      have hk1 : ¬ ((0 : Int) > 0) := by omega
      have HGN : Hid (∀ i, i < 0 + 1 → Goes es p.data.toList i) := Lib.hid fun i hi => by
        have : i = 0 := by omega
        subst this
        exact ⟨by rw [HLET.out]; omega, fun h => absurd h (by omega)⟩
      go_wp2_with fail
      go_quiet (fail)
      go_wp2_with fail
      go_roundw
      case rel => exact ⟨0 + 1, by omega, by go_num, HGN.out, HB.out.trans ((below_drewN HBX.out _).mono (by omega))⟩
      case measure => simp [intOf]; omega
    have hk1 : (k : Int) > 0 := by omega
    obtain ⟨m, rfl⟩ : ∃ m, k = m + 1 := ⟨k - 1, by omega⟩
    have hxm : 0 ≤ eIdx es.length [p.data.toList.getD m 0] := (HGO.out m (by omega)).1
    have HI1 : Hid (0 ≤ eIdx es.length (p.extract m (m + 1)).data.toList) := Lib.hid (by rw [letter_at (by omega)]; exact hxm)
    have HI2 : Hid (0 ≤ eIdx es.length (p.extract (m + 1) (m + 1 + 1)).data.toList) := Lib.hid (by rw [HX.out]; omega)
    have HE1 := Lib.hid (edgeB_at (es := es) (show m < p.size by omega) hxm)
    have HE2 := Lib.hid (edgeB_at (es := es) hlt (by rw [HLET.out]; omega))
    clear hxm
    have a1 : (0 : Int) ≤ ((m + 1 : Nat) : Int) := by omega
    have b1 : IntKind.i64.wrap (((m + 1 : Nat) : Int) - 1) = (m : Int) := by rw [IntWalk.i64_in _ (by omega)]; omega
    have a2 : (m : Int) + 1 < (p.size : Int) := by omega
    have a4 : (0 : Int) ≤ (m : Int) + 1 + 1 := by omega
    have a5 : ((m : Int) + 1 + 1).toNat = m + 1 + 1 := by omega
    have a6 : (m : Int) + 1 + 1 ≤ (p.size : Int) := by omega
    have a7 : m + 1 + 1 ≤ p.size := by omega
    have a8 : (m : Int) + 1 ≤ (m : Int) + 1 + 1 := by omega
    have a9 : (m : Int) ≤ (m : Int) + 1 := by omega
    have a10 : (m : Int) + 1 ≤ (p.size : Int) := by omega
    have a11 : (0 : Int) ≤ (m : Int) := by omega
    have a12 : (0 : Int) ≤ (m : Int) + 1 := by omega
    have a13 : ((m : Int) + 1).toNat = m + 1 := by omega
    have a14 : m + 1 ≤ p.size := by omega
    have a15 : m ≤ p.size := by omega
    have b4 : IntKind.i64.wrap (m : Int) = (m : Int) := IntWalk.i64_in _ (by omega)
    have b2 : IntKind.i64.wrap ((m : Int) + 1 - 1) = (m : Int) := by rw [IntWalk.i64_in _ (by omega)]; omega
    have a3 : IntKind.i64.wrap ((m : Int) + 1 + 1) = (m : Int) + 1 + 1 := IntWalk.i64_in _ (by omega)
    have e1 := edge_from; have e2 := edge_to
    go_wp2_with fail
    go_region_held3 (fun W => W.cell? ⟨w.heap.size, 0, none⟩ = some (.string B) ∧ W.cell? ⟨w.heap.size, 1, none⟩ = some (.slice A es.length cap) ∧ Below w4.heap.size w4 W)
      (first
        | exact HSS.out _ (Below.refl _ _).drew
        | exact HSS.out _ ((Below.refl _ _).drew.trans hb5)
        | exact HSS.out _ (((Below.refl _ _).drew.trans hb5).trans (hb6.mono hb5.size)))
      (first
        | (go_at_call 58; refine (l2Edge_b B A cap es _ _ (HA.out _ ((Below.refl _ _).drew.trans hb5)) HL.out (by first | exact HI1.out | exact HI2.out)).mono ?_; rintro e w6 ⟨rfl, hb6⟩)
        | (go_at_call 58; refine (l2Edge_b B A cap es _ _ (HA.out _ (Below.refl _ _).drew) HL.out (by first | exact HI1.out | exact HI2.out)).mono ?_; rintro e w5 ⟨rfl, hb5⟩))
    all_goals
      rename_i hHeld
      have hby := hHeld.2.2
      have HBY := Lib.hid (HB.out.trans ((HBX.out.trans (hby.mono (by omega))).mono (by omega)))
      clear hHeld a1 a2 a3 a4 a5 a6 a7 a8 a9 a10 a11 a12 a13 a14 a15 b1 b2 b4 e1 e2 HSS HA hby hb5 hb6
      cases ht : ((edgeB es (p.extract m (m + 1))).2.toList == (edgeB es (p.extract (m + 1) (m + 1 + 1))).1.toList) with
      | false =>
        have ht2 : ((edgeB es (p.extract m (m + 1))).2.toList != (edgeB es (p.extract (m + 1) (m + 1 + 1))).1.toList) = true := by simp [bne, ht]
        have HQ : Hid (decB (PathOk es p.data.toList) = false) := Lib.hid (decB_f fun h => goes_not (k := m + 1) (by simp; omega) (fun g => by
          have hg := g.2 (by omega)
          rw [Nat.add_sub_cancel, ← HE1.out, ← HE2.out] at hg
          rw [hg] at ht
          simp at ht) h)
        go_wp2_with fail
        go_ret
        exact ⟨by rw [HQ.out]; rfl, HB1.out.trans (HBY.out.mono (by omega))⟩
      | true =>
        have ht2 : ((edgeB es (p.extract m (m + 1))).2.toList != (edgeB es (p.extract (m + 1) (m + 1 + 1))).1.toList) = false := by simp [bne, ht]
        have HGN : Hid (∀ i, i < m + 1 + 1 → Goes es p.data.toList i) := Lib.hid fun i hi => by
          by_cases hik : i < m + 1
          · exact HGO.out i hik
          · have : i = m + 1 := by omega
            subst this
            refine ⟨by rw [HLET.out]; omega, fun _ => ?_⟩
            rw [Nat.add_sub_cancel, ← HE1.out, ← HE2.out]
            simp at ht
            exact bytes_ext (by rw [← Lib.toList_data, ← Lib.toList_data, ht])
        go_wp2_with fail
        go_roundw
        case rel => exact ⟨m + 1 + 1, by omega, by go_num, HGN.out, HBY.out⟩
        case measure => simp [intOf]; omega

set_option maxRecDepth 100000 in
set_option maxHeartbeats 1000000 in
/-- spec.IsPath -/
theorem specIsPath_any (B : ByteArray) (A : Option Addr) (cap : Nat) (es : List (ByteArray × ByteArray)) (p : ByteArray) (w : World) (hs : B.size ≤ maxLen) (hE : EdgesIn w w.heap.size A es) (hl : es.length ≤ 1099511627776) (hp : p.size ≤ 1099511627776) :
    Calls Try.prog 76 #[.agg #[.string B, .slice A es.length cap], .string p] w (BoolPost (pathV B es p) w) := by
  have hl2 : es.length ≤ maxLen := by unfold maxLen; omega
  have HL := Lib.hid hl; have HL2 := Lib.hid hl2; have HM := Lib.hid hs
  clear hl hl2 hs
  have hb1 : Below w.heap.size w (w.alloc (.cells #[.string B, .slice A es.length cap] 29)) := (Below.refl _ _).alloc (Nat.le_refl _) _
  have t1 := Two.made w B A es.length cap 29
  have hz1 : (w.alloc (.cells #[.string B, .slice A es.length cap] 29)).heap.size = w.heap.size + 1 := by simp
  obtain ⟨bv, hbv⟩ : ∃ bv, decB (Valid B.data.toList (ebs es)) = bv := ⟨_, rfl⟩
  have HBV := Lib.hid hbv
  clear hbv
  cases bv with
  | false =>
    have HQ : Hid (pathV B es p = false) := Lib.hid (decB_f fun h => decB_not.1 HBV.out h.1)
    clear hp
    go_enter Try.func76, Try.ntmps76
    go_wp2_with fail
    refine (specValid_any B A cap es _ HM.out ((hE.below hb1).more hb1.size) HL2.out).mono ?_
    rw [HBV.out]
    rintro e w2 ⟨rfl, hb2⟩
    have hb2' := hb1.trans (hb2.mono hb1.size)
    clear hb2 t1
    go_wp2_with fail
    go_ret
    exact ⟨by rw [HQ.out]; rfl, hb2'⟩
  | true =>
    obtain ⟨pv, hpv⟩ : ∃ pv, decB (PathOk es p.data.toList) = pv := ⟨_, rfl⟩
    have HQ : Hid (pathV B es p = pv) := Lib.hid (by
      rw [← hpv]
      exact decB_congr ⟨fun h => h.2, fun h => ⟨decB_iff.1 HBV.out, h⟩⟩)
    have HPV := Lib.hid hpv
    clear hpv
    go_enter Try.func76, Try.ntmps76
    go_wp2_with fail
    refine (specValid_any B A cap es _ HM.out ((hE.below hb1).more hb1.size) HL2.out).mono ?_
    rw [HBV.out]
    rintro e w2 ⟨rfl, hb2⟩
    have hb2' := hb1.trans (hb2.mono hb1.size)
    have t2 := t1.below hb2 (by omega)
    have hd0 := t2.1; have hd1 := t2.2
    clear hb2 t1 t2
    go_wp2_with fail
    refine (l2Path_any B A cap es p _ ((hE.below hb2').more hb2'.size) HL.out hp).mono ?_
    rw [HPV.out]
    rintro e w3 ⟨rfl, hb3⟩
    have hb3' := hb2'.trans (hb3.mono hb2'.size)
    clear hb3 hd0 hd1
    go_wp2_with fail
    go_ret
    exact ⟨by rw [HQ.out]; rfl, hb3'⟩

end Go.Proofs.Ytghdjmjodgbghaa
