/- An edge dropped by the model. -/
import Derived.Test.YthnpilkchfmfgaaDropEdge
namespace Go.Proofs.Ythnpilkchfmfgaa
open Go.RowKit

/-- a net's variable that is made before a call, as it lies behind it -/
theorem net_made (w : World) : ∀ w' : World, Below (w.alloc (.cells #[.string ⟨#[]⟩, .slice none 0 0] 28)).heap.size (w.alloc (.cells #[.string ⟨#[]⟩, .slice none 0 0] 28)) w' →
    w'.cell? ⟨w.heap.size, 0, none⟩ = some (.string ⟨#[]⟩) ∧ w'.cell? ⟨w.heap.size, 1, none⟩ = some (.slice none 0 0) ∧ w'.frozen? ⟨w.heap.size, 0, none⟩ = false ∧ w'.frozen? ⟨w.heap.size, 1, none⟩ = false := fun w' h =>
  ⟨(h.cell (by simp)).trans (by go_simp), (h.cell (by simp)).trans (by go_simp), (h.frozen (by simp)).trans (by go_simp), (h.frozen (by simp)).trans (by go_simp)⟩
theorem net_made_drew (w : World) : ∀ w' : World, Below (w.drew.alloc (.cells #[.string ⟨#[]⟩, .slice none 0 0] 28)).heap.size (w.drew.alloc (.cells #[.string ⟨#[]⟩, .slice none 0 0] 28)) w' →
    w'.cell? ⟨w.heap.size, 0, none⟩ = some (.string ⟨#[]⟩) ∧ w'.cell? ⟨w.heap.size, 1, none⟩ = some (.slice none 0 0) ∧ w'.frozen? ⟨w.heap.size, 0, none⟩ = false ∧ w'.frozen? ⟨w.heap.size, 1, none⟩ = false := net_made w.drew

set_option maxRecDepth 100000 in
set_option maxHeartbeats 2000000 in
/-- spec.DropEdge -/
theorem specDrop_q (B : ByteArray) (A : Option Addr) (cap : Nat) (es : List (ByteArray × ByteArray)) (b : ByteArray) (w : World) (hs : B.size ≤ maxLen) (hE : EdgesIn w w.heap.size A es) (hl : es.length ≤ 1048576) (hc : es.length ≤ cap) :
    Calls Try.prog 22 #[.agg #[.string B, .slice A es.length cap], .string b] w (QPost (dropQ B es b) w) := by
  have hl1 : es.length ≤ 1099511627776 := by omega
  have hl2 : es.length ≤ maxLen := by unfold maxLen; omega
  have HL := Lib.hid hl; have HL1 := Lib.hid hl1; have HL2 := Lib.hid hl2; have HM := Lib.hid hs; have HC := Lib.hid hc
  have HB := Lib.hid (begun w B A es.length cap)
  clear hl hl1 hl2 hs hc
  obtain ⟨x, hx⟩ : ∃ x, eIdx es.length b.data.toList = x := ⟨_, rfl⟩
  have HX := Lib.hid hx
  clear hx
  by_cases hv : Valid B.data.toList (ebs es) ∧ 0 ≤ x
  case neg =>
    have hq : dropQ B es b = (⟨#[]⟩, [], false) := if_neg (fun h => hv ⟨h.1, by rw [← HX.out]; exact h.2.1⟩)
    rw [hq]
    clear hq
    obtain ⟨bv, hbv⟩ : ∃ bv, decB (Valid B.data.toList (ebs es)) = bv := ⟨_, rfl⟩
    have hcase : bv = false ∨ (bv = true ∧ x < 0) := by
      rcases Classical.em (Valid B.data.toList (ebs es)) with h | h
      · right; exact ⟨by rw [← hbv, decB_t h], by have := not_and.1 hv h; omega⟩
      · left; rw [← hbv, decB_f h]
    have HBV := Lib.hid hbv
    clear hbv hv
    refine Calls.mono ?_ (fun _ _ h => none_q h)
    rcases hcase with rfl | ⟨rfl, hx0⟩
    · go_enter Try.func22, Try.ntmps22
      go_wp2_with fail
      generalize hW1 : (w.alloc (.cells #[.string B, .slice A es.length cap] 28)).alloc (.cells #[.string ⟨#[]⟩, .slice none 0 0] 28) = w1 at HB ⊢
      clear hW1
      refine (specValid_any B A cap es _ HM.out ((hE.below HB.out.below).more HB.out.below.size) HL2.out).mono ?_
      rw [HBV.out]
      rintro e w2 ⟨rfl, hb2⟩
      have HB2 := Lib.hid (HB.out.go hb2)
      clear hb2
      obtain ⟨-, -, d0, d1, f0, f1⟩ := HB2.out.cells
      go_wp2_with fail
      refine bodyPost_ret (v := .tuple #[.agg #[.string ⟨#[]⟩, .slice none 0 0], .bool false]) (by simp [results, Try.results22, go_sem, d0, d1]) rfl ⟨rfl, (HB2.out.below.setCell (by simp only; omega) _).setCell (by simp only; omega) _⟩
    · go_enter Try.func22, Try.ntmps22
      go_wp2_with fail
      generalize hW1 : (w.alloc (.cells #[.string B, .slice A es.length cap] 28)).alloc (.cells #[.string ⟨#[]⟩, .slice none 0 0] 28) = w1 at HB ⊢
      clear hW1
      refine (specValid_any B A cap es _ HM.out ((hE.below HB.out.below).more HB.out.below.size) HL2.out).mono ?_
      rw [HBV.out]
      rintro e w2 ⟨rfl, hb2⟩
      have HB2 := Lib.hid (HB.out.go hb2)
      clear hb2
      obtain ⟨d0, d1, -⟩ := HB2.out.cells
      go_wp2_with fail
      refine (l1Index_any _ A es.length cap b _ HL1.out).mono ?_
      rw [HX.out]
      rintro e w3 ⟨rfl, hb3⟩
      have HB3 := Lib.hid (HB2.out.go hb3)
      clear hb3 d0 d1
      obtain ⟨-, -, d0, d1, f0, f1⟩ := HB3.out.cells
      go_wp2_with fail
      refine bodyPost_ret (v := .tuple #[.agg #[.string ⟨#[]⟩, .slice none 0 0], .bool false]) (by simp [results, Try.results22, go_sem, d0, d1]) rfl ⟨rfl, (HB3.out.below.setCell (by simp only; omega) _).setCell (by simp only; omega) _⟩
  obtain ⟨hv, hx0⟩ := hv
  obtain ⟨k, hk, hxk⟩ : ∃ k : Nat, k < es.length ∧ x = k := by
    obtain ⟨k, hk, h⟩ := eIdx_some (n := es.length) (b := b.data.toList) (by rw [HX.out]; exact hx0)
    exact ⟨k, hk, by rw [← HX.out, h]⟩
  subst hxk
  clear hx0
  have HV : Hid (decB (Valid B.data.toList (ebs es)) = true) := Lib.hid (decB_t hv)
  obtain ⟨es', hes'⟩ : ∃ es', dropE es k = es' := ⟨_, rfl⟩
  have hlen : es'.length + 1 = es.length := by rw [← hes', dropE_length hk]; omega
  obtain ⟨bv, hbv⟩ : ∃ bv, decB (Valid B.data.toList (ebs es')) = bv := ⟨_, rfl⟩
  have HN : Hid (bv = true → dropQ B es b = (B, es', true)) := Lib.hid (fun h => by
    rw [h] at hbv
    unfold dropQ
    rw [HX.out, Int.toNat_natCast, hes', if_pos ⟨hv, by omega, decB_iff.1 hbv⟩])
  have HNN : Hid (bv = false → dropQ B es b = (⟨#[]⟩, [], false)) := Lib.hid (fun h => by
    rw [h] at hbv
    unfold dropQ
    rw [HX.out, Int.toNat_natCast, hes', if_neg (fun q => decB_not.1 hbv q.2.2)])
  have HBV := Lib.hid hbv
  have HES := Lib.hid hes'; have HLEN := Lib.hid hlen
  clear hes' hlen hv hbv
  have hkk : ¬ ((k : Int) < 0) := by omega
  go_enter Try.func22, Try.ntmps22
  go_wp2_with fail
  generalize hW1 : (w.alloc (.cells #[.string B, .slice A es.length cap] 28)).alloc (.cells #[.string ⟨#[]⟩, .slice none 0 0] 28) = w1 at HB ⊢
  clear hW1
  refine (specValid_any B A cap es _ HM.out ((hE.below HB.out.below).more HB.out.below.size) HL2.out).mono ?_
  rw [HV.out]
  rintro e w2 ⟨rfl, hb2⟩
  have HB2 := Lib.hid (HB.out.go hb2)
  clear hb2
  obtain ⟨d0, d1, -⟩ := HB2.out.cells
  go_wp2_with fail
  refine (l1Index_any _ A es.length cap b _ HL1.out).mono ?_
  rw [HX.out]
  rintro e w3 ⟨rfl, hb3⟩
  have HB3 := Lib.hid (HB2.out.go hb3)
  clear hb3 d0 d1
  obtain ⟨d0, d1, -⟩ := HB3.out.cells
  have hz3 := HB3.out.size
  go_wp2_with fail
  have hS : ∀ W, Below w3.heap.size w3 W → (W.cell? ⟨w.heap.size, 0, none⟩ = some (.string B) ∧ W.cell? ⟨w.heap.size, 1, none⟩ = some (.slice A es.length cap) ∧ Below w3.heap.size w3 W) :=
    fun W h => ⟨(h.cell (by simp only; omega)).trans d0, (h.cell (by simp only; omega)).trans d1, h⟩
  have hA : ∀ W, Below w3.heap.size w3 W → EdgesIn W W.heap.size A es := fun W h => (hE.below (HB3.out.go h).below).more (HB3.out.go h).below.size
  have HSS := Lib.hid hS; have HA := Lib.hid hA
  have HF := Lib.hid (net_made_drew w3); have HG := Lib.hid net_made
  clear hS hA d0 d1
  go_region_held3 (fun W => W.cell? ⟨w.heap.size, 0, none⟩ = some (.string B) ∧ W.cell? ⟨w.heap.size, 1, none⟩ = some (.slice A es.length cap) ∧ Below w3.heap.size w3 W)
    (first
      | exact HSS.out _ (Below.refl _ _).drew
      | exact HSS.out _ hb4'
      | exact HSS.out _ hb5'
      | exact HSS.out _ ((Below.refl _ _).drew.alloc (by simp) _)
      | exact HSS.out _ (hb4'.alloc hb4'.size _)
      | exact HSS.out _ (hb5'.alloc hb5'.size _)
      | exact HSS.out _ ((hb5'.setCell (by first | exact hb4'.size | simp) _).setCell (by first | exact hb4'.size | simp) _)
      | exact HSS.out _ ((hb5'.setCell (by simp) _).setCell (by simp) _))
    (first
      | (go_at_call 57; refine (l1Index_any _ A es.length cap b _ HL1.out).mono ?_; rw [HX.out]; rintro e w4 ⟨rfl, hb4⟩
         first
           | (have hb4' : Below w3.heap.size w3 w4 := (Below.refl _ _).drew.trans hb4; clear hb4)
           | (have hb4' : Below w3.heap.size w3 w4 := ((Below.refl _ _).drew.alloc (by simp) _).trans (hb4.mono (by simp)); have hp := HF.out w4 hb4; obtain ⟨hp0, hp1, hp2, hp3⟩ := hp; have hz4 : w3.heap.size < w4.heap.size := (by have := hb4.size; simp at this; omega); clear hb4))
      | (go_at_call 58; go_must (
         refine (l1Drop_any B A cap es k _ (by first | exact HA.out _ hb4' | exact HA.out _ (hb4'.alloc hb4'.size _)) HL.out hk HC.out).mono ?_; rw [HES.out]; rintro e w5 ⟨A5, c5, rfl, hE5, hb5, hO5⟩
         first
           | (have hb5' : Below w3.heap.size w3 w5 := (hb4'.alloc hb4'.size _).trans (hb5.mono (by have := hb4'.size; simp; omega))
              have hp := HG.out w4 w5 hb5
              obtain ⟨hp0, hp1, hp2, hp3⟩ := hp
              have hz5 := hb5.size
              have HBX : Hid (w4.heap.size < w5.heap.size) := Lib.hid (by simp at hz5; omega)
              clear hz5 hb5)
           | (have hb5' : Below w3.heap.size w3 w5 := hb4'.trans (hb5.mono hb4'.size)
              have hq0 := (hb5.cell (p := ⟨w3.heap.size, 0, none⟩) hz4).trans hp0
              have hq1 := (hb5.cell (p := ⟨w3.heap.size, 1, none⟩) hz4).trans hp1
              have hq2 := (hb5.frozen (p := ⟨w3.heap.size, 0, none⟩) hz4).trans hp2
              have hq3 := (hb5.frozen (p := ⟨w3.heap.size, 1, none⟩) hz4).trans hp3
              have HBX : Hid (w3.heap.size < w5.heap.size) := Lib.hid (Nat.lt_of_lt_of_le hz4 hb5.size)
              have HZ4 := Lib.hid hz4
              clear hp0 hp1 hp2 hp3 hz4 hb5)
           | (have hb5' : Below w3.heap.size w3 w5 := hb4'.trans (hb5.mono hb4'.size)
              clear hb5)
         have HE5 := Lib.hid hE5; have HO5 := Lib.hid hO5
         clear hE5 hO5)))
  all_goals
    rename_i hHeld
    clear hHeld
    first
      | (have HQ : Hid (w5.cell? ⟨w3.heap.size, 0, none⟩ = some (.string ⟨#[]⟩) ∧ w5.cell? ⟨w3.heap.size, 1, none⟩ = some (.slice none 0 0)) := Lib.hid ⟨hq0, hq1⟩
         clear hq0 hq1 hq2 hq3
         have hg6 : w5.grownBy ((w5.setCell ⟨w3.heap.size, 0, none⟩ (.string B)).setCell ⟨w3.heap.size, 1, none⟩ (.slice A5 es'.length c5)) (some w3.heap.size) := only_setCell_at (only_setCell_at (World.grownBy.refl w5 _))
         have hne : ∀ a, A5 = some a → some a.block ≠ some w3.heap.size := HO5.out.ne (by first | (have := HZ4.out; omega) | simp)
         have hE6 := (HE5.out.grown hg6 (Nat.le_refl _) hne).more hg6.size
         have hb6 : Below w3.heap.size w3 ((w5.setCell ⟨w3.heap.size, 0, none⟩ (.string B)).setCell ⟨w3.heap.size, 1, none⟩ (.slice A5 es'.length c5)) := (hb5'.setCell (by first | exact hb4'.size | simp) _).setCell (by first | exact hb4'.size | simp) _
         have t6 : Two ((w5.setCell ⟨w3.heap.size, 0, none⟩ (.string B)).setCell ⟨w3.heap.size, 1, none⟩ (.slice A5 es'.length c5)) w3.heap.size B A5 es'.length c5 := by
           constructor
           · rw [World.cell?_setCell_other _ _ _ _ (by intro e; injection e with _ e; omega)]
             exact World.cell?_setCell_same' _ _ _ (by rw [HQ.out.1]; rfl)
           · exact World.cell?_setCell_same' _ _ _ (by rw [World.cell?_setCell_other _ _ _ _ (by intro e; injection e with _ e; omega), HQ.out.2]; rfl)
         have hz6 : w3.heap.size < ((w5.setCell ⟨w3.heap.size, 0, none⟩ (.string B)).setCell ⟨w3.heap.size, 1, none⟩ (.slice A5 es'.length c5)).heap.size := Nat.lt_of_lt_of_le HBX.out hg6.size
         have hO6 := (HO5.out.grown hg6 hne).mono (show w.heap.size + 2 ≤ _ by first | omega | (have := hb4'.size; simp; omega))
         have hr0 := t6.1; have hr1 := t6.2
         go_wp2_with fail
         refine (specValid_any B A5 c5 es' _ HM.out hE6 (by have := HL2.out; have := HLEN.out; omega)).mono ?_
         rw [HBV.out]
         rintro e w7 ⟨rfl, hb7⟩
         have HB7 := Lib.hid ((HB3.out.go hb6).go hb7)
         have HE7 := Lib.hid ((hE6.below hb7).more hb7.size)
         have t7 := t6.below hb7 (by first | exact hz6 | simp)
         have HO7 := Lib.hid (hO6.below hb7)
         clear hr0 hr1 hb7 hb6 hE6 t6 hO6
         have hr0 := t7.1; have hr1 := t7.2
         clear t7
         obtain ⟨-, -, d0, d1, f0, f1⟩ := HB7.out.cells
         cases bv with
         | false =>
           have HQF := Lib.hid (HNN.out rfl)
           clear HN HNN
           go_wp2_with fail
           refine bodyPost_ret (v := .tuple #[.agg #[.string ⟨#[]⟩, .slice none 0 0], .bool false]) (by simp [results, Try.results22, go_sem, d0, d1]) rfl (by rw [HQF.out]; exact none_q ⟨rfl, (HB7.out.below.setCell (by simp only; omega) _).setCell (by simp only; omega) _⟩)
         | true =>
           have HQT := Lib.hid (HN.out rfl)
           clear HN HNN
           go_wp2_with fail
           have hg8 : w7.grownBy ((w7.setCell ⟨w.heap.size + 1, 0, none⟩ (.string B)).setCell ⟨w.heap.size + 1, 1, none⟩ (.slice A5 es'.length c5)) (some (w.heap.size + 1)) :=
             only_setCell_at (only_setCell_at (World.grownBy.refl w7 _))
           refine bodyPost_ret (v := .tuple #[.agg #[.string B, .slice A5 es'.length c5], .bool true]) (by simp [results, Try.results22, go_sem, d0, d1]) rfl ?_
           rw [HQT.out]
           exact ⟨A5, c5, rfl, (HE7.out.grown hg8 (Nat.le_refl _) (HO7.out.ne (by omega))).more hg8.size, (HB7.out.below.setCell (by simp only; omega) _).setCell (by simp only; omega) _⟩)
      | (have HQ : Hid (w5.cell? ⟨w4.heap.size, 0, none⟩ = some (.string ⟨#[]⟩) ∧ w5.cell? ⟨w4.heap.size, 1, none⟩ = some (.slice none 0 0)) := Lib.hid ⟨hp0, hp1⟩
         clear hp0 hp1 hp2 hp3
         have hg6 : w5.grownBy ((w5.setCell ⟨w4.heap.size, 0, none⟩ (.string B)).setCell ⟨w4.heap.size, 1, none⟩ (.slice A5 es'.length c5)) (some w4.heap.size) := only_setCell_at (only_setCell_at (World.grownBy.refl w5 _))
         have hne : ∀ a, A5 = some a → some a.block ≠ some w4.heap.size := HO5.out.ne (by first | (have := HZ4.out; omega) | simp)
         have hE6 := (HE5.out.grown hg6 (Nat.le_refl _) hne).more hg6.size
         have hb6 : Below w3.heap.size w3 ((w5.setCell ⟨w4.heap.size, 0, none⟩ (.string B)).setCell ⟨w4.heap.size, 1, none⟩ (.slice A5 es'.length c5)) := (hb5'.setCell (by first | exact hb4'.size | simp) _).setCell (by first | exact hb4'.size | simp) _
         have t6 : Two ((w5.setCell ⟨w4.heap.size, 0, none⟩ (.string B)).setCell ⟨w4.heap.size, 1, none⟩ (.slice A5 es'.length c5)) w4.heap.size B A5 es'.length c5 := by
           constructor
           · rw [World.cell?_setCell_other _ _ _ _ (by intro e; injection e with _ e; omega)]
             exact World.cell?_setCell_same' _ _ _ (by rw [HQ.out.1]; rfl)
           · exact World.cell?_setCell_same' _ _ _ (by rw [World.cell?_setCell_other _ _ _ _ (by intro e; injection e with _ e; omega), HQ.out.2]; rfl)
         have hz6 : w4.heap.size < ((w5.setCell ⟨w4.heap.size, 0, none⟩ (.string B)).setCell ⟨w4.heap.size, 1, none⟩ (.slice A5 es'.length c5)).heap.size := Nat.lt_of_lt_of_le HBX.out hg6.size
         have hO6 := (HO5.out.grown hg6 hne).mono (show w.heap.size + 2 ≤ _ by first | omega | (have := hb4'.size; simp; omega))
         have hr0 := t6.1; have hr1 := t6.2
         go_wp2_with fail
         refine (specValid_any B A5 c5 es' _ HM.out hE6 (by have := HL2.out; have := HLEN.out; omega)).mono ?_
         rw [HBV.out]
         rintro e w7 ⟨rfl, hb7⟩
         have HB7 := Lib.hid ((HB3.out.go hb6).go hb7)
         have HE7 := Lib.hid ((hE6.below hb7).more hb7.size)
         have t7 := t6.below hb7 (by first | exact hz6 | simp)
         have HO7 := Lib.hid (hO6.below hb7)
         clear hr0 hr1 hb7 hb6 hE6 t6 hO6
         have hr0 := t7.1; have hr1 := t7.2
         clear t7
         obtain ⟨-, -, d0, d1, f0, f1⟩ := HB7.out.cells
         cases bv with
         | false =>
           have HQF := Lib.hid (HNN.out rfl)
           clear HN HNN
           go_wp2_with fail
           refine bodyPost_ret (v := .tuple #[.agg #[.string ⟨#[]⟩, .slice none 0 0], .bool false]) (by simp [results, Try.results22, go_sem, d0, d1]) rfl (by rw [HQF.out]; exact none_q ⟨rfl, (HB7.out.below.setCell (by simp only; omega) _).setCell (by simp only; omega) _⟩)
         | true =>
           have HQT := Lib.hid (HN.out rfl)
           clear HN HNN
           go_wp2_with fail
           have hg8 : w7.grownBy ((w7.setCell ⟨w.heap.size + 1, 0, none⟩ (.string B)).setCell ⟨w.heap.size + 1, 1, none⟩ (.slice A5 es'.length c5)) (some (w.heap.size + 1)) :=
             only_setCell_at (only_setCell_at (World.grownBy.refl w7 _))
           refine bodyPost_ret (v := .tuple #[.agg #[.string B, .slice A5 es'.length c5], .bool true]) (by simp [results, Try.results22, go_sem, d0, d1]) rfl ?_
           rw [HQT.out]
           exact ⟨A5, c5, rfl, (HE7.out.grown hg8 (Nat.le_refl _) (HO7.out.ne (by omega))).more hg8.size, (HB7.out.below.setCell (by simp only; omega) _).setCell (by simp only; omega) _⟩)
      | (have hba : Below w5.heap.size w5 (w5.alloc (.cells #[.string B, .slice A5 es'.length c5] 28)) := (Below.refl _ _).alloc (Nat.le_refl _) _
         have hb6 := hb5'.trans (hba.mono hb5'.size)
         have hE6 := (HE5.out.below hba).more hba.size
         have t6 := Two.made w5 B A5 es'.length c5 28
         have hO6 := (HO5.out.below hba).mono (show w.heap.size + 2 ≤ _ by first | omega | (have := hb4'.size; omega))
         have hr0 := t6.1; have hr1 := t6.2
         go_wp2_with fail
         refine (specValid_any B A5 c5 es' _ HM.out hE6 (by have := HL2.out; have := HLEN.out; omega)).mono ?_
         rw [HBV.out]
         rintro e w7 ⟨rfl, hb7⟩
         have HB7 := Lib.hid ((HB3.out.go hb6).go hb7)
         have HE7 := Lib.hid ((hE6.below hb7).more hb7.size)
         have t7 := t6.below hb7 (by first | exact hz6 | simp)
         have HO7 := Lib.hid (hO6.below hb7)
         clear hr0 hr1 hb7 hb6 hE6 t6 hO6
         have hr0 := t7.1; have hr1 := t7.2
         clear t7
         obtain ⟨-, -, d0, d1, f0, f1⟩ := HB7.out.cells
         cases bv with
         | false =>
           have HQF := Lib.hid (HNN.out rfl)
           clear HN HNN
           go_wp2_with fail
           refine bodyPost_ret (v := .tuple #[.agg #[.string ⟨#[]⟩, .slice none 0 0], .bool false]) (by simp [results, Try.results22, go_sem, d0, d1]) rfl (by rw [HQF.out]; exact none_q ⟨rfl, (HB7.out.below.setCell (by simp only; omega) _).setCell (by simp only; omega) _⟩)
         | true =>
           have HQT := Lib.hid (HN.out rfl)
           clear HN HNN
           go_wp2_with fail
           have hg8 : w7.grownBy ((w7.setCell ⟨w.heap.size + 1, 0, none⟩ (.string B)).setCell ⟨w.heap.size + 1, 1, none⟩ (.slice A5 es'.length c5)) (some (w.heap.size + 1)) :=
             only_setCell_at (only_setCell_at (World.grownBy.refl w7 _))
           refine bodyPost_ret (v := .tuple #[.agg #[.string B, .slice A5 es'.length c5], .bool true]) (by simp [results, Try.results22, go_sem, d0, d1]) rfl ?_
           rw [HQT.out]
           exact ⟨A5, c5, rfl, (HE7.out.grown hg8 (Nat.le_refl _) (HO7.out.ne (by omega))).more hg8.size, (HB7.out.below.setCell (by simp only; omega) _).setCell (by simp only; omega) _⟩)

end Go.Proofs.Ythnpilkchfmfgaa
