/- An edge dropped: by the program and by the model. -/
import Derived.Test.YthnpilkchfmfgaaDropS
import Derived.Test.YthnpilkchfmfgaaEnds
import Derived.Test.YthnpilkchfmfgaaTurnNet
namespace Go.Proofs.Ythnpilkchfmfgaa
open Go.RowKit

/-- the net without the edge, if both are nets -/
noncomputable def dropQ (B : ByteArray) (es : List (ByteArray × ByteArray)) (b : ByteArray) : NetQ :=
  open Classical in if Valid B.data.toList (ebs es) ∧ 0 ≤ eIdx es.length b.data.toList ∧ Valid B.data.toList (ebs (dropE es (eIdx es.length b.data.toList).toNat)) then (B, dropE es (eIdx es.length b.data.toList).toNat, true) else (⟨#[]⟩, [], false)

theorem dropQ_len (B : ByteArray) (es : List (ByteArray × ByteArray)) (b : ByteArray) : (dropQ B es b).2.1.length ≤ es.length := by
  unfold dropQ
  split
  · simp [dropE]; omega
  · simp

theorem none_own {w : World} {e : Ending} {w' : World} (h : NonePost w e w') : OwnPost (⟨#[]⟩, [], false) w e w' :=
  ⟨none, 0, h.1, fun i hi => absurd hi (by simp), h.2, .inl ⟨rfl, rfl⟩⟩
theorem none_q {w : World} {e : Ending} {w' : World} (h : NonePost w e w') : QPost (⟨#[]⟩, [], false) w e w' :=
  ⟨none, 0, h.1, fun i hi => absurd hi (by simp), h.2⟩

/-- a net's variable and the result's, as a call begins -/
structure Begun (w : World) (B : ByteArray) (A : Option Addr) (n cap : Nat) (w1 : World) : Prop where
  below : Below w.heap.size w w1
  two : Two w1 w.heap.size B A n cap
  row : w1.rowIs (w.heap.size + 1) 28 2 (fun i => if i = 0 then .string ⟨#[]⟩ else .slice none 0 0)
  size : w.heap.size + 2 ≤ w1.heap.size

theorem begun (w : World) (B : ByteArray) (A : Option Addr) (n cap : Nat) : Begun w B A n cap ((w.alloc (.cells #[.string B, .slice A n cap] 28)).alloc (.cells #[.string ⟨#[]⟩, .slice none 0 0] 28)) := by
  refine ⟨((Below.refl _ _).alloc (Nat.le_refl _) _).alloc (by simp) _, ⟨by go_simp, by go_simp⟩, ?_, by simp⟩
  have h := World.rowIs_alloc (w.alloc (.cells #[.string B, .slice A n cap] 28)) #[.string ⟨#[]⟩, .slice none 0 0] 28 (fun i => if i = 0 then .string ⟨#[]⟩ else .slice none 0 0) (fun i hi => by
    match i, hi with
    | 0, _ => rfl
    | 1, _ => rfl)
  rwa [World.size_alloc] at h
theorem Begun.go {w w1 w2 : World} {B : ByteArray} {A : Option Addr} {n cap : Nat} (h : Begun w B A n cap w1) (k : Below w1.heap.size w1 w2) : Begun w B A n cap w2 :=
  ⟨h.below.trans (k.mono h.below.size), h.two.below k (by have := h.size; omega), h.row.of_block (k.block _ (by have := h.size; omega)), Nat.le_trans h.size k.size⟩
theorem Begun.cells {w w1 : World} {B : ByteArray} {A : Option Addr} {n cap : Nat} (h : Begun w B A n cap w1) :
    w1.cell? ⟨w.heap.size, 0, none⟩ = some (.string B) ∧ w1.cell? ⟨w.heap.size, 1, none⟩ = some (.slice A n cap) ∧ w1.cell? ⟨w.heap.size + 1, 0, none⟩ = some (.string ⟨#[]⟩) ∧ w1.cell? ⟨w.heap.size + 1, 1, none⟩ = some (.slice none 0 0) ∧
      w1.frozen? ⟨w.heap.size + 1, 0, none⟩ = false ∧ w1.frozen? ⟨w.heap.size + 1, 1, none⟩ = false := by
  have h0 := h.row.cell (i := 0) (by omega); have h1 := h.row.cell (i := 1) (by omega)
  exact ⟨h.two.1, h.two.2, h0, h1, h.row.frozen 0, h.row.frozen 1⟩

set_option maxRecDepth 100000 in
set_option maxHeartbeats 2000000 in
/-- impl.DropEdge -/
theorem implDrop_q (B : ByteArray) (A : Option Addr) (cap : Nat) (es : List (ByteArray × ByteArray)) (b : ByteArray) (w : World) (hs : B.size ≤ maxLen) (hE : EdgesIn w w.heap.size A es) (hl : es.length ≤ 1048576) (hc : es.length ≤ cap) :
    Calls Try.prog 23 #[.agg #[.string B, .slice A es.length cap], .string b] w (OwnPost (dropQ B es b) w) := by
  have hl1 : es.length ≤ 1099511627776 := by omega
  have hl2 : es.length ≤ maxLen := by unfold maxLen; omega
  have HL := Lib.hid hl; have HL1 := Lib.hid hl1; have HL2 := Lib.hid hl2; have HM := Lib.hid hs; have HC := Lib.hid hc
  have HB := Lib.hid (begun w B A es.length cap)
  clear hl hl1 hl2 hs hc
  obtain ⟨x, hx⟩ : ∃ x, eIdx es.length b.data.toList = x := ⟨_, rfl⟩
  have HX := Lib.hid hx
  clear hx
  by_cases hv : Valid B.data.toList (ebs es) ∧ 0 ≤ x
  case neg =>
    have hq : dropQ B es b = (⟨#[]⟩, [], false) := if_neg (fun h => hv ⟨h.1, by rw [← HX.out]; exact h.2.1⟩)
    rw [hq]
    clear hq
    obtain ⟨bv, hbv⟩ : ∃ bv, decB (Valid B.data.toList (ebs es)) = bv := ⟨_, rfl⟩
    have hcase : bv = false ∨ (bv = true ∧ x < 0) := by
      rcases Classical.em (Valid B.data.toList (ebs es)) with h | h
      · right; exact ⟨by rw [← hbv, decB_t h], by have := not_and.1 hv h; omega⟩
      · left; rw [← hbv, decB_f h]
    have HBV := Lib.hid hbv
    clear hbv hv
    refine Calls.mono ?_ (fun _ _ h => none_own h)
    rcases hcase with rfl | ⟨rfl, hx0⟩
    all_goals
      go_enter Try.func23, Try.ntmps23
      go_wp2_with fail
      generalize hW1 : (w.alloc (.cells #[.string B, .slice A es.length cap] 28)).alloc (.cells #[.string ⟨#[]⟩, .slice none 0 0] 28) = w1 at HB ⊢
      clear hW1
      refine (edgeIndex_any _ A es.length cap b _ HL1.out).mono ?_
      rw [HX.out]
      rintro e w2 ⟨rfl, hb2⟩
      have HB2 := Lib.hid (HB.out.go hb2)
      clear hb2
      obtain ⟨d0, d1, -⟩ := HB2.out.cells
      go_wp2_with fail
      refine (valid_any B A cap es _ HM.out ((hE.below HB2.out.below).more HB2.out.below.size) HL2.out).mono ?_
      rw [HBV.out]
      rintro e w3 ⟨rfl, hb3⟩
      have HB3 := Lib.hid (HB2.out.go hb3)
      clear hb3 d0 d1
      obtain ⟨-, -, d0, d1, f0, f1⟩ := HB3.out.cells
      go_wp2_with fail
      refine bodyPost_ret (v := .tuple #[.agg #[.string ⟨#[]⟩, .slice none 0 0], .bool false]) (by simp [results, Try.results23, go_sem, d0, d1]) rfl ⟨rfl, (HB3.out.below.setCell (by simp only; omega) _).setCell (by simp only; omega) _⟩
  obtain ⟨hv, hx0⟩ := hv
  obtain ⟨k, hk, hxk⟩ : ∃ k : Nat, k < es.length ∧ x = k := by
    obtain ⟨k, hk, h⟩ := eIdx_some (n := es.length) (b := b.data.toList) (by rw [HX.out]; exact hx0)
    exact ⟨k, hk, by rw [← HX.out, h]⟩
  subst hxk
  clear hx0
  have HV : Hid (decB (Valid B.data.toList (ebs es)) = true) := Lib.hid (decB_t hv)
  obtain ⟨es', hes'⟩ : ∃ es', dropE es k = es' := ⟨_, rfl⟩
  have hlen : es'.length + 1 = es.length := by rw [← hes', dropE_length hk]; omega
  have HN : Hid (Valid B.data.toList (ebs es') → dropQ B es b = (B, es', true)) := Lib.hid (fun h => by
    unfold dropQ
    rw [HX.out, Int.toNat_natCast, hes', if_pos ⟨hv, by omega, h⟩])
  have HNN : Hid (¬ Valid B.data.toList (ebs es') → dropQ B es b = (⟨#[]⟩, [], false)) := Lib.hid (fun h => by
    unfold dropQ
    rw [HX.out, Int.toNat_natCast, hes', if_neg (fun q => h q.2.2)])
  have HES := Lib.hid hes'; have HLEN := Lib.hid hlen
  clear hes' hlen hv
  have hkk : ¬ ((k : Int) < 0) := by omega
  by_cases hv' : Valid B.data.toList (ebs es')
  case neg =>
    rw [HNN.out hv']
    have HV' : Hid (decB (Valid B.data.toList (ebs es')) = false) := Lib.hid (decB_f hv')
    clear hv'
    refine Calls.mono ?_ (fun _ _ h => none_own h)
    go_enter Try.func23, Try.ntmps23
    go_wp2_with fail
    generalize hW1 : (w.alloc (.cells #[.string B, .slice A es.length cap] 28)).alloc (.cells #[.string ⟨#[]⟩, .slice none 0 0] 28) = w1 at HB ⊢
    clear hW1
    refine (edgeIndex_any _ A es.length cap b _ HL1.out).mono ?_
    rw [HX.out]
    rintro e w2 ⟨rfl, hb2⟩
    have HB2 := Lib.hid (HB.out.go hb2)
    clear hb2
    obtain ⟨d0, d1, -⟩ := HB2.out.cells
    go_wp2_with fail
    refine (valid_any B A cap es _ HM.out ((hE.below HB2.out.below).more HB2.out.below.size) HL2.out).mono ?_
    rw [HV.out]
    rintro e w3 ⟨rfl, hb3⟩
    have HB3 := Lib.hid (HB2.out.go hb3)
    clear hb3 d0 d1
    obtain ⟨d0, d1, -⟩ := HB3.out.cells
    go_wp2_with fail
    refine (without_any B A cap es k _ ((hE.below HB3.out.below).more HB3.out.below.size) HL.out hk HC.out).mono ?_
    rw [HES.out]
    rintro e w4 ⟨A4, c4, rfl, hE4, hb4, hO4⟩
    have hba : Below w4.heap.size w4 (w4.alloc (.cells #[.string B, .slice A4 es'.length c4] 28)) := (Below.refl _ _).alloc (Nat.le_refl _) _
    have HB5 := Lib.hid ((HB3.out.go hb4).go hba)
    have hE5 := (hE4.below hba).more hba.size
    have t5 := Two.made w4 B A4 es'.length c4 28
    have hr0 := t5.1; have hr1 := t5.2
    clear d0 d1 hb4 hba t5
    go_wp2_with fail
    refine (valid_any B A4 c4 es' _ HM.out hE5 (by have := HL2.out; have := HLEN.out; omega)).mono ?_
    rw [HV'.out]
    rintro e w6 ⟨rfl, hb6⟩
    have HB6 := Lib.hid (HB5.out.go hb6)
    clear hb6 hr0 hr1 hE4 hE5 hO4
    obtain ⟨-, -, d0, d1, f0, f1⟩ := HB6.out.cells
    go_wp2_with fail
    refine bodyPost_ret (v := .tuple #[.agg #[.string ⟨#[]⟩, .slice none 0 0], .bool false]) (by simp [results, Try.results23, go_sem, d0, d1]) rfl ⟨rfl, (HB6.out.below.setCell (by simp only; omega) _).setCell (by simp only; omega) _⟩
  rw [HN.out hv']
  have HV' : Hid (decB (Valid B.data.toList (ebs es')) = true) := Lib.hid (decB_t hv')
  clear hv'
  go_enter Try.func23, Try.ntmps23
  go_wp2_with fail
  generalize hW1 : (w.alloc (.cells #[.string B, .slice A es.length cap] 28)).alloc (.cells #[.string ⟨#[]⟩, .slice none 0 0] 28) = w1 at HB ⊢
  clear hW1
  refine (edgeIndex_any _ A es.length cap b _ HL1.out).mono ?_
  rw [HX.out]
  rintro e w2 ⟨rfl, hb2⟩
  have HB2 := Lib.hid (HB.out.go hb2)
  clear hb2
  obtain ⟨d0, d1, -⟩ := HB2.out.cells
  go_wp2_with fail
  refine (valid_any B A cap es _ HM.out ((hE.below HB2.out.below).more HB2.out.below.size) HL2.out).mono ?_
  rw [HV.out]
  rintro e w3 ⟨rfl, hb3⟩
  have HB3 := Lib.hid (HB2.out.go hb3)
  clear hb3 d0 d1
  obtain ⟨d0, d1, -⟩ := HB3.out.cells
  go_wp2_with fail
  refine (without_any B A cap es k _ ((hE.below HB3.out.below).more HB3.out.below.size) HL.out hk HC.out).mono ?_
  rw [HES.out]
  rintro e w4 ⟨A4, c4, rfl, hE4, hb4, hO4⟩
  have hba : Below w4.heap.size w4 (w4.alloc (.cells #[.string B, .slice A4 es'.length c4] 28)) := (Below.refl _ _).alloc (Nat.le_refl _) _
  have HB5 := Lib.hid ((HB3.out.go hb4).go hba)
  have hE5 := (hE4.below hba).more hba.size
  have hO5 := hO4.below hba
  have t5 := Two.made w4 B A4 es'.length c4 28
  have hz5 : (w4.alloc (.cells #[.string B, .slice A4 es'.length c4] 28)).heap.size = w4.heap.size + 1 := by simp
  have hz4 : w.heap.size + 2 ≤ w4.heap.size := (HB3.out.go hb4).size
  have hz3 := HB3.out.size
  have hr0 := t5.1; have hr1 := t5.2
  have HO5 := Lib.hid hO5; have HE5 := Lib.hid hE5; have HT5 := Lib.hid t5
  clear d0 d1 hb4 hba t5 hO5 hE4 hO4 hE5
  go_wp2_with fail
  generalize hW5 : w4.alloc (.cells #[.string B, .slice A4 es'.length c4] 28) = w5 at HB5 HE5 HO5 HT5 hz5 hr0 hr1 ⊢
  clear hW5
  refine (valid_any B A4 c4 es' _ HM.out HE5.out (by have := HL2.out; have := HLEN.out; omega)).mono ?_
  rw [HV'.out]
  rintro e w6 ⟨rfl, hb6⟩
  have HB6 := Lib.hid (HB5.out.go hb6)
  have HE6 := Lib.hid ((HE5.out.below hb6).more hb6.size)
  have HO6 := Lib.hid (HO5.out.below hb6)
  have t6 := HT5.out.below hb6 (by omega)
  clear hr0 hr1
  have hr0 := t6.1; have hr1 := t6.2
  clear hb6 t6
  obtain ⟨-, -, d0, d1, f0, f1⟩ := HB6.out.cells
  go_wp2_with fail
  have hg6 : w6.grownBy ((w6.setCell ⟨w.heap.size + 1, 0, none⟩ (.string B)).setCell ⟨w.heap.size + 1, 1, none⟩ (.slice A4 es'.length c4)) (some (w.heap.size + 1)) :=
    only_setCell_at (only_setCell_at (World.grownBy.refl w6 _))
  have hne6 := HO6.out.ne (c := w.heap.size + 1) (by omega)
  refine bodyPost_ret (v := .tuple #[.agg #[.string B, .slice A4 es'.length c4], .bool true]) (by simp [results, Try.results23, go_sem, d0, d1]) rfl ?_
  exact ⟨A4, c4, rfl, (HE6.out.grown hg6 (Nat.le_refl _) hne6).more hg6.size, (HB6.out.below.setCell (by simp only; omega) _).setCell (by simp only; omega) _, (HO6.out.grown hg6 hne6).mono (by omega)⟩

end Go.Proofs.Ythnpilkchfmfgaa
