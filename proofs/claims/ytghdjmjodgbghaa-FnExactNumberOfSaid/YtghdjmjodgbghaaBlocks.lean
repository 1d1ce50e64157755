/- The blocks of a path, by the program. -/
import Derived.Test.YtghdjmjodgbghaaIsPathS
import Derived.Test.YtghdjmjodgbghaaNameS
namespace Go.Proofs.Ytghdjmjodgbghaa
open Go.RowKit

/-- the block that the first edge leaves, and those to which so many come -/
def trail (es : List (ByteArray × ByteArray)) (l : List UInt8) (k : Nat) : List UInt8 := (edgeOf es (l.getD 0 0)).1.data.toList ++ (l.take k).flatMap fun c => (edgeOf es c).2.data.toList
theorem trail_succ {es : List (ByteArray × ByteArray)} {l : List UInt8} {k : Nat} (h : k < l.length) : trail es l (k + 1) = trail es l k ++ (edgeOf es (l.getD k 0)).2.data.toList := by
  have hg : l.getD k 0 = l[k] := by simp [List.getD, h]
  rw [hg]
  simp only [trail, List.take_succ_eq_append_getElem h, List.flatMap_append, List.flatMap_cons, List.flatMap_nil, List.append_nil, List.append_assoc]
theorem trail_zero (es : List (ByteArray × ByteArray)) (l : List UInt8) : trail es l 0 = (edgeOf es (l.getD 0 0)).1.data.toList := by simp [trail]

theorem edgeOf_size {es : List (ByteArray × ByteArray)} (hS : ∀ e ∈ es, e.1.size ≤ 1099511627776 ∧ e.2.size ≤ 1099511627776) (c : UInt8) : (edgeOf es c).1.size ≤ 1099511627776 ∧ (edgeOf es c).2.size ≤ 1099511627776 := by
  unfold edgeOf
  by_cases h : c.toNat - 97 < es.length
  · simp only [List.getD, List.getElem?_eq_getElem h, Option.getD_some]
    exact hS _ (List.getElem_mem h)
  · simp only [List.getD, List.getElem?_eq_none (Nat.le_of_not_lt h), Option.getD_none]
    exact ⟨by decide, by decide⟩
theorem trail_length {es : List (ByteArray × ByteArray)} (hS : ∀ e ∈ es, e.1.size ≤ 1099511627776 ∧ e.2.size ≤ 1099511627776) (l : List UInt8) : ∀ k, k ≤ l.length → (trail es l k).length ≤ (k + 1) * 1099511627776
  | 0, _ => by
    rw [trail_zero]
    have := (edgeOf_size hS (l.getD 0 0)).1
    simp at this ⊢
    omega
  | k + 1, h => by
    rw [trail_succ (by omega), List.length_append]
    have h1 := trail_length hS l k (by omega)
    have h2 := (edgeOf_size hS (l.getD k 0)).2
    have h3 : (edgeOf es (l.getD k 0)).2.data.toList.length = (edgeOf es (l.getD k 0)).2.size := by simp
    omega

/-- the blocks of a path, if it is one and not empty -/
noncomputable def blocksV (B : ByteArray) (es : List (ByteArray × ByteArray)) (p : ByteArray) : ByteArray × Bool :=
  textV (pathV B es p = true ∧ 0 < p.size) (trail es p.data.toList p.size)

theorem str_more {s t : ByteArray} {l m : List UInt8} (h : s.data.toList = l) (k : t.data.toList = m) : (s ++ t).data.toList = l ++ m := by
  rw [Go.Joins.data_append, h, k]

set_option maxRecDepth 100000 in
set_option maxHeartbeats 4000000 in
/-- impl.BlocksOf -/
theorem implBlocksOf_any (B : ByteArray) (A : Option Addr) (cap : Nat) (es : List (ByteArray × ByteArray)) (p : ByteArray) (w : World) (hs : B.size ≤ maxLen) (hE : EdgesIn w w.heap.size A es) (hl : es.length ≤ 1099511627776) (hS : ∀ e ∈ es, e.1.size ≤ 1099511627776 ∧ e.2.size ≤ 1099511627776) (hp : p.size ≤ 1099511627776) :
    Calls Try.prog 78 #[.agg #[.string B, .slice A es.length cap], .string p] w (TextPost (blocksV B es p) w) := by
  have HL := Lib.hid hl; have HM := Lib.hid hs; have HSZ := Lib.hid hS; have HP := Lib.hid hp
  clear hl hs hS hp
  have hb1 : Below w.heap.size w (w.alloc (.cells #[.string B, .slice A es.length cap] 29)) := (Below.refl _ _).alloc (Nat.le_refl _) _
  have t1 := Two.made w B A es.length cap 29
  have hz1 : (w.alloc (.cells #[.string B, .slice A es.length cap] 29)).heap.size = w.heap.size + 1 := by simp
  by_cases h0 : 0 < p.size
  case neg =>
    have HQ : Hid (blocksV B es p = (⟨#[]⟩, false)) := Lib.hid (textV_no fun h => h0 h.2)
    have hpe : p = ⟨#[]⟩ := bytes_ext (by simp; exact Array.eq_empty_of_size_eq_zero (show p.size = 0 by omega))
    subst hpe
    clear t1 hz1 h0
    go_enter Try.func78, Try.ntmps78
    go_wp2_with fail
    go_ret2
    exact ⟨by rw [HQ.out]; rfl, hb1⟩
  have hne : ¬ p.toList = [] := fun h => by
    have := congrArg List.length h
    have e1 : p.data.toList.length = p.size := by simp
    rw [Lib.toList_data, e1, List.length_nil] at this
    omega
  have hne1 : (p.toList == []) = false := by simp [hne]
  have hne2 : p.toList.isEmpty = false := by
    cases hq : p.toList with
    | nil => exact absurd hq hne
    | cons => rfl
  obtain ⟨bv, hbv⟩ : ∃ bv, pathV B es p = bv := ⟨_, rfl⟩
  have HBV := Lib.hid hbv
  clear hbv
  cases bv with
  | false =>
    have HQ : Hid (blocksV B es p = (⟨#[]⟩, false)) := Lib.hid (textV_no fun h => by rw [HBV.out] at h; exact absurd h.1 (by simp))
    go_enter Try.func78, Try.ntmps78
    go_wp2_with fail
    refine (implIsPath_any B A cap es p _ HM.out ((hE.below hb1).more hb1.size) HL.out HP.out).mono ?_
    rw [HBV.out]
    rintro e w2 ⟨rfl, hb2⟩
    have hb2' := hb1.trans (hb2.mono hb1.size)
    clear hb2 t1
    go_wp2_with fail
    go_ret2
    exact ⟨by rw [HQ.out]; rfl, hb2'⟩
  | true =>
  have HOK : Hid (Valid B.data.toList (ebs es) ∧ PathOk es p.data.toList) := Lib.hid (decB_iff.1 HBV.out)
  have HQ : Hid (blocksV B es p = (⟨(trail es p.data.toList p.size).toArray⟩, true)) := Lib.hid (textV_yes ⟨HBV.out, h0⟩)
  have hp60 : p.size ≤ 60 := by have := HOK.out.2.1; simpa using this
  have HGO : Hid (∀ i, i < p.size → Goes es p.data.toList i) := Lib.hid fun i hi => HOK.out.2.2 i (by simpa using hi)
  go_enter Try.func78, Try.ntmps78
  go_wp2_with fail
  refine (implIsPath_any B A cap es p _ HM.out ((hE.below hb1).more hb1.size) HL.out HP.out).mono ?_
  rw [HBV.out]
  rintro e w2 ⟨rfl, hb2⟩
  have t2 := t1.below hb2 (by omega)
  have hz2 : w.heap.size + 1 ≤ w2.heap.size := by have := hb2.size; omega
  have hb2' := hb1.trans (hb2.mono hb1.size)
  clear hb2 t1 hb1 hz1
  have hgo0 := (HGO.out 0 h0).1
  obtain ⟨j, hj, hjx⟩ := eIdx_some hgo0
  have HE0 := Lib.hid (edgeOf_at hj hjx)
  have HX : Hid (eIdx es.length (p.extract 0 1).data.toList = j) := Lib.hid (by have := letter_at (p := p) (i := 0) h0; rw [Nat.zero_add] at this; rw [this, hjx])
  obtain ⟨eb, eo, rfl, hlow, h1, h2⟩ := (hE.below hb2') j hj
  have hS : ∀ W, Below w2.heap.size w2 W → (W.cell? ⟨w.heap.size, 0, none⟩ = some (.string B) ∧ W.cell? ⟨w.heap.size, 1, none⟩ = some (.slice (some ⟨eb, eo, none⟩) es.length cap) ∧ W.cell? ⟨eb, eo + j * 2, none⟩ = some (.string es[j].1) ∧ Below w2.heap.size w2 W) :=
    fun W h => ⟨(h.cell (by simp only; omega)).trans t2.1, (h.cell (by simp only; omega)).trans t2.2, (h.cell (by simp only; omega)).trans h1, h⟩
  have HSS := Lib.hid hS; have HT2 := Lib.hid t2; have HB2 := Lib.hid hb2'
  clear hS hgo0 hjx h1 h2 t2 hb2'
  have a1 : (1 : Int) ≤ (p.size : Int) := by omega
  have a2 : 1 ≤ p.size := by omega
  go_wp2_with fail
  go_region_held3 (fun W => W.cell? ⟨w.heap.size, 0, none⟩ = some (.string B) ∧ W.cell? ⟨w.heap.size, 1, none⟩ = some (.slice (some ⟨eb, eo, none⟩) es.length cap) ∧ W.cell? ⟨eb, eo + j * 2, none⟩ = some (.string es[j].1) ∧ Below w2.heap.size w2 W)
    (first
      | exact HSS.out _ (Below.refl _ _).drew
      | exact HSS.out _ ((Below.refl _ _).drew.trans hb4))
    (first
      | (go_at_call 47; refine (edgeIndex_any _ _ es.length cap _ _ HL.out).mono ?_; rw [HX.out]; rintro e w4 ⟨rfl, hb4⟩))
  rename_i hHeld
  have HB4 := Lib.hid hHeld.2.2.2
  clear hHeld HSS hb4 a1 a2
  go_wp2_with fail
  have hz4 : w.heap.size + 1 ≤ w4.heap.size := by have := HB4.out.size; omega
  have HT4 := Lib.hid (HT2.out.below HB4.out (by omega))
  have HBW := Lib.hid (HB2.out.trans (HB4.out.mono HB2.out.size))
  clear HT2 HB4 HB2 hz2 hlow
  have HS0 : Hid (es[j].1.data.toList = trail es p.data.toList 0) := Lib.hid (by rw [trail_zero, HE0.out])
  go_loopw [6, 27] (fun a c wr => ∃ (k : Nat) (s : ByteArray), k ≤ p.size ∧ c = .int .i64 k ∧ a = .string s ∧ s.data.toList = trail es p.data.toList k ∧ Below w4.heap.size w4 wr) (fun _ c _ => p.size - (intOf c).toNat)
  case atStart => exact ⟨0, _, Nat.zero_le _, rfl, rfl, HS0.out, Below.refl _ _⟩
  case round =>
    clear HS0 HE0 HX
    obtain ⟨k, s, hk, rfl, rfl, hsv, hb⟩ := hrel
    have HSV := Lib.hid hsv; have HB := Lib.hid hb
    have tr := HT4.out.below hb (by omega)
    have hzr := hb.size
    have hsl : s.size ≤ (k + 1) * 1099511627776 := by
      have h := trail_length HSZ.out p.data.toList k (by simp; omega)
      rw [← hsv] at h
      simpa using h
    clear hsv hb
    by_cases hlt : k < p.size
    case neg =>
      have hkp : k = p.size := by omega
      subst hkp
      have hse : s = ⟨(trail es p.data.toList p.size).toArray⟩ := str_ext HSV.out
      subst hse
      clear tr hsl
      go_wp2_with fail
      go_ret2
      exact ⟨by rw [HQ.out]; rfl, HBW.out.trans (HB.out.mono (by omega))⟩
    obtain ⟨i, hi, hix⟩ := eIdx_some (HGO.out k hlt).1
    have HEI := Lib.hid (edgeOf_at hi hix)
    have HX : Hid (eIdx es.length (p.extract k (k + 1)).data.toList = i) := Lib.hid (by rw [letter_at hlt, hix])
    have hbw := HBW.out.trans (HB.out.mono (show w.heap.size ≤ w4.heap.size by omega))
    obtain ⟨fb, fo, hfe, hlow, h1, h2⟩ := (hE.below hbw) i hi
    injection hfe with hfe
    injection hfe with hf1 hf2 _
    subst hf1; subst hf2
    have hS : ∀ W, Below wr.heap.size wr W → (W.cell? ⟨w.heap.size, 0, none⟩ = some (.string B) ∧ W.cell? ⟨w.heap.size, 1, none⟩ = some (.slice (some ⟨eb, eo, none⟩) es.length cap) ∧ W.cell? ⟨eb, eo + i * 2 + 1, none⟩ = some (.string es[i].2) ∧ Below wr.heap.size wr W) :=
      fun W h => ⟨(h.cell (by simp only; omega)).trans tr.1, (h.cell (by simp only; omega)).trans tr.2, (h.cell (by simp only; omega)).trans h2, h⟩
    have HSS := Lib.hid hS
    have hpl : es[i].2.size ≤ 1099511627776 := (HSZ.out _ (List.getElem_mem hi)).2
    have hadd : ¬ 9223372036854775807 < s.size + es[i].2.size := by omega
    have hix' : (i : Int) < (es.length : Int) := by omega
    clear hS tr hix hbw h1 h2 hsl hpl
    have a1 : (0 : Int) ≤ (k : Int) := by omega
    have a2 : (k : Int) < (p.size : Int) := by omega
    have a4 : (0 : Int) ≤ (k : Int) + 1 := by omega
    have a5 : ((k : Int) + 1).toNat = k + 1 := by omega
    have a6 : (k : Int) + 1 ≤ (p.size : Int) := by omega
    have a7 : k + 1 ≤ p.size := by omega
    have a8 : (k : Int) ≤ (k : Int) + 1 := by omega
    have a3 : IntKind.i64.wrap ((k : Int) + 1) = (k : Int) + 1 := IntWalk.i64_in _ (by omega)
    go_wp2_with fail
    go_region_held3 (fun W => W.cell? ⟨w.heap.size, 0, none⟩ = some (.string B) ∧ W.cell? ⟨w.heap.size, 1, none⟩ = some (.slice (some ⟨eb, eo, none⟩) es.length cap) ∧ W.cell? ⟨eb, eo + i * 2 + 1, none⟩ = some (.string es[i].2) ∧ Below wr.heap.size wr W)
      (first
        | exact HSS.out _ (Below.refl _ _).drew
        | exact HSS.out _ ((Below.refl _ _).drew.trans hb5))
      (first
        | (go_at_call 47; refine (edgeIndex_any _ _ es.length cap _ _ HL.out).mono ?_; rw [HX.out]; rintro e w5 ⟨rfl, hb5⟩))
    rename_i hHeld
    have HB5 := Lib.hid hHeld.2.2.2
    clear hHeld HSS hb5 a1 a2 a3 a4 a5 a6 a7 a8 hadd
    go_wp2_with fail
    go_roundw
    case rel => exact ⟨k + 1, _, by omega, by go_num, rfl, by rw [trail_succ (by simp; omega)]; exact str_more HSV.out (by rw [HEI.out]), HB.out.trans (HB5.out.mono (by omega))⟩
    case measure => simp [intOf]; omega

end Go.Proofs.Ytghdjmjodgbghaa
