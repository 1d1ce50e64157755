/- Whether a text is a run, by the program. -/
import Derived.Test.YtghdjmjodgbghaaIsRun
namespace Go.Proofs.Ytghdjmjodgbghaa
open Go.RowKit

set_option maxRecDepth 100000 in
set_option maxHeartbeats 4000000 in
/-- impl.IsRun -/
theorem implIsRun_any (B : ByteArray) (A : Option Addr) (cap : Nat) (es : List (ByteArray × ByteArray)) (p : ByteArray) (w : World) (hs : B.size ≤ maxLen) (hE : EdgesIn w w.heap.size A es) (hl : es.length ≤ 1099511627776) (hS : ∀ e ∈ es, e.1.size ≤ 1099511627776 ∧ e.2.size ≤ 1099511627776) (hp : p.size ≤ 1099511627776) :
    Calls Try.prog 54 #[.agg #[.string B, .slice A es.length cap], .string p] w (BoolPost (runV B es p) w) := by
  have HL := Lib.hid hl; have HM := Lib.hid hs; have HSZ := Lib.hid hS; have HP := Lib.hid hp
  clear hl hs hS hp
  have hb1 : Below w.heap.size w (w.alloc (.cells #[.string B, .slice A es.length cap] 29)) := (Below.refl _ _).alloc (Nat.le_refl _) _
  have t1 := Two.made w B A es.length cap 29
  have hz1 : (w.alloc (.cells #[.string B, .slice A es.length cap] 29)).heap.size = w.heap.size + 1 := by simp
  by_cases hok : pathV B es p = true ∧ 0 < p.size
  case neg =>
    have HQ : Hid (runV B es p = false) := Lib.hid (decB_f fun h => hok ⟨h.1, h.2.1⟩)
    have HBL : Hid (blocksV B es p = (⟨#[]⟩, false)) := Lib.hid (textV_no hok)
    clear hok
    go_enter Try.func54, Try.ntmps54
    go_wp2_with fail
    refine (implBlocksOf_any B A cap es p _ HM.out ((hE.below hb1).more hb1.size) HL.out HSZ.out HP.out).mono ?_
    rw [HBL.out]
    rintro e w2 ⟨rfl, hb2⟩
    have hb2' := hb1.trans (hb2.mono hb1.size)
    clear hb2 t1
    go_wp2_with fail
    go_ret
    exact ⟨by rw [HQ.out]; rfl, hb2'⟩
  obtain ⟨hpv, h0⟩ := hok
  have hvp : Valid B.data.toList (ebs es) ∧ PathOk es p.data.toList := decB_iff.1 hpv
  obtain ⟨t, ht⟩ : ∃ t : ByteArray, t.data.toList = trail es p.data.toList p.size := ⟨⟨(trail es p.data.toList p.size).toArray⟩, rfl⟩
  have hte : (⟨(trail es p.data.toList p.size).toArray⟩ : ByteArray) = t := (str_ext ht).symm
  obtain ⟨ht2, hte1, hte2⟩ := trail_ends hvp.1 hvp.2 h0 ht
  have htm : t.size ≤ maxLen := by
    have := trail_length HSZ.out p.data.toList p.size (by simp)
    have h60 := hvp.2.1
    rw [← ht] at this
    simp at this h60
    unfold maxLen
    omega
  have hB := valid_sizes hvp.1
  have hB2 : 2 ≤ B.size := by have := hvp.1.1.1.1; simpa using this
  have HBL : Hid (blocksV B es p = (t, true)) := Lib.hid (by rw [← hte]; exact textV_yes ⟨hpv, h0⟩)
  obtain ⟨q1, hq1⟩ : ∃ q1, ((t.extract 0 1).toList == (B.extract 0 1).toList) = q1 := ⟨_, rfl⟩
  obtain ⟨q2, hq2⟩ : ∃ q2, ((t.extract (t.size - 1) t.size).toList == (B.extract (B.size - 1) B.size).toList) = q2 := ⟨_, rfl⟩
  have HQ : Hid (runV B es p = (q1 && q2)) := Lib.hid (by rw [runV_of hpv h0, ← hte1, ← hte2, hq1, hq2])
  have hx1 : (B.extract 0 1).size = 1 := by simp; omega
  have hx2 : (B.extract (B.size - 1) B.size).size = 1 := by simp; omega
  have HPRE : Hid (∀ W : World, Calls Try.prog 79 #[.string t, .string (B.extract 0 1)] W fun e w' => e = .returned (.bool q1) ∧ W = w') := Lib.hid fun W => by
    refine (hasPrefix_any t (B.extract 0 1) W (by omega) htm).mono ?_
    rintro e w' ⟨rfl, rfl⟩
    rw [hx1, hq1]
    exact ⟨rfl, rfl⟩
  have HSUF : Hid (∀ W : World, Calls Try.prog 80 #[.string t, .string (B.extract (B.size - 1) B.size)] W fun e w' => e = .returned (.bool q2) ∧ W = w') := Lib.hid fun W => by
    refine (hasSuffix_any t (B.extract (B.size - 1) B.size) W (by omega) htm).mono ?_
    rintro e w' ⟨rfl, rfl⟩
    rw [hx2, hq2]
    exact ⟨rfl, rfl⟩
  have hB1 : 1 ≤ B.size := by omega
  clear hq1 hq2 hte hte1 hte2 ht htm ht2 hvp hpv h0 hB hB2 hx1 hx2
  go_enter Try.func54, Try.ntmps54
  go_wp2_with fail
  refine (implBlocksOf_any B A cap es p _ HM.out ((hE.below hb1).more hb1.size) HL.out HSZ.out HP.out).mono ?_
  rw [HBL.out]
  rintro e w2 ⟨rfl, hb2⟩
  have tt2 := t1.below hb2 (by omega)
  have hz2 : w.heap.size + 1 ≤ w2.heap.size := by have := hb2.size; omega
  have hb2' := hb1.trans (hb2.mono hb1.size)
  have hd0 := tt2.1; have hd1 := tt2.2
  clear hb2 t1 hb1 hz1
  go_wp2_with fail
  refine (entryOf_any B _ _ hB1 HM.out).mono ?_
  rintro e w3 ⟨rfl, hb3⟩
  have tt3 := tt2.below hb3 (by omega)
  have hb3' := hb2'.trans (hb3.mono hb2'.size)
  clear hb3 hd0 hd1 tt2 hb2'
  have hd0 := tt3.1; have hd1 := tt3.2
  go_wp2_with fail
  refine (HPRE.out _).mono ?_
  rintro e w4 ⟨rfl, rfl⟩
  cases q1 with
  | false =>
    go_wp2_with fail
    go_ret
    exact ⟨by rw [HQ.out]; rfl, hb3'⟩
  | true =>
    go_wp2_with fail
    refine (exitOf_any B _ _ hB1 HM.out).mono ?_
    rintro e w5 ⟨rfl, hb5⟩
    have hb5' := hb3'.trans (hb5.mono hb3'.size)
    clear hb5 hd0 hd1
    go_wp2_with fail
    refine (HSUF.out _).mono ?_
    rintro e w6 ⟨rfl, rfl⟩
    go_wp2_with fail
    go_ret
    exact ⟨by rw [HQ.out]; rfl, hb5'⟩

end Go.Proofs.Ytghdjmjodgbghaa
