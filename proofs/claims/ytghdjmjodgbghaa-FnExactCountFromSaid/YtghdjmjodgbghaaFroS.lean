/- How many paths there are from a block: CountFrom by the model. -/
import Derived.Test.YtghdjmjodgbghaaCountC
import Derived.Test.YtghdjmjodgbghaaAcycS
namespace Go.Proofs.Ytghdjmjodgbghaa
open Go.RowKit

set_option maxRecDepth 100000 in
set_option maxHeartbeats 4000000 in
/-- spec.CountFrom -/
theorem specCountFrom_any (B : ByteArray) (A : Option Addr) (cap : Nat) (es : List (ByteArray × ByteArray)) (b : ByteArray) (w : World) (hs : B.size ≤ maxLen) (hE : EdgesIn w w.heap.size A es) (hl : es.length ≤ 1099511627776) (hS : ∀ e ∈ es, e.1.size ≤ 1099511627776 ∧ e.2.size ≤ 1099511627776) :
    Calls Try.prog 16 #[.agg #[.string B, .slice A es.length cap], .string b] w (IntPost (fromV B es b) w) := by
  have HL := Lib.hid hl; have HM := Lib.hid hs; have HS := Lib.hid hS
  clear hl hs hS
  have hb1 : Below w.heap.size w (w.alloc (.cells #[.string B, .slice A es.length cap] 29)) := (Below.refl _ _).alloc (Nat.le_refl _) _
  have t1 := Two.made w B A es.length cap 29
  have hz1 : (w.alloc (.cells #[.string B, .slice A es.length cap] 29)).heap.size = w.heap.size + 1 := by simp
  obtain ⟨v, hv⟩ : ∃ v, acycV B es = v := ⟨_, rfl⟩
  have FA : Hid (∀ W : World, EdgesIn W W.heap.size A es → Calls Try.prog 35 #[.agg #[.string B, .slice A es.length cap]] W fun e w' => e = .returned (.bool v) ∧ Below W.heap.size W w') := Lib.hid fun W h => by
    have := specIsAcyclic_any B A cap es W HM.out h HL.out HS.out
    rwa [hv] at this
  cases v with
  | false =>
    have HN : Hid (fromV B es b = -1) := Lib.hid (if_neg (by rw [hv]; simp))
    clear hv
    go_enter Try.func16, Try.ntmps16
    go_wp2_with fail
    refine (FA.out _ ((hE.below hb1).more hb1.size)).mono ?_
    rintro e w2 ⟨rfl, hb2⟩
    have hb2' := hb1.trans (hb2.mono hb1.size)
    clear hb2 t1
    go_wp2_with fail
    go_ret
    exact ⟨ret_int HN.out.symm, hb2'⟩
  | true =>
    have hA := acy_v hv
    have FB : Hid (∀ W : World, Calls Try.prog 43 #[.agg #[.string B, .slice A es.length cap], .string b] W fun e w' => e = .returned (.bool (decide (0 ≤ bIdx B.data.toList b.data.toList))) ∧ Below W.heap.size W w') := Lib.hid fun W => l1Block_any B b _ W HM.out
    by_cases hb : 0 ≤ bIdx B.data.toList b.data.toList
    case neg =>
      have HN : Hid (fromV B es b = -1) := Lib.hid (if_neg fun h => hb h.2)
      rw [decide_eq_false hb] at FB
      clear hv hA hb
      go_enter Try.func16, Try.ntmps16
      go_wp2_with fail
      refine (FA.out _ ((hE.below hb1).more hb1.size)).mono ?_
      rintro e w2 ⟨rfl, hb2⟩
      have hb2' := hb1.trans (hb2.mono hb1.size)
      have t2 := t1.below hb2 (by omega)
      have hd0 := t2.1; have hd1 := t2.2
      clear hb2 t1 hb1 FA
      go_wp2_with fail
      refine (FB.out _).mono ?_
      rintro e w3 ⟨rfl, hb3⟩
      have hb3' := hb2'.trans (hb3.mono hb2'.size)
      clear hb3 hd0 hd1 t2
      go_wp2_with fail
      go_ret
      exact ⟨ret_int HN.out.symm, hb3'⟩
    obtain ⟨c, hc, hm, _⟩ := bIdx_some hb
    have hbc := bytes_one hc
    obtain ⟨q, hq⟩ : ∃ q, cntV B es c = q := ⟨_, rfl⟩
    have HN : Hid (fromV B es b = q) := Lib.hid ((if_pos ⟨hv, hb⟩).trans (by rw [hc]; exact hq))
    have FC : Hid (∀ W : World, EdgesIn W W.heap.size A es → Calls Try.prog 36 #[.agg #[.string B, .slice A es.length cap], .string b] W fun e w' => e = .returned (.int .i64 q) ∧ Below W.heap.size W w') := Lib.hid fun W h => by
      rw [hbc, ← hq]; exact l4Count_any B A cap es _ W h hA HM.out hm
    rw [decide_eq_true hb] at FB
    clear hv hA hq hb hc hm hbc
    go_enter Try.func16, Try.ntmps16
    go_wp2_with fail
    refine (FA.out _ ((hE.below hb1).more hb1.size)).mono ?_
    rintro e w2 ⟨rfl, hb2⟩
    have hb2' := hb1.trans (hb2.mono hb1.size)
    have t2 := t1.below hb2 (by omega)
    have hz2 : w.heap.size + 1 ≤ w2.heap.size := by have := hb2.size; omega
    have hd0 := t2.1; have hd1 := t2.2
    clear hb2 t1 hz1 hb1 FA
    go_wp2_with fail
    refine (FB.out _).mono ?_
    rintro e w3 ⟨rfl, hb3⟩
    have t3 := t2.below hb3 (by omega)
    have hb3' := hb2'.trans (hb3.mono hb2'.size)
    clear hb3 hd0 hd1 t2 FB
    have hd0 := t3.1; have hd1 := t3.2
    go_wp2_with fail
    refine (FC.out _ ((hE.below hb3').more hb3'.size)).mono ?_
    rintro e w4 ⟨rfl, hb4⟩
    have hb4' := hb3'.trans (hb4.mono hb3'.size)
    clear hb4 hd0 hd1 t3 FC
    go_wp2_with fail
    go_ret
    exact ⟨ret_int HN.out.symm, hb4'⟩

end Go.Proofs.Ytghdjmjodgbghaa
