/- The number of a run: NumberOf by the model. -/
import Derived.Test.YtghdjmjodgbghaaNumS
import Derived.Test.YtghdjmjodgbghaaAcycS
namespace Go.Proofs.Ytghdjmjodgbghaa
open Go.RowKit

noncomputable def numberV (B : ByteArray) (es : List (ByteArray × ByteArray)) (b : ByteArray) : Int := if acycV B es = true ∧ runV B es b = true then ((numE (ebs es) (exit_ B.data.toList) b.data.toList : Nat) : Int) else -1

set_option maxRecDepth 100000 in
set_option maxHeartbeats 4000000 in
/-- spec.NumberOf -/
theorem specNumberOf_any (B : ByteArray) (A : Option Addr) (cap : Nat) (es : List (ByteArray × ByteArray)) (b : ByteArray) (w : World) (hs : B.size ≤ maxLen) (hE : EdgesIn w w.heap.size A es) (hl : es.length ≤ 1099511627776) (hS : ∀ e ∈ es, e.1.size ≤ 1099511627776 ∧ e.2.size ≤ 1099511627776) (hbz : b.size ≤ 1099511627776) :
    Calls Try.prog 26 #[.agg #[.string B, .slice A es.length cap], .string b] w (IntPost (numberV B es b) w) := by
  have HL := Lib.hid hl; have HM := Lib.hid hs; have HS := Lib.hid hS
  clear hl hs hS
  have hb1 : Below w.heap.size w (w.alloc (.cells #[.string B, .slice A es.length cap] 29)) := (Below.refl _ _).alloc (Nat.le_refl _) _
  have t1 := Two.made w B A es.length cap 29
  have hz1 : (w.alloc (.cells #[.string B, .slice A es.length cap] 29)).heap.size = w.heap.size + 1 := by simp
  obtain ⟨v, hv⟩ : ∃ v, acycV B es = v := ⟨_, rfl⟩
  have FA : Hid (∀ W : World, EdgesIn W W.heap.size A es → Calls Try.prog 35 #[.agg #[.string B, .slice A es.length cap]] W fun e w' => e = .returned (.bool v) ∧ Below W.heap.size W w') := Lib.hid fun W h => by
    have := specIsAcyclic_any B A cap es W HM.out h HL.out HS.out
    rwa [hv] at this
  cases v with
  | false =>
    have HN : Hid (numberV B es b = -1) := Lib.hid (if_neg (by rw [hv]; simp))
    clear hv
    go_enter Try.func26, Try.ntmps26
    go_wp2_with fail
    refine (FA.out _ ((hE.below hb1).more hb1.size)).mono ?_
    rintro e w2 ⟨rfl, hb2⟩
    have hb2' := hb1.trans (hb2.mono hb1.size)
    clear hb2 t1
    go_wp2_with fail
    go_ret
    exact ⟨ret_int HN.out.symm, hb2'⟩
  | true =>
    have hA := acy_v hv
    obtain ⟨rn, hrn⟩ : ∃ rn, runV B es b = rn := ⟨_, rfl⟩
    have FB : Hid (∀ W : World, EdgesIn W W.heap.size A es → Calls Try.prog 52 #[.agg #[.string B, .slice A es.length cap], .string b] W fun e w' => e = .returned (.bool rn) ∧ Below W.heap.size W w') := Lib.hid fun W h => by
      have := specIsRun_any B A cap es b W HM.out h HL.out HS.out hbz
      rwa [hrn] at this
    cases rn with
    | false =>
      have HN : Hid (numberV B es b = -1) := Lib.hid (if_neg fun h => by rw [hrn] at h; exact absurd h.2 (by simp))
      clear hv hA hrn
      go_enter Try.func26, Try.ntmps26
      go_wp2_with fail
      refine (FA.out _ ((hE.below hb1).more hb1.size)).mono ?_
      rintro e w2 ⟨rfl, hb2⟩
      have hb2' := hb1.trans (hb2.mono hb1.size)
      have t2 := t1.below hb2 (by omega)
      have hd0 := t2.1; have hd1 := t2.2
      clear hb2 t1 hb1 FA
      go_wp2_with fail
      refine (FB.out _ ((hE.below hb2').more hb2'.size)).mono ?_
      rintro e w3 ⟨rfl, hb3⟩
      have hb3' := hb2'.trans (hb3.mono hb2'.size)
      clear hb3 hd0 hd1 t2
      go_wp2_with fail
      go_ret
      exact ⟨ret_int HN.out.symm, hb3'⟩
    | true =>
    have hpo := (decB_iff.1 (decB_iff.1 hrn).1).2
    have hpz : b.size ≤ 60 := by have := hpo.1; simpa using this
    have hnm := named_of_path hA.F.few hpo
    obtain ⟨q, hq⟩ : ∃ q : Int, ((numE (ebs es) (exit_ B.data.toList) b.data.toList : Nat) : Int) = q := ⟨_, rfl⟩
    have HN : Hid (numberV B es b = q) := Lib.hid ((if_pos ⟨hv, hrn⟩).trans hq)
    have FC : Hid (∀ W : World, EdgesIn W W.heap.size A es → Calls Try.prog 53 #[.agg #[.string B, .slice A es.length cap], .string b] W fun e w' => e = .returned (.int .i64 q) ∧ Below W.heap.size W w') := Lib.hid fun W h => by
      rw [← hq]; exact l4Number_any B A cap es b W h hA HM.out hnm hpz
    clear hv hA hq hrn hpo hpz hnm
    go_enter Try.func26, Try.ntmps26
    go_wp2_with fail
    refine (FA.out _ ((hE.below hb1).more hb1.size)).mono ?_
    rintro e w2 ⟨rfl, hb2⟩
    have hb2' := hb1.trans (hb2.mono hb1.size)
    have t2 := t1.below hb2 (by omega)
    have hz2 : w.heap.size + 1 ≤ w2.heap.size := by have := hb2.size; omega
    have hd0 := t2.1; have hd1 := t2.2
    clear hb2 t1 hz1 hb1 FA
    go_wp2_with fail
    refine (FB.out _ ((hE.below hb2').more hb2'.size)).mono ?_
    rintro e w3 ⟨rfl, hb3⟩
    have t3 := t2.below hb3 (by omega)
    have hb3' := hb2'.trans (hb3.mono hb2'.size)
    clear hb3 hd0 hd1 t2 FB
    have hd0 := t3.1; have hd1 := t3.2
    go_wp2_with fail
    refine (FC.out _ ((hE.below hb3').more hb3'.size)).mono ?_
    rintro e w4 ⟨rfl, hb4⟩
    have hb4' := hb3'.trans (hb4.mono hb3'.size)
    clear hb4 hd0 hd1 t3 FC
    go_wp2_with fail
    go_ret
    exact ⟨ret_int HN.out.symm, hb4'⟩

end Go.Proofs.Ytghdjmjodgbghaa
