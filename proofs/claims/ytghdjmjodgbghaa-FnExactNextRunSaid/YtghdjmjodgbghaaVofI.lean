/- The value of an edge: ValueOf by the program. -/
import Derived.Test.YtghdjmjodgbghaaVofS
import Derived.Test.YtghdjmjodgbghaaRunsI
import Derived.Test.YtghdjmjodgbghaaVals
namespace Go.Proofs.Ytghdjmjodgbghaa
open Go.RowKit

theorem ix16_0 (F : Nat → Nat) (w : World) : (Instr.index 53 (arr16 F) (.int .i64 ((0 : Nat) : Int))).run Try.prog w = .ok (.int .i64 ((F 0 : Nat) : Int)) w := by kernel_rfl
theorem ix16_1 (F : Nat → Nat) (w : World) : (Instr.index 53 (arr16 F) (.int .i64 ((1 : Nat) : Int))).run Try.prog w = .ok (.int .i64 ((F 1 : Nat) : Int)) w := by kernel_rfl
theorem ix16_2 (F : Nat → Nat) (w : World) : (Instr.index 53 (arr16 F) (.int .i64 ((2 : Nat) : Int))).run Try.prog w = .ok (.int .i64 ((F 2 : Nat) : Int)) w := by kernel_rfl
theorem ix16_3 (F : Nat → Nat) (w : World) : (Instr.index 53 (arr16 F) (.int .i64 ((3 : Nat) : Int))).run Try.prog w = .ok (.int .i64 ((F 3 : Nat) : Int)) w := by kernel_rfl
theorem ix16_4 (F : Nat → Nat) (w : World) : (Instr.index 53 (arr16 F) (.int .i64 ((4 : Nat) : Int))).run Try.prog w = .ok (.int .i64 ((F 4 : Nat) : Int)) w := by kernel_rfl
theorem ix16_5 (F : Nat → Nat) (w : World) : (Instr.index 53 (arr16 F) (.int .i64 ((5 : Nat) : Int))).run Try.prog w = .ok (.int .i64 ((F 5 : Nat) : Int)) w := by kernel_rfl
theorem ix16_6 (F : Nat → Nat) (w : World) : (Instr.index 53 (arr16 F) (.int .i64 ((6 : Nat) : Int))).run Try.prog w = .ok (.int .i64 ((F 6 : Nat) : Int)) w := by kernel_rfl
theorem ix16_7 (F : Nat → Nat) (w : World) : (Instr.index 53 (arr16 F) (.int .i64 ((7 : Nat) : Int))).run Try.prog w = .ok (.int .i64 ((F 7 : Nat) : Int)) w := by kernel_rfl
theorem ix16_8 (F : Nat → Nat) (w : World) : (Instr.index 53 (arr16 F) (.int .i64 ((8 : Nat) : Int))).run Try.prog w = .ok (.int .i64 ((F 8 : Nat) : Int)) w := by kernel_rfl
theorem ix16_9 (F : Nat → Nat) (w : World) : (Instr.index 53 (arr16 F) (.int .i64 ((9 : Nat) : Int))).run Try.prog w = .ok (.int .i64 ((F 9 : Nat) : Int)) w := by kernel_rfl
theorem ix16_10 (F : Nat → Nat) (w : World) : (Instr.index 53 (arr16 F) (.int .i64 ((10 : Nat) : Int))).run Try.prog w = .ok (.int .i64 ((F 10 : Nat) : Int)) w := by kernel_rfl
theorem ix16_11 (F : Nat → Nat) (w : World) : (Instr.index 53 (arr16 F) (.int .i64 ((11 : Nat) : Int))).run Try.prog w = .ok (.int .i64 ((F 11 : Nat) : Int)) w := by kernel_rfl
theorem ix16_12 (F : Nat → Nat) (w : World) : (Instr.index 53 (arr16 F) (.int .i64 ((12 : Nat) : Int))).run Try.prog w = .ok (.int .i64 ((F 12 : Nat) : Int)) w := by kernel_rfl
theorem ix16_13 (F : Nat → Nat) (w : World) : (Instr.index 53 (arr16 F) (.int .i64 ((13 : Nat) : Int))).run Try.prog w = .ok (.int .i64 ((F 13 : Nat) : Int)) w := by kernel_rfl
theorem ix16_14 (F : Nat → Nat) (w : World) : (Instr.index 53 (arr16 F) (.int .i64 ((14 : Nat) : Int))).run Try.prog w = .ok (.int .i64 ((F 14 : Nat) : Int)) w := by kernel_rfl
theorem ix16_15 (F : Nat → Nat) (w : World) : (Instr.index 53 (arr16 F) (.int .i64 ((15 : Nat) : Int))).run Try.prog w = .ok (.int .i64 ((F 15 : Nat) : Int)) w := by kernel_rfl
theorem index16 (F : Nat → Nat) {k : Nat} (hk : k < 16) (w : World) : (Instr.index 53 (arr16 F) (.int .i64 (k : Int))).run Try.prog w = .ok (.int .i64 ((F k : Nat) : Int)) w := by
  have h : k = 0 ∨ k = 1 ∨ k = 2 ∨ k = 3 ∨ k = 4 ∨ k = 5 ∨ k = 6 ∨ k = 7 ∨ k = 8 ∨ k = 9 ∨ k = 10 ∨ k = 11 ∨ k = 12 ∨ k = 13 ∨ k = 14 ∨ k = 15 := by omega
  rcases h with rfl | rfl | rfl | rfl | rfl | rfl | rfl | rfl | rfl | rfl | rfl | rfl | rfl | rfl | rfl | rfl
  · exact ix16_0 F w
  · exact ix16_1 F w
  · exact ix16_2 F w
  · exact ix16_3 F w
  · exact ix16_4 F w
  · exact ix16_5 F w
  · exact ix16_6 F w
  · exact ix16_7 F w
  · exact ix16_8 F w
  · exact ix16_9 F w
  · exact ix16_10 F w
  · exact ix16_11 F w
  · exact ix16_12 F w
  · exact ix16_13 F w
  · exact ix16_14 F w
  · exact ix16_15 F w

theorem values_acy {B : ByteArray} {A : Option Addr} {cap : Nat} {es : List (ByteArray × ByteArray)} (hv : acycV B es = true) (hBm : B.size ≤ maxLen) (W : World) (h : EdgesIn W W.heap.size A es) :
    Calls Try.prog 48 #[.agg #[.string B, .slice A es.length cap]] W fun e w' => e = .returned (arr16 (valE (ebs es) (exit_ B.data.toList))) ∧ Below W.heap.size W w' := by
  have hA := acy_v hv
  exact edgeValues_any B A cap es _ _ _ W h (lead_of hA) hBm (decB_iff.1 hv).1.2.1 hA.all

set_option maxRecDepth 100000 in
set_option maxHeartbeats 4000000 in
/-- impl.ValueOf -/
theorem implValueOf_any (B : ByteArray) (A : Option Addr) (cap : Nat) (es : List (ByteArray × ByteArray)) (b : ByteArray) (w : World) (hs : B.size ≤ maxLen) (hE : EdgesIn w w.heap.size A es) (hl : es.length ≤ 1099511627776) (hS : ∀ e ∈ es, e.1.size ≤ 1099511627776 ∧ e.2.size ≤ 1099511627776) :
    Calls Try.prog 19 #[.agg #[.string B, .slice A es.length cap], .string b] w (IntPost (valueV B es b) w) := by
  have HL := Lib.hid hl; have HM := Lib.hid hs; have HS := Lib.hid hS
  clear hl hs hS
  have hb1 : Below w.heap.size w (w.alloc (.cells #[.string B, .slice A es.length cap] 29)) := (Below.refl _ _).alloc (Nat.le_refl _) _
  have t1 := Two.made w B A es.length cap 29
  have hz1 : (w.alloc (.cells #[.string B, .slice A es.length cap] 29)).heap.size = w.heap.size + 1 := by simp
  have FB : Hid (∀ W : World, Calls Try.prog 47 #[.agg #[.string B, .slice A es.length cap], .string b] W fun e w' => e = .returned (.int .i64 (eIdx es.length b.data.toList)) ∧ Below W.heap.size W w') := Lib.hid fun W => edgeIndex_any (.string B) A es.length cap b W HL.out
  obtain ⟨bi, hbe⟩ : ∃ bi, eIdx es.length b.data.toList = bi := ⟨_, rfl⟩
  rw [hbe] at FB
  obtain ⟨v, hv⟩ : ∃ v, acycV B es = v := ⟨_, rfl⟩
  have FA : Hid (∀ W : World, EdgesIn W W.heap.size A es → Calls Try.prog 39 #[.agg #[.string B, .slice A es.length cap]] W fun e w' => e = .returned (.bool v) ∧ Below W.heap.size W w') := Lib.hid fun W h => by
    have := implIsAcyclic_any B A cap es W HM.out h HL.out HS.out
    rwa [hv] at this
  cases v with
  | false =>
    have HN : Hid (valueV B es b = -1) := Lib.hid (if_neg (by rw [hv]; simp))
    clear hv hbe
    go_enter Try.func19, Try.ntmps19
    go_wp2_with fail
    refine (FB.out _).mono ?_
    rintro e w2 ⟨rfl, hb2⟩
    have hb2' := hb1.trans (hb2.mono hb1.size)
    have t2 := t1.below hb2 (by omega)
    have hz2 : w.heap.size + 1 ≤ w2.heap.size := by have := hb2.size; omega
    have hd0 := t2.1; have hd1 := t2.2
    clear hb2 t1 hz1 hb1
    go_wp2_with fail
    refine (FA.out _ ((hE.below hb2').more hb2'.size)).mono ?_
    rintro e w3 ⟨rfl, hb3⟩
    have hb3' := hb2'.trans (hb3.mono hb2'.size)
    clear hb3 hd0 hd1 t2
    go_wp2_with fail
    go_ret
    exact ⟨ret_int HN.out.symm, hb3'⟩
  | true =>
    by_cases hbi : bi < 0
    case pos =>
      have HN : Hid (valueV B es b = -1) := Lib.hid (if_neg fun h => by have := h.2; omega)
      clear hv hbe
      go_enter Try.func19, Try.ntmps19
      go_wp2_with fail
      refine (FB.out _).mono ?_
      rintro e w2 ⟨rfl, hb2⟩
      have hb2' := hb1.trans (hb2.mono hb1.size)
      have t2 := t1.below hb2 (by omega)
      have hd0 := t2.1; have hd1 := t2.2
      clear hb2 t1 hz1 hb1
      go_wp2_with fail
      refine (FA.out _ ((hE.below hb2').more hb2'.size)).mono ?_
      rintro e w3 ⟨rfl, hb3⟩
      have hb3' := hb2'.trans (hb3.mono hb2'.size)
      clear hb3 hd0 hd1 t2
      go_wp2_with fail
      go_ret
      exact ⟨ret_int HN.out.symm, hb3'⟩
    obtain ⟨k, hk, hke⟩ := eIdx_some (n := es.length) (b := b.data.toList) (by omega)
    have hbk : bi = (k : Int) := by omega
    subst hbk
    have h16 := (acy_v hv).F.few
    have HN : Hid (valueV B es b = ((valE (ebs es) (exit_ B.data.toList) k : Nat) : Int)) := Lib.hid ((if_pos ⟨hv, by omega⟩).trans (by rw [hke]; rfl))
    have FV : Hid (∀ W : World, EdgesIn W W.heap.size A es → Calls Try.prog 48 #[.agg #[.string B, .slice A es.length cap]] W fun e w' => e = .returned (arr16 (valE (ebs es) (exit_ B.data.toList))) ∧ Below W.heap.size W w') := Lib.hid fun W h => values_acy hv HM.out W h
    have hix := index16 (valE (ebs es) (exit_ B.data.toList)) (show k < 16 by omega)
    obtain ⟨F, hF⟩ : ∃ F, arr16 (valE (ebs es) (exit_ B.data.toList)) = F := ⟨_, rfl⟩
    obtain ⟨q, hq⟩ : ∃ q : Int, ((valE (ebs es) (exit_ B.data.toList) k : Nat) : Int) = q := ⟨_, rfl⟩
    rw [hF] at FV hix
    rw [hq] at HN hix
    clear hv hbe hke hF hq h16
    go_enter Try.func19, Try.ntmps19
    go_wp2_with fail
    refine (FB.out _).mono ?_
    rintro e w2 ⟨rfl, hb2⟩
    have hb2' := hb1.trans (hb2.mono hb1.size)
    have t2 := t1.below hb2 (by omega)
    have hz2 : w.heap.size + 1 ≤ w2.heap.size := by have := hb2.size; omega
    have hd0 := t2.1; have hd1 := t2.2
    clear hb2 t1 hz1 hb1
    go_wp2_with fail
    refine (FA.out _ ((hE.below hb2').more hb2'.size)).mono ?_
    rintro e w3 ⟨rfl, hb3⟩
    have hb3' := hb2'.trans (hb3.mono hb2'.size)
    have t3 := t2.below hb3 (by omega)
    clear hb3 hd0 hd1 t2
    have hd0 := t3.1; have hd1 := t3.2
    go_wp2_with fail
    refine (FV.out _ ((hE.below hb3').more hb3'.size)).mono ?_
    rintro e w4 ⟨rfl, hb4⟩
    have hb4' := hb3'.trans (hb4.mono hb3'.size)
    clear hb4 hd0 hd1 t3
    go_wp2_with fail
    go_ret
    exact ⟨ret_int HN.out.symm, hb4'⟩

end Go.Proofs.Ytghdjmjodgbghaa
