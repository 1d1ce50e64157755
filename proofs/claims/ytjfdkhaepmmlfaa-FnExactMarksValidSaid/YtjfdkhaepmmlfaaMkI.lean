/- Whether one of some marks is none: slices.ContainsFunc over isNoMark. -/
import Derived.Test.YtjfdkhaepmmlfaaMkC
import Derived.Shelf.Abstract
namespace Go.Proofs.Ytjfdkhaepmmlfaa
open Go.RowKit

set_option maxRecDepth 100000 in
set_option maxHeartbeats 2000000 in
/-- slices.IndexFunc, of marks -/
theorem indexMk_any (A : Option Addr) (cap : Nat) (ms : List Mk) (f : FuncId) (p : Mk → Bool) (w : World) (hE : MarksIn w w.heap.size A ms) (hl : ms.length ≤ 1099511627776)
    (he : ∀ args w, (callFunc f args).run Try.prog w = .ok (.enter f args) w)
    (hk : ∀ (m : Mk) (W : World), Calls Try.prog f #[.agg #[.string m.1, .int .i64 m.2.1, .bool m.2.2]] W fun e W' => e = .returned (.bool (p m)) ∧ Below W.heap.size W W') :
    Calls Try.prog 88 #[.slice A ms.length cap, .func (.func f) #[] #[]] w fun e w' => ∃ r : Int, e = .returned (.int .i64 r) ∧ decide (0 ≤ r) = ms.any p ∧ Below w.heap.size w w' := by
  have HK := Lib.hid hk
  clear hk
  go_enter Try.func88, Try.ntmps88
  go_wp2_with fail
  go_loopw [8] (fun c wr => ∃ k : Nat, k ≤ ms.length ∧ c = .int .i64 k ∧ Below w.heap.size w wr ∧ ∀ m ∈ ms.take k, p m = false) (fun c _ => ms.length - (intOf c).toNat)
  case atStart => exact ⟨0, Nat.zero_le _, rfl, Below.refl _ _, by simp⟩
  case round =>
    obtain ⟨k, hk, rfl, hb, hr⟩ := hrel
    have HR := Lib.hid hr; clear hr
    by_cases hlt : k < ms.length
    · obtain ⟨eb, eo, rfl, hlow, h1, h2, h3⟩ := (hE.below hb) k hlt
      obtain ⟨m, hm⟩ : ∃ m, ms[k] = m := ⟨_, rfl⟩
      have HTK : Hid (ms.take (k + 1) = ms.take k ++ [m]) := Lib.hid (by rw [List.take_add_one, List.getElem?_eq_getElem hlt, hm]; rfl)
      have HMEM : Hid (m ∈ ms) := Lib.hid (by rw [← hm]; exact List.getElem_mem hlt)
      rw [hm] at h1 h2 h3
      clear hm
      have HB := Lib.hid hb
      go_wp2_with fail
      refine (HK.out m _).mono ?_
      rintro e w3 ⟨rfl, hb3⟩
      have hb3' := HB.out.trans (hb3.mono HB.out.size)
      clear hb3 h1 h2 h3 hb
      cases hp : p m with
      | false =>
        have HP := Lib.hid hp; clear hp
        go_wp2_with fail
        go_roundw
        case rel => exact ⟨k + 1, by omega, by go_num, hb3', fun y hy => by
          rw [HTK.out] at hy
          rcases List.mem_append.1 hy with hy | hy
          · exact HR.out y hy
          · simp at hy; subst hy; exact HP.out⟩
        case measure => simp [intOf]; omega
      | true =>
        have HP := Lib.hid hp; clear hp
        go_wp2_with fail
        go_ret
        refine ⟨(k : Int), rfl, ?_, hb3'⟩
        rw [List.any_eq_true.2 ⟨m, HMEM.out, HP.out⟩]
        simp
    · go_wp2_with fail
      go_ret
      refine ⟨-1, rfl, ?_, hb⟩
      have : ms.any p = false := by
        rw [List.any_eq_false]
        intro y hy
        rw [HR.out y (by rw [List.take_of_length_le (by omega)]; exact hy)]
        simp
      rw [this]
      rfl

set_option maxRecDepth 100000 in
/-- slices.ContainsFunc, of marks -/
theorem containsMk_any (A : Option Addr) (cap : Nat) (ms : List Mk) (w : World) (hE : MarksIn w w.heap.size A ms) (hl : ms.length ≤ 1099511627776) :
    Calls Try.prog 47 #[.slice A ms.length cap, .func (.func 48) #[] #[]] w fun e w' => e = .returned (.bool (!ms.all mkOk)) ∧ Below w.heap.size w w' := by
  have EN : ∀ args w, (callFunc 48 args).run Try.prog w = .ok (.enter 48 args) w := enters_of Try.func48 (by kernel_rfl) rfl
  have HC := Lib.hid (indexMk_any A cap ms 48 (fun m => !mkOk m) w hE hl EN (fun m W => isNoMark_any m.1 m.2.1 m.2.2 W))
  have HE : Hid (ms.any (fun m => !mkOk m) = !ms.all mkOk) := Lib.hid (by rw [List.not_all_eq_any_not])
  clear EN
  go_enter Try.func47, Try.ntmps47
  go_wp2_with fail
  refine HC.out.mono ?_
  rintro e w2 ⟨r, rfl, hr, hb⟩
  rw [HE.out] at hr
  have HR := Lib.hid hr; clear hr
  go_wp2_with fail
  go_ret
  exact ⟨rtB (by rw [← HR.out]), hb⟩

end Go.Proofs.Ytjfdkhaepmmlfaa
