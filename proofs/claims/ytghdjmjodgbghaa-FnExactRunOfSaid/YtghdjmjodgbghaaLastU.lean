/- The last of some numbers that is not above a limit, by the program. -/
import Derived.Test.YtghdjmjodgbghaaRunP
import Derived.BigRegion
namespace Go.Proofs.Ytghdjmjodgbghaa
open Go.RowKit

/-- a number, or none, as the program tells it -/
def lastV : Option Nat → Int
  | none => -1
  | some k => k

set_option maxRecDepth 100000 in
set_option maxHeartbeats 2000000 in
/-- impl.lastUpTo, of int -/
theorem lastUpTo_any (X n cap m : Nat) (F : Nat → Nat) (f : FuncId) (caps : Array Value) (p : Nat → Bool) (w : World) (hn : n ≤ 16) (hX : X < w.heap.size) (hF : ∀ i, F i ≤ 4294967296)
    (hrow : ∀ i, i < n → w.cell? ⟨X, i, none⟩ = some (.int .i64 ((F i : Nat) : Int)))
    (he : ∀ args w, (callFunc f args).run Try.prog w = .ok (.enter f args) w)
    (hk : ∀ (i : Nat) (W : World), i < n → Below w.heap.size w W → Calls Try.prog f (#[.int .i64 i] ++ caps) W fun e W' => e = .returned (.bool (p i)) ∧ Below W.heap.size W W') :
    Calls Try.prog 81 #[.slice (some ⟨X, 0, none⟩) n cap, .int .i64 (m : Int), .func (.func f) #[] caps] w
      fun e w' => e = .returned (.int .i64 (lastV (lastO (fun k => decide (F k ≤ m)) ((List.range n).filter p)))) ∧ Below w.heap.size w w' := by
  have HK := Lib.hid hk; have HROW := Lib.hid hrow
  clear hk hrow
  go_enter Try.func81, Try.ntmps81
  go_wp2_with fail
  go_loopw [7, 12] (fun a c wr => ∃ j : Nat, j ≤ n ∧ c = .int .i64 j ∧ a = .int .i64 (lastV (lastO (fun k => decide (F k ≤ m)) ((List.range j).filter p))) ∧ Below w.heap.size w wr) (fun _ c _ => n - (intOf c).toNat)
  case atStart => exact ⟨0, Nat.zero_le _, rfl, rfl, Below.refl _ _⟩
  case round =>
    obtain ⟨j, hj, rfl, rfl, hb⟩ := hrel
    by_cases hlt : j < n
    case neg =>
      have hjn : j = n := by omega
      have HJN := Lib.hid hjn
      have h0 : ¬ ((j : Int) < (n : Int)) := by omega
      clear hlt hjn
      go_wp2_with fail
      go_ret
      exact ⟨by rw [← HJN.out]; rfl, hb⟩
    have c0 : wr.cell? ⟨X, j, none⟩ = some (.int .i64 ((F j : Nat) : Int)) := (hb.cell (by simp only; omega)).trans (HROW.out j hlt)
    have hji : (j : Int) < (n : Int) := by omega
    have HR : Hid ((List.range (j + 1)).filter p = (List.range j).filter p ++ if p j = true then [j] else []) := Lib.hid (by
      rw [List.range_succ, List.filter_append]
      congr 1
      cases hp : p j <;> simp [hp])
    have HF := Lib.hid (hF j)
    have HB := Lib.hid hb
    obtain ⟨fj, hfj⟩ : ∃ fj, F j = fj := ⟨_, rfl⟩
    rw [hfj] at c0
    have HFJ := Lib.hid hfj
    clear hb hfj
    go_wp2_with fail
    refine (HK.out j wr hlt HB.out).mono ?_
    rintro e w3 ⟨rfl, hb3⟩
    have HB3 := Lib.hid (HB.out.trans (hb3.mono HB.out.size))
    clear hb3 c0
    have z9 : IntKind.i64.wrap ((j : Int) + 1) = (j : Int) + 1 := IntWalk.i64_in _ (by omega)
    cases hp : p j with
    | false =>
      have HR2 : Hid (lastO (fun k => decide (F k ≤ m)) ((List.range (j + 1)).filter p) = lastO (fun k => decide (F k ≤ m)) ((List.range j).filter p)) := Lib.hid (by rw [HR.out, hp]; simp)
      clear hp
      go_wp2_with fail
      go_roundw
      case rel => exact ⟨j + 1, by omega, by go_num, by rw [HR2.out], HB3.out⟩
      case measure => simp [intOf]; omega
    | true =>
      by_cases hle : fj ≤ m
      · have HR2 : Hid (lastO (fun k => decide (F k ≤ m)) ((List.range (j + 1)).filter p) = some j) := Lib.hid (by rw [HR.out, hp]; simp only [if_true]; exact lastO_yes (by simp [HFJ.out, hle]))
        have hle2 : (fj : Int) ≤ (m : Int) := by omega
        clear hp hle
        go_wp2_with fail
        go_roundw
        case rel => exact ⟨j + 1, by omega, by go_num, by rw [HR2.out]; rfl, HB3.out⟩
        case measure => simp [intOf]; omega
      · have HR2 : Hid (lastO (fun k => decide (F k ≤ m)) ((List.range (j + 1)).filter p) = lastO (fun k => decide (F k ≤ m)) ((List.range j).filter p)) := Lib.hid (by rw [HR.out, hp]; simp only [if_true]; exact lastO_no (by simp [HFJ.out]; omega))
        have hle2 : ¬ ((fj : Int) ≤ (m : Int)) := by omega
        clear hp hle
        go_wp2_with fail
        go_roundw
        case rel => exact ⟨j + 1, by omega, by go_num, by rw [HR2.out], HB3.out⟩
        case measure => simp [intOf]; omega

end Go.Proofs.Ytghdjmjodgbghaa
