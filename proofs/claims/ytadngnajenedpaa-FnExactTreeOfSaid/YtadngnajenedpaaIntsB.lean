/- A slice of numbers: as it lies in memory, the same. -/
import Derived.Test.YtadngnajenedpaaMem
import Derived.Test.YtadngnajenedpaaNetQ
import Derived.Deep.RegionHeld3
namespace Go.Proofs.Ytadngnajenedpaa
open Go.RowKit

/-- numbers as they lie in memory -/
def IntsIn (w : World) (B : Nat) (A : Option Addr) (xs : List Int) : Prop :=
  ∀ k, (h : k < xs.length) → ∃ b o, A = some ⟨b, o, none⟩ ∧ b < B ∧ w.cell? ⟨b, o + k, none⟩ = some (.int .i64 xs[k])
theorem IntsIn.below {w w' : World} {B : Nat} {A : Option Addr} {xs : List Int} (h : IntsIn w B A xs) (hb : Below B w w') : IntsIn w' B A xs := by
  intro k hk
  obtain ⟨b, o, e, hl, h1⟩ := h k hk
  exact ⟨b, o, e, hl, (hb.cell hl).trans h1⟩
theorem IntsIn.more {w : World} {B B' : Nat} {A : Option Addr} {xs : List Int} (h : IntsIn w B A xs) (hb : B ≤ B') : IntsIn w B' A xs := by
  intro k hk
  obtain ⟨b, o, e, hl, h1⟩ := h k hk
  exact ⟨b, o, e, by omega, h1⟩

theorem intInfo : (Try.prog.info? 3).map (fun i => (i.zero, i.size, i.bytes)) = some (some (.int .i64 0), 1, 8) := by kernel_rfl

theorem make_ints (n : Nat) (hn : n ≤ 1099511627776) (W : World) : (Instr.makeSlice 25 (.int .i64 (n : Int)) (.int .i64 (n : Int))).run Try.prog W =
    .ok (.slice (some ⟨W.heap.size, 0, none⟩) n n) (W.alloc (.cells (madeCells #[.int .i64 0] n) 3)) := by
  obtain ⟨i0, hi, hz0, hz1, hz2⟩ := info_parts intInfo
  have h := run_make (P := Try.prog) W 25 _ i0 _ Try.underlying25 hi hz0 .i64 .i64 (n : Int) (n : Int) (by omega) (by omega) (by rw [hz2]; omega) (by omega)
  rw [hz1] at h
  simp only [Int.toNat_natCast, Nat.mul_one] at h
  exact h

/-- what is handed back: the same numbers, in new memory -/
def IntsPost (xs : List Int) (w : World) (e : Ending) (w' : World) : Prop :=
  ∃ g, e = .returned (.slice (some ⟨g, 0, none⟩) xs.length xs.length) ∧ IntsIn w' w'.heap.size (some ⟨g, 0, none⟩) xs ∧ Below w.heap.size w w'

set_option maxRecDepth 100000 in
set_option maxHeartbeats 2000000 in
/-- laws.eqIntS, at the same numbers -/
theorem eqIntS_t (A A' : Option Addr) (cap cap' : Nat) (xs : List Int) (w : World) (hX : IntsIn w w.heap.size A xs) (hX' : IntsIn w w.heap.size A' xs) (hl : xs.length ≤ 1099511627776) :
    Calls Try.prog 17 #[.slice A xs.length cap, .slice A' xs.length cap'] w fun e w' => e = .returned (.bool true) ∧ Below w.heap.size w w' := by
  have q0 : ((xs.length : Int) != xs.length) = false := by simp
  go_enter Try.func17, Try.ntmps17
  go_wp2_with fail
  go_loopw [5] (fun i wr => ∃ k : Nat, k ≤ xs.length ∧ i = .int .i64 k ∧ Below w.heap.size w wr) (fun i _ => xs.length - (intOf i).toNat)
  case atStart => exact ⟨0, Nat.zero_le _, rfl, Below.refl _ _⟩
  case round =>
    obtain ⟨k, hk, rfl, hb⟩ := hrel
    by_cases hlt : k < xs.length
    · obtain ⟨b1, o1, rfl, hlow1, h1⟩ := (hX.below hb) k hlt
      obtain ⟨b2, o2, rfl, hlow2, h2⟩ := (hX'.below hb) k hlt
      have q1 : (xs[k] != xs[k]) = false := by simp
      go_wp2_with fail
      go_region_held3 (fun W => W.cell? ⟨b1, o1 + k, none⟩ = some (.int .i64 xs[k]) ∧ W.cell? ⟨b2, o2 + k, none⟩ = some (.int .i64 xs[k]))
        (exact ⟨h1, h2⟩)
        (fail)
      go_wp2_with fail
      go_roundw
      case rel => exact ⟨k + 1, by omega, by go_num, hb.drew⟩
      case measure => simp [intOf]; omega
    · go_wp2_with fail
      go_ret
      exact ⟨rfl, hb⟩

end Go.Proofs.Ytadngnajenedpaa
