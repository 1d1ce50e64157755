/- The entry and the exit of a net, by the program. -/
import Derived.Test.YtpeafheljcjlhaaNetQ
namespace Go.Proofs.Ytpeafheljcjlhaa
open Go.RowKit

/-- impl.entryOf -/
theorem entryOf_any (B : ByteArray) (sl : Value) (w : World) (hs : 1 ≤ B.size) (hl : B.size ≤ maxLen) :
    Calls Try.prog 76 #[.agg #[.string B, sl]] w fun e w' => e = .returned (.string (B.extract 0 1)) ∧ Below w.heap.size w w' := by
  unfold maxLen at hl
  go_enter Try.func76, Try.ntmps76
  go_wp2
  go_ret
  exact ⟨rfl, (Below.refl _ _).alloc (Nat.le_refl _) _⟩
/-- impl.exitOf -/
theorem exitOf_any (B : ByteArray) (sl : Value) (w : World) (hs : 1 ≤ B.size) (hl : B.size ≤ maxLen) :
    Calls Try.prog 85 #[.agg #[.string B, sl]] w fun e w' => e = .returned (.string (B.extract (B.size - 1) B.size)) ∧ Below w.heap.size w w' := by
  unfold maxLen at hl
  go_enter Try.func85, Try.ntmps85
  go_wp2
  go_ret
  exact ⟨rfl, (Below.refl _ _).alloc (Nat.le_refl _) _⟩

end Go.Proofs.Ytpeafheljcjlhaa
