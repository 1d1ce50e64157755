/- The entry and the exit of a net, by the program. -/
import Derived.Test.YtpeafheljcjlhaaGreatNetQ
namespace Go.Proofs.YtpeafheljcjlhaaGreat
open Go.RowKit

/-- impl.entryOf -/
theorem entryOf_any (B : ByteArray) (sl : Value) (w : World) (hs : 1 ≤ B.size) (hl : B.size ≤ maxLen) :
    Calls Tryz.prog 61 #[.agg #[.string B, sl]] w fun e w' => e = .returned (.string (B.extract 0 1)) ∧ Below w.heap.size w w' := by
  unfold maxLen at hl
  go_enter Tryz.func61, Tryz.ntmps61
  go_wp2
  go_ret
  exact ⟨rfl, (Below.refl _ _).alloc (Nat.le_refl _) _⟩
/-- impl.exitOf -/
theorem exitOf_any (B : ByteArray) (sl : Value) (w : World) (hs : 1 ≤ B.size) (hl : B.size ≤ maxLen) :
    Calls Tryz.prog 63 #[.agg #[.string B, sl]] w fun e w' => e = .returned (.string (B.extract (B.size - 1) B.size)) ∧ Below w.heap.size w w' := by
  unfold maxLen at hl
  go_enter Tryz.func63, Tryz.ntmps63
  go_wp2
  go_ret
  exact ⟨rfl, (Below.refl _ _).alloc (Nat.le_refl _) _⟩

end Go.Proofs.YtpeafheljcjlhaaGreat
