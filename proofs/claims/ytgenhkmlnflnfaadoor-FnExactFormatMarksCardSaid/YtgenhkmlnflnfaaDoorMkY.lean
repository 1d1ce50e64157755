/- What a mark does with the register, as a value. -/
import Derived.Test.YtgenhkmlnflnfaaDoorMkL
namespace Go.Proofs.YtgenhkmlnflnfaaDoor
open Go.RowKit

/-- what a mark does with the register, as a value -/
def deedV (a : ByteArray) (n : Int) : Value :=
  if a.toList == [115, 101, 116] then .iface 51 (.agg #[.int .i64 n]) else if a.toList == [97, 100, 100] then .iface 52 (.agg #[.int .i64 n]) else if a.toList == [102, 105, 120] then .iface 53 (.agg #[.int .i64 n]) else .iface 55 (.agg #[])

/-- impl.deedOf -/
theorem deedOf_any (a : ByteArray) (n : Int) (c : Bool) (w : World) :
    Calls Tryd.prog 15 #[.agg #[.string a, .int .i64 n, .bool c]] w fun e w' => e = .returned (deedV a n) ∧ Below w.heap.size w w' := by
  have hb : Below w.heap.size w (w.alloc (.cells #[.string a, .int .i64 n, .bool c] 32)) := (Below.refl _ _).alloc (Nat.le_refl _) _
  have c1 : Tryd.prog.concrete 51 = true := by kernel_rfl
  have c2 : Tryd.prog.concrete 52 = true := by kernel_rfl
  have c3 : Tryd.prog.concrete 53 = true := by kernel_rfl
  have c4 : Tryd.prog.concrete 55 = true := by kernel_rfl
  rcases op_cases a with ⟨h3, h4, h5, h6⟩ | ⟨h3, h4, h5, h6⟩ | ⟨h3, h4, h5, h6⟩ | ⟨h3, h4, h5, h6⟩ | ⟨h3, h4, h5, h6⟩
  all_goals
    go_enter Tryd.func15, Tryd.ntmps15
    go_wp2
    go_ret
    exact ⟨by simp [deedV, h3, h4, h5], hb⟩

end Go.Proofs.YtgenhkmlnflnfaaDoor
