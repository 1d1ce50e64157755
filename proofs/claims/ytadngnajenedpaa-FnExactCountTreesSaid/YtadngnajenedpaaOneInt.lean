/- One number handed back. -/
import Derived.Test.YtadngnajenedpaaNet1
namespace Go.Proofs.Ytadngnajenedpaa
open Go.RowKit

/-- one number, and all that lay is kept -/
def IntPost (v : Int) (w : World) (e : Ending) (w' : World) : Prop := e = .returned (.int .i64 v) ∧ Below w.heap.size w w'

end Go.Proofs.Ytadngnajenedpaa
