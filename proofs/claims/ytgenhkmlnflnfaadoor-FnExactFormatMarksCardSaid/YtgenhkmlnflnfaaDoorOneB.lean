/- A text of one byte, out of a new row. -/
import Derived.Test.YtgenhkmlnflnfaaDoorProg
import Derived.WalkKit
import Derived.WalkSpells
import Derived.Lib.Bytealg
import Derived.Lib.SmallJoins
namespace Go.Proofs.YtgenhkmlnflnfaaDoor
open Go.RowKit

/-- a text of one byte, out of a new row -/
theorem run_oneB (c : UInt8) (v : Int) (h : v = (c.toNat : Int)) (w : World) : (convert 36 9 (.slice (some ⟨w.heap.size, 0, none⟩) 1 1)).run Tryd.prog (w.alloc (.cells #[.int .u8 v] 5)) = .ok (.string ⟨#[c]⟩) (w.alloc (.cells #[.int .u8 v] 5)) := by
  have h := run_convert_bytes_back (P := Tryd.prog) (w.alloc (.cells #[.int .u8 v] 5)) 36 9 5 ⟨w.heap.size, 0, none⟩ 1 [c] Tryd.underlying36 Tryd.underlying5 Tryd.underlying9 (fun j hj => by
    have hj0 : j = 0 := by simpa using hj
    subst hj0
    simp [Addr.add, h])
  simpa using h

end Go.Proofs.YtgenhkmlnflnfaaDoor
