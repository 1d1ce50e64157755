/- What RoundSum answers. -/
import Derived.Test.YthpfifjcallnbaaRdP
namespace Go.Proofs.Ythpfifjcallnbaa
open Go.RowKit

/-- what RoundSum answers -/
noncomputable def rsV (B : ByteArray) (es : List (ByteArray × ByteArray)) (r : ByteArray) : Int × Bool := roundSumV B es (valB B es) r (acycV B es = true)

end Go.Proofs.Ythpfifjcallnbaa
