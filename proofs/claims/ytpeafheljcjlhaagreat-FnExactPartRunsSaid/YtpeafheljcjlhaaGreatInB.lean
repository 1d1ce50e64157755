/- The edges of a block (In), as lists. -/
import Derived.Test.YtpeafheljcjlhaaGreatNameS
import Derived.Test.YtpeafheljcjlhaaGreatValid
import Derived.Test.YtpeafheljcjlhaaGreatSpec2
namespace Go.Proofs.YtpeafheljcjlhaaGreat
open Go.RowKit

/-- the edges of the block -/
def intoB (es : List (ByteArray × ByteArray)) (b : ByteArray) (i : Nat) : Bool := (es.getD i (⟨#[]⟩, ⟨#[]⟩)).2.toList == b.toList
theorem intoB_at {es : List (ByteArray × ByteArray)} {b : ByteArray} {k : Nat} (h : k < es.length) : intoB es b k = (es[k].2.toList == b.toList) := by simp [intoB, List.getD, h]

/-- their names, of a net that is one -/
noncomputable def intoV (B : ByteArray) (es : List (ByteArray × ByteArray)) (b : ByteArray) : ByteArray × Bool := textV (Valid B.data.toList (ebs es) ∧ 0 ≤ bIdx B.data.toList b.data.toList) (names (intoB es b) es.length)

end Go.Proofs.YtpeafheljcjlhaaGreat
