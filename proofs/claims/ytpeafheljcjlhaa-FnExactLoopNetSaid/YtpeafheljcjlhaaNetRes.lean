/- What hands back a net and a truth: marks on its own edges. -/
import Derived.Test.YtpeafheljcjlhaaNetQ
import Derived.Test.YtpeafheljcjlhaaMarks
namespace Go.Proofs.Ytpeafheljcjlhaa
open Go.RowKit

set_option maxRecDepth 100000 in
/-- laws.markNet, of a call's own net -/
theorem markNet_own (B : ByteArray) (A : Option Addr) (n cap m base : Nat) (w : World) (ho : OwnEdges w base A n) (hn : n ≤ 1048576) (h1 : 1 ≤ m) (h2 : m ≤ 1048576) :
    Calls Try.prog 11 #[.agg #[.string B, .slice A n cap], .int .i64 m] w fun e w' => e = .returned (.int .i64 (m + 2 * n : Nat)) ∧ EdgesIn w' w'.heap.size A (marked m n) ∧ w.grownBy w' (rowOf A) := by
  rcases ho with ⟨rfl, rfl⟩ | ⟨g, r, f, rfl, hb, hg, hnr, hrow⟩
  · refine (markNet_none B none cap m w h1 h2).mono ?_
    rintro e w' ⟨rfl, hb⟩
    exact ⟨rfl, fun i hi => absurd hi (by simp [marked]), ⟨hb.os, hb.tape, hb.output, hb.size, fun i hi _ => hb.block i hi⟩⟩
  · exact markNet_any B g n cap m r f w hrow hnr hn h1 h2 hg

end Go.Proofs.Ytpeafheljcjlhaa
