/-
  No cell of these rows narrows 'for every input' (looked for: loops, veiled, ifaces, maps, wideKeys, modest, calm, conditions, laid).
  DERIVED. THE GIVEN ROWS OF THIS SEAT. 4 by the template 'for every input the law returns true; each argument reads behind the call as it read before'; 0 by the template 'total and deterministic' (their statements: YtkclbjgnaichhaaTotals.lean).
  GIVEN WITH THE SEED: the statements are not yours to turn. If you find one false, say at which input.
  Laid BY PROGRAM, IN A SANDBOX (cutbox-rows.mjs): the forced cells as the released guide's own fill.sh prints them over the translation 7ae552f240f60511… (all of the seat's roots in one cut). By AI agents, Wed Nov 11 2026. No macro, syntax, notation, axiom, sorry.
-/
import Derived.Test.YtkclbjgnaichhaaChecked
import GoSem.Claim
import GoSem.ClaimJoined
import GoSem.ClaimMapViews
import Derived.JoinedTies
import Derived.KernelRfl
namespace Go.Proofs.Ytkclbjgnaichhaa
/- THE CELL 'sum', in the pinned program and in every row, IS THE sha256 OF THE DUMP (.gsa) THAT YtkclbjgnaichhaaProg.lean LOADS. Nothing in Lean hashes anything: it is a label: what it is worth is what the hold of that sum in a sandbox is worth. -/
noncomputable def Try.pinned : Pinned := { name := "ytkclbjgnaichhaa", sum := "7ae552f240f6051185c948856a302eb339532c1aa5ff36778144738ee1675af6", checked := Try.checked }
namespace Rows
def none {H : Type} : Left H := { results := [], args := [] }

/-- 'laws.FnOutIn': WHATEVER THE INPUT: true; the input reads as it did. -/
def fnOutInSpec : ChangeSpec := { name := "fnOutIn", fn := fun _ => fun
  | [d] => { results := [.lit (.bool true)], args := [d] }
  | _ => none }
def fnOutInRow : OpenClaim := { program := "ytkclbjgnaichhaa", sum := "7ae552f240f6051185c948856a302eb339532c1aa5ff36778144738ee1675af6", func := "loop.example/pathcounts/laws.FnOutIn", spec := "fnOutIn", inPlace := ["internal/bytealg.IndexByteString", "internal/abi.NoEscape"], unfollowed := true, recurses := true, plainKeys := false, apart := false }
def FnOutInSaid : Prop := fnOutInRow.holds Try.pinned (OpenSpec.ofChange fnOutInSpec)

/-- ITS FALSE NEIGHBOUR: 'it returns false'. Refute it at one input. -/
def fnOutInWrong : ChangeSpec := { name := "fnOutIn", fn := fun _ => fun
  | [d] => { results := [.lit (.bool false)], args := [d] }
  | _ => none }
def FnOutInWrongFalsely : Prop := fnOutInRow.holds Try.pinned (OpenSpec.ofChange fnOutInWrong)

/-- 'laws.FnTurnNet': WHATEVER THE INPUT: true; the input reads as it did. -/
def fnTurnNetSpec : ChangeSpec := { name := "fnTurnNet", fn := fun _ => fun
  | [d] => { results := [.lit (.bool true)], args := [d] }
  | _ => none }
def fnTurnNetRow : OpenClaim := { program := "ytkclbjgnaichhaa", sum := "7ae552f240f6051185c948856a302eb339532c1aa5ff36778144738ee1675af6", func := "loop.example/pathcounts/laws.FnTurnNet", spec := "fnTurnNet", inPlace := ["internal/bytealg.IndexByteString", "internal/abi.NoEscape"], unfollowed := true, recurses := true, plainKeys := false, apart := false }
def FnTurnNetSaid : Prop := fnTurnNetRow.holds Try.pinned (OpenSpec.ofChange fnTurnNetSpec)

/-- ITS FALSE NEIGHBOUR: 'it returns false'. Refute it at one input. -/
def fnTurnNetWrong : ChangeSpec := { name := "fnTurnNet", fn := fun _ => fun
  | [d] => { results := [.lit (.bool false)], args := [d] }
  | _ => none }
def FnTurnNetWrongFalsely : Prop := fnTurnNetRow.holds Try.pinned (OpenSpec.ofChange fnTurnNetWrong)

/-- 'laws.FnDropEdge': WHATEVER THE INPUT: true; the input reads as it did. -/
def fnDropEdgeSpec : ChangeSpec := { name := "fnDropEdge", fn := fun _ => fun
  | [d] => { results := [.lit (.bool true)], args := [d] }
  | _ => none }
def fnDropEdgeRow : OpenClaim := { program := "ytkclbjgnaichhaa", sum := "7ae552f240f6051185c948856a302eb339532c1aa5ff36778144738ee1675af6", func := "loop.example/pathcounts/laws.FnDropEdge", spec := "fnDropEdge", inPlace := ["internal/bytealg.IndexByteString", "internal/abi.NoEscape"], unfollowed := true, recurses := true, plainKeys := false, apart := false }
def FnDropEdgeSaid : Prop := fnDropEdgeRow.holds Try.pinned (OpenSpec.ofChange fnDropEdgeSpec)

/-- ITS FALSE NEIGHBOUR: 'it returns false'. Refute it at one input. -/
def fnDropEdgeWrong : ChangeSpec := { name := "fnDropEdge", fn := fun _ => fun
  | [d] => { results := [.lit (.bool false)], args := [d] }
  | _ => none }
def FnDropEdgeWrongFalsely : Prop := fnDropEdgeRow.holds Try.pinned (OpenSpec.ofChange fnDropEdgeWrong)

/-- 'laws.FnBridges': WHATEVER THE INPUT: true; the input reads as it did. -/
def fnBridgesSpec : ChangeSpec := { name := "fnBridges", fn := fun _ => fun
  | [d] => { results := [.lit (.bool true)], args := [d] }
  | _ => none }
def fnBridgesRow : OpenClaim := { program := "ytkclbjgnaichhaa", sum := "7ae552f240f6051185c948856a302eb339532c1aa5ff36778144738ee1675af6", func := "loop.example/pathcounts/laws.FnBridges", spec := "fnBridges", inPlace := ["internal/bytealg.IndexByteString", "internal/abi.NoEscape"], unfollowed := true, recurses := true, plainKeys := false, apart := false }
def FnBridgesSaid : Prop := fnBridgesRow.holds Try.pinned (OpenSpec.ofChange fnBridgesSpec)

/-- ITS FALSE NEIGHBOUR: 'it returns false'. Refute it at one input. -/
def fnBridgesWrong : ChangeSpec := { name := "fnBridges", fn := fun _ => fun
  | [d] => { results := [.lit (.bool false)], args := [d] }
  | _ => none }
def FnBridgesWrongFalsely : Prop := fnBridgesRow.holds Try.pinned (OpenSpec.ofChange fnBridgesWrong)

/- THE SECOND FORM. 'bulk': how many values and letters a reading holds, each counted each time it is reached (what is shared counts as often as it is met; a slice's spare places count too). A statement '..UptoSaid' is the law's where the arguments, and the package variables that the reading takes, are together of bulk at most 1048576: NARROWER than '..Said'. Prove '..Said' where nothing that the law and all that it calls make is longer than what came in: it says more and counts as full. Else prove '..UptoSaid'. A law counts once. -/
mutual
def uptoBulk {H : Type} : DataW H → Nat
  | .lit (.string bytes) => bytes.length + 1
  | .lit _ => 1
  | .nil => 1
  | .ptr d => uptoBulk d + 1
  | .slice elems spare => uptoBulkAll elems + uptoBulkAll spare + 1
  | .agg parts => uptoBulkAll parts + 1
  | .iface _ d => uptoBulk d + 1
  | .map entries => uptoBulkEntries entries + 1
  | .held _ => 1
def uptoBulkAll {H : Type} : List (DataW H) → Nat
  | [] => 0
  | d :: r => uptoBulk d + uptoBulkAll r
def uptoBulkEntries {H : Type} : List (Lit × DataW H) → Nat
  | [] => 0
  | x :: r => uptoBulkEntry x + uptoBulkEntries r
def uptoBulkEntry {H : Type} : Lit × DataW H → Nat
  | (.string bytes, d) => bytes.length + uptoBulk d + 1
  | (_, d) => uptoBulk d + 1
 end
def uptoSmall : (H : Type) → List (DataW H) → Bool := fun _ ds => decide (uptoBulkAll ds ≤ 1048576)
def OpenSpec.upto (s : _root_.Go.ChangeSpec) : _root_.Go.OpenSpec := { _root_.Go.OpenSpec.ofChange s with cond := some uptoSmall }

/-- 'laws.FnOutIn', WHERE WHAT IT READS IS OF BULK AT MOST 1048576: true; the input reads as it did. -/
def fnOutInUptoRow : OpenClaim := { program := "ytkclbjgnaichhaa", sum := "7ae552f240f6051185c948856a302eb339532c1aa5ff36778144738ee1675af6", func := "loop.example/pathcounts/laws.FnOutIn", spec := "fnOutIn", inPlace := ["internal/bytealg.IndexByteString", "internal/abi.NoEscape"], unfollowed := true, recurses := true, plainKeys := false, apart := false, narrowed := true }
def FnOutInUptoSaid : Prop := fnOutInUptoRow.holds Try.pinned (OpenSpec.upto fnOutInSpec)

/-- 'laws.FnTurnNet', WHERE WHAT IT READS IS OF BULK AT MOST 1048576: true; the input reads as it did. -/
def fnTurnNetUptoRow : OpenClaim := { program := "ytkclbjgnaichhaa", sum := "7ae552f240f6051185c948856a302eb339532c1aa5ff36778144738ee1675af6", func := "loop.example/pathcounts/laws.FnTurnNet", spec := "fnTurnNet", inPlace := ["internal/bytealg.IndexByteString", "internal/abi.NoEscape"], unfollowed := true, recurses := true, plainKeys := false, apart := false, narrowed := true }
def FnTurnNetUptoSaid : Prop := fnTurnNetUptoRow.holds Try.pinned (OpenSpec.upto fnTurnNetSpec)

/-- 'laws.FnDropEdge', WHERE WHAT IT READS IS OF BULK AT MOST 1048576: true; the input reads as it did. -/
def fnDropEdgeUptoRow : OpenClaim := { program := "ytkclbjgnaichhaa", sum := "7ae552f240f6051185c948856a302eb339532c1aa5ff36778144738ee1675af6", func := "loop.example/pathcounts/laws.FnDropEdge", spec := "fnDropEdge", inPlace := ["internal/bytealg.IndexByteString", "internal/abi.NoEscape"], unfollowed := true, recurses := true, plainKeys := false, apart := false, narrowed := true }
def FnDropEdgeUptoSaid : Prop := fnDropEdgeUptoRow.holds Try.pinned (OpenSpec.upto fnDropEdgeSpec)

/-- 'laws.FnBridges', WHERE WHAT IT READS IS OF BULK AT MOST 1048576: true; the input reads as it did. -/
def fnBridgesUptoRow : OpenClaim := { program := "ytkclbjgnaichhaa", sum := "7ae552f240f6051185c948856a302eb339532c1aa5ff36778144738ee1675af6", func := "loop.example/pathcounts/laws.FnBridges", spec := "fnBridges", inPlace := ["internal/bytealg.IndexByteString", "internal/abi.NoEscape"], unfollowed := true, recurses := true, plainKeys := false, apart := false, narrowed := true }
def FnBridgesUptoSaid : Prop := fnBridgesUptoRow.holds Try.pinned (OpenSpec.upto fnBridgesSpec)

end Rows
end Go.Proofs.Ytkclbjgnaichhaa
