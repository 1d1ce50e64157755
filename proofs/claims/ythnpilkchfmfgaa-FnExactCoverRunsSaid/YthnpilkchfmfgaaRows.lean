/-
  No cell of these rows narrows 'for every input' (looked for: loops, veiled, ifaces, maps, wideKeys, modest, calm, conditions, laid).
  DERIVED. THE GIVEN ROWS OF THIS SEAT. 12 by the template 'for every input the law returns true; each argument reads behind the call as it read before'; 0 by the template 'total and deterministic' (their statements: YthnpilkchfmfgaaTotals.lean).
  GIVEN WITH THE SEED: the statements are not yours to turn. If you find one false, say at which input.
  Laid BY PROGRAM, IN A SANDBOX (cutbox-rows.mjs): the forced cells as the released guide's own fill.sh prints them over the translation 3f15d45fb37828b2… (all of the seat's roots in one cut). By AI agents, Wed Nov 11 2026. No macro, syntax, notation, axiom, sorry.
-/
import Derived.Test.YthnpilkchfmfgaaChecked
import GoSem.Claim
import GoSem.ClaimJoined
import GoSem.ClaimMapViews
import Derived.JoinedTies
import Derived.KernelRfl
namespace Go.Proofs.Ythnpilkchfmfgaa
/- THE CELL 'sum', in the pinned program and in every row, IS THE sha256 OF THE DUMP (.gsa) THAT YthnpilkchfmfgaaProg.lean LOADS. Nothing in Lean hashes anything: it is a label: what it is worth is what the hold of that sum in a sandbox is worth. -/
noncomputable def Try.pinned : Pinned := { name := "ythnpilkchfmfgaa", sum := "3f15d45fb37828b225347dcf04fc491ffa0419f1c9c3ffe2a7ce4cf17c78a976", checked := Try.checked }
namespace Rows
def none {H : Type} : Left H := { results := [], args := [] }

/-- 'laws.FnExactTurnNet': WHATEVER THE INPUT: true; the input reads as it did. -/
def fnExactTurnNetSpec : ChangeSpec := { name := "fnExactTurnNet", fn := fun _ => fun
  | [d] => { results := [.lit (.bool true)], args := [d] }
  | _ => none }
def fnExactTurnNetRow : OpenClaim := { program := "ythnpilkchfmfgaa", sum := "3f15d45fb37828b225347dcf04fc491ffa0419f1c9c3ffe2a7ce4cf17c78a976", func := "loop.example/pathcounts/laws.FnExactTurnNet", spec := "fnExactTurnNet", inPlace := ["internal/bytealg.IndexByteString"], unfollowed := true, recurses := true, plainKeys := false, apart := false }
def FnExactTurnNetSaid : Prop := fnExactTurnNetRow.holds Try.pinned (OpenSpec.ofChange fnExactTurnNetSpec)

/-- ITS FALSE NEIGHBOUR: 'it returns false'. Refute it at one input. -/
def fnExactTurnNetWrong : ChangeSpec := { name := "fnExactTurnNet", fn := fun _ => fun
  | [d] => { results := [.lit (.bool false)], args := [d] }
  | _ => none }
def FnExactTurnNetWrongFalsely : Prop := fnExactTurnNetRow.holds Try.pinned (OpenSpec.ofChange fnExactTurnNetWrong)

/-- 'laws.FnExactDropEdge': WHATEVER THE INPUT: true; the input reads as it did. -/
def fnExactDropEdgeSpec : ChangeSpec := { name := "fnExactDropEdge", fn := fun _ => fun
  | [d1, d2] => { results := [.lit (.bool true)], args := [d1, d2] }
  | _ => none }
def fnExactDropEdgeRow : OpenClaim := { program := "ythnpilkchfmfgaa", sum := "3f15d45fb37828b225347dcf04fc491ffa0419f1c9c3ffe2a7ce4cf17c78a976", func := "loop.example/pathcounts/laws.FnExactDropEdge", spec := "fnExactDropEdge", inPlace := ["internal/bytealg.IndexByteString"], unfollowed := true, recurses := true, plainKeys := false, apart := false }
def FnExactDropEdgeSaid : Prop := fnExactDropEdgeRow.holds Try.pinned (OpenSpec.ofChange fnExactDropEdgeSpec)

/-- ITS FALSE NEIGHBOUR: 'it returns false'. Refute it at one input. -/
def fnExactDropEdgeWrong : ChangeSpec := { name := "fnExactDropEdge", fn := fun _ => fun
  | [d1, d2] => { results := [.lit (.bool false)], args := [d1, d2] }
  | _ => none }
def FnExactDropEdgeWrongFalsely : Prop := fnExactDropEdgeRow.holds Try.pinned (OpenSpec.ofChange fnExactDropEdgeWrong)

/-- 'laws.FnExactBridgesOf': WHATEVER THE INPUT: true; the input reads as it did. -/
def fnExactBridgesOfSpec : ChangeSpec := { name := "fnExactBridgesOf", fn := fun _ => fun
  | [d] => { results := [.lit (.bool true)], args := [d] }
  | _ => none }
def fnExactBridgesOfRow : OpenClaim := { program := "ythnpilkchfmfgaa", sum := "3f15d45fb37828b225347dcf04fc491ffa0419f1c9c3ffe2a7ce4cf17c78a976", func := "loop.example/pathcounts/laws.FnExactBridgesOf", spec := "fnExactBridgesOf", inPlace := ["internal/bytealg.IndexByteString", "internal/abi.NoEscape"], unfollowed := true, recurses := true, plainKeys := false, apart := false }
def FnExactBridgesOfSaid : Prop := fnExactBridgesOfRow.holds Try.pinned (OpenSpec.ofChange fnExactBridgesOfSpec)

/-- ITS FALSE NEIGHBOUR: 'it returns false'. Refute it at one input. -/
def fnExactBridgesOfWrong : ChangeSpec := { name := "fnExactBridgesOf", fn := fun _ => fun
  | [d] => { results := [.lit (.bool false)], args := [d] }
  | _ => none }
def FnExactBridgesOfWrongFalsely : Prop := fnExactBridgesOfRow.holds Try.pinned (OpenSpec.ofChange fnExactBridgesOfWrong)

/-- 'laws.FnExactIsPath': WHATEVER THE INPUT: true; the input reads as it did. -/
def fnExactIsPathSpec : ChangeSpec := { name := "fnExactIsPath", fn := fun _ => fun
  | [d1, d2] => { results := [.lit (.bool true)], args := [d1, d2] }
  | _ => none }
def fnExactIsPathRow : OpenClaim := { program := "ythnpilkchfmfgaa", sum := "3f15d45fb37828b225347dcf04fc491ffa0419f1c9c3ffe2a7ce4cf17c78a976", func := "loop.example/pathcounts/laws.FnExactIsPath", spec := "fnExactIsPath", inPlace := ["internal/bytealg.IndexByteString"], unfollowed := true, recurses := true, plainKeys := false, apart := false }
def FnExactIsPathSaid : Prop := fnExactIsPathRow.holds Try.pinned (OpenSpec.ofChange fnExactIsPathSpec)

/-- ITS FALSE NEIGHBOUR: 'it returns false'. Refute it at one input. -/
def fnExactIsPathWrong : ChangeSpec := { name := "fnExactIsPath", fn := fun _ => fun
  | [d1, d2] => { results := [.lit (.bool false)], args := [d1, d2] }
  | _ => none }
def FnExactIsPathWrongFalsely : Prop := fnExactIsPathRow.holds Try.pinned (OpenSpec.ofChange fnExactIsPathWrong)

/-- 'laws.FnExactIsRun': WHATEVER THE INPUT: true; the input reads as it did. -/
def fnExactIsRunSpec : ChangeSpec := { name := "fnExactIsRun", fn := fun _ => fun
  | [d1, d2] => { results := [.lit (.bool true)], args := [d1, d2] }
  | _ => none }
def fnExactIsRunRow : OpenClaim := { program := "ythnpilkchfmfgaa", sum := "3f15d45fb37828b225347dcf04fc491ffa0419f1c9c3ffe2a7ce4cf17c78a976", func := "loop.example/pathcounts/laws.FnExactIsRun", spec := "fnExactIsRun", inPlace := ["internal/bytealg.IndexByteString"], unfollowed := true, recurses := true, plainKeys := false, apart := false }
def FnExactIsRunSaid : Prop := fnExactIsRunRow.holds Try.pinned (OpenSpec.ofChange fnExactIsRunSpec)

/-- ITS FALSE NEIGHBOUR: 'it returns false'. Refute it at one input. -/
def fnExactIsRunWrong : ChangeSpec := { name := "fnExactIsRun", fn := fun _ => fun
  | [d1, d2] => { results := [.lit (.bool false)], args := [d1, d2] }
  | _ => none }
def FnExactIsRunWrongFalsely : Prop := fnExactIsRunRow.holds Try.pinned (OpenSpec.ofChange fnExactIsRunWrong)

/-- 'laws.FnExactBlocksOf': WHATEVER THE INPUT: true; the input reads as it did. -/
def fnExactBlocksOfSpec : ChangeSpec := { name := "fnExactBlocksOf", fn := fun _ => fun
  | [d1, d2] => { results := [.lit (.bool true)], args := [d1, d2] }
  | _ => none }
def fnExactBlocksOfRow : OpenClaim := { program := "ythnpilkchfmfgaa", sum := "3f15d45fb37828b225347dcf04fc491ffa0419f1c9c3ffe2a7ce4cf17c78a976", func := "loop.example/pathcounts/laws.FnExactBlocksOf", spec := "fnExactBlocksOf", inPlace := ["internal/bytealg.IndexByteString"], unfollowed := true, recurses := true, plainKeys := false, apart := false }
def FnExactBlocksOfSaid : Prop := fnExactBlocksOfRow.holds Try.pinned (OpenSpec.ofChange fnExactBlocksOfSpec)

/-- ITS FALSE NEIGHBOUR: 'it returns false'. Refute it at one input. -/
def fnExactBlocksOfWrong : ChangeSpec := { name := "fnExactBlocksOf", fn := fun _ => fun
  | [d1, d2] => { results := [.lit (.bool false)], args := [d1, d2] }
  | _ => none }
def FnExactBlocksOfWrongFalsely : Prop := fnExactBlocksOfRow.holds Try.pinned (OpenSpec.ofChange fnExactBlocksOfWrong)

/-- 'laws.FnExactIsAcyclic': WHATEVER THE INPUT: true; the input reads as it did. -/
def fnExactIsAcyclicSpec : ChangeSpec := { name := "fnExactIsAcyclic", fn := fun _ => fun
  | [d] => { results := [.lit (.bool true)], args := [d] }
  | _ => none }
def fnExactIsAcyclicRow : OpenClaim := { program := "ythnpilkchfmfgaa", sum := "3f15d45fb37828b225347dcf04fc491ffa0419f1c9c3ffe2a7ce4cf17c78a976", func := "loop.example/pathcounts/laws.FnExactIsAcyclic", spec := "fnExactIsAcyclic", inPlace := ["internal/bytealg.IndexByteString"], unfollowed := true, recurses := true, plainKeys := false, apart := false }
def FnExactIsAcyclicSaid : Prop := fnExactIsAcyclicRow.holds Try.pinned (OpenSpec.ofChange fnExactIsAcyclicSpec)

/-- ITS FALSE NEIGHBOUR: 'it returns false'. Refute it at one input. -/
def fnExactIsAcyclicWrong : ChangeSpec := { name := "fnExactIsAcyclic", fn := fun _ => fun
  | [d] => { results := [.lit (.bool false)], args := [d] }
  | _ => none }
def FnExactIsAcyclicWrongFalsely : Prop := fnExactIsAcyclicRow.holds Try.pinned (OpenSpec.ofChange fnExactIsAcyclicWrong)

/-- 'laws.FnExactPathsFrom': WHATEVER THE INPUT: true; the input reads as it did. -/
def fnExactPathsFromSpec : ChangeSpec := { name := "fnExactPathsFrom", fn := fun _ => fun
  | [d1, d2] => { results := [.lit (.bool true)], args := [d1, d2] }
  | _ => none }
def fnExactPathsFromRow : OpenClaim := { program := "ythnpilkchfmfgaa", sum := "3f15d45fb37828b225347dcf04fc491ffa0419f1c9c3ffe2a7ce4cf17c78a976", func := "loop.example/pathcounts/laws.FnExactPathsFrom", spec := "fnExactPathsFrom", inPlace := ["internal/bytealg.IndexByteString"], unfollowed := true, recurses := true, plainKeys := false, apart := false }
def FnExactPathsFromSaid : Prop := fnExactPathsFromRow.holds Try.pinned (OpenSpec.ofChange fnExactPathsFromSpec)

/-- ITS FALSE NEIGHBOUR: 'it returns false'. Refute it at one input. -/
def fnExactPathsFromWrong : ChangeSpec := { name := "fnExactPathsFrom", fn := fun _ => fun
  | [d1, d2] => { results := [.lit (.bool false)], args := [d1, d2] }
  | _ => none }
def FnExactPathsFromWrongFalsely : Prop := fnExactPathsFromRow.holds Try.pinned (OpenSpec.ofChange fnExactPathsFromWrong)

/-- 'laws.FnExactAllRuns': WHATEVER THE INPUT: true; the input reads as it did. -/
def fnExactAllRunsSpec : ChangeSpec := { name := "fnExactAllRuns", fn := fun _ => fun
  | [d] => { results := [.lit (.bool true)], args := [d] }
  | _ => none }
def fnExactAllRunsRow : OpenClaim := { program := "ythnpilkchfmfgaa", sum := "3f15d45fb37828b225347dcf04fc491ffa0419f1c9c3ffe2a7ce4cf17c78a976", func := "loop.example/pathcounts/laws.FnExactAllRuns", spec := "fnExactAllRuns", inPlace := ["internal/bytealg.IndexByteString"], unfollowed := true, recurses := true, plainKeys := false, apart := false }
def FnExactAllRunsSaid : Prop := fnExactAllRunsRow.holds Try.pinned (OpenSpec.ofChange fnExactAllRunsSpec)

/-- ITS FALSE NEIGHBOUR: 'it returns false'. Refute it at one input. -/
def fnExactAllRunsWrong : ChangeSpec := { name := "fnExactAllRuns", fn := fun _ => fun
  | [d] => { results := [.lit (.bool false)], args := [d] }
  | _ => none }
def FnExactAllRunsWrongFalsely : Prop := fnExactAllRunsRow.holds Try.pinned (OpenSpec.ofChange fnExactAllRunsWrong)

/-- 'laws.FnExactShortestRun': WHATEVER THE INPUT: true; the input reads as it did. -/
def fnExactShortestRunSpec : ChangeSpec := { name := "fnExactShortestRun", fn := fun _ => fun
  | [d] => { results := [.lit (.bool true)], args := [d] }
  | _ => none }
def fnExactShortestRunRow : OpenClaim := { program := "ythnpilkchfmfgaa", sum := "3f15d45fb37828b225347dcf04fc491ffa0419f1c9c3ffe2a7ce4cf17c78a976", func := "loop.example/pathcounts/laws.FnExactShortestRun", spec := "fnExactShortestRun", inPlace := ["internal/bytealg.IndexByteString"], unfollowed := true, recurses := true, plainKeys := false, apart := false }
def FnExactShortestRunSaid : Prop := fnExactShortestRunRow.holds Try.pinned (OpenSpec.ofChange fnExactShortestRunSpec)

/-- ITS FALSE NEIGHBOUR: 'it returns false'. Refute it at one input. -/
def fnExactShortestRunWrong : ChangeSpec := { name := "fnExactShortestRun", fn := fun _ => fun
  | [d] => { results := [.lit (.bool false)], args := [d] }
  | _ => none }
def FnExactShortestRunWrongFalsely : Prop := fnExactShortestRunRow.holds Try.pinned (OpenSpec.ofChange fnExactShortestRunWrong)

/-- 'laws.FnExactCoverRuns': WHATEVER THE INPUT: true; the input reads as it did. -/
def fnExactCoverRunsSpec : ChangeSpec := { name := "fnExactCoverRuns", fn := fun _ => fun
  | [d] => { results := [.lit (.bool true)], args := [d] }
  | _ => none }
def fnExactCoverRunsRow : OpenClaim := { program := "ythnpilkchfmfgaa", sum := "3f15d45fb37828b225347dcf04fc491ffa0419f1c9c3ffe2a7ce4cf17c78a976", func := "loop.example/pathcounts/laws.FnExactCoverRuns", spec := "fnExactCoverRuns", inPlace := ["internal/bytealg.IndexByteString", "internal/bytealg.IndexString"], unfollowed := true, recurses := true, named := ["internal/bytealg.MaxLen"], plainKeys := false, apart := false }
def FnExactCoverRunsSaid : Prop := fnExactCoverRunsRow.holds Try.pinned (OpenSpec.ofChange fnExactCoverRunsSpec)

/-- ITS FALSE NEIGHBOUR: 'it returns false'. Refute it at one input. -/
def fnExactCoverRunsWrong : ChangeSpec := { name := "fnExactCoverRuns", fn := fun _ => fun
  | [d] => { results := [.lit (.bool false)], args := [d] }
  | _ => none }
def FnExactCoverRunsWrongFalsely : Prop := fnExactCoverRunsRow.holds Try.pinned (OpenSpec.ofChange fnExactCoverRunsWrong)

/-- 'laws.FnExactWalkRun': WHATEVER THE INPUT: true; the input reads as it did. -/
def fnExactWalkRunSpec : ChangeSpec := { name := "fnExactWalkRun", fn := fun _ => fun
  | [d1, d2] => { results := [.lit (.bool true)], args := [d1, d2] }
  | _ => none }
def fnExactWalkRunRow : OpenClaim := { program := "ythnpilkchfmfgaa", sum := "3f15d45fb37828b225347dcf04fc491ffa0419f1c9c3ffe2a7ce4cf17c78a976", func := "loop.example/pathcounts/laws.FnExactWalkRun", spec := "fnExactWalkRun", inPlace := ["internal/bytealg.IndexByteString", "internal/abi.NoEscape"], unfollowed := true, recurses := true, plainKeys := false, apart := false }
def FnExactWalkRunSaid : Prop := fnExactWalkRunRow.holds Try.pinned (OpenSpec.ofChange fnExactWalkRunSpec)

/-- ITS FALSE NEIGHBOUR: 'it returns false'. Refute it at one input. -/
def fnExactWalkRunWrong : ChangeSpec := { name := "fnExactWalkRun", fn := fun _ => fun
  | [d1, d2] => { results := [.lit (.bool false)], args := [d1, d2] }
  | _ => none }
def FnExactWalkRunWrongFalsely : Prop := fnExactWalkRunRow.holds Try.pinned (OpenSpec.ofChange fnExactWalkRunWrong)

/- THE SECOND FORM. 'bulk': how many values and letters a reading holds, each counted each time it is reached (what is shared counts as often as it is met; a slice's spare places count too). A statement '..UptoSaid' is the law's where the arguments, and the package variables that the reading takes, are together of bulk at most 1048576: NARROWER than '..Said'. Prove '..Said' where nothing that the law and all that it calls make is longer than what came in: it says more and counts as full. Else prove '..UptoSaid'. A law counts once. -/
mutual
def uptoBulk {H : Type} : DataW H → Nat
  | .lit (.string bytes) => bytes.length + 1
  | .lit _ => 1
  | .nil => 1
  | .ptr d => uptoBulk d + 1
  | .slice elems spare => uptoBulkAll elems + uptoBulkAll spare + 1
  | .agg parts => uptoBulkAll parts + 1
  | .iface _ d => uptoBulk d + 1
  | .map entries => uptoBulkEntries entries + 1
  | .held _ => 1
def uptoBulkAll {H : Type} : List (DataW H) → Nat
  | [] => 0
  | d :: r => uptoBulk d + uptoBulkAll r
def uptoBulkEntries {H : Type} : List (Lit × DataW H) → Nat
  | [] => 0
  | x :: r => uptoBulkEntry x + uptoBulkEntries r
def uptoBulkEntry {H : Type} : Lit × DataW H → Nat
  | (.string bytes, d) => bytes.length + uptoBulk d + 1
  | (_, d) => uptoBulk d + 1
 end
def uptoSmall : (H : Type) → List (DataW H) → Bool := fun _ ds => decide (uptoBulkAll ds ≤ 1048576)
def OpenSpec.upto (s : _root_.Go.ChangeSpec) : _root_.Go.OpenSpec := { _root_.Go.OpenSpec.ofChange s with cond := some uptoSmall }

/-- 'laws.FnExactTurnNet', WHERE WHAT IT READS IS OF BULK AT MOST 1048576: true; the input reads as it did. -/
def fnExactTurnNetUptoRow : OpenClaim := { program := "ythnpilkchfmfgaa", sum := "3f15d45fb37828b225347dcf04fc491ffa0419f1c9c3ffe2a7ce4cf17c78a976", func := "loop.example/pathcounts/laws.FnExactTurnNet", spec := "fnExactTurnNet", inPlace := ["internal/bytealg.IndexByteString"], unfollowed := true, recurses := true, plainKeys := false, apart := false, narrowed := true }
def FnExactTurnNetUptoSaid : Prop := fnExactTurnNetUptoRow.holds Try.pinned (OpenSpec.upto fnExactTurnNetSpec)

/-- 'laws.FnExactDropEdge', WHERE WHAT IT READS IS OF BULK AT MOST 1048576: true; the input reads as it did. -/
def fnExactDropEdgeUptoRow : OpenClaim := { program := "ythnpilkchfmfgaa", sum := "3f15d45fb37828b225347dcf04fc491ffa0419f1c9c3ffe2a7ce4cf17c78a976", func := "loop.example/pathcounts/laws.FnExactDropEdge", spec := "fnExactDropEdge", inPlace := ["internal/bytealg.IndexByteString"], unfollowed := true, recurses := true, plainKeys := false, apart := false, narrowed := true }
def FnExactDropEdgeUptoSaid : Prop := fnExactDropEdgeUptoRow.holds Try.pinned (OpenSpec.upto fnExactDropEdgeSpec)

/-- 'laws.FnExactBridgesOf', WHERE WHAT IT READS IS OF BULK AT MOST 1048576: true; the input reads as it did. -/
def fnExactBridgesOfUptoRow : OpenClaim := { program := "ythnpilkchfmfgaa", sum := "3f15d45fb37828b225347dcf04fc491ffa0419f1c9c3ffe2a7ce4cf17c78a976", func := "loop.example/pathcounts/laws.FnExactBridgesOf", spec := "fnExactBridgesOf", inPlace := ["internal/bytealg.IndexByteString", "internal/abi.NoEscape"], unfollowed := true, recurses := true, plainKeys := false, apart := false, narrowed := true }
def FnExactBridgesOfUptoSaid : Prop := fnExactBridgesOfUptoRow.holds Try.pinned (OpenSpec.upto fnExactBridgesOfSpec)

/-- 'laws.FnExactIsPath', WHERE WHAT IT READS IS OF BULK AT MOST 1048576: true; the input reads as it did. -/
def fnExactIsPathUptoRow : OpenClaim := { program := "ythnpilkchfmfgaa", sum := "3f15d45fb37828b225347dcf04fc491ffa0419f1c9c3ffe2a7ce4cf17c78a976", func := "loop.example/pathcounts/laws.FnExactIsPath", spec := "fnExactIsPath", inPlace := ["internal/bytealg.IndexByteString"], unfollowed := true, recurses := true, plainKeys := false, apart := false, narrowed := true }
def FnExactIsPathUptoSaid : Prop := fnExactIsPathUptoRow.holds Try.pinned (OpenSpec.upto fnExactIsPathSpec)

/-- 'laws.FnExactIsRun', WHERE WHAT IT READS IS OF BULK AT MOST 1048576: true; the input reads as it did. -/
def fnExactIsRunUptoRow : OpenClaim := { program := "ythnpilkchfmfgaa", sum := "3f15d45fb37828b225347dcf04fc491ffa0419f1c9c3ffe2a7ce4cf17c78a976", func := "loop.example/pathcounts/laws.FnExactIsRun", spec := "fnExactIsRun", inPlace := ["internal/bytealg.IndexByteString"], unfollowed := true, recurses := true, plainKeys := false, apart := false, narrowed := true }
def FnExactIsRunUptoSaid : Prop := fnExactIsRunUptoRow.holds Try.pinned (OpenSpec.upto fnExactIsRunSpec)

/-- 'laws.FnExactBlocksOf', WHERE WHAT IT READS IS OF BULK AT MOST 1048576: true; the input reads as it did. -/
def fnExactBlocksOfUptoRow : OpenClaim := { program := "ythnpilkchfmfgaa", sum := "3f15d45fb37828b225347dcf04fc491ffa0419f1c9c3ffe2a7ce4cf17c78a976", func := "loop.example/pathcounts/laws.FnExactBlocksOf", spec := "fnExactBlocksOf", inPlace := ["internal/bytealg.IndexByteString"], unfollowed := true, recurses := true, plainKeys := false, apart := false, narrowed := true }
def FnExactBlocksOfUptoSaid : Prop := fnExactBlocksOfUptoRow.holds Try.pinned (OpenSpec.upto fnExactBlocksOfSpec)

/-- 'laws.FnExactIsAcyclic', WHERE WHAT IT READS IS OF BULK AT MOST 1048576: true; the input reads as it did. -/
def fnExactIsAcyclicUptoRow : OpenClaim := { program := "ythnpilkchfmfgaa", sum := "3f15d45fb37828b225347dcf04fc491ffa0419f1c9c3ffe2a7ce4cf17c78a976", func := "loop.example/pathcounts/laws.FnExactIsAcyclic", spec := "fnExactIsAcyclic", inPlace := ["internal/bytealg.IndexByteString"], unfollowed := true, recurses := true, plainKeys := false, apart := false, narrowed := true }
def FnExactIsAcyclicUptoSaid : Prop := fnExactIsAcyclicUptoRow.holds Try.pinned (OpenSpec.upto fnExactIsAcyclicSpec)

/-- 'laws.FnExactPathsFrom', WHERE WHAT IT READS IS OF BULK AT MOST 1048576: true; the input reads as it did. -/
def fnExactPathsFromUptoRow : OpenClaim := { program := "ythnpilkchfmfgaa", sum := "3f15d45fb37828b225347dcf04fc491ffa0419f1c9c3ffe2a7ce4cf17c78a976", func := "loop.example/pathcounts/laws.FnExactPathsFrom", spec := "fnExactPathsFrom", inPlace := ["internal/bytealg.IndexByteString"], unfollowed := true, recurses := true, plainKeys := false, apart := false, narrowed := true }
def FnExactPathsFromUptoSaid : Prop := fnExactPathsFromUptoRow.holds Try.pinned (OpenSpec.upto fnExactPathsFromSpec)

/-- 'laws.FnExactAllRuns', WHERE WHAT IT READS IS OF BULK AT MOST 1048576: true; the input reads as it did. -/
def fnExactAllRunsUptoRow : OpenClaim := { program := "ythnpilkchfmfgaa", sum := "3f15d45fb37828b225347dcf04fc491ffa0419f1c9c3ffe2a7ce4cf17c78a976", func := "loop.example/pathcounts/laws.FnExactAllRuns", spec := "fnExactAllRuns", inPlace := ["internal/bytealg.IndexByteString"], unfollowed := true, recurses := true, plainKeys := false, apart := false, narrowed := true }
def FnExactAllRunsUptoSaid : Prop := fnExactAllRunsUptoRow.holds Try.pinned (OpenSpec.upto fnExactAllRunsSpec)

/-- 'laws.FnExactShortestRun', WHERE WHAT IT READS IS OF BULK AT MOST 1048576: true; the input reads as it did. -/
def fnExactShortestRunUptoRow : OpenClaim := { program := "ythnpilkchfmfgaa", sum := "3f15d45fb37828b225347dcf04fc491ffa0419f1c9c3ffe2a7ce4cf17c78a976", func := "loop.example/pathcounts/laws.FnExactShortestRun", spec := "fnExactShortestRun", inPlace := ["internal/bytealg.IndexByteString"], unfollowed := true, recurses := true, plainKeys := false, apart := false, narrowed := true }
def FnExactShortestRunUptoSaid : Prop := fnExactShortestRunUptoRow.holds Try.pinned (OpenSpec.upto fnExactShortestRunSpec)

/-- 'laws.FnExactCoverRuns', WHERE WHAT IT READS IS OF BULK AT MOST 1048576: true; the input reads as it did. -/
def fnExactCoverRunsUptoRow : OpenClaim := { program := "ythnpilkchfmfgaa", sum := "3f15d45fb37828b225347dcf04fc491ffa0419f1c9c3ffe2a7ce4cf17c78a976", func := "loop.example/pathcounts/laws.FnExactCoverRuns", spec := "fnExactCoverRuns", inPlace := ["internal/bytealg.IndexByteString", "internal/bytealg.IndexString"], unfollowed := true, recurses := true, named := ["internal/bytealg.MaxLen"], plainKeys := false, apart := false, narrowed := true }
def FnExactCoverRunsUptoSaid : Prop := fnExactCoverRunsUptoRow.holds Try.pinned (OpenSpec.upto fnExactCoverRunsSpec)

/-- 'laws.FnExactWalkRun', WHERE WHAT IT READS IS OF BULK AT MOST 1048576: true; the input reads as it did. -/
def fnExactWalkRunUptoRow : OpenClaim := { program := "ythnpilkchfmfgaa", sum := "3f15d45fb37828b225347dcf04fc491ffa0419f1c9c3ffe2a7ce4cf17c78a976", func := "loop.example/pathcounts/laws.FnExactWalkRun", spec := "fnExactWalkRun", inPlace := ["internal/bytealg.IndexByteString", "internal/abi.NoEscape"], unfollowed := true, recurses := true, plainKeys := false, apart := false, narrowed := true }
def FnExactWalkRunUptoSaid : Prop := fnExactWalkRunUptoRow.holds Try.pinned (OpenSpec.upto fnExactWalkRunSpec)

end Rows
end Go.Proofs.Ythnpilkchfmfgaa
