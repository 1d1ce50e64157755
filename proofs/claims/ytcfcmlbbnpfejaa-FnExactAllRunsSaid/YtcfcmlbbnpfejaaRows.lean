/-
  No cell of these rows narrows 'for every input' (looked for: loops, veiled, ifaces, maps, wideKeys, modest, calm, conditions, laid).
  DERIVED. THE GIVEN ROWS OF THIS SEAT. 11 by the template 'for every input the law returns true; each argument reads behind the call as it read before'; 0 by the template 'total and deterministic' (their statements: YtcfcmlbbnpfejaaTotals.lean).
  GIVEN WITH THE SEED: the statements are not yours to turn. If you find one false, say at which input.
  Laid BY PROGRAM, IN A SANDBOX (cutbox-rows.mjs): the forced cells as the released guide's own fill.sh prints them over the translation 78b447d19ea66efb… (all of the seat's roots in one cut). By AI agents, Wed Nov 11 2026. No macro, syntax, notation, axiom, sorry.
-/
import Derived.Test.YtcfcmlbbnpfejaaChecked
import GoSem.Claim
import GoSem.ClaimJoined
import GoSem.ClaimMapViews
import Derived.JoinedTies
import Derived.KernelRfl
namespace Go.Proofs.Ytcfcmlbbnpfejaa
/- THE CELL 'sum', in the pinned program and in every row, IS THE sha256 OF THE DUMP (.gsa) THAT YtcfcmlbbnpfejaaProg.lean LOADS. Nothing in Lean hashes anything: it is a label: what it is worth is what the hold of that sum in a sandbox is worth. -/
noncomputable def Try.pinned : Pinned := { name := "ytcfcmlbbnpfejaa", sum := "78b447d19ea66efb222af09fc848e04107d26fd051acf79fde3a439e61e335d9", checked := Try.checked }
namespace Rows
def none {H : Type} : Left H := { results := [], args := [] }

/-- 'laws.FnOrder': WHATEVER THE INPUT: true; the input reads as it did. -/
def fnOrderSpec : ChangeSpec := { name := "fnOrder", fn := fun _ => fun
  | [d] => { results := [.lit (.bool true)], args := [d] }
  | _ => none }
def fnOrderRow : OpenClaim := { program := "ytcfcmlbbnpfejaa", sum := "78b447d19ea66efb222af09fc848e04107d26fd051acf79fde3a439e61e335d9", func := "loop.example/pathcounts/laws.FnOrder", spec := "fnOrder", inPlace := ["internal/bytealg.IndexByteString", "internal/bytealg.IndexString", "internal/abi.NoEscape"], unfollowed := true, recurses := true, named := ["internal/bytealg.MaxLen"], plainKeys := false, apart := false }
def FnOrderSaid : Prop := fnOrderRow.holds Try.pinned (OpenSpec.ofChange fnOrderSpec)

/-- ITS FALSE NEIGHBOUR: 'it returns false'. Refute it at one input. -/
def fnOrderWrong : ChangeSpec := { name := "fnOrder", fn := fun _ => fun
  | [d] => { results := [.lit (.bool false)], args := [d] }
  | _ => none }
def FnOrderWrongFalsely : Prop := fnOrderRow.holds Try.pinned (OpenSpec.ofChange fnOrderWrong)

/-- 'laws.FnBackEdges': WHATEVER THE INPUT: true; the input reads as it did. -/
def fnBackEdgesSpec : ChangeSpec := { name := "fnBackEdges", fn := fun _ => fun
  | [d] => { results := [.lit (.bool true)], args := [d] }
  | _ => none }
def fnBackEdgesRow : OpenClaim := { program := "ytcfcmlbbnpfejaa", sum := "78b447d19ea66efb222af09fc848e04107d26fd051acf79fde3a439e61e335d9", func := "loop.example/pathcounts/laws.FnBackEdges", spec := "fnBackEdges", inPlace := ["internal/bytealg.IndexByteString", "internal/bytealg.IndexString", "internal/abi.NoEscape"], unfollowed := true, recurses := true, named := ["internal/bytealg.MaxLen"], plainKeys := false, apart := false }
def FnBackEdgesSaid : Prop := fnBackEdgesRow.holds Try.pinned (OpenSpec.ofChange fnBackEdgesSpec)

/-- ITS FALSE NEIGHBOUR: 'it returns false'. Refute it at one input. -/
def fnBackEdgesWrong : ChangeSpec := { name := "fnBackEdges", fn := fun _ => fun
  | [d] => { results := [.lit (.bool false)], args := [d] }
  | _ => none }
def FnBackEdgesWrongFalsely : Prop := fnBackEdgesRow.holds Try.pinned (OpenSpec.ofChange fnBackEdgesWrong)

/-- 'laws.FnHeads': WHATEVER THE INPUT: true; the input reads as it did. -/
def fnHeadsSpec : ChangeSpec := { name := "fnHeads", fn := fun _ => fun
  | [d] => { results := [.lit (.bool true)], args := [d] }
  | _ => none }
def fnHeadsRow : OpenClaim := { program := "ytcfcmlbbnpfejaa", sum := "78b447d19ea66efb222af09fc848e04107d26fd051acf79fde3a439e61e335d9", func := "loop.example/pathcounts/laws.FnHeads", spec := "fnHeads", inPlace := ["internal/bytealg.IndexByteString", "internal/bytealg.IndexString", "internal/abi.NoEscape"], unfollowed := true, recurses := true, named := ["internal/bytealg.MaxLen"], plainKeys := false, apart := false }
def FnHeadsSaid : Prop := fnHeadsRow.holds Try.pinned (OpenSpec.ofChange fnHeadsSpec)

/-- ITS FALSE NEIGHBOUR: 'it returns false'. Refute it at one input. -/
def fnHeadsWrong : ChangeSpec := { name := "fnHeads", fn := fun _ => fun
  | [d] => { results := [.lit (.bool false)], args := [d] }
  | _ => none }
def FnHeadsWrongFalsely : Prop := fnHeadsRow.holds Try.pinned (OpenSpec.ofChange fnHeadsWrong)

/-- 'laws.FnSplits': WHATEVER THE INPUT: true; the input reads as it did. -/
def fnSplitsSpec : ChangeSpec := { name := "fnSplits", fn := fun _ => fun
  | [d] => { results := [.lit (.bool true)], args := [d] }
  | _ => none }
def fnSplitsRow : OpenClaim := { program := "ytcfcmlbbnpfejaa", sum := "78b447d19ea66efb222af09fc848e04107d26fd051acf79fde3a439e61e335d9", func := "loop.example/pathcounts/laws.FnSplits", spec := "fnSplits", inPlace := ["internal/bytealg.IndexByteString", "internal/abi.NoEscape"], unfollowed := true, recurses := true, plainKeys := false, apart := false }
def FnSplitsSaid : Prop := fnSplitsRow.holds Try.pinned (OpenSpec.ofChange fnSplitsSpec)

/-- ITS FALSE NEIGHBOUR: 'it returns false'. Refute it at one input. -/
def fnSplitsWrong : ChangeSpec := { name := "fnSplits", fn := fun _ => fun
  | [d] => { results := [.lit (.bool false)], args := [d] }
  | _ => none }
def FnSplitsWrongFalsely : Prop := fnSplitsRow.holds Try.pinned (OpenSpec.ofChange fnSplitsWrong)

/-- 'laws.FnLongest': WHATEVER THE INPUT: true; the input reads as it did. -/
def fnLongestSpec : ChangeSpec := { name := "fnLongest", fn := fun _ => fun
  | [d1, d2] => { results := [.lit (.bool true)], args := [d1, d2] }
  | _ => none }
def fnLongestRow : OpenClaim := { program := "ytcfcmlbbnpfejaa", sum := "78b447d19ea66efb222af09fc848e04107d26fd051acf79fde3a439e61e335d9", func := "loop.example/pathcounts/laws.FnLongest", spec := "fnLongest", inPlace := ["internal/bytealg.IndexByteString", "internal/abi.NoEscape"], unfollowed := true, recurses := true, plainKeys := false, apart := false }
def FnLongestSaid : Prop := fnLongestRow.holds Try.pinned (OpenSpec.ofChange fnLongestSpec)

/-- ITS FALSE NEIGHBOUR: 'it returns false'. Refute it at one input. -/
def fnLongestWrong : ChangeSpec := { name := "fnLongest", fn := fun _ => fun
  | [d1, d2] => { results := [.lit (.bool false)], args := [d1, d2] }
  | _ => none }
def FnLongestWrongFalsely : Prop := fnLongestRow.holds Try.pinned (OpenSpec.ofChange fnLongestWrong)

/-- 'laws.FnCutRun': WHATEVER THE INPUT: true; the input reads as it did. -/
def fnCutRunSpec : ChangeSpec := { name := "fnCutRun", fn := fun _ => fun
  | [d] => { results := [.lit (.bool true)], args := [d] }
  | _ => none }
def fnCutRunRow : OpenClaim := { program := "ytcfcmlbbnpfejaa", sum := "78b447d19ea66efb222af09fc848e04107d26fd051acf79fde3a439e61e335d9", func := "loop.example/pathcounts/laws.FnCutRun", spec := "fnCutRun", inPlace := ["internal/bytealg.IndexByteString", "internal/bytealg.IndexString", "internal/abi.NoEscape"], unfollowed := true, recurses := true, named := ["internal/bytealg.MaxLen"], plainKeys := false, apart := false }
def FnCutRunSaid : Prop := fnCutRunRow.holds Try.pinned (OpenSpec.ofChange fnCutRunSpec)

/-- ITS FALSE NEIGHBOUR: 'it returns false'. Refute it at one input. -/
def fnCutRunWrong : ChangeSpec := { name := "fnCutRun", fn := fun _ => fun
  | [d] => { results := [.lit (.bool false)], args := [d] }
  | _ => none }
def FnCutRunWrongFalsely : Prop := fnCutRunRow.holds Try.pinned (OpenSpec.ofChange fnCutRunWrong)

/-- 'laws.FnForward': WHATEVER THE INPUT: true; the input reads as it did. -/
def fnForwardSpec : ChangeSpec := { name := "fnForward", fn := fun _ => fun
  | [d] => { results := [.lit (.bool true)], args := [d] }
  | _ => none }
def fnForwardRow : OpenClaim := { program := "ytcfcmlbbnpfejaa", sum := "78b447d19ea66efb222af09fc848e04107d26fd051acf79fde3a439e61e335d9", func := "loop.example/pathcounts/laws.FnForward", spec := "fnForward", inPlace := ["internal/bytealg.IndexByteString", "internal/bytealg.IndexString"], unfollowed := true, recurses := true, named := ["internal/bytealg.MaxLen"], plainKeys := false, apart := false }
def FnForwardSaid : Prop := fnForwardRow.holds Try.pinned (OpenSpec.ofChange fnForwardSpec)

/-- ITS FALSE NEIGHBOUR: 'it returns false'. Refute it at one input. -/
def fnForwardWrong : ChangeSpec := { name := "fnForward", fn := fun _ => fun
  | [d] => { results := [.lit (.bool false)], args := [d] }
  | _ => none }
def FnForwardWrongFalsely : Prop := fnForwardRow.holds Try.pinned (OpenSpec.ofChange fnForwardWrong)

/-- 'laws.FnExactPathsFrom': WHATEVER THE INPUT: true; the input reads as it did. -/
def fnExactPathsFromSpec : ChangeSpec := { name := "fnExactPathsFrom", fn := fun _ => fun
  | [d1, d2] => { results := [.lit (.bool true)], args := [d1, d2] }
  | _ => none }
def fnExactPathsFromRow : OpenClaim := { program := "ytcfcmlbbnpfejaa", sum := "78b447d19ea66efb222af09fc848e04107d26fd051acf79fde3a439e61e335d9", func := "loop.example/pathcounts/laws.FnExactPathsFrom", spec := "fnExactPathsFrom", inPlace := ["internal/bytealg.IndexByteString"], unfollowed := true, recurses := true, plainKeys := false, apart := false }
def FnExactPathsFromSaid : Prop := fnExactPathsFromRow.holds Try.pinned (OpenSpec.ofChange fnExactPathsFromSpec)

/-- ITS FALSE NEIGHBOUR: 'it returns false'. Refute it at one input. -/
def fnExactPathsFromWrong : ChangeSpec := { name := "fnExactPathsFrom", fn := fun _ => fun
  | [d1, d2] => { results := [.lit (.bool false)], args := [d1, d2] }
  | _ => none }
def FnExactPathsFromWrongFalsely : Prop := fnExactPathsFromRow.holds Try.pinned (OpenSpec.ofChange fnExactPathsFromWrong)

/-- 'laws.FnExactAllRuns': WHATEVER THE INPUT: true; the input reads as it did. -/
def fnExactAllRunsSpec : ChangeSpec := { name := "fnExactAllRuns", fn := fun _ => fun
  | [d] => { results := [.lit (.bool true)], args := [d] }
  | _ => none }
def fnExactAllRunsRow : OpenClaim := { program := "ytcfcmlbbnpfejaa", sum := "78b447d19ea66efb222af09fc848e04107d26fd051acf79fde3a439e61e335d9", func := "loop.example/pathcounts/laws.FnExactAllRuns", spec := "fnExactAllRuns", inPlace := ["internal/bytealg.IndexByteString"], unfollowed := true, recurses := true, plainKeys := false, apart := false }
def FnExactAllRunsSaid : Prop := fnExactAllRunsRow.holds Try.pinned (OpenSpec.ofChange fnExactAllRunsSpec)

/-- ITS FALSE NEIGHBOUR: 'it returns false'. Refute it at one input. -/
def fnExactAllRunsWrong : ChangeSpec := { name := "fnExactAllRuns", fn := fun _ => fun
  | [d] => { results := [.lit (.bool false)], args := [d] }
  | _ => none }
def FnExactAllRunsWrongFalsely : Prop := fnExactAllRunsRow.holds Try.pinned (OpenSpec.ofChange fnExactAllRunsWrong)

/-- 'laws.FnExactWalkRun': WHATEVER THE INPUT: true; the input reads as it did. -/
def fnExactWalkRunSpec : ChangeSpec := { name := "fnExactWalkRun", fn := fun _ => fun
  | [d1, d2] => { results := [.lit (.bool true)], args := [d1, d2] }
  | _ => none }
def fnExactWalkRunRow : OpenClaim := { program := "ytcfcmlbbnpfejaa", sum := "78b447d19ea66efb222af09fc848e04107d26fd051acf79fde3a439e61e335d9", func := "loop.example/pathcounts/laws.FnExactWalkRun", spec := "fnExactWalkRun", inPlace := ["internal/bytealg.IndexByteString", "internal/abi.NoEscape"], unfollowed := true, recurses := true, plainKeys := false, apart := false }
def FnExactWalkRunSaid : Prop := fnExactWalkRunRow.holds Try.pinned (OpenSpec.ofChange fnExactWalkRunSpec)

/-- ITS FALSE NEIGHBOUR: 'it returns false'. Refute it at one input. -/
def fnExactWalkRunWrong : ChangeSpec := { name := "fnExactWalkRun", fn := fun _ => fun
  | [d1, d2] => { results := [.lit (.bool false)], args := [d1, d2] }
  | _ => none }
def FnExactWalkRunWrongFalsely : Prop := fnExactWalkRunRow.holds Try.pinned (OpenSpec.ofChange fnExactWalkRunWrong)

/-- 'laws.FnExactOrderOf': WHATEVER THE INPUT: true; the input reads as it did. -/
def fnExactOrderOfSpec : ChangeSpec := { name := "fnExactOrderOf", fn := fun _ => fun
  | [d] => { results := [.lit (.bool true)], args := [d] }
  | _ => none }
def fnExactOrderOfRow : OpenClaim := { program := "ytcfcmlbbnpfejaa", sum := "78b447d19ea66efb222af09fc848e04107d26fd051acf79fde3a439e61e335d9", func := "loop.example/pathcounts/laws.FnExactOrderOf", spec := "fnExactOrderOf", inPlace := ["internal/bytealg.IndexByteString"], unfollowed := true, recurses := true, plainKeys := false, apart := false }
def FnExactOrderOfSaid : Prop := fnExactOrderOfRow.holds Try.pinned (OpenSpec.ofChange fnExactOrderOfSpec)

/-- ITS FALSE NEIGHBOUR: 'it returns false'. Refute it at one input. -/
def fnExactOrderOfWrong : ChangeSpec := { name := "fnExactOrderOf", fn := fun _ => fun
  | [d] => { results := [.lit (.bool false)], args := [d] }
  | _ => none }
def FnExactOrderOfWrongFalsely : Prop := fnExactOrderOfRow.holds Try.pinned (OpenSpec.ofChange fnExactOrderOfWrong)

/- THE SECOND FORM. 'bulk': how many values and letters a reading holds, each counted each time it is reached (what is shared counts as often as it is met; a slice's spare places count too). A statement '..UptoSaid' is the law's where the arguments, and the package variables that the reading takes, are together of bulk at most 1048576: NARROWER than '..Said'. Prove '..Said' where nothing that the law and all that it calls make is longer than what came in: it says more and counts as full. Else prove '..UptoSaid'. A law counts once. -/
mutual
def uptoBulk {H : Type} : DataW H → Nat
  | .lit (.string bytes) => bytes.length + 1
  | .lit _ => 1
  | .nil => 1
  | .ptr d => uptoBulk d + 1
  | .slice elems spare => uptoBulkAll elems + uptoBulkAll spare + 1
  | .agg parts => uptoBulkAll parts + 1
  | .iface _ d => uptoBulk d + 1
  | .map entries => uptoBulkEntries entries + 1
  | .held _ => 1
def uptoBulkAll {H : Type} : List (DataW H) → Nat
  | [] => 0
  | d :: r => uptoBulk d + uptoBulkAll r
def uptoBulkEntries {H : Type} : List (Lit × DataW H) → Nat
  | [] => 0
  | x :: r => uptoBulkEntry x + uptoBulkEntries r
def uptoBulkEntry {H : Type} : Lit × DataW H → Nat
  | (.string bytes, d) => bytes.length + uptoBulk d + 1
  | (_, d) => uptoBulk d + 1
 end
def uptoSmall : (H : Type) → List (DataW H) → Bool := fun _ ds => decide (uptoBulkAll ds ≤ 1048576)
def OpenSpec.upto (s : _root_.Go.ChangeSpec) : _root_.Go.OpenSpec := { _root_.Go.OpenSpec.ofChange s with cond := some uptoSmall }

/-- 'laws.FnOrder', WHERE WHAT IT READS IS OF BULK AT MOST 1048576: true; the input reads as it did. -/
def fnOrderUptoRow : OpenClaim := { program := "ytcfcmlbbnpfejaa", sum := "78b447d19ea66efb222af09fc848e04107d26fd051acf79fde3a439e61e335d9", func := "loop.example/pathcounts/laws.FnOrder", spec := "fnOrder", inPlace := ["internal/bytealg.IndexByteString", "internal/bytealg.IndexString", "internal/abi.NoEscape"], unfollowed := true, recurses := true, named := ["internal/bytealg.MaxLen"], plainKeys := false, apart := false, narrowed := true }
def FnOrderUptoSaid : Prop := fnOrderUptoRow.holds Try.pinned (OpenSpec.upto fnOrderSpec)

/-- 'laws.FnBackEdges', WHERE WHAT IT READS IS OF BULK AT MOST 1048576: true; the input reads as it did. -/
def fnBackEdgesUptoRow : OpenClaim := { program := "ytcfcmlbbnpfejaa", sum := "78b447d19ea66efb222af09fc848e04107d26fd051acf79fde3a439e61e335d9", func := "loop.example/pathcounts/laws.FnBackEdges", spec := "fnBackEdges", inPlace := ["internal/bytealg.IndexByteString", "internal/bytealg.IndexString", "internal/abi.NoEscape"], unfollowed := true, recurses := true, named := ["internal/bytealg.MaxLen"], plainKeys := false, apart := false, narrowed := true }
def FnBackEdgesUptoSaid : Prop := fnBackEdgesUptoRow.holds Try.pinned (OpenSpec.upto fnBackEdgesSpec)

/-- 'laws.FnHeads', WHERE WHAT IT READS IS OF BULK AT MOST 1048576: true; the input reads as it did. -/
def fnHeadsUptoRow : OpenClaim := { program := "ytcfcmlbbnpfejaa", sum := "78b447d19ea66efb222af09fc848e04107d26fd051acf79fde3a439e61e335d9", func := "loop.example/pathcounts/laws.FnHeads", spec := "fnHeads", inPlace := ["internal/bytealg.IndexByteString", "internal/bytealg.IndexString", "internal/abi.NoEscape"], unfollowed := true, recurses := true, named := ["internal/bytealg.MaxLen"], plainKeys := false, apart := false, narrowed := true }
def FnHeadsUptoSaid : Prop := fnHeadsUptoRow.holds Try.pinned (OpenSpec.upto fnHeadsSpec)

/-- 'laws.FnSplits', WHERE WHAT IT READS IS OF BULK AT MOST 1048576: true; the input reads as it did. -/
def fnSplitsUptoRow : OpenClaim := { program := "ytcfcmlbbnpfejaa", sum := "78b447d19ea66efb222af09fc848e04107d26fd051acf79fde3a439e61e335d9", func := "loop.example/pathcounts/laws.FnSplits", spec := "fnSplits", inPlace := ["internal/bytealg.IndexByteString", "internal/abi.NoEscape"], unfollowed := true, recurses := true, plainKeys := false, apart := false, narrowed := true }
def FnSplitsUptoSaid : Prop := fnSplitsUptoRow.holds Try.pinned (OpenSpec.upto fnSplitsSpec)

/-- 'laws.FnLongest', WHERE WHAT IT READS IS OF BULK AT MOST 1048576: true; the input reads as it did. -/
def fnLongestUptoRow : OpenClaim := { program := "ytcfcmlbbnpfejaa", sum := "78b447d19ea66efb222af09fc848e04107d26fd051acf79fde3a439e61e335d9", func := "loop.example/pathcounts/laws.FnLongest", spec := "fnLongest", inPlace := ["internal/bytealg.IndexByteString", "internal/abi.NoEscape"], unfollowed := true, recurses := true, plainKeys := false, apart := false, narrowed := true }
def FnLongestUptoSaid : Prop := fnLongestUptoRow.holds Try.pinned (OpenSpec.upto fnLongestSpec)

/-- 'laws.FnCutRun', WHERE WHAT IT READS IS OF BULK AT MOST 1048576: true; the input reads as it did. -/
def fnCutRunUptoRow : OpenClaim := { program := "ytcfcmlbbnpfejaa", sum := "78b447d19ea66efb222af09fc848e04107d26fd051acf79fde3a439e61e335d9", func := "loop.example/pathcounts/laws.FnCutRun", spec := "fnCutRun", inPlace := ["internal/bytealg.IndexByteString", "internal/bytealg.IndexString", "internal/abi.NoEscape"], unfollowed := true, recurses := true, named := ["internal/bytealg.MaxLen"], plainKeys := false, apart := false, narrowed := true }
def FnCutRunUptoSaid : Prop := fnCutRunUptoRow.holds Try.pinned (OpenSpec.upto fnCutRunSpec)

/-- 'laws.FnForward', WHERE WHAT IT READS IS OF BULK AT MOST 1048576: true; the input reads as it did. -/
def fnForwardUptoRow : OpenClaim := { program := "ytcfcmlbbnpfejaa", sum := "78b447d19ea66efb222af09fc848e04107d26fd051acf79fde3a439e61e335d9", func := "loop.example/pathcounts/laws.FnForward", spec := "fnForward", inPlace := ["internal/bytealg.IndexByteString", "internal/bytealg.IndexString"], unfollowed := true, recurses := true, named := ["internal/bytealg.MaxLen"], plainKeys := false, apart := false, narrowed := true }
def FnForwardUptoSaid : Prop := fnForwardUptoRow.holds Try.pinned (OpenSpec.upto fnForwardSpec)

/-- 'laws.FnExactPathsFrom', WHERE WHAT IT READS IS OF BULK AT MOST 1048576: true; the input reads as it did. -/
def fnExactPathsFromUptoRow : OpenClaim := { program := "ytcfcmlbbnpfejaa", sum := "78b447d19ea66efb222af09fc848e04107d26fd051acf79fde3a439e61e335d9", func := "loop.example/pathcounts/laws.FnExactPathsFrom", spec := "fnExactPathsFrom", inPlace := ["internal/bytealg.IndexByteString"], unfollowed := true, recurses := true, plainKeys := false, apart := false, narrowed := true }
def FnExactPathsFromUptoSaid : Prop := fnExactPathsFromUptoRow.holds Try.pinned (OpenSpec.upto fnExactPathsFromSpec)

/-- 'laws.FnExactAllRuns', WHERE WHAT IT READS IS OF BULK AT MOST 1048576: true; the input reads as it did. -/
def fnExactAllRunsUptoRow : OpenClaim := { program := "ytcfcmlbbnpfejaa", sum := "78b447d19ea66efb222af09fc848e04107d26fd051acf79fde3a439e61e335d9", func := "loop.example/pathcounts/laws.FnExactAllRuns", spec := "fnExactAllRuns", inPlace := ["internal/bytealg.IndexByteString"], unfollowed := true, recurses := true, plainKeys := false, apart := false, narrowed := true }
def FnExactAllRunsUptoSaid : Prop := fnExactAllRunsUptoRow.holds Try.pinned (OpenSpec.upto fnExactAllRunsSpec)

/-- 'laws.FnExactWalkRun', WHERE WHAT IT READS IS OF BULK AT MOST 1048576: true; the input reads as it did. -/
def fnExactWalkRunUptoRow : OpenClaim := { program := "ytcfcmlbbnpfejaa", sum := "78b447d19ea66efb222af09fc848e04107d26fd051acf79fde3a439e61e335d9", func := "loop.example/pathcounts/laws.FnExactWalkRun", spec := "fnExactWalkRun", inPlace := ["internal/bytealg.IndexByteString", "internal/abi.NoEscape"], unfollowed := true, recurses := true, plainKeys := false, apart := false, narrowed := true }
def FnExactWalkRunUptoSaid : Prop := fnExactWalkRunUptoRow.holds Try.pinned (OpenSpec.upto fnExactWalkRunSpec)

/-- 'laws.FnExactOrderOf', WHERE WHAT IT READS IS OF BULK AT MOST 1048576: true; the input reads as it did. -/
def fnExactOrderOfUptoRow : OpenClaim := { program := "ytcfcmlbbnpfejaa", sum := "78b447d19ea66efb222af09fc848e04107d26fd051acf79fde3a439e61e335d9", func := "loop.example/pathcounts/laws.FnExactOrderOf", spec := "fnExactOrderOf", inPlace := ["internal/bytealg.IndexByteString"], unfollowed := true, recurses := true, plainKeys := false, apart := false, narrowed := true }
def FnExactOrderOfUptoSaid : Prop := fnExactOrderOfUptoRow.holds Try.pinned (OpenSpec.upto fnExactOrderOfSpec)

end Rows
end Go.Proofs.Ytcfcmlbbnpfejaa
