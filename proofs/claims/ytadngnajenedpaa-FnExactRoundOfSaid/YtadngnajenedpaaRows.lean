/-
  No cell of these rows narrows 'for every input' (looked for: loops, veiled, ifaces, maps, wideKeys, modest, calm, conditions, laid).
  DERIVED. THE GIVEN ROWS OF THIS SEAT. 8 by the template 'for every input the law returns true; each argument reads behind the call as it read before'; 0 by the template 'total and deterministic' (their statements: YtadngnajenedpaaTotals.lean).
  GIVEN WITH THE SEED: the statements are not yours to turn. If you find one false, say at which input.
  Laid BY PROGRAM, IN A SANDBOX (cutbox-rows.mjs): the forced cells as the released guide's own fill.sh prints them over the translation e834a86b34400b2a… (all of the seat's roots in one cut). By AI agents, Wed Nov 11 2026. No macro, syntax, notation, axiom, sorry.
-/
import Derived.Test.YtadngnajenedpaaChecked
import GoSem.Claim
import GoSem.ClaimJoined
import GoSem.ClaimMapViews
import Derived.JoinedTies
import Derived.KernelRfl
namespace Go.Proofs.Ytadngnajenedpaa
/- THE CELL 'sum', in the pinned program and in every row, IS THE sha256 OF THE DUMP (.gsa) THAT YtadngnajenedpaaProg.lean LOADS. Nothing in Lean hashes anything: it is a label: what it is worth is what the hold of that sum in a sandbox is worth. -/
noncomputable def Try.pinned : Pinned := { name := "ytadngnajenedpaa", sum := "e834a86b34400b2aac8d29f10b0802b75fc69870180ed77782497088d4ca0475", checked := Try.checked }
namespace Rows
def none {H : Type} : Left H := { results := [], args := [] }

/-- 'laws.FnExactWeightsValid': WHATEVER THE INPUT: true; the input reads as it did. -/
def fnExactWeightsValidSpec : ChangeSpec := { name := "fnExactWeightsValid", fn := fun _ => fun
  | [d1, d2] => { results := [.lit (.bool true)], args := [d1, d2] }
  | _ => none }
def fnExactWeightsValidRow : OpenClaim := { program := "ytadngnajenedpaa", sum := "e834a86b34400b2aac8d29f10b0802b75fc69870180ed77782497088d4ca0475", func := "loop.example/pathcounts/laws.FnExactWeightsValid", spec := "fnExactWeightsValid", inPlace := ["internal/bytealg.IndexByteString"], unfollowed := true, recurses := true, plainKeys := false, apart := false }
def FnExactWeightsValidSaid : Prop := fnExactWeightsValidRow.holds Try.pinned (OpenSpec.ofChange fnExactWeightsValidSpec)

/-- ITS FALSE NEIGHBOUR: 'it returns false'. Refute it at one input. -/
def fnExactWeightsValidWrong : ChangeSpec := { name := "fnExactWeightsValid", fn := fun _ => fun
  | [d1, d2] => { results := [.lit (.bool false)], args := [d1, d2] }
  | _ => none }
def FnExactWeightsValidWrongFalsely : Prop := fnExactWeightsValidRow.holds Try.pinned (OpenSpec.ofChange fnExactWeightsValidWrong)

/-- 'laws.FnExactIsTree': WHATEVER THE INPUT: true; the input reads as it did. -/
def fnExactIsTreeSpec : ChangeSpec := { name := "fnExactIsTree", fn := fun _ => fun
  | [d1, d2] => { results := [.lit (.bool true)], args := [d1, d2] }
  | _ => none }
def fnExactIsTreeRow : OpenClaim := { program := "ytadngnajenedpaa", sum := "e834a86b34400b2aac8d29f10b0802b75fc69870180ed77782497088d4ca0475", func := "loop.example/pathcounts/laws.FnExactIsTree", spec := "fnExactIsTree", inPlace := ["internal/bytealg.IndexByteString"], unfollowed := true, recurses := true, plainKeys := false, apart := false }
def FnExactIsTreeSaid : Prop := fnExactIsTreeRow.holds Try.pinned (OpenSpec.ofChange fnExactIsTreeSpec)

/-- ITS FALSE NEIGHBOUR: 'it returns false'. Refute it at one input. -/
def fnExactIsTreeWrong : ChangeSpec := { name := "fnExactIsTree", fn := fun _ => fun
  | [d1, d2] => { results := [.lit (.bool false)], args := [d1, d2] }
  | _ => none }
def FnExactIsTreeWrongFalsely : Prop := fnExactIsTreeRow.holds Try.pinned (OpenSpec.ofChange fnExactIsTreeWrong)

/-- 'laws.FnExactTreeOf': WHATEVER THE INPUT: true; the input reads as it did. -/
def fnExactTreeOfSpec : ChangeSpec := { name := "fnExactTreeOf", fn := fun _ => fun
  | [d1, d2] => { results := [.lit (.bool true)], args := [d1, d2] }
  | _ => none }
def fnExactTreeOfRow : OpenClaim := { program := "ytadngnajenedpaa", sum := "e834a86b34400b2aac8d29f10b0802b75fc69870180ed77782497088d4ca0475", func := "loop.example/pathcounts/laws.FnExactTreeOf", spec := "fnExactTreeOf", inPlace := ["internal/bytealg.IndexByteString", "internal/abi.NoEscape"], unfollowed := true, recurses := true, plainKeys := false, apart := false }
def FnExactTreeOfSaid : Prop := fnExactTreeOfRow.holds Try.pinned (OpenSpec.ofChange fnExactTreeOfSpec)

/-- ITS FALSE NEIGHBOUR: 'it returns false'. Refute it at one input. -/
def fnExactTreeOfWrong : ChangeSpec := { name := "fnExactTreeOf", fn := fun _ => fun
  | [d1, d2] => { results := [.lit (.bool false)], args := [d1, d2] }
  | _ => none }
def FnExactTreeOfWrongFalsely : Prop := fnExactTreeOfRow.holds Try.pinned (OpenSpec.ofChange fnExactTreeOfWrong)

/-- 'laws.FnExactChordsOf': WHATEVER THE INPUT: true; the input reads as it did. -/
def fnExactChordsOfSpec : ChangeSpec := { name := "fnExactChordsOf", fn := fun _ => fun
  | [d1, d2] => { results := [.lit (.bool true)], args := [d1, d2] }
  | _ => none }
def fnExactChordsOfRow : OpenClaim := { program := "ytadngnajenedpaa", sum := "e834a86b34400b2aac8d29f10b0802b75fc69870180ed77782497088d4ca0475", func := "loop.example/pathcounts/laws.FnExactChordsOf", spec := "fnExactChordsOf", inPlace := ["internal/bytealg.IndexByteString", "internal/bytealg.IndexString", "internal/abi.NoEscape"], unfollowed := true, recurses := true, named := ["internal/bytealg.MaxLen"], plainKeys := false, apart := false }
def FnExactChordsOfSaid : Prop := fnExactChordsOfRow.holds Try.pinned (OpenSpec.ofChange fnExactChordsOfSpec)

/-- ITS FALSE NEIGHBOUR: 'it returns false'. Refute it at one input. -/
def fnExactChordsOfWrong : ChangeSpec := { name := "fnExactChordsOf", fn := fun _ => fun
  | [d1, d2] => { results := [.lit (.bool false)], args := [d1, d2] }
  | _ => none }
def FnExactChordsOfWrongFalsely : Prop := fnExactChordsOfRow.holds Try.pinned (OpenSpec.ofChange fnExactChordsOfWrong)

/-- 'laws.FnExactWayIn': WHATEVER THE INPUT: true; the input reads as it did. -/
def fnExactWayInSpec : ChangeSpec := { name := "fnExactWayIn", fn := fun _ => fun
  | [d1, d2, d3, d4] => { results := [.lit (.bool true)], args := [d1, d2, d3, d4] }
  | _ => none }
def fnExactWayInRow : OpenClaim := { program := "ytadngnajenedpaa", sum := "e834a86b34400b2aac8d29f10b0802b75fc69870180ed77782497088d4ca0475", func := "loop.example/pathcounts/laws.FnExactWayIn", spec := "fnExactWayIn", inPlace := ["internal/bytealg.IndexByteString"], unfollowed := true, recurses := true, plainKeys := false, apart := false }
def FnExactWayInSaid : Prop := fnExactWayInRow.holds Try.pinned (OpenSpec.ofChange fnExactWayInSpec)

/-- ITS FALSE NEIGHBOUR: 'it returns false'. Refute it at one input. -/
def fnExactWayInWrong : ChangeSpec := { name := "fnExactWayIn", fn := fun _ => fun
  | [d1, d2, d3, d4] => { results := [.lit (.bool false)], args := [d1, d2, d3, d4] }
  | _ => none }
def FnExactWayInWrongFalsely : Prop := fnExactWayInRow.holds Try.pinned (OpenSpec.ofChange fnExactWayInWrong)

/-- 'laws.FnExactRoundOf': WHATEVER THE INPUT: true; the input reads as it did. -/
def fnExactRoundOfSpec : ChangeSpec := { name := "fnExactRoundOf", fn := fun _ => fun
  | [d1, d2, d3] => { results := [.lit (.bool true)], args := [d1, d2, d3] }
  | _ => none }
def fnExactRoundOfRow : OpenClaim := { program := "ytadngnajenedpaa", sum := "e834a86b34400b2aac8d29f10b0802b75fc69870180ed77782497088d4ca0475", func := "loop.example/pathcounts/laws.FnExactRoundOf", spec := "fnExactRoundOf", inPlace := ["internal/bytealg.IndexByteString", "internal/bytealg.IndexString"], unfollowed := true, recurses := true, named := ["internal/bytealg.MaxLen"], plainKeys := false, apart := false }
def FnExactRoundOfSaid : Prop := fnExactRoundOfRow.holds Try.pinned (OpenSpec.ofChange fnExactRoundOfSpec)

/-- ITS FALSE NEIGHBOUR: 'it returns false'. Refute it at one input. -/
def fnExactRoundOfWrong : ChangeSpec := { name := "fnExactRoundOf", fn := fun _ => fun
  | [d1, d2, d3] => { results := [.lit (.bool false)], args := [d1, d2, d3] }
  | _ => none }
def FnExactRoundOfWrongFalsely : Prop := fnExactRoundOfRow.holds Try.pinned (OpenSpec.ofChange fnExactRoundOfWrong)

/-- 'laws.FnExactTreeWeight': WHATEVER THE INPUT: true; the input reads as it did. -/
def fnExactTreeWeightSpec : ChangeSpec := { name := "fnExactTreeWeight", fn := fun _ => fun
  | [d1, d2, d3] => { results := [.lit (.bool true)], args := [d1, d2, d3] }
  | _ => none }
def fnExactTreeWeightRow : OpenClaim := { program := "ytadngnajenedpaa", sum := "e834a86b34400b2aac8d29f10b0802b75fc69870180ed77782497088d4ca0475", func := "loop.example/pathcounts/laws.FnExactTreeWeight", spec := "fnExactTreeWeight", inPlace := ["internal/bytealg.IndexByteString"], unfollowed := true, recurses := true, plainKeys := false, apart := false }
def FnExactTreeWeightSaid : Prop := fnExactTreeWeightRow.holds Try.pinned (OpenSpec.ofChange fnExactTreeWeightSpec)

/-- ITS FALSE NEIGHBOUR: 'it returns false'. Refute it at one input. -/
def fnExactTreeWeightWrong : ChangeSpec := { name := "fnExactTreeWeight", fn := fun _ => fun
  | [d1, d2, d3] => { results := [.lit (.bool false)], args := [d1, d2, d3] }
  | _ => none }
def FnExactTreeWeightWrongFalsely : Prop := fnExactTreeWeightRow.holds Try.pinned (OpenSpec.ofChange fnExactTreeWeightWrong)

/-- 'laws.FnExactCountTrees': WHATEVER THE INPUT: true; the input reads as it did. -/
def fnExactCountTreesSpec : ChangeSpec := { name := "fnExactCountTrees", fn := fun _ => fun
  | [d] => { results := [.lit (.bool true)], args := [d] }
  | _ => none }
def fnExactCountTreesRow : OpenClaim := { program := "ytadngnajenedpaa", sum := "e834a86b34400b2aac8d29f10b0802b75fc69870180ed77782497088d4ca0475", func := "loop.example/pathcounts/laws.FnExactCountTrees", spec := "fnExactCountTrees", inPlace := ["internal/bytealg.IndexByteString"], unfollowed := true, recurses := true, plainKeys := false, apart := false }
def FnExactCountTreesSaid : Prop := fnExactCountTreesRow.holds Try.pinned (OpenSpec.ofChange fnExactCountTreesSpec)

/-- ITS FALSE NEIGHBOUR: 'it returns false'. Refute it at one input. -/
def fnExactCountTreesWrong : ChangeSpec := { name := "fnExactCountTrees", fn := fun _ => fun
  | [d] => { results := [.lit (.bool false)], args := [d] }
  | _ => none }
def FnExactCountTreesWrongFalsely : Prop := fnExactCountTreesRow.holds Try.pinned (OpenSpec.ofChange fnExactCountTreesWrong)

/- THE SECOND FORM. 'bulk': how many values and letters a reading holds, each counted each time it is reached (what is shared counts as often as it is met; a slice's spare places count too). A statement '..UptoSaid' is the law's where the arguments, and the package variables that the reading takes, are together of bulk at most 1048576: NARROWER than '..Said'. Prove '..Said' where nothing that the law and all that it calls make is longer than what came in: it says more and counts as full. Else prove '..UptoSaid'. A law counts once. -/
mutual
def uptoBulk {H : Type} : DataW H → Nat
  | .lit (.string bytes) => bytes.length + 1
  | .lit _ => 1
  | .nil => 1
  | .ptr d => uptoBulk d + 1
  | .slice elems spare => uptoBulkAll elems + uptoBulkAll spare + 1
  | .agg parts => uptoBulkAll parts + 1
  | .iface _ d => uptoBulk d + 1
  | .map entries => uptoBulkEntries entries + 1
  | .held _ => 1
def uptoBulkAll {H : Type} : List (DataW H) → Nat
  | [] => 0
  | d :: r => uptoBulk d + uptoBulkAll r
def uptoBulkEntries {H : Type} : List (Lit × DataW H) → Nat
  | [] => 0
  | x :: r => uptoBulkEntry x + uptoBulkEntries r
def uptoBulkEntry {H : Type} : Lit × DataW H → Nat
  | (.string bytes, d) => bytes.length + uptoBulk d + 1
  | (_, d) => uptoBulk d + 1
 end
def uptoSmall : (H : Type) → List (DataW H) → Bool := fun _ ds => decide (uptoBulkAll ds ≤ 1048576)
def OpenSpec.upto (s : _root_.Go.ChangeSpec) : _root_.Go.OpenSpec := { _root_.Go.OpenSpec.ofChange s with cond := some uptoSmall }

/-- 'laws.FnExactWeightsValid', WHERE WHAT IT READS IS OF BULK AT MOST 1048576: true; the input reads as it did. -/
def fnExactWeightsValidUptoRow : OpenClaim := { program := "ytadngnajenedpaa", sum := "e834a86b34400b2aac8d29f10b0802b75fc69870180ed77782497088d4ca0475", func := "loop.example/pathcounts/laws.FnExactWeightsValid", spec := "fnExactWeightsValid", inPlace := ["internal/bytealg.IndexByteString"], unfollowed := true, recurses := true, plainKeys := false, apart := false, narrowed := true }
def FnExactWeightsValidUptoSaid : Prop := fnExactWeightsValidUptoRow.holds Try.pinned (OpenSpec.upto fnExactWeightsValidSpec)

/-- 'laws.FnExactIsTree', WHERE WHAT IT READS IS OF BULK AT MOST 1048576: true; the input reads as it did. -/
def fnExactIsTreeUptoRow : OpenClaim := { program := "ytadngnajenedpaa", sum := "e834a86b34400b2aac8d29f10b0802b75fc69870180ed77782497088d4ca0475", func := "loop.example/pathcounts/laws.FnExactIsTree", spec := "fnExactIsTree", inPlace := ["internal/bytealg.IndexByteString"], unfollowed := true, recurses := true, plainKeys := false, apart := false, narrowed := true }
def FnExactIsTreeUptoSaid : Prop := fnExactIsTreeUptoRow.holds Try.pinned (OpenSpec.upto fnExactIsTreeSpec)

/-- 'laws.FnExactTreeOf', WHERE WHAT IT READS IS OF BULK AT MOST 1048576: true; the input reads as it did. -/
def fnExactTreeOfUptoRow : OpenClaim := { program := "ytadngnajenedpaa", sum := "e834a86b34400b2aac8d29f10b0802b75fc69870180ed77782497088d4ca0475", func := "loop.example/pathcounts/laws.FnExactTreeOf", spec := "fnExactTreeOf", inPlace := ["internal/bytealg.IndexByteString", "internal/abi.NoEscape"], unfollowed := true, recurses := true, plainKeys := false, apart := false, narrowed := true }
def FnExactTreeOfUptoSaid : Prop := fnExactTreeOfUptoRow.holds Try.pinned (OpenSpec.upto fnExactTreeOfSpec)

/-- 'laws.FnExactChordsOf', WHERE WHAT IT READS IS OF BULK AT MOST 1048576: true; the input reads as it did. -/
def fnExactChordsOfUptoRow : OpenClaim := { program := "ytadngnajenedpaa", sum := "e834a86b34400b2aac8d29f10b0802b75fc69870180ed77782497088d4ca0475", func := "loop.example/pathcounts/laws.FnExactChordsOf", spec := "fnExactChordsOf", inPlace := ["internal/bytealg.IndexByteString", "internal/bytealg.IndexString", "internal/abi.NoEscape"], unfollowed := true, recurses := true, named := ["internal/bytealg.MaxLen"], plainKeys := false, apart := false, narrowed := true }
def FnExactChordsOfUptoSaid : Prop := fnExactChordsOfUptoRow.holds Try.pinned (OpenSpec.upto fnExactChordsOfSpec)

/-- 'laws.FnExactWayIn', WHERE WHAT IT READS IS OF BULK AT MOST 1048576: true; the input reads as it did. -/
def fnExactWayInUptoRow : OpenClaim := { program := "ytadngnajenedpaa", sum := "e834a86b34400b2aac8d29f10b0802b75fc69870180ed77782497088d4ca0475", func := "loop.example/pathcounts/laws.FnExactWayIn", spec := "fnExactWayIn", inPlace := ["internal/bytealg.IndexByteString"], unfollowed := true, recurses := true, plainKeys := false, apart := false, narrowed := true }
def FnExactWayInUptoSaid : Prop := fnExactWayInUptoRow.holds Try.pinned (OpenSpec.upto fnExactWayInSpec)

/-- 'laws.FnExactRoundOf', WHERE WHAT IT READS IS OF BULK AT MOST 1048576: true; the input reads as it did. -/
def fnExactRoundOfUptoRow : OpenClaim := { program := "ytadngnajenedpaa", sum := "e834a86b34400b2aac8d29f10b0802b75fc69870180ed77782497088d4ca0475", func := "loop.example/pathcounts/laws.FnExactRoundOf", spec := "fnExactRoundOf", inPlace := ["internal/bytealg.IndexByteString", "internal/bytealg.IndexString"], unfollowed := true, recurses := true, named := ["internal/bytealg.MaxLen"], plainKeys := false, apart := false, narrowed := true }
def FnExactRoundOfUptoSaid : Prop := fnExactRoundOfUptoRow.holds Try.pinned (OpenSpec.upto fnExactRoundOfSpec)

/-- 'laws.FnExactTreeWeight', WHERE WHAT IT READS IS OF BULK AT MOST 1048576: true; the input reads as it did. -/
def fnExactTreeWeightUptoRow : OpenClaim := { program := "ytadngnajenedpaa", sum := "e834a86b34400b2aac8d29f10b0802b75fc69870180ed77782497088d4ca0475", func := "loop.example/pathcounts/laws.FnExactTreeWeight", spec := "fnExactTreeWeight", inPlace := ["internal/bytealg.IndexByteString"], unfollowed := true, recurses := true, plainKeys := false, apart := false, narrowed := true }
def FnExactTreeWeightUptoSaid : Prop := fnExactTreeWeightUptoRow.holds Try.pinned (OpenSpec.upto fnExactTreeWeightSpec)

/-- 'laws.FnExactCountTrees', WHERE WHAT IT READS IS OF BULK AT MOST 1048576: true; the input reads as it did. -/
def fnExactCountTreesUptoRow : OpenClaim := { program := "ytadngnajenedpaa", sum := "e834a86b34400b2aac8d29f10b0802b75fc69870180ed77782497088d4ca0475", func := "loop.example/pathcounts/laws.FnExactCountTrees", spec := "fnExactCountTrees", inPlace := ["internal/bytealg.IndexByteString"], unfollowed := true, recurses := true, plainKeys := false, apart := false, narrowed := true }
def FnExactCountTreesUptoSaid : Prop := fnExactCountTreesUptoRow.holds Try.pinned (OpenSpec.upto fnExactCountTreesSpec)

end Rows
end Go.Proofs.Ytadngnajenedpaa
