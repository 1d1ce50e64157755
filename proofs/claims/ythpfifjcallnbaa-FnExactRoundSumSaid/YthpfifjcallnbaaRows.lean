/-
  No cell of these rows narrows 'for every input' (looked for: loops, veiled, ifaces, maps, wideKeys, modest, calm, conditions, laid).
  DERIVED. THE GIVEN ROWS OF THIS SEAT. 8 by the template 'for every input the law returns true; each argument reads behind the call as it read before'; 0 by the template 'total and deterministic' (their statements: YthpfifjcallnbaaTotals.lean).
  GIVEN WITH THE SEED: the statements are not yours to turn. If you find one false, say at which input.
  Laid BY PROGRAM, IN A SANDBOX (cutbox-rows.mjs): the forced cells as the released guide's own fill.sh prints them over the translation ad6ef07e50ca4e86… (all of the seat's roots in one cut). By AI agents, Wed Nov 11 2026. No macro, syntax, notation, axiom, sorry.
-/
import Derived.Test.YthpfifjcallnbaaChecked
import GoSem.Claim
import GoSem.ClaimJoined
import GoSem.ClaimMapViews
import Derived.JoinedTies
import Derived.KernelRfl
namespace Go.Proofs.Ythpfifjcallnbaa
/- THE CELL 'sum', in the pinned program and in every row, IS THE sha256 OF THE DUMP (.gsa) THAT YthpfifjcallnbaaProg.lean LOADS. Nothing in Lean hashes anything: it is a label: what it is worth is what the hold of that sum in a sandbox is worth. -/
noncomputable def Try.pinned : Pinned := { name := "ythpfifjcallnbaa", sum := "ad6ef07e50ca4e86ceec82329a0f4aaac1c20db45a2e71c4c6f0237f38d5bada", checked := Try.checked }
namespace Rows
def none {H : Type} : Left H := { results := [], args := [] }

/-- 'laws.FnExactHeightOf': WHATEVER THE INPUT: true; the input reads as it did. -/
def fnExactHeightOfSpec : ChangeSpec := { name := "fnExactHeightOf", fn := fun _ => fun
  | [d1, d2, d3] => { results := [.lit (.bool true)], args := [d1, d2, d3] }
  | _ => none }
def fnExactHeightOfRow : OpenClaim := { program := "ythpfifjcallnbaa", sum := "ad6ef07e50ca4e86ceec82329a0f4aaac1c20db45a2e71c4c6f0237f38d5bada", func := "loop.example/pathcounts/laws.FnExactHeightOf", spec := "fnExactHeightOf", inPlace := ["internal/bytealg.IndexByteString"], unfollowed := true, recurses := true, plainKeys := false, apart := false }
def FnExactHeightOfSaid : Prop := fnExactHeightOfRow.holds Try.pinned (OpenSpec.ofChange fnExactHeightOfSpec)

/-- ITS FALSE NEIGHBOUR: 'it returns false'. Refute it at one input. -/
def fnExactHeightOfWrong : ChangeSpec := { name := "fnExactHeightOf", fn := fun _ => fun
  | [d1, d2, d3] => { results := [.lit (.bool false)], args := [d1, d2, d3] }
  | _ => none }
def FnExactHeightOfWrongFalsely : Prop := fnExactHeightOfRow.holds Try.pinned (OpenSpec.ofChange fnExactHeightOfWrong)

/-- 'laws.FnExactStepOf': WHATEVER THE INPUT: true; the input reads as it did. -/
def fnExactStepOfSpec : ChangeSpec := { name := "fnExactStepOf", fn := fun _ => fun
  | [d1, d2, d3] => { results := [.lit (.bool true)], args := [d1, d2, d3] }
  | _ => none }
def fnExactStepOfRow : OpenClaim := { program := "ythpfifjcallnbaa", sum := "ad6ef07e50ca4e86ceec82329a0f4aaac1c20db45a2e71c4c6f0237f38d5bada", func := "loop.example/pathcounts/laws.FnExactStepOf", spec := "fnExactStepOf", inPlace := ["internal/bytealg.IndexByteString"], unfollowed := true, recurses := true, plainKeys := false, apart := false }
def FnExactStepOfSaid : Prop := fnExactStepOfRow.holds Try.pinned (OpenSpec.ofChange fnExactStepOfSpec)

/-- ITS FALSE NEIGHBOUR: 'it returns false'. Refute it at one input. -/
def fnExactStepOfWrong : ChangeSpec := { name := "fnExactStepOf", fn := fun _ => fun
  | [d1, d2, d3] => { results := [.lit (.bool false)], args := [d1, d2, d3] }
  | _ => none }
def FnExactStepOfWrongFalsely : Prop := fnExactStepOfRow.holds Try.pinned (OpenSpec.ofChange fnExactStepOfWrong)

/-- 'laws.FnExactStepsOf': WHATEVER THE INPUT: true; the input reads as it did. -/
def fnExactStepsOfSpec : ChangeSpec := { name := "fnExactStepsOf", fn := fun _ => fun
  | [d1, d2] => { results := [.lit (.bool true)], args := [d1, d2] }
  | _ => none }
def fnExactStepsOfRow : OpenClaim := { program := "ythpfifjcallnbaa", sum := "ad6ef07e50ca4e86ceec82329a0f4aaac1c20db45a2e71c4c6f0237f38d5bada", func := "loop.example/pathcounts/laws.FnExactStepsOf", spec := "fnExactStepsOf", inPlace := ["internal/bytealg.IndexByteString"], unfollowed := true, recurses := true, plainKeys := false, apart := false }
def FnExactStepsOfSaid : Prop := fnExactStepsOfRow.holds Try.pinned (OpenSpec.ofChange fnExactStepsOfSpec)

/-- ITS FALSE NEIGHBOUR: 'it returns false'. Refute it at one input. -/
def fnExactStepsOfWrong : ChangeSpec := { name := "fnExactStepsOf", fn := fun _ => fun
  | [d1, d2] => { results := [.lit (.bool false)], args := [d1, d2] }
  | _ => none }
def FnExactStepsOfWrongFalsely : Prop := fnExactStepsOfRow.holds Try.pinned (OpenSpec.ofChange fnExactStepsOfWrong)

/-- 'laws.FnExactSumOf': WHATEVER THE INPUT: true; the input reads as it did. -/
def fnExactSumOfSpec : ChangeSpec := { name := "fnExactSumOf", fn := fun _ => fun
  | [d1, d2, d3] => { results := [.lit (.bool true)], args := [d1, d2, d3] }
  | _ => none }
def fnExactSumOfRow : OpenClaim := { program := "ythpfifjcallnbaa", sum := "ad6ef07e50ca4e86ceec82329a0f4aaac1c20db45a2e71c4c6f0237f38d5bada", func := "loop.example/pathcounts/laws.FnExactSumOf", spec := "fnExactSumOf", inPlace := ["internal/bytealg.IndexByteString"], unfollowed := true, recurses := true, plainKeys := false, apart := false }
def FnExactSumOfSaid : Prop := fnExactSumOfRow.holds Try.pinned (OpenSpec.ofChange fnExactSumOfSpec)

/-- ITS FALSE NEIGHBOUR: 'it returns false'. Refute it at one input. -/
def fnExactSumOfWrong : ChangeSpec := { name := "fnExactSumOf", fn := fun _ => fun
  | [d1, d2, d3] => { results := [.lit (.bool false)], args := [d1, d2, d3] }
  | _ => none }
def FnExactSumOfWrongFalsely : Prop := fnExactSumOfRow.holds Try.pinned (OpenSpec.ofChange fnExactSumOfWrong)

/-- 'laws.FnExactCountAdds': WHATEVER THE INPUT: true; the input reads as it did. -/
def fnExactCountAddsSpec : ChangeSpec := { name := "fnExactCountAdds", fn := fun _ => fun
  | [d1, d2] => { results := [.lit (.bool true)], args := [d1, d2] }
  | _ => none }
def fnExactCountAddsRow : OpenClaim := { program := "ythpfifjcallnbaa", sum := "ad6ef07e50ca4e86ceec82329a0f4aaac1c20db45a2e71c4c6f0237f38d5bada", func := "loop.example/pathcounts/laws.FnExactCountAdds", spec := "fnExactCountAdds", inPlace := ["internal/bytealg.IndexByteString"], unfollowed := true, recurses := true, plainKeys := false, apart := false }
def FnExactCountAddsSaid : Prop := fnExactCountAddsRow.holds Try.pinned (OpenSpec.ofChange fnExactCountAddsSpec)

/-- ITS FALSE NEIGHBOUR: 'it returns false'. Refute it at one input. -/
def fnExactCountAddsWrong : ChangeSpec := { name := "fnExactCountAdds", fn := fun _ => fun
  | [d1, d2] => { results := [.lit (.bool false)], args := [d1, d2] }
  | _ => none }
def FnExactCountAddsWrongFalsely : Prop := fnExactCountAddsRow.holds Try.pinned (OpenSpec.ofChange fnExactCountAddsWrong)

/-- 'laws.FnExactAddsOn': WHATEVER THE INPUT: true; the input reads as it did. -/
def fnExactAddsOnSpec : ChangeSpec := { name := "fnExactAddsOn", fn := fun _ => fun
  | [d1, d2, d3] => { results := [.lit (.bool true)], args := [d1, d2, d3] }
  | _ => none }
def fnExactAddsOnRow : OpenClaim := { program := "ythpfifjcallnbaa", sum := "ad6ef07e50ca4e86ceec82329a0f4aaac1c20db45a2e71c4c6f0237f38d5bada", func := "loop.example/pathcounts/laws.FnExactAddsOn", spec := "fnExactAddsOn", inPlace := ["internal/bytealg.IndexByteString"], unfollowed := true, recurses := true, plainKeys := false, apart := false }
def FnExactAddsOnSaid : Prop := fnExactAddsOnRow.holds Try.pinned (OpenSpec.ofChange fnExactAddsOnSpec)

/-- ITS FALSE NEIGHBOUR: 'it returns false'. Refute it at one input. -/
def fnExactAddsOnWrong : ChangeSpec := { name := "fnExactAddsOn", fn := fun _ => fun
  | [d1, d2, d3] => { results := [.lit (.bool false)], args := [d1, d2, d3] }
  | _ => none }
def FnExactAddsOnWrongFalsely : Prop := fnExactAddsOnRow.holds Try.pinned (OpenSpec.ofChange fnExactAddsOnWrong)

/-- 'laws.FnExactRoundSum': WHATEVER THE INPUT: true; the input reads as it did. -/
def fnExactRoundSumSpec : ChangeSpec := { name := "fnExactRoundSum", fn := fun _ => fun
  | [d1, d2] => { results := [.lit (.bool true)], args := [d1, d2] }
  | _ => none }
def fnExactRoundSumRow : OpenClaim := { program := "ythpfifjcallnbaa", sum := "ad6ef07e50ca4e86ceec82329a0f4aaac1c20db45a2e71c4c6f0237f38d5bada", func := "loop.example/pathcounts/laws.FnExactRoundSum", spec := "fnExactRoundSum", inPlace := ["internal/bytealg.IndexByteString", "internal/abi.NoEscape"], unfollowed := true, recurses := true, plainKeys := false, apart := false }
def FnExactRoundSumSaid : Prop := fnExactRoundSumRow.holds Try.pinned (OpenSpec.ofChange fnExactRoundSumSpec)

/-- ITS FALSE NEIGHBOUR: 'it returns false'. Refute it at one input. -/
def fnExactRoundSumWrong : ChangeSpec := { name := "fnExactRoundSum", fn := fun _ => fun
  | [d1, d2] => { results := [.lit (.bool false)], args := [d1, d2] }
  | _ => none }
def FnExactRoundSumWrongFalsely : Prop := fnExactRoundSumRow.holds Try.pinned (OpenSpec.ofChange fnExactRoundSumWrong)

/-- 'laws.FnExactFewestAdds': WHATEVER THE INPUT: true; the input reads as it did. -/
def fnExactFewestAddsSpec : ChangeSpec := { name := "fnExactFewestAdds", fn := fun _ => fun
  | [d] => { results := [.lit (.bool true)], args := [d] }
  | _ => none }
def fnExactFewestAddsRow : OpenClaim := { program := "ythpfifjcallnbaa", sum := "ad6ef07e50ca4e86ceec82329a0f4aaac1c20db45a2e71c4c6f0237f38d5bada", func := "loop.example/pathcounts/laws.FnExactFewestAdds", spec := "fnExactFewestAdds", inPlace := ["internal/bytealg.IndexByteString"], unfollowed := true, recurses := true, plainKeys := false, apart := false }
def FnExactFewestAddsSaid : Prop := fnExactFewestAddsRow.holds Try.pinned (OpenSpec.ofChange fnExactFewestAddsSpec)

/-- ITS FALSE NEIGHBOUR: 'it returns false'. Refute it at one input. -/
def fnExactFewestAddsWrong : ChangeSpec := { name := "fnExactFewestAdds", fn := fun _ => fun
  | [d] => { results := [.lit (.bool false)], args := [d] }
  | _ => none }
def FnExactFewestAddsWrongFalsely : Prop := fnExactFewestAddsRow.holds Try.pinned (OpenSpec.ofChange fnExactFewestAddsWrong)

/- THE SECOND FORM. 'bulk': how many values and letters a reading holds, each counted each time it is reached (what is shared counts as often as it is met; a slice's spare places count too). A statement '..UptoSaid' is the law's where the arguments, and the package variables that the reading takes, are together of bulk at most 1048576: NARROWER than '..Said'. Prove '..Said' where nothing that the law and all that it calls make is longer than what came in: it says more and counts as full. Else prove '..UptoSaid'. A law counts once. -/
mutual
def uptoBulk {H : Type} : DataW H → Nat
  | .lit (.string bytes) => bytes.length + 1
  | .lit _ => 1
  | .nil => 1
  | .ptr d => uptoBulk d + 1
  | .slice elems spare => uptoBulkAll elems + uptoBulkAll spare + 1
  | .agg parts => uptoBulkAll parts + 1
  | .iface _ d => uptoBulk d + 1
  | .map entries => uptoBulkEntries entries + 1
  | .held _ => 1
def uptoBulkAll {H : Type} : List (DataW H) → Nat
  | [] => 0
  | d :: r => uptoBulk d + uptoBulkAll r
def uptoBulkEntries {H : Type} : List (Lit × DataW H) → Nat
  | [] => 0
  | x :: r => uptoBulkEntry x + uptoBulkEntries r
def uptoBulkEntry {H : Type} : Lit × DataW H → Nat
  | (.string bytes, d) => bytes.length + uptoBulk d + 1
  | (_, d) => uptoBulk d + 1
 end
def uptoSmall : (H : Type) → List (DataW H) → Bool := fun _ ds => decide (uptoBulkAll ds ≤ 1048576)
def OpenSpec.upto (s : _root_.Go.ChangeSpec) : _root_.Go.OpenSpec := { _root_.Go.OpenSpec.ofChange s with cond := some uptoSmall }

/-- 'laws.FnExactHeightOf', WHERE WHAT IT READS IS OF BULK AT MOST 1048576: true; the input reads as it did. -/
def fnExactHeightOfUptoRow : OpenClaim := { program := "ythpfifjcallnbaa", sum := "ad6ef07e50ca4e86ceec82329a0f4aaac1c20db45a2e71c4c6f0237f38d5bada", func := "loop.example/pathcounts/laws.FnExactHeightOf", spec := "fnExactHeightOf", inPlace := ["internal/bytealg.IndexByteString"], unfollowed := true, recurses := true, plainKeys := false, apart := false, narrowed := true }
def FnExactHeightOfUptoSaid : Prop := fnExactHeightOfUptoRow.holds Try.pinned (OpenSpec.upto fnExactHeightOfSpec)

/-- 'laws.FnExactStepOf', WHERE WHAT IT READS IS OF BULK AT MOST 1048576: true; the input reads as it did. -/
def fnExactStepOfUptoRow : OpenClaim := { program := "ythpfifjcallnbaa", sum := "ad6ef07e50ca4e86ceec82329a0f4aaac1c20db45a2e71c4c6f0237f38d5bada", func := "loop.example/pathcounts/laws.FnExactStepOf", spec := "fnExactStepOf", inPlace := ["internal/bytealg.IndexByteString"], unfollowed := true, recurses := true, plainKeys := false, apart := false, narrowed := true }
def FnExactStepOfUptoSaid : Prop := fnExactStepOfUptoRow.holds Try.pinned (OpenSpec.upto fnExactStepOfSpec)

/-- 'laws.FnExactStepsOf', WHERE WHAT IT READS IS OF BULK AT MOST 1048576: true; the input reads as it did. -/
def fnExactStepsOfUptoRow : OpenClaim := { program := "ythpfifjcallnbaa", sum := "ad6ef07e50ca4e86ceec82329a0f4aaac1c20db45a2e71c4c6f0237f38d5bada", func := "loop.example/pathcounts/laws.FnExactStepsOf", spec := "fnExactStepsOf", inPlace := ["internal/bytealg.IndexByteString"], unfollowed := true, recurses := true, plainKeys := false, apart := false, narrowed := true }
def FnExactStepsOfUptoSaid : Prop := fnExactStepsOfUptoRow.holds Try.pinned (OpenSpec.upto fnExactStepsOfSpec)

/-- 'laws.FnExactSumOf', WHERE WHAT IT READS IS OF BULK AT MOST 1048576: true; the input reads as it did. -/
def fnExactSumOfUptoRow : OpenClaim := { program := "ythpfifjcallnbaa", sum := "ad6ef07e50ca4e86ceec82329a0f4aaac1c20db45a2e71c4c6f0237f38d5bada", func := "loop.example/pathcounts/laws.FnExactSumOf", spec := "fnExactSumOf", inPlace := ["internal/bytealg.IndexByteString"], unfollowed := true, recurses := true, plainKeys := false, apart := false, narrowed := true }
def FnExactSumOfUptoSaid : Prop := fnExactSumOfUptoRow.holds Try.pinned (OpenSpec.upto fnExactSumOfSpec)

/-- 'laws.FnExactCountAdds', WHERE WHAT IT READS IS OF BULK AT MOST 1048576: true; the input reads as it did. -/
def fnExactCountAddsUptoRow : OpenClaim := { program := "ythpfifjcallnbaa", sum := "ad6ef07e50ca4e86ceec82329a0f4aaac1c20db45a2e71c4c6f0237f38d5bada", func := "loop.example/pathcounts/laws.FnExactCountAdds", spec := "fnExactCountAdds", inPlace := ["internal/bytealg.IndexByteString"], unfollowed := true, recurses := true, plainKeys := false, apart := false, narrowed := true }
def FnExactCountAddsUptoSaid : Prop := fnExactCountAddsUptoRow.holds Try.pinned (OpenSpec.upto fnExactCountAddsSpec)

/-- 'laws.FnExactAddsOn', WHERE WHAT IT READS IS OF BULK AT MOST 1048576: true; the input reads as it did. -/
def fnExactAddsOnUptoRow : OpenClaim := { program := "ythpfifjcallnbaa", sum := "ad6ef07e50ca4e86ceec82329a0f4aaac1c20db45a2e71c4c6f0237f38d5bada", func := "loop.example/pathcounts/laws.FnExactAddsOn", spec := "fnExactAddsOn", inPlace := ["internal/bytealg.IndexByteString"], unfollowed := true, recurses := true, plainKeys := false, apart := false, narrowed := true }
def FnExactAddsOnUptoSaid : Prop := fnExactAddsOnUptoRow.holds Try.pinned (OpenSpec.upto fnExactAddsOnSpec)

/-- 'laws.FnExactRoundSum', WHERE WHAT IT READS IS OF BULK AT MOST 1048576: true; the input reads as it did. -/
def fnExactRoundSumUptoRow : OpenClaim := { program := "ythpfifjcallnbaa", sum := "ad6ef07e50ca4e86ceec82329a0f4aaac1c20db45a2e71c4c6f0237f38d5bada", func := "loop.example/pathcounts/laws.FnExactRoundSum", spec := "fnExactRoundSum", inPlace := ["internal/bytealg.IndexByteString", "internal/abi.NoEscape"], unfollowed := true, recurses := true, plainKeys := false, apart := false, narrowed := true }
def FnExactRoundSumUptoSaid : Prop := fnExactRoundSumUptoRow.holds Try.pinned (OpenSpec.upto fnExactRoundSumSpec)

/-- 'laws.FnExactFewestAdds', WHERE WHAT IT READS IS OF BULK AT MOST 1048576: true; the input reads as it did. -/
def fnExactFewestAddsUptoRow : OpenClaim := { program := "ythpfifjcallnbaa", sum := "ad6ef07e50ca4e86ceec82329a0f4aaac1c20db45a2e71c4c6f0237f38d5bada", func := "loop.example/pathcounts/laws.FnExactFewestAdds", spec := "fnExactFewestAdds", inPlace := ["internal/bytealg.IndexByteString"], unfollowed := true, recurses := true, plainKeys := false, apart := false, narrowed := true }
def FnExactFewestAddsUptoSaid : Prop := fnExactFewestAddsUptoRow.holds Try.pinned (OpenSpec.upto fnExactFewestAddsSpec)

end Rows
end Go.Proofs.Ythpfifjcallnbaa
