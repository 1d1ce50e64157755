/-
  No cell of these rows narrows 'for every input' (looked for: loops, veiled, ifaces, maps, wideKeys, modest, calm, conditions, laid).
  DERIVED. THE GIVEN ROWS OF THIS SEAT. 4 by the template 'for every input the law returns true; each argument reads behind the call as it read before'; 0 by the template 'total and deterministic' (their statements: YtpeafheljcjlhaaGreatTotals.lean).
  GIVEN WITH THE SEED: the statements are not yours to turn. If you find one false, say at which input.
  Laid BY PROGRAM, IN A SANDBOX (cutbox-rows.mjs): the forced cells as the released guide's own fill.sh prints them over the translation 178ffffaa09bdd5b… (all of the seat's roots in one cut). By AI agents, Wed Nov 11 2026. No macro, syntax, notation, axiom, sorry.
-/
import Derived.Test.YtpeafheljcjlhaaGreatChecked
import GoSem.Claim
import GoSem.ClaimJoined
import GoSem.ClaimMapViews
import Derived.JoinedTies
import Derived.KernelRfl
namespace Go.Proofs.YtpeafheljcjlhaaGreat
/- THE CELL 'sum', in the pinned program and in every row, IS THE sha256 OF THE DUMP (.gsa) THAT YtpeafheljcjlhaaGreatProg.lean LOADS. Nothing in Lean hashes anything: it is a label: what it is worth is what the hold of that sum in a sandbox is worth. -/
noncomputable def Tryz.pinned : Pinned := { name := "ytpeafheljcjlhaagreat", sum := "178ffffaa09bdd5bbd335200079977eb14e4ea249c8bb88c36d8630957910a3e", checked := Tryz.checked }
namespace Rows
def none {H : Type} : Left H := { results := [], args := [] }

/-- 'laws.FnExactPartRuns': WHATEVER THE INPUT: true; the input reads as it did. -/
def fnExactPartRunsSpec : ChangeSpec := { name := "fnExactPartRuns", fn := fun _ => fun
  | [d1, d2] => { results := [.lit (.bool true)], args := [d1, d2] }
  | _ => none }
def fnExactPartRunsRow : OpenClaim := { program := "ytpeafheljcjlhaagreat", sum := "178ffffaa09bdd5bbd335200079977eb14e4ea249c8bb88c36d8630957910a3e", func := "loop.example/pathcounts/laws.FnExactPartRuns", spec := "fnExactPartRuns", inPlace := ["internal/bytealg.IndexByteString", "internal/bytealg.IndexString", "internal/abi.NoEscape"], unfollowed := true, recurses := true, named := ["internal/bytealg.MaxLen"], plainKeys := false, apart := false }
def FnExactPartRunsSaid : Prop := fnExactPartRunsRow.holds Tryz.pinned (OpenSpec.ofChange fnExactPartRunsSpec)

/-- ITS FALSE NEIGHBOUR: 'it returns false'. Refute it at one input. -/
def fnExactPartRunsWrong : ChangeSpec := { name := "fnExactPartRuns", fn := fun _ => fun
  | [d1, d2] => { results := [.lit (.bool false)], args := [d1, d2] }
  | _ => none }
def FnExactPartRunsWrongFalsely : Prop := fnExactPartRunsRow.holds Tryz.pinned (OpenSpec.ofChange fnExactPartRunsWrong)

/-- 'laws.FnExactSplitRun': WHATEVER THE INPUT: true; the input reads as it did. -/
def fnExactSplitRunSpec : ChangeSpec := { name := "fnExactSplitRun", fn := fun _ => fun
  | [d1, d2] => { results := [.lit (.bool true)], args := [d1, d2] }
  | _ => none }
def fnExactSplitRunRow : OpenClaim := { program := "ytpeafheljcjlhaagreat", sum := "178ffffaa09bdd5bbd335200079977eb14e4ea249c8bb88c36d8630957910a3e", func := "loop.example/pathcounts/laws.FnExactSplitRun", spec := "fnExactSplitRun", inPlace := ["internal/bytealg.IndexByteString", "internal/bytealg.IndexString", "internal/abi.NoEscape"], unfollowed := true, recurses := true, named := ["internal/bytealg.MaxLen"], plainKeys := false, apart := false }
def FnExactSplitRunSaid : Prop := fnExactSplitRunRow.holds Tryz.pinned (OpenSpec.ofChange fnExactSplitRunSpec)

/-- ITS FALSE NEIGHBOUR: 'it returns false'. Refute it at one input. -/
def fnExactSplitRunWrong : ChangeSpec := { name := "fnExactSplitRun", fn := fun _ => fun
  | [d1, d2] => { results := [.lit (.bool false)], args := [d1, d2] }
  | _ => none }
def FnExactSplitRunWrongFalsely : Prop := fnExactSplitRunRow.holds Tryz.pinned (OpenSpec.ofChange fnExactSplitRunWrong)

/-- 'laws.FnExactNumberKind': WHATEVER THE INPUT: true; the input reads as it did. -/
def fnExactNumberKindSpec : ChangeSpec := { name := "fnExactNumberKind", fn := fun _ => fun
  | [d1, d2] => { results := [.lit (.bool true)], args := [d1, d2] }
  | _ => none }
def fnExactNumberKindRow : OpenClaim := { program := "ytpeafheljcjlhaagreat", sum := "178ffffaa09bdd5bbd335200079977eb14e4ea249c8bb88c36d8630957910a3e", func := "loop.example/pathcounts/laws.FnExactNumberKind", spec := "fnExactNumberKind", inPlace := ["internal/bytealg.IndexByteString", "internal/bytealg.IndexString", "internal/abi.NoEscape"], unfollowed := true, recurses := true, named := ["internal/bytealg.MaxLen"], plainKeys := false, apart := false }
def FnExactNumberKindSaid : Prop := fnExactNumberKindRow.holds Tryz.pinned (OpenSpec.ofChange fnExactNumberKindSpec)

/-- ITS FALSE NEIGHBOUR: 'it returns false'. Refute it at one input. -/
def fnExactNumberKindWrong : ChangeSpec := { name := "fnExactNumberKind", fn := fun _ => fun
  | [d1, d2] => { results := [.lit (.bool false)], args := [d1, d2] }
  | _ => none }
def FnExactNumberKindWrongFalsely : Prop := fnExactNumberKindRow.holds Tryz.pinned (OpenSpec.ofChange fnExactNumberKindWrong)

/-- 'laws.FnExactCountParts': WHATEVER THE INPUT: true; the input reads as it did. -/
def fnExactCountPartsSpec : ChangeSpec := { name := "fnExactCountParts", fn := fun _ => fun
  | [d1, d2] => { results := [.lit (.bool true)], args := [d1, d2] }
  | _ => none }
def fnExactCountPartsRow : OpenClaim := { program := "ytpeafheljcjlhaagreat", sum := "178ffffaa09bdd5bbd335200079977eb14e4ea249c8bb88c36d8630957910a3e", func := "loop.example/pathcounts/laws.FnExactCountParts", spec := "fnExactCountParts", inPlace := ["internal/bytealg.IndexByteString", "internal/bytealg.IndexString", "internal/abi.NoEscape"], unfollowed := true, recurses := true, named := ["internal/bytealg.MaxLen"], plainKeys := false, apart := false }
def FnExactCountPartsSaid : Prop := fnExactCountPartsRow.holds Tryz.pinned (OpenSpec.ofChange fnExactCountPartsSpec)

/-- ITS FALSE NEIGHBOUR: 'it returns false'. Refute it at one input. -/
def fnExactCountPartsWrong : ChangeSpec := { name := "fnExactCountParts", fn := fun _ => fun
  | [d1, d2] => { results := [.lit (.bool false)], args := [d1, d2] }
  | _ => none }
def FnExactCountPartsWrongFalsely : Prop := fnExactCountPartsRow.holds Tryz.pinned (OpenSpec.ofChange fnExactCountPartsWrong)

/- THE SECOND FORM. 'bulk': how many values and letters a reading holds, each counted each time it is reached (what is shared counts as often as it is met; a slice's spare places count too). A statement '..UptoSaid' is the law's where the arguments, and the package variables that the reading takes, are together of bulk at most 1048576: NARROWER than '..Said'. Prove '..Said' where nothing that the law and all that it calls make is longer than what came in: it says more and counts as full. Else prove '..UptoSaid'. A law counts once. -/
mutual
def uptoBulk {H : Type} : DataW H → Nat
  | .lit (.string bytes) => bytes.length + 1
  | .lit _ => 1
  | .nil => 1
  | .ptr d => uptoBulk d + 1
  | .slice elems spare => uptoBulkAll elems + uptoBulkAll spare + 1
  | .agg parts => uptoBulkAll parts + 1
  | .iface _ d => uptoBulk d + 1
  | .map entries => uptoBulkEntries entries + 1
  | .held _ => 1
def uptoBulkAll {H : Type} : List (DataW H) → Nat
  | [] => 0
  | d :: r => uptoBulk d + uptoBulkAll r
def uptoBulkEntries {H : Type} : List (Lit × DataW H) → Nat
  | [] => 0
  | x :: r => uptoBulkEntry x + uptoBulkEntries r
def uptoBulkEntry {H : Type} : Lit × DataW H → Nat
  | (.string bytes, d) => bytes.length + uptoBulk d + 1
  | (_, d) => uptoBulk d + 1
 end
def uptoSmall : (H : Type) → List (DataW H) → Bool := fun _ ds => decide (uptoBulkAll ds ≤ 1048576)
def OpenSpec.upto (s : _root_.Go.ChangeSpec) : _root_.Go.OpenSpec := { _root_.Go.OpenSpec.ofChange s with cond := some uptoSmall }

/-- 'laws.FnExactPartRuns', WHERE WHAT IT READS IS OF BULK AT MOST 1048576: true; the input reads as it did. -/
def fnExactPartRunsUptoRow : OpenClaim := { program := "ytpeafheljcjlhaagreat", sum := "178ffffaa09bdd5bbd335200079977eb14e4ea249c8bb88c36d8630957910a3e", func := "loop.example/pathcounts/laws.FnExactPartRuns", spec := "fnExactPartRuns", inPlace := ["internal/bytealg.IndexByteString", "internal/bytealg.IndexString", "internal/abi.NoEscape"], unfollowed := true, recurses := true, named := ["internal/bytealg.MaxLen"], plainKeys := false, apart := false, narrowed := true }
def FnExactPartRunsUptoSaid : Prop := fnExactPartRunsUptoRow.holds Tryz.pinned (OpenSpec.upto fnExactPartRunsSpec)

/-- 'laws.FnExactSplitRun', WHERE WHAT IT READS IS OF BULK AT MOST 1048576: true; the input reads as it did. -/
def fnExactSplitRunUptoRow : OpenClaim := { program := "ytpeafheljcjlhaagreat", sum := "178ffffaa09bdd5bbd335200079977eb14e4ea249c8bb88c36d8630957910a3e", func := "loop.example/pathcounts/laws.FnExactSplitRun", spec := "fnExactSplitRun", inPlace := ["internal/bytealg.IndexByteString", "internal/bytealg.IndexString", "internal/abi.NoEscape"], unfollowed := true, recurses := true, named := ["internal/bytealg.MaxLen"], plainKeys := false, apart := false, narrowed := true }
def FnExactSplitRunUptoSaid : Prop := fnExactSplitRunUptoRow.holds Tryz.pinned (OpenSpec.upto fnExactSplitRunSpec)

/-- 'laws.FnExactNumberKind', WHERE WHAT IT READS IS OF BULK AT MOST 1048576: true; the input reads as it did. -/
def fnExactNumberKindUptoRow : OpenClaim := { program := "ytpeafheljcjlhaagreat", sum := "178ffffaa09bdd5bbd335200079977eb14e4ea249c8bb88c36d8630957910a3e", func := "loop.example/pathcounts/laws.FnExactNumberKind", spec := "fnExactNumberKind", inPlace := ["internal/bytealg.IndexByteString", "internal/bytealg.IndexString", "internal/abi.NoEscape"], unfollowed := true, recurses := true, named := ["internal/bytealg.MaxLen"], plainKeys := false, apart := false, narrowed := true }
def FnExactNumberKindUptoSaid : Prop := fnExactNumberKindUptoRow.holds Tryz.pinned (OpenSpec.upto fnExactNumberKindSpec)

/-- 'laws.FnExactCountParts', WHERE WHAT IT READS IS OF BULK AT MOST 1048576: true; the input reads as it did. -/
def fnExactCountPartsUptoRow : OpenClaim := { program := "ytpeafheljcjlhaagreat", sum := "178ffffaa09bdd5bbd335200079977eb14e4ea249c8bb88c36d8630957910a3e", func := "loop.example/pathcounts/laws.FnExactCountParts", spec := "fnExactCountParts", inPlace := ["internal/bytealg.IndexByteString", "internal/bytealg.IndexString", "internal/abi.NoEscape"], unfollowed := true, recurses := true, named := ["internal/bytealg.MaxLen"], plainKeys := false, apart := false, narrowed := true }
def FnExactCountPartsUptoSaid : Prop := fnExactCountPartsUptoRow.holds Tryz.pinned (OpenSpec.upto fnExactCountPartsSpec)

end Rows
end Go.Proofs.YtpeafheljcjlhaaGreat
