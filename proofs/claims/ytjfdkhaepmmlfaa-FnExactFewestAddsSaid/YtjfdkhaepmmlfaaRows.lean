/-
  No cell of these rows narrows 'for every input' (looked for: loops, veiled, ifaces, maps, wideKeys, modest, calm, conditions, laid).
  DERIVED. THE GIVEN ROWS OF THIS SEAT. 5 by the template 'for every input the law returns true; each argument reads behind the call as it read before'; 0 by the template 'total and deterministic' (their statements: YtjfdkhaepmmlfaaTotals.lean).
  GIVEN WITH THE SEED: the statements are not yours to turn. If you find one false, say at which input.
  Laid BY PROGRAM, IN A SANDBOX (cutbox-rows.mjs): the forced cells as the released guide's own fill.sh prints them over the translation bc787802c7c51456… (all of the seat's roots in one cut). By AI agents, Wed Nov 11 2026. No macro, syntax, notation, axiom, sorry.
-/
import Derived.Test.YtjfdkhaepmmlfaaChecked
import GoSem.Claim
import GoSem.ClaimJoined
import GoSem.ClaimMapViews
import Derived.JoinedTies
import Derived.KernelRfl
namespace Go.Proofs.Ytjfdkhaepmmlfaa
/- THE CELL 'sum', in the pinned program and in every row, IS THE sha256 OF THE DUMP (.gsa) THAT YtjfdkhaepmmlfaaProg.lean LOADS. Nothing in Lean hashes anything: it is a label: what it is worth is what the hold of that sum in a sandbox is worth. -/
noncomputable def Try.pinned : Pinned := { name := "ytjfdkhaepmmlfaa", sum := "bc787802c7c51456302bb6a0745f21d48614136079671da47f0276d2d645bedb", checked := Try.checked }
namespace Rows
def none {H : Type} : Left H := { results := [], args := [] }

/-- 'laws.FnExactFewestAdds': WHATEVER THE INPUT: true; the input reads as it did. -/
def fnExactFewestAddsSpec : ChangeSpec := { name := "fnExactFewestAdds", fn := fun _ => fun
  | [d] => { results := [.lit (.bool true)], args := [d] }
  | _ => none }
def fnExactFewestAddsRow : OpenClaim := { program := "ytjfdkhaepmmlfaa", sum := "bc787802c7c51456302bb6a0745f21d48614136079671da47f0276d2d645bedb", func := "loop.example/pathcounts/laws.FnExactFewestAdds", spec := "fnExactFewestAdds", inPlace := ["internal/bytealg.IndexByteString"], unfollowed := true, recurses := true, plainKeys := false, apart := false }
def FnExactFewestAddsSaid : Prop := fnExactFewestAddsRow.holds Try.pinned (OpenSpec.ofChange fnExactFewestAddsSpec)

/-- ITS FALSE NEIGHBOUR: 'it returns false'. Refute it at one input. -/
def fnExactFewestAddsWrong : ChangeSpec := { name := "fnExactFewestAdds", fn := fun _ => fun
  | [d] => { results := [.lit (.bool false)], args := [d] }
  | _ => none }
def FnExactFewestAddsWrongFalsely : Prop := fnExactFewestAddsRow.holds Try.pinned (OpenSpec.ofChange fnExactFewestAddsWrong)

/-- 'laws.FnExactMarksValid': WHATEVER THE INPUT: true; the input reads as it did. -/
def fnExactMarksValidSpec : ChangeSpec := { name := "fnExactMarksValid", fn := fun _ => fun
  | [d1, d2] => { results := [.lit (.bool true)], args := [d1, d2] }
  | _ => none }
def fnExactMarksValidRow : OpenClaim := { program := "ytjfdkhaepmmlfaa", sum := "bc787802c7c51456302bb6a0745f21d48614136079671da47f0276d2d645bedb", func := "loop.example/pathcounts/laws.FnExactMarksValid", spec := "fnExactMarksValid", inPlace := ["internal/bytealg.IndexByteString"], unfollowed := true, recurses := true, plainKeys := false, apart := false }
def FnExactMarksValidSaid : Prop := fnExactMarksValidRow.holds Try.pinned (OpenSpec.ofChange fnExactMarksValidSpec)

/-- ITS FALSE NEIGHBOUR: 'it returns false'. Refute it at one input. -/
def fnExactMarksValidWrong : ChangeSpec := { name := "fnExactMarksValid", fn := fun _ => fun
  | [d1, d2] => { results := [.lit (.bool false)], args := [d1, d2] }
  | _ => none }
def FnExactMarksValidWrongFalsely : Prop := fnExactMarksValidRow.holds Try.pinned (OpenSpec.ofChange fnExactMarksValidWrong)

/-- 'laws.FnExactPlainMarks': WHATEVER THE INPUT: true; the input reads as it did. -/
def fnExactPlainMarksSpec : ChangeSpec := { name := "fnExactPlainMarks", fn := fun _ => fun
  | [d] => { results := [.lit (.bool true)], args := [d] }
  | _ => none }
def fnExactPlainMarksRow : OpenClaim := { program := "ytjfdkhaepmmlfaa", sum := "bc787802c7c51456302bb6a0745f21d48614136079671da47f0276d2d645bedb", func := "loop.example/pathcounts/laws.FnExactPlainMarks", spec := "fnExactPlainMarks", inPlace := ["internal/bytealg.IndexByteString"], unfollowed := true, recurses := true, plainKeys := false, apart := false }
def FnExactPlainMarksSaid : Prop := fnExactPlainMarksRow.holds Try.pinned (OpenSpec.ofChange fnExactPlainMarksSpec)

/-- ITS FALSE NEIGHBOUR: 'it returns false'. Refute it at one input. -/
def fnExactPlainMarksWrong : ChangeSpec := { name := "fnExactPlainMarks", fn := fun _ => fun
  | [d] => { results := [.lit (.bool false)], args := [d] }
  | _ => none }
def FnExactPlainMarksWrongFalsely : Prop := fnExactPlainMarksRow.holds Try.pinned (OpenSpec.ofChange fnExactPlainMarksWrong)

/-- 'laws.FnExactTreeMarks': WHATEVER THE INPUT: true; the input reads as it did. -/
def fnExactTreeMarksSpec : ChangeSpec := { name := "fnExactTreeMarks", fn := fun _ => fun
  | [d1, d2] => { results := [.lit (.bool true)], args := [d1, d2] }
  | _ => none }
def fnExactTreeMarksRow : OpenClaim := { program := "ytjfdkhaepmmlfaa", sum := "bc787802c7c51456302bb6a0745f21d48614136079671da47f0276d2d645bedb", func := "loop.example/pathcounts/laws.FnExactTreeMarks", spec := "fnExactTreeMarks", inPlace := ["internal/bytealg.IndexByteString"], unfollowed := true, recurses := true, plainKeys := false, apart := false }
def FnExactTreeMarksSaid : Prop := fnExactTreeMarksRow.holds Try.pinned (OpenSpec.ofChange fnExactTreeMarksSpec)

/-- ITS FALSE NEIGHBOUR: 'it returns false'. Refute it at one input. -/
def fnExactTreeMarksWrong : ChangeSpec := { name := "fnExactTreeMarks", fn := fun _ => fun
  | [d1, d2] => { results := [.lit (.bool false)], args := [d1, d2] }
  | _ => none }
def FnExactTreeMarksWrongFalsely : Prop := fnExactTreeMarksRow.holds Try.pinned (OpenSpec.ofChange fnExactTreeMarksWrong)

/-- 'laws.FnExactCountMarks': WHATEVER THE INPUT: true; the input reads as it did. -/
def fnExactCountMarksSpec : ChangeSpec := { name := "fnExactCountMarks", fn := fun _ => fun
  | [d] => { results := [.lit (.bool true)], args := [d] }
  | _ => none }
def fnExactCountMarksRow : OpenClaim := { program := "ytjfdkhaepmmlfaa", sum := "bc787802c7c51456302bb6a0745f21d48614136079671da47f0276d2d645bedb", func := "loop.example/pathcounts/laws.FnExactCountMarks", spec := "fnExactCountMarks", unfollowed := true, recurses := true, plainKeys := false, apart := false }
def FnExactCountMarksSaid : Prop := fnExactCountMarksRow.holds Try.pinned (OpenSpec.ofChange fnExactCountMarksSpec)

/-- ITS FALSE NEIGHBOUR: 'it returns false'. Refute it at one input. -/
def fnExactCountMarksWrong : ChangeSpec := { name := "fnExactCountMarks", fn := fun _ => fun
  | [d] => { results := [.lit (.bool false)], args := [d] }
  | _ => none }
def FnExactCountMarksWrongFalsely : Prop := fnExactCountMarksRow.holds Try.pinned (OpenSpec.ofChange fnExactCountMarksWrong)

/- THE SECOND FORM. 'bulk': how many values and letters a reading holds, each counted each time it is reached (what is shared counts as often as it is met; a slice's spare places count too). A statement '..UptoSaid' is the law's where the arguments, and the package variables that the reading takes, are together of bulk at most 1048576: NARROWER than '..Said'. Prove '..Said' where nothing that the law and all that it calls make is longer than what came in: it says more and counts as full. Else prove '..UptoSaid'. A law counts once. -/
mutual
def uptoBulk {H : Type} : DataW H → Nat
  | .lit (.string bytes) => bytes.length + 1
  | .lit _ => 1
  | .nil => 1
  | .ptr d => uptoBulk d + 1
  | .slice elems spare => uptoBulkAll elems + uptoBulkAll spare + 1
  | .agg parts => uptoBulkAll parts + 1
  | .iface _ d => uptoBulk d + 1
  | .map entries => uptoBulkEntries entries + 1
  | .held _ => 1
def uptoBulkAll {H : Type} : List (DataW H) → Nat
  | [] => 0
  | d :: r => uptoBulk d + uptoBulkAll r
def uptoBulkEntries {H : Type} : List (Lit × DataW H) → Nat
  | [] => 0
  | x :: r => uptoBulkEntry x + uptoBulkEntries r
def uptoBulkEntry {H : Type} : Lit × DataW H → Nat
  | (.string bytes, d) => bytes.length + uptoBulk d + 1
  | (_, d) => uptoBulk d + 1
 end
def uptoSmall : (H : Type) → List (DataW H) → Bool := fun _ ds => decide (uptoBulkAll ds ≤ 1048576)
def OpenSpec.upto (s : _root_.Go.ChangeSpec) : _root_.Go.OpenSpec := { _root_.Go.OpenSpec.ofChange s with cond := some uptoSmall }

/-- 'laws.FnExactFewestAdds', WHERE WHAT IT READS IS OF BULK AT MOST 1048576: true; the input reads as it did. -/
def fnExactFewestAddsUptoRow : OpenClaim := { program := "ytjfdkhaepmmlfaa", sum := "bc787802c7c51456302bb6a0745f21d48614136079671da47f0276d2d645bedb", func := "loop.example/pathcounts/laws.FnExactFewestAdds", spec := "fnExactFewestAdds", inPlace := ["internal/bytealg.IndexByteString"], unfollowed := true, recurses := true, plainKeys := false, apart := false, narrowed := true }
def FnExactFewestAddsUptoSaid : Prop := fnExactFewestAddsUptoRow.holds Try.pinned (OpenSpec.upto fnExactFewestAddsSpec)

/-- 'laws.FnExactMarksValid', WHERE WHAT IT READS IS OF BULK AT MOST 1048576: true; the input reads as it did. -/
def fnExactMarksValidUptoRow : OpenClaim := { program := "ytjfdkhaepmmlfaa", sum := "bc787802c7c51456302bb6a0745f21d48614136079671da47f0276d2d645bedb", func := "loop.example/pathcounts/laws.FnExactMarksValid", spec := "fnExactMarksValid", inPlace := ["internal/bytealg.IndexByteString"], unfollowed := true, recurses := true, plainKeys := false, apart := false, narrowed := true }
def FnExactMarksValidUptoSaid : Prop := fnExactMarksValidUptoRow.holds Try.pinned (OpenSpec.upto fnExactMarksValidSpec)

/-- 'laws.FnExactPlainMarks', WHERE WHAT IT READS IS OF BULK AT MOST 1048576: true; the input reads as it did. -/
def fnExactPlainMarksUptoRow : OpenClaim := { program := "ytjfdkhaepmmlfaa", sum := "bc787802c7c51456302bb6a0745f21d48614136079671da47f0276d2d645bedb", func := "loop.example/pathcounts/laws.FnExactPlainMarks", spec := "fnExactPlainMarks", inPlace := ["internal/bytealg.IndexByteString"], unfollowed := true, recurses := true, plainKeys := false, apart := false, narrowed := true }
def FnExactPlainMarksUptoSaid : Prop := fnExactPlainMarksUptoRow.holds Try.pinned (OpenSpec.upto fnExactPlainMarksSpec)

/-- 'laws.FnExactTreeMarks', WHERE WHAT IT READS IS OF BULK AT MOST 1048576: true; the input reads as it did. -/
def fnExactTreeMarksUptoRow : OpenClaim := { program := "ytjfdkhaepmmlfaa", sum := "bc787802c7c51456302bb6a0745f21d48614136079671da47f0276d2d645bedb", func := "loop.example/pathcounts/laws.FnExactTreeMarks", spec := "fnExactTreeMarks", inPlace := ["internal/bytealg.IndexByteString"], unfollowed := true, recurses := true, plainKeys := false, apart := false, narrowed := true }
def FnExactTreeMarksUptoSaid : Prop := fnExactTreeMarksUptoRow.holds Try.pinned (OpenSpec.upto fnExactTreeMarksSpec)

/-- 'laws.FnExactCountMarks', WHERE WHAT IT READS IS OF BULK AT MOST 1048576: true; the input reads as it did. -/
def fnExactCountMarksUptoRow : OpenClaim := { program := "ytjfdkhaepmmlfaa", sum := "bc787802c7c51456302bb6a0745f21d48614136079671da47f0276d2d645bedb", func := "loop.example/pathcounts/laws.FnExactCountMarks", spec := "fnExactCountMarks", unfollowed := true, recurses := true, plainKeys := false, apart := false, narrowed := true }
def FnExactCountMarksUptoSaid : Prop := fnExactCountMarksUptoRow.holds Try.pinned (OpenSpec.upto fnExactCountMarksSpec)

end Rows
end Go.Proofs.Ytjfdkhaepmmlfaa
