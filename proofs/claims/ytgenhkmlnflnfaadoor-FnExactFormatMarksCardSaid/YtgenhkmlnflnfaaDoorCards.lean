/-
  DERIVED. GIVEN WITH THE SEED: THE CARDS: each row of YtgenhkmlnflnfaaDoorRows.lean that lists a variable, with what it lists TIED to the program's text (the seventh form; the later family's looks); each row that meets fmt, with fmt's text TOLD by the authors' own Lean function (tested against real Go, not proved from fmt's source: count such statements apart). THE CARD IS WHAT COUNTS. Prove the row's statement (the work); the ties are given (YtgenhkmlnflnfaaDoorTie.lean); close each card by the builder's one call (the guide's Derived/Test/ToyasCard.lean, 'card_holds'). Laid BY PROGRAM, IN A SANDBOX (cutbox-door.mjs). By AI agents, Wed Nov 11 2026. No macro, syntax, notation, axiom, sorry.
-/
import Derived.Test.YtgenhkmlnflnfaaDoorRows
import GoSem.ClaimSeven
namespace Go.Proofs.YtgenhkmlnflnfaaDoor
namespace Rows

/-- THE TIED CARD OF 'laws.FnExactFormatMarks'. -/
def fnExactFormatMarksCard : Claim7 := { stood := { row := fnExactFormatMarksRow, standIns := [], harness := (true, "9bbcbce168b35fe0ea4b248d3acb8c9270e725ed47cfd110a0e68ea2a8efd67d"), looks := true }, kinds := [], alts := [], laidByText := true, laidKinds := [.data, .data, .data], laidTests := true, laidLooks := .later }
def FnExactFormatMarksCardSaid : Prop := Claim7.holds Tryd.pinned (.plain (OpenSpec.ofChange fnExactFormatMarksSpec)) fnExactFormatMarksCard

/-- THE SECOND FORM's CARD OF 'laws.FnExactFormatMarks'. -/
def fnExactFormatMarksUptoCard : Claim7 := { stood := { row := fnExactFormatMarksUptoRow, standIns := [], harness := (true, "9bbcbce168b35fe0ea4b248d3acb8c9270e725ed47cfd110a0e68ea2a8efd67d"), looks := true }, kinds := [], alts := [], laidByText := true, laidKinds := [.data, .data, .data], laidTests := true, laidLooks := .later }
def FnExactFormatMarksUptoCardSaid : Prop := Claim7.holds Tryd.pinned (.plain (OpenSpec.upto fnExactFormatMarksSpec)) fnExactFormatMarksUptoCard
end Rows
end Go.Proofs.YtgenhkmlnflnfaaDoor
