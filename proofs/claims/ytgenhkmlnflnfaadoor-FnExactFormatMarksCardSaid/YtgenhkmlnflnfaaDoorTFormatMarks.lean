/- FormatMarks answers as the model does, whatever the arguments: the card. -/
import Derived.Test.YtgenhkmlnflnfaaDoorRows
import Derived.Test.YtgenhkmlnflnfaaDoorCards
import Derived.Test.YtgenhkmlnflnfaaDoorTie
import Derived.Test.YtgenhkmlnflnfaaDoorSFormatMarks
import Derived.SevenTiedAt
namespace Go.Proofs.YtgenhkmlnflnfaaDoor
open Go.RowKit

theorem overFormatMarks : Rows.FnExactFormatMarksSaid :=
  OpenClaim.holds_of_wide 3 Tryd.f3 rfl rfl rfl rfl rfl rfl rfl ⟨rfl, rfl, rfl, rfl, rfl⟩ rfl rfl rfl rfl rfl (by kernel_rfl) Tryd.func3 (by kernel_rfl)
    (of_decide_eq_true (by kernel_rfl)) (by unfold Func.isWrapper; first | (rw [if_pos (by decide +kernel)]; kernel_rfl) | (rw [if_neg (by decide +kernel)]; exact ⟨rfl, rfl⟩))
    (fun os started H enc _ => liftedFormatMarks os started H enc)

/-- the statement -/
theorem provedFormatMarks : Rows.FnExactFormatMarksCardSaid :=
  Claim7.holds_tied_plain_at .later [] [.data, .data, .data] true (true, "9bbcbce168b35fe0ea4b248d3acb8c9270e725ed47cfd110a0e68ea2a8efd67d") true
    overFormatMarks (fun _ h => by cases h) (by kernel_rfl) (fun _ h => by cases h) fnExactFormatMarks_row_tie rfl ⟨rfl, rfl⟩ (by kernel_rfl) rfl
    (fun f fn hf hfn => by
      obtain rfl : f = 3 := Option.some.inj ((show Tryd.prog.funcNamed "loop.example/pathcounts/laws.FnExactFormatMarks" = some 3 by kernel_rfl).symm.trans hf) |>.symm
      obtain rfl : fn = Tryd.f3 := (Option.some.inj (Tryd.func3.symm.trans hfn)).symm
      exact ⟨by kernel_rfl, fun j t ht => by
        rw [Tryd.params3] at ht
        have h3 : t = 22 := by
          rcases j with _ | j
          · simpa using ht.symm
          · simp at ht
        subst h3
        exact (show Tryd.prog.wantsStandIn 22 = false by kernel_rfl)⟩)
    (by kernel_rfl)

end Go.Proofs.YtgenhkmlnflnfaaDoor
