/- ParseNet answers as the model does, whatever the text: the card. -/
import Derived.Test.YtghdjmjodgbghaaDoorRows
import Derived.Test.YtghdjmjodgbghaaDoorCards
import Derived.Test.YtghdjmjodgbghaaDoorTie
import Derived.Test.YtghdjmjodgbghaaDoorSParseNet
import Derived.SevenTiedAt
namespace Go.Proofs.YtghdjmjodgbghaaDoor
open Go.RowKit

theorem overParseNet : Rows.FnExactParseNetSaid :=
  OpenClaim.holds_of_wide 3 Tryd.f3 rfl rfl rfl rfl rfl rfl rfl ⟨rfl, rfl, rfl, rfl, rfl⟩ rfl rfl rfl rfl rfl (by kernel_rfl) Tryd.func3 (by kernel_rfl)
    (of_decide_eq_true (by kernel_rfl)) (by unfold Func.isWrapper; first | (rw [if_pos (by decide +kernel)]; kernel_rfl) | (rw [if_neg (by decide +kernel)]; exact ⟨rfl, rfl⟩))
    (fun os started H enc _ => liftedParseNet os started H enc)

/-- the statement -/
theorem provedParseNet : Rows.FnExactParseNetCardSaid :=
  Claim7.holds_tied_plain_at .later [] [.sentinel, .sentinel] true (true, "123063cd05c92d13ff465f96e83da71f0820a8cc5cc964ae1e9b960b61f3af9f") false
    overParseNet (fun _ h => by cases h) (by kernel_rfl) (fun _ h => by cases h) fnExactParseNet_row_tie rfl ⟨rfl, rfl⟩ (by kernel_rfl) rfl
    (fun f fn hf hfn => by
      obtain rfl : f = 3 := Option.some.inj ((show Tryd.prog.funcNamed "loop.example/pathcounts/laws.FnExactParseNet" = some 3 by kernel_rfl).symm.trans hf) |>.symm
      obtain rfl : fn = Tryd.f3 := (Option.some.inj (Tryd.func3.symm.trans hfn)).symm
      exact ⟨by kernel_rfl, fun j t ht => by
        rw [Tryd.params3] at ht
        have h3 : t = 9 := by
          rcases j with _ | j
          · simpa using ht.symm
          · simp at ht
        subst h3
        exact (show Tryd.prog.wantsStandIn 9 = false by kernel_rfl)⟩)
    (by kernel_rfl)

end Go.Proofs.YtghdjmjodgbghaaDoor
