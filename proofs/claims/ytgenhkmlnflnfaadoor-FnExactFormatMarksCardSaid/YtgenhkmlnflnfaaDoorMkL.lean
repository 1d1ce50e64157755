/- The Ops of marks. -/
import Derived.Test.YtgenhkmlnflnfaaDoorMkB
namespace Go.Proofs.YtgenhkmlnflnfaaDoor
open Go.RowKit

/-- the Ops: set, add, fix, empty, others -/
theorem op_cases (a : ByteArray) :
    ((a.toList == [115, 101, 116]) = true ∧ (a.toList == [97, 100, 100]) = false ∧ (a.toList == [102, 105, 120]) = false ∧ (a.toList == []) = false) ∨
    ((a.toList == [115, 101, 116]) = false ∧ (a.toList == [97, 100, 100]) = true ∧ (a.toList == [102, 105, 120]) = false ∧ (a.toList == []) = false) ∨
    ((a.toList == [115, 101, 116]) = false ∧ (a.toList == [97, 100, 100]) = false ∧ (a.toList == [102, 105, 120]) = true ∧ (a.toList == []) = false) ∨
    ((a.toList == [115, 101, 116]) = false ∧ (a.toList == [97, 100, 100]) = false ∧ (a.toList == [102, 105, 120]) = false ∧ (a.toList == []) = true) ∨
    ((a.toList == [115, 101, 116]) = false ∧ (a.toList == [97, 100, 100]) = false ∧ (a.toList == [102, 105, 120]) = false ∧ (a.toList == []) = false) := by
  obtain ⟨l, hl⟩ : ∃ l, a.toList = l := ⟨_, rfl⟩
  rw [hl]
  by_cases h1 : l = [115, 101, 116]
  · subst h1; exact .inl ⟨rfl, rfl, rfl, rfl⟩
  by_cases h2 : l = [97, 100, 100]
  · subst h2; exact .inr (.inl ⟨rfl, rfl, rfl, rfl⟩)
  by_cases h3 : l = [102, 105, 120]
  · subst h3; exact .inr (.inr (.inl ⟨rfl, rfl, rfl, rfl⟩))
  by_cases h4 : l = []
  · subst h4; exact .inr (.inr (.inr (.inl ⟨rfl, rfl, rfl, rfl⟩)))
  · exact .inr (.inr (.inr (.inr ⟨beq_eq_false_iff_ne.2 h1, beq_eq_false_iff_ne.2 h2, beq_eq_false_iff_ne.2 h3, beq_eq_false_iff_ne.2 h4⟩)))

end Go.Proofs.YtgenhkmlnflnfaaDoor
