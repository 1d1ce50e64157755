/- What a yield keeps that writes a few cells of its own. -/
import Derived.Test.YtjfdkhaepmmlfaaLeaves
namespace Go.Proofs.Ytjfdkhaepmmlfaa
open Go.RowKit

/-- what a yield keeps: the blocks below D; all cells but those from D on below E; what is no cells and lies above l -/
structure KeepZ (D E l : Nat) (A B : World) : Prop where
  size : A.heap.size ≤ B.heap.size
  low : ∀ i, i < D → B.heap[i]? = A.heap[i]?
  cells : ∀ (i : Nat) (C : Array Value) (T : TypeId) (fr : Nat × Nat), A.heap[i]? = some (Obj.cells C T fr) → (i < D ∨ E ≤ i) → B.heap[i]? = some (Obj.cells C T fr)
  others : ∀ (i : Nat) (o : Obj), l < i → A.heap[i]? = some o → o.isCells = false → B.heap[i]? = some o
theorem KeepZ.refl (D E l : Nat) (A : World) : KeepZ D E l A A := ⟨Nat.le_refl _, fun _ _ => rfl, fun _ _ _ _ h _ => h, fun _ _ _ h _ => h⟩
theorem KeepZ.trans {D E l : Nat} {A B C : World} (h : KeepZ D E l A B) (k : KeepZ D E l B C) : KeepZ D E l A C :=
  ⟨Nat.le_trans h.size k.size, fun i hi => (k.low i hi).trans (h.low i hi), fun i X T fr hi h1 => k.cells i X T fr (h.cells i X T fr hi h1) h1, fun i o hl hi ho => k.others i o hl (h.others i o hl hi ho) ho⟩
theorem KeepZ.mono {D E l l' : Nat} {A B : World} (h : KeepZ D E l A B) (hl : l ≤ l') : KeepZ D E l' A B := ⟨h.size, h.low, h.cells, fun i o hi => h.others i o (by omega)⟩
theorem KeepZ.put {D E l : Nat} {W : World} {o o' : Obj} (h : W.heap[l]? = some o) (ho : o.isCells = false) (hD : D ≤ l) : KeepZ D E l W (W.putObj l o') := by
  have hb := below_put (B := D) (o' := o') h hD
  refine ⟨hb.size, fun i hi => hb.block i hi, fun i C T fr hi _ => ?_, fun i o2 hl hi _ => (World.putObj_heap_other (by omega)).trans hi⟩
  by_cases e : i = l
  · subst e; rw [h] at hi; injection hi with hi; subst hi; simp [Obj.isCells] at ho
  · exact (World.putObj_heap_other e).trans hi
theorem KeepZ.from {D E l B : Nat} {A A' : World} (h : KeepZ D E l A A') (hl : l < B) : KeepsFrom B A A' := ⟨h.size, fun i o hi ho hc => h.others i o (by omega) ho hc⟩
theorem KeepZ.of_below {D E l : Nat} {A B : World} (h : Below A.heap.size A B) (hD : D ≤ A.heap.size) : KeepZ D E l A B :=
  ⟨h.size, fun i hi => h.block i (by omega), fun i C T fr hi _ => (h.block i (Array.getElem?_eq_some_iff.1 hi).1).trans hi, fun i o _ hi _ => (h.block i (Array.getElem?_eq_some_iff.1 hi).1).trans hi⟩
theorem KeepZ.then {D E l B : Nat} {A V V' : World} (h : KeepZ D E l A V) (k : KeepT B V V') (hD : D ≤ B) (hA : A.heap.size ≤ B) : KeepZ D E l A V' :=
  ⟨Nat.le_trans h.size k.size, fun i hi => (k.low i (by omega)).trans (h.low i hi), fun i C T fr hi h1 => (k.low i (by have := (Array.getElem?_eq_some_iff.1 hi).1; omega)).trans (h.cells i C T fr hi h1),
    fun i o hl hi ho => (k.low i (by have := (Array.getElem?_eq_some_iff.1 hi).1; omega)).trans (h.others i o hl hi ho)⟩
theorem Marks.keepZ {lo D E k : Nat} {ds : List Deferred} {V V' : World} (h : Marks lo ds V) (hk : KeepZ D E k V V') (hlo : k < lo) : Marks lo ds V' := by
  induction ds with
  | nil => trivial
  | cons d ds ih =>
    obtain ⟨D', rfl, h1, h2, h3, h4⟩ := h
    exact ⟨D', rfl, h1, hk.others D' _ (by omega) h2 rfl, h3, ih h4⟩
/-- a step that writes blocks from D on below E, and makes memory -/
theorem KeepZ.written {D E l : Nat} {A B : World} (hs : A.heap.size ≤ B.heap.size) (hb : ∀ i, i < A.heap.size → (i < D ∨ E ≤ i) → B.heap[i]? = A.heap[i]?) (ho : ∀ i, D ≤ i → i < E → i ≤ l) (hD : D ≤ A.heap.size) : KeepZ D E l A B := by
  refine ⟨hs, fun i hi => hb i (by omega) (.inl hi), fun i C T fr hi h => (hb i (Array.getElem?_eq_some_iff.1 hi).1 h).trans hi, fun i o hl hi _ => (hb i (Array.getElem?_eq_some_iff.1 hi).1 ?_).trans hi⟩
  by_cases h : i < D
  · exact .inl h
  · by_cases h' : E ≤ i
    · exact .inr h'
    · exact absurd (ho i (by omega) (by omega)) (by omega)

end Go.Proofs.Ytjfdkhaepmmlfaa
