/- The reader of drawn bytes: a net drawn. What the reader and the net that grows keep through each other's calls. -/
import Derived.Test.YtkclbjgnaichhaaPut
import Derived.Test.YtkclbjgnaichhaaKnown
import Derived.Test.YtkclbjgnaichhaaDrawT
namespace Go.Proofs.Ytkclbjgnaichhaa
open Go.RowKit

theorem Rd.below {w w' : World} {R M base : Nat} {A : Option Addr} {cap : Nat} {xs : List UInt8} {p : Nat} (h : Rd w R M A cap xs p) (k : Below base w w') (hR : R < base) : Rd w' R M A cap xs p := by
  refine ⟨h.row.of_block (k.block R hR), fun i hi => ?_, h.low, h.few⟩
  obtain ⟨b, o, e, hl, h1⟩ := h.bytes i hi
  have := h.low
  exact ⟨b, o, e, hl, (k.cell (p := ⟨b, o + i, none⟩) (by simp only; omega)).trans h1⟩
theorem Adder.grown {w w' : World} {F base R : Nat} {B : ByteArray} {es : List (ByteArray × ByteArray)} (h : Adder w F base B es) (k : w.grownBy w' (some R)) (hR : R < base) (hF : base ≤ F) (hFl : F < w.heap.size) : Adder w' F base B es := by
  obtain ⟨g, c, hrow, hown⟩ := h
  have hg := ownA_ne hown hrow
  have hgl := (ownBlock_lt hown (b := g) rfl).2
  refine ⟨g, c, hrow.of_block (k.block F hFl (by intro e; injection e with e; omega)), ownD_keep hown (k.block g hgl (by intro e; injection e with e; omega))⟩
theorem Adder.below {w w' : World} {F base B0 : Nat} {B : ByteArray} {es : List (ByteArray × ByteArray)} (h : Adder w F base B es) (k : Below w.heap.size w w') (hFl : F < w.heap.size) : Adder w' F base B es := by
  obtain ⟨g, c, hrow, hown⟩ := h
  have hgl := (ownBlock_lt hown (b := g) rfl).2
  exact ⟨g, c, hrow.of_block (k.block F hFl), ownD_keep hown (k.block g hgl)⟩
/-- edges of a net that grows, as they lie -/
theorem Adder.edges {w : World} {F base : Nat} {B : ByteArray} {es : List (ByteArray × ByteArray)} (h : Adder w F base B es) : ∃ g c, w.rowIs F 83 2 (fun i => if i = 0 then .string B else .slice (some ⟨g, 0, none⟩) es.length c) ∧ EdgesIn w w.heap.size (some ⟨g, 0, none⟩) es := by
  obtain ⟨g, c, hrow, hown⟩ := h
  refine ⟨g, c, hrow, fun k hk => ?_⟩
  have hgl := (ownBlock_lt hown (b := g) rfl).2
  have hat : ∀ {es : List (ByteArray × ByteArray)} {i : Nat}, (hi : i < es.length) → (cellsD es)[i * 2]? = some (.string es[i].1) ∧ (cellsD es)[i * 2 + 1]? = some (.string es[i].2) := by
    intro es
    induction es with
    | nil => intro i hi; simp at hi
    | cons e es ih =>
      intro i hi
      cases i with
      | zero => exact ⟨rfl, rfl⟩
      | succ i =>
        obtain ⟨h1, h2⟩ := ih (i := i) (by simpa using hi)
        have e1 : (i + 1) * 2 = i * 2 + 2 := by omega
        have e2 : cellsD (e :: es) = .string e.1 :: .string e.2 :: cellsD es := rfl
        rw [e1, e2]
        exact ⟨h1, h2⟩
  have ha : ∀ n, (⟨g, 0, none⟩ : Addr).add n = ⟨g, n, none⟩ := fun n => by unfold Addr.add; split <;> simp_all
  have q1 := hown.cells (g := g) rfl (k * 2) _ (hat hk).1
  have q2 := hown.cells (g := g) rfl (k * 2 + 1) _ (hat hk).2
  rw [ha] at q1 q2
  exact ⟨g, 0, rfl, hgl, by rw [Nat.zero_add]; exact q1, by rw [Nat.zero_add]; exact q2⟩

end Go.Proofs.Ytkclbjgnaichhaa
