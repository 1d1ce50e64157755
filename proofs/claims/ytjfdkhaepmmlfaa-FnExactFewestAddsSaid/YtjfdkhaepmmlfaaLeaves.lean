/- What ranges leave on the deferred calls. -/
import Derived.Test.YtjfdkhaepmmlfaaRangeT
import Derived.Test.YtjfdkhaepmmlfaaNet1
namespace Go.Proofs.Ytjfdkhaepmmlfaa
open Go.RowKit
attribute [local go_sem] Oper.semAt_some

/-- marks on the deferred calls, none of which hands over a call -/
def Marks (lo : Nat) : List Deferred → World → Prop
  | [], _ => True
  | d :: ds, V => ∃ D, d = { target := .collected D, args := #[] } ∧ lo ≤ D ∧ V.heap[D]? = some (.deferred (some [])) ∧ (∀ d' ∈ ds, d'.target ≠ .collected D) ∧ Marks lo ds V
theorem Marks.lt {lo : Nat} : ∀ {ds : List Deferred} {V : World}, Marks lo ds V → ∀ d ∈ ds, ∃ D, d.target = .collected D ∧ D < V.heap.size
  | [], _, _ => fun d h => by simp at h
  | d :: ds, V, h => fun d' hd => by
    obtain ⟨D, rfl, _, hD, _, hr⟩ := h
    rcases List.mem_cons.1 hd with e | hd
    · subst e; exact ⟨D, rfl, (Array.getElem?_eq_some_iff.1 hD).1⟩
    · exact hr.lt d' hd
theorem Marks.same {lo : Nat} : ∀ {ds : List Deferred} {V V' : World}, Marks lo ds V → (∀ D, (∃ d ∈ ds, d.target = .collected D) → V'.heap[D]? = V.heap[D]?) → Marks lo ds V'
  | [], _, _, _, _ => trivial
  | d :: ds, V, V', h, k => by
    obtain ⟨D, rfl, hlo, hD, hne, hr⟩ := h
    exact ⟨D, rfl, hlo, (k D ⟨{ target := .collected D, args := #[] }, List.mem_cons_self, rfl⟩).trans hD, hne, hr.same fun D' ⟨d', hd', e⟩ => k D' ⟨d', List.mem_cons_of_mem _ hd', e⟩⟩
theorem leaves_marks {F : Fence} {n : Nat} {P : Program} {fn : Func} {tmps : Array Value} {R : Ending → World → Prop} {lo : Nat} : ∀ (ds : List Deferred) (V : World), Marks lo ds V →
    (∀ V', KeepT lo V V' → LeavesIn F n P fn tmps R [] .returning V') → LeavesInM F n P fn tmps R ds .returning V
  | [], V, _, h => h V (KeepT.refl _ _)
  | d :: ds, V, hm, h => by
    obtain ⟨D, rfl, hlo, hD, hne, hr⟩ := hm
    refine ⟨by simp, .inl ⟨D, _, rfl, run_takeDeferred hD, ?_⟩⟩
    refine leaves_marks ds _ (hr.same fun D' ⟨d', hd', e⟩ => World.putObj_heap_other fun e2 => ?_) fun V' hk => h V' ((KeepT.put hD rfl hlo).trans hk)
    subst e2
    exact hne d' hd' e

theorem edges_low {w w' : World} {D : Nat} {A : Option Addr} {es : List (ByteArray × ByteArray)} (h : EdgesIn w D A es) (k : ∀ i, i < D → w'.heap[i]? = w.heap[i]?) : EdgesIn w' D A es := by
  intro i hi
  obtain ⟨b, o, e, hl, h1, h2⟩ := h i hi
  exact ⟨b, o, e, hl, (World.cell?_of_block (k b hl)).trans h1, (World.cell?_of_block (k b hl)).trans h2⟩
theorem Marks.low {lo : Nat} {ds : List Deferred} {V V' : World} (h : Marks lo ds V) (hB : ∀ i, i < V.heap.size → V'.heap[i]? = V.heap[i]?) : Marks lo ds V' :=
  h.same fun D ⟨d, hd, e⟩ => by
    obtain ⟨D', e', hl⟩ := h.lt d hd
    rw [e] at e'; injection e' with e'
    exact hB D (by omega)
theorem cell_of {W : World} {b : Nat} {u : Value} {T : TypeId} (h : W.heap[b]? = some (.cells #[u] T (0, 0))) : W.cell? ⟨b, 0, none⟩ = some u ∧ W.frozen? ⟨b, 0, none⟩ = false := by
  constructor
  · simp [World.cell?, h]
  · simp [World.frozen?, h]

/-- a path, handed to the body of a round -/
def encsT (p : List UInt8) : Array Value := #[.string ⟨p.toArray⟩]

end Go.Proofs.Ytjfdkhaepmmlfaa
