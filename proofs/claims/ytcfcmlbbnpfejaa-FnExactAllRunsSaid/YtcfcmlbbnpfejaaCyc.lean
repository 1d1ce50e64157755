/- Ways round: blocks that keep each other. No program here. -/
import Derived.Test.YtcfcmlbbnpfejaaMath
namespace Go.Proofs.Ytcfcmlbbnpfejaa

/-- an edge comes to a block from one of some -/
def EntL (E : Eds) (S : List UInt8) (c : UInt8) : Prop := ∃ x ∈ S, ([x], [c]) ∈ E
/-- blocks that keep each other -/
def SelfEnt (E : Eds) (S : List UInt8) : Prop := ∀ c ∈ S, EntL E S c
/-- there are some that do -/
def Cyc (l : List UInt8) (E : Eds) : Prop := ∃ K, K ≠ [] ∧ (∀ c ∈ K, c ∈ l) ∧ SelfEnt E K

/-- blocks among which are all that keep each other -/
structure Big (l : List UInt8) (E : Eds) (S : List UInt8) : Prop where
  sub : ∀ c ∈ S, c ∈ l
  nodup : S.Nodup
  keeps : ∀ K : List UInt8, (∀ c ∈ K, c ∈ l) → SelfEnt E K → ∀ c ∈ K, c ∈ S

theorem EntL.more {E : Eds} {S T : List UInt8} {c : UInt8} (h : EntL E S c) (k : ∀ x ∈ S, x ∈ T) : EntL E T c := by
  obtain ⟨x, hx, he⟩ := h
  exact ⟨x, k x hx, he⟩

theorem Big.all {l : List UInt8} {E : Eds} (hn : l.Nodup) : Big l E l := ⟨fun _ h => h, hn, fun _ h _ => h⟩
theorem Big.erase {l : List UInt8} {E : Eds} {S : List UInt8} (h : Big l E S) {c : UInt8} (hc : ¬ EntL E S c) : Big l E (S.erase c) := by
  refine ⟨fun x hx => h.sub x (List.mem_of_mem_erase hx), h.nodup.erase c, fun K hK hs x hx => ?_⟩
  have hne : x ≠ c := fun e => hc ((hs c (e ▸ hx)).more (h.keeps K hK hs))
  exact (List.mem_erase_of_ne hne).2 (h.keeps K hK hs x hx)
theorem Big.cut {l : List UInt8} {E : Eds} {S : List UInt8} (h : Big l E S) {i : Nat} (hi : i < S.length) (hc : ¬ EntL E S S[i]) : Big l E (S.take i ++ S.drop (i + 1)) := by
  rw [← List.eraseIdx_eq_take_drop_succ]
  refine ⟨fun x hx => h.sub x (List.mem_of_mem_eraseIdx hx), h.nodup.eraseIdx i, fun K hK hs x hx => ?_⟩
  have hne : x ≠ S[i] := fun e => hc ((hs S[i] (e ▸ hx)).more (h.keeps K hK hs))
  obtain ⟨j, hj, hjx⟩ := List.getElem_of_mem (h.keeps K hK hs x hx)
  rw [List.mem_eraseIdx_iff_getElem]
  exact ⟨j, hj, fun e => hne (by subst e; exact hjx.symm), hjx⟩
theorem Big.done {l : List UInt8} {E : Eds} {S : List UInt8} (h : Big l E S) (hs : SelfEnt E S) : S = [] ↔ ¬ Cyc l E := by
  constructor
  · rintro rfl ⟨K, hne, hK, hsK⟩
    cases K with
    | nil => exact hne rfl
    | cons a K => exact absurd (h.keeps _ hK hsK a (by simp)) (by simp)
  · intro hn
    exact Classical.byContradiction fun hne => hn ⟨S, hne, h.sub, hs⟩

end Go.Proofs.Ytcfcmlbbnpfejaa
