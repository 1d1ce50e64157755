/- Edges looked at, the last one first: as the blocks behind them. No program here. -/
import Derived.Test.YtcfcmlbbnpfejabDfs
namespace Go.Proofs.Ytcfcmlbbnpfejab


/-- one edge looked at, from block b -/
def lookV (E : Eds) (f : Nat) (b : UInt8) (st : Gone) (i : Nat) : Gone := match E[i]? with
  | some e => match toFrom b e with
    | some y => stepV E f y st
    | none => st
  | none => st
theorem lookV_none {E : Eds} {f : Nat} {b : UInt8} {st : Gone} {i : Nat} (h : E.length ≤ i) : lookV E f b st i = st := by
  unfold lookV; rw [List.getElem?_eq_none h]
theorem lookV_no {E : Eds} {f : Nat} {b x y : UInt8} {st : Gone} {i : Nat} (h : E[i]? = some ([x], [y])) (hx : x ≠ b) : lookV E f b st i = st := by
  unfold lookV; rw [h]; simp [toFrom, hx]
theorem lookV_yes {E : Eds} {f : Nat} {b y : UInt8} {st : Gone} {i : Nat} (h : E[i]? = some ([b], [y])) : lookV E f b st i = stepV E f y st := by
  unfold lookV; rw [h]; simp [toFrom]

/-- so many places looked at -/
def looksV (E : Eds) (f : Nat) (b : UInt8) (st : Gone) (is : List Nat) : Gone := is.foldl (lookV E f b) st
theorem looksV_snoc (E : Eds) (f : Nat) (b : UInt8) (st : Gone) (is : List Nat) (i : Nat) : looksV E f b st (is ++ [i]) = lookV E f b (looksV E f b st is) i := by
  simp [looksV, List.foldl_append]

theorem lookV_on {l : List UInt8} {E : Eds} (hl : Into l E) (f : Nat) (b : UInt8) {st : Gone} (h : GoneOk l st) (i : Nat) : GoneOn l st (lookV E f b st i) := by
  unfold lookV
  split
  · rename_i e he
    split
    · rename_i y hy
      have hm : ([b], [y]) ∈ E := by
        unfold toFrom at hy
        split at hy
        · rename_i x z
          split at hy
          · rename_i hx; injection hy with hy; subst hy; subst hx; exact List.mem_of_getElem? he
          · cases hy
        · cases hy
      unfold stepV
      split
      · exact .refl h
      · rename_i hn; exact visit_on hl f y st h (hl _ _ hm) hn
    · exact .refl h
  · exact .refl h
theorem looksV_on {l : List UInt8} {E : Eds} (hl : Into l E) (f : Nat) (b : UInt8) {st : Gone} (h : GoneOk l st) : ∀ is : List Nat, GoneOn l st (looksV E f b st is) := by
  intro is
  induction is generalizing st with
  | nil => exact .refl h
  | cons i is ih => exact (lookV_on hl f b h i).trans (ih (lookV_on hl f b h i).ok)

/-- the last place first: as the blocks behind the edges -/
theorem looksV_all (E : Eds) (f : Nat) (b : UInt8) (st : Gone) : looksV E f b st (List.range E.length).reverse = partV E f st (tos E b) := by
  have main : ∀ k, k ≤ E.length → looksV E f b st ((List.range E.length).reverse.take (E.length - k)) = partV E f st (tos (E.drop k) b) := by
    intro k hk
    obtain ⟨j, hj⟩ : ∃ j, E.length - k = j := ⟨_, rfl⟩
    induction j generalizing k with
    | zero => rw [hj, tos_end E b (by omega)]; rfl
    | succ j ih =>
      have hkl : k < E.length := by omega
      have h1 := ih (k + 1) (by omega) (by omega)
      have e : (List.range E.length).reverse.take (E.length - k) = (List.range E.length).reverse.take (E.length - (k + 1)) ++ [k] := by
        rw [show E.length - k = (E.length - (k + 1)) + 1 by omega, List.take_succ_eq_append_getElem (by simp; omega)]
        have : E.length - 1 - (E.length - (k + 1)) = k := by omega
        simp [this]
      have hg : E[k]? = some E[k] := List.getElem?_eq_getElem hkl
      rw [e, looksV_snoc, h1, tos_drop hg]
      unfold lookV
      rw [hg]
      cases hq : toFrom b E[k] with
      | none => simp only [hq]; rfl
      | some y => simp only [hq]; rfl
  have := main 0 (Nat.zero_le _)
  rwa [Nat.sub_zero, List.take_of_length_le (by simp), List.drop_zero] at this

end Go.Proofs.Ytcfcmlbbnpfejab
