/- All trees of a net, in their order; and the first one with as few adds as can be. -/
import Derived.Test.YtjfdkhaepmmlfaaZ6C
import Derived.Test.YtjfdkhaepmmlfaaZ6W
namespace Go.Proofs.Ytjfdkhaepmmlfaa
open Go.RowKit

/-- the sets of so many more edges that make no way round with what is joined, behind a text -/
def trs (E : Nat → Nat × Nat) : (Nat → Nat) → List Nat → Nat → List UInt8 → List (List UInt8)
  | _, _, 0, t => [t]
  | _, [], _ + 1, _ => []
  | f, k :: r, m + 1, t => (if f (E k).1 = f (E k).2 then [] else trs E (joinL f (E k).1 (E k).2) r m (t ++ [nameOf k])) ++ trs E f r (m + 1) t
theorem trs_zero (E : Nat → Nat × Nat) (f : Nat → Nat) (ks : List Nat) (t : List UInt8) : trs E f ks 0 t = [t] := by cases ks <;> rfl
theorem trs_step (E : Nat → Nat × Nat) (f : Nat → Nat) (k : Nat) (r : List Nat) (m : Nat) (t : List UInt8) : trs E f (k :: r) (m + 1) t = (if f (E k).1 = f (E k).2 then [] else trs E (joinL f (E k).1 (E k).2) r m (t ++ [nameOf k])) ++ trs E f r (m + 1) t := rfl
theorem trs_few (E : Nat → Nat × Nat) : ∀ (ks : List Nat) (f : Nat → Nat) (m : Nat) (t : List UInt8), ks.length < m → trs E f ks m t = []
  | [], _, 0, _, h => absurd h (by simp)
  | [], _, _ + 1, _, _ => rfl
  | _ :: _, _, 0, _, h => absurd h (by simp)
  | k :: r, f, m + 1, t, h => by
    rw [List.length_cons] at h
    rw [trs_step, trs_few E r f (m + 1) t (by omega), List.append_nil]
    split
    · rfl
    · exact trs_few E r _ m _ (by omega)
theorem trs_short {E : Nat → Nat × Nat} {f : Nat → Nat} {n i m : Nat} {t : List UInt8} (h : n - i < m) : trs E f (fromK n i) m t = [] := trs_few E _ _ _ _ (by rw [fromK_len]; exact h)
theorem trs_go {E : Nat → Nat × Nat} {f : Nat → Nat} {n i m : Nat} {t : List UInt8} (hi : i < n) : trs E f (fromK n i) (m + 1) t = (if f (E i).1 = f (E i).2 then [] else trs E (joinL f (E i).1 (E i).2) (fromK n (i + 1)) m (t ++ [nameOf i])) ++ trs E f (fromK n (i + 1)) (m + 1) t := by
  rw [fromK_at hi, trs_step]
theorem trs_mem (E : Nat → Nat × Nat) : ∀ (ks : List Nat) (f : Nat → Nat) (m : Nat) (t x : List UInt8), x ∈ trs E f ks m t → ∃ q : List Nat, x = t ++ q.map nameOf ∧ q.length = m ∧ q.Sublist ks ∧ forest E f q = true
  | ks, f, 0, t, x, h => by
    rw [trs_zero] at h
    simp at h
    subst h
    exact ⟨[], by simp, rfl, List.nil_sublist _, rfl⟩
  | [], _, _ + 1, _, _, h => by simp [trs] at h
  | k :: r, f, m + 1, t, x, h => by
    rw [trs_step] at h
    rcases List.mem_append.1 h with h | h
    · by_cases c : f (E k).1 = f (E k).2
      · rw [if_pos c] at h; cases h
      · rw [if_neg c] at h
        obtain ⟨q, h1, h2, h3, h4⟩ := trs_mem E r _ m _ x h
        exact ⟨k :: q, by rw [h1]; simp, by rw [List.length_cons, h2], h3.cons_cons k, by rw [forest_yes c]; exact h4⟩
    · obtain ⟨q, h1, h2, h3, h4⟩ := trs_mem E r f (m + 1) t x h
      exact ⟨q, h1, h2, h3.cons k, h4⟩

/-- all trees of a net -/
def trsB (B : ByteArray) (es : List (ByteArray × ByteArray)) : List (List UInt8) := trs (endsN B.data.toList (ebs es)) (fresh B.size) (fromK es.length 0) (B.size - 2) []
theorem trs_tree {B : ByteArray} {es : List (ByteArray × ByteArray)} (hV : Valid B.data.toList (ebs es)) : ∀ x ∈ trsB B es, treeV B es ⟨x.toArray⟩ = true := by
  intro x hx
  obtain ⟨q, h1, h2, h3, h4⟩ := trs_mem _ _ _ _ _ _ hx
  have h16 := (valid_sizes hV).2
  have hB2 : 2 ≤ B.size := by have := hV.1.1.1; simpa using this
  have hfr : fromK es.length 0 = List.range es.length := by simp [fromK]
  rw [hfr] at h3
  have hlt : ∀ k ∈ q, k < es.length := fun k hk => by simpa using h3.subset hk
  have hpw : q.Pairwise (· < ·) := List.Pairwise.sublist h3 List.pairwise_lt_range
  rw [List.nil_append] at h1
  have hks : ksOf x = q := by
    rw [h1]
    unfold ksOf
    rw [List.map_map]
    refine (List.map_congr_left fun k hk => ?_).trans (List.map_id q)
    have := hlt k hk
    simp only [Function.comp, id]
    rw [nameOf_toNat (by omega)]
    omega
  refine decB_t ⟨hV, ?_, ?_, ?_⟩
  · show Known es.length x
    intro i hi
    have hq : i < q.length := by rw [h1] at hi; simpa using hi
    have hat : ∀ j (hj : j < q.length), x.getD j 0 = nameOf q[j] := fun j hj => by
      rw [h1, List.getD_eq_getElem?_getD, List.getElem?_map, List.getElem?_eq_getElem hj]; rfl
    have hl := hlt q[i] (List.getElem_mem hq)
    rw [hat i hq, eIdx_name hl (by omega)]
    refine ⟨by omega, fun h0 => ?_⟩
    have hl1 := hlt (q[i - 1]'(by omega)) (List.getElem_mem _)
    rw [hat (i - 1) (by omega), nameOf_toNat (by omega), nameOf_toNat (by omega)]
    have := List.pairwise_iff_getElem.1 hpw (i - 1) i (by omega) hq (by omega)
    omega
  · show x.toArray.size + 2 = B.size
    rw [h1]
    simp
    omega
  · show forest _ _ (ksOf x) = true
    rw [hks]; exact h4

/-- one tree more is looked at -/
def keepT (c : List UInt8 → Nat) (s : List UInt8 × Int) (x : List UInt8) : List UInt8 × Int := if s.2 < 0 ∨ ((c x : Nat) : Int) < s.2 then (x, ((c x : Nat) : Int)) else s
/-- what a tree costs -/
noncomputable def cstB (B : ByteArray) (es : List (ByteArray × ByteArray)) (x : List UInt8) : Nat := cntK ((List.range es.length).map (stpB B es ⟨x.toArray⟩))
theorem cst_few (B : ByteArray) (es : List (ByteArray × ByteArray)) (x : List UInt8) : cstB B es x ≤ es.length := by
  unfold cstB
  have := cntK_le ((List.range es.length).map (stpB B es ⟨x.toArray⟩))
  simpa using this
/-- the first one of all with as few as can be -/
noncomputable def bestB (B : ByteArray) (es : List (ByteArray × ByteArray)) : List UInt8 × Int := (trsB B es).foldl (keepT (cstB B es)) ([], -1)
noncomputable def fewestV (B : ByteArray) (es : List (ByteArray × ByteArray)) : ByteArray × Bool := open Classical in if acycV B es = true ∧ countTV B es ≤ 300 then (⟨(bestB B es).1.toArray⟩, true) else (⟨#[]⟩, false)

end Go.Proofs.Ytjfdkhaepmmlfaa
