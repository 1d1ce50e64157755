/- Places of numbers, the greatest number first, of equal ones the first place first: as lists. -/
import Derived.Test.YtadngnajenedpaaPart
namespace Go.Proofs.Ytadngnajenedpaa
open Go.RowKit

/-- place x stands ahead of place y -/
def Ahead (ws : Nat → Int) (x y : Nat) : Prop := ws y < ws x ∨ (ws x = ws y ∧ x < y)
theorem Ahead.trans {ws : Nat → Int} {x y z : Nat} (h : Ahead ws x y) (k : Ahead ws y z) : Ahead ws x z := by
  unfold Ahead at *; omega
theorem Ahead.not {ws : Nat → Int} {x y : Nat} (h : Ahead ws x y) (k : Ahead ws y x) : False := by
  unfold Ahead at *; omega

/-- the first i places are in order -/
def SortedTo (ws : Nat → Int) (n i : Nat) (g : Nat → Nat) : Prop := (∀ p, p < i → g p < i) ∧ (∀ p q, p < q → q < i → Ahead ws (g p) (g q)) ∧ ∀ p, i ≤ p → p < n → g p = p
/-- place i moves ahead, and is at j -/
def Moving (ws : Nat → Int) (n i j : Nat) (g : Nat → Nat) : Prop :=
  j ≤ i ∧ g j = i ∧ (∀ p, p ≤ i → p ≠ j → g p < i) ∧ (∀ p q, p < q → q ≤ i → p ≠ j → q ≠ j → Ahead ws (g p) (g q)) ∧ (∀ q, j < q → q ≤ i → Ahead ws i (g q)) ∧ ∀ p, i < p → p < n → g p = p

theorem SortedTo.begin (ws : Nat → Int) (n : Nat) {g : Nat → Nat} (h : ∀ p, p < n → g p = p) : SortedTo ws n 1 g ∨ n = 0 := by
  by_cases h0 : n = 0
  · exact .inr h0
  · exact .inl ⟨fun p hp => by rw [h p (by omega)]; exact hp, fun p q _ _ => by omega, fun p _ hp => h p hp⟩
theorem Moving.start {ws : Nat → Int} {n i : Nat} {g : Nat → Nat} (h : SortedTo ws n i g) (hi : i < n) : Moving ws n i i g := by
  obtain ⟨h1, h2, h3⟩ := h
  refine ⟨Nat.le_refl _, h3 i (Nat.le_refl _) hi, fun p hp hn => h1 p (by omega), fun p q hpq hq hp hqn => h2 p q hpq (by omega), fun q h1 h2 => by omega, fun p hp hn => h3 p (by omega) hn⟩
theorem Moving.step {ws : Nat → Int} {n i j : Nat} {g : Nat → Nat} (h : Moving ws n i (j + 1) g) (hw : ws (g j) < ws i) : Moving ws n i j (fun p => if p = j then i else if p = j + 1 then g j else g p) := by
  obtain ⟨h1, h2, h3, h4, h5, h6⟩ := h
  have hj := h3 j (by omega) (by omega)
  refine ⟨by omega, by simp, fun p hp hn => ?_, fun p q hpq hq hp hqn => ?_, fun q hq hqi => ?_, fun p hp hn => ?_⟩
  · simp only [if_neg hn]
    split
    · exact hj
    · rename_i hc; exact h3 p hp hc
  · simp only [if_neg hp, if_neg hqn]
    by_cases c1 : p = j + 1
    · rw [if_pos c1, if_neg (by omega)]
      exact h4 j q (by omega) hq (by omega) (by omega)
    · rw [if_neg c1]
      by_cases c2 : q = j + 1
      · rw [if_pos c2]
        exact h4 p j (by omega) (by omega) (by omega) (by omega)
      · rw [if_neg c2]
        exact h4 p q hpq hq c1 c2
  · simp only [if_neg (show q ≠ j by omega)]
    by_cases c2 : q = j + 1
    · rw [if_pos c2]; exact .inl hw
    · rw [if_neg c2]; exact h5 q (by omega) hqi
  · simp only [if_neg (show p ≠ j by omega), if_neg (show p ≠ j + 1 by omega)]
    exact h6 p hp hn
theorem Moving.stop {ws : Nat → Int} {n i j : Nat} {g : Nat → Nat} (h : Moving ws n i j g) (hs : j = 0 ∨ ws i ≤ ws (g (j - 1))) : SortedTo ws n (i + 1) g := by
  obtain ⟨h1, h2, h3, h4, h5, h6⟩ := h
  refine ⟨fun p hp => ?_, fun p q hpq hq => ?_, fun p hp hn => h6 p (by omega) hn⟩
  · by_cases c : p = j
    · rw [c, h2]; omega
    · have := h3 p (by omega) c; omega
  · by_cases c1 : p = j
    · rw [c1, h2]
      exact h5 q (by omega) (by omega)
    · by_cases c2 : q = j
      · rw [c2, h2]
        rcases hs with hs | hs
        · omega
        · have hl := h3 (j - 1) (by omega) (by omega)
          have hjj : Ahead ws (g (j - 1)) i := by unfold Ahead; omega
          by_cases c3 : p = j - 1
          · rw [c3]; exact hjj
          · exact (h4 p (j - 1) (by omega) (by omega) c1 (by omega)).trans hjj
      · exact h4 p q hpq (by omega) c1 c2

/-- two rows in order that have the same places are the same -/
theorem ahead_unique {ws : Nat → Int} : ∀ {a b : List Nat}, a.Pairwise (Ahead ws) → b.Pairwise (Ahead ws) → (∀ x, x ∈ a ↔ x ∈ b) → a = b
  | [], [], _, _, _ => rfl
  | [], y :: b, _, _, h => by have := (h y).2 List.mem_cons_self; simp at this
  | x :: a, [], _, _, h => by have := (h x).1 List.mem_cons_self; simp at this
  | x :: a, y :: b, ha, hb, h => by
    obtain ⟨ha1, ha2⟩ := List.pairwise_cons.1 ha
    obtain ⟨hb1, hb2⟩ := List.pairwise_cons.1 hb
    have hxy : x = y := by
      rcases List.mem_cons.1 ((h x).1 List.mem_cons_self) with e | e
      · exact e
      · rcases List.mem_cons.1 ((h y).2 List.mem_cons_self) with e2 | e2
        · exact e2.symm
        · exact ((ha1 y e2).not (hb1 x e)).elim
    subst hxy
    have : a = b := ahead_unique ha2 hb2 fun z => by
      constructor
      · intro hz
        rcases List.mem_cons.1 ((h z).1 (List.mem_cons_of_mem _ hz)) with e | e
        · subst e; exact ((ha1 z hz).not (ha1 z hz)).elim
        · exact e
      · intro hz
        rcases List.mem_cons.1 ((h z).2 (List.mem_cons_of_mem _ hz)) with e | e
        · subst e; exact ((hb1 z hz).not (hb1 z hz)).elim
        · exact e
    rw [this]

/-- all places with a weight -/
def levelO (ws : Nat → Int) (n v : Nat) : List Nat := (List.range n).filter fun k => ws k == (v : Int)
/-- all places with less weight, the greatest first -/
def lowO (ws : Nat → Int) (n : Nat) : Nat → List Nat
  | 0 => []
  | v + 1 => levelO ws n v ++ lowO ws n v
theorem mem_level {ws : Nat → Int} {n v k : Nat} : k ∈ levelO ws n v ↔ k < n ∧ ws k = v := by
  unfold levelO; rw [List.mem_filter]; simp
theorem mem_low {ws : Nat → Int} {n : Nat} : ∀ {v k : Nat}, k ∈ lowO ws n v ↔ k < n ∧ ∃ u : Nat, u < v ∧ ws k = u
  | 0, k => by simp [lowO]
  | v + 1, k => by
    unfold lowO
    rw [List.mem_append, mem_level, mem_low]
    constructor
    · rintro (⟨h1, h2⟩ | ⟨h1, u, h2, h3⟩)
      · exact ⟨h1, v, by omega, h2⟩
      · exact ⟨h1, u, by omega, h3⟩
    · rintro ⟨h1, u, h2, h3⟩
      by_cases c : u = v
      · subst c; exact .inl ⟨h1, h3⟩
      · exact .inr ⟨h1, u, by omega, h3⟩
theorem low_sorted (ws : Nat → Int) (n : Nat) : ∀ v, (lowO ws n v).Pairwise (Ahead ws)
  | 0 => List.Pairwise.nil
  | v + 1 => by
    unfold lowO
    refine List.pairwise_append.2 ⟨?_, low_sorted ws n v, fun a ha b hb => ?_⟩
    · unfold levelO
      refine List.Pairwise.imp_of_mem (R := (· < ·)) (fun {a b} ha hb hlt => ?_) (List.Pairwise.filter _ List.pairwise_lt_range)
      have h1 := (mem_level (ws := ws) (n := n) (v := v)).1 ha
      have h2 := (mem_level (ws := ws) (n := n) (v := v)).1 hb
      exact .inr ⟨by rw [h1.2, h2.2], hlt⟩
    · have h1 := mem_level.1 ha
      obtain ⟨_, u, h2, h3⟩ := mem_low.1 hb
      exact .inl (by rw [h1.2, h3]; omega)

/-- what the sort leaves is the row by weights -/
theorem sorted_low {ws : Nat → Int} {n : Nat} {g : Nat → Nat} (h : SortedTo ws n n g) {v : Nat} (hv : ∀ k, k < n → ∃ u : Nat, u < v ∧ ws k = u) : (List.range n).map g = lowO ws n v := by
  obtain ⟨h1, h2, _⟩ := h
  have hp : ((List.range n).map g).Pairwise (Ahead ws) := by
    rw [List.pairwise_map]
    refine List.Pairwise.imp_of_mem (R := (· < ·)) (fun {a b} ha hb hlt => h2 a b hlt (by simpa using hb)) List.pairwise_lt_range
  have hnd : ((List.range n).map g).Nodup := hp.imp fun hh e => by subst e; exact hh.not hh
  refine ahead_unique hp (low_sorted ws n v) fun x => ?_
  rw [mem_low]
  constructor
  · intro hx
    obtain ⟨p, hp, rfl⟩ := List.mem_map.1 hx
    have := h1 p (by simpa using hp)
    exact ⟨this, hv _ this⟩
  · rintro ⟨hx, _⟩
    refine Classical.byContradiction fun hn => ?_
    have hsub : ∀ y ∈ x :: (List.range n).map g, y ∈ List.range n := by
      intro y hy
      rcases List.mem_cons.1 hy with rfl | hy
      · simpa using hx
      · obtain ⟨p, hp, rfl⟩ := List.mem_map.1 hy
        simpa using h1 p (by simpa using hp)
    have := nodup_len (List.nodup_cons.2 ⟨hn, hnd⟩) hsub
    simp at this
    omega

/-- the edges that a tree takes, one after the other -/
def greedy (E : Nat → Nat × Nat) : (Nat → Nat) → List Nat → List Nat
  | _, [] => []
  | f, k :: r => if f (E k).1 = f (E k).2 then greedy E f r else k :: greedy E (joinL f (E k).1 (E k).2) r
theorem greedy_no {E : Nat → Nat × Nat} {f : Nat → Nat} {k : Nat} {r : List Nat} (h : f (E k).1 = f (E k).2) : greedy E f (k :: r) = greedy E f r := if_pos h
theorem greedy_yes {E : Nat → Nat × Nat} {f : Nat → Nat} {k : Nat} {r : List Nat} (h : ¬ f (E k).1 = f (E k).2) : greedy E f (k :: r) = k :: greedy E (joinL f (E k).1 (E k).2) r := if_neg h
theorem greedy_sub {E : Nat → Nat × Nat} : ∀ (r : List Nat) (f : Nat → Nat), ∀ k ∈ greedy E f r, k ∈ r
  | [], f, k, h => by simp [greedy] at h
  | a :: r, f, k, h => by
    unfold greedy at h
    split at h
    · exact List.mem_cons_of_mem _ (greedy_sub r f k h)
    · rcases List.mem_cons.1 h with rfl | h
      · exact List.mem_cons_self
      · exact List.mem_cons_of_mem _ (greedy_sub r _ k h)

end Go.Proofs.Ytadngnajenedpaa
