/- All paths from a block, as lists. No program here. -/
import Derived.Test.YtcfcmlbbnpfejaaTopo
namespace Go.Proofs.Ytcfcmlbbnpfejaa

/-- the paths that begin with an edge, from block b, where g has the paths from the blocks behind -/
def stepP (E : Eds) (g : UInt8 → List (List UInt8)) (b : UInt8) (i : Nat) : List (List UInt8) := match E[i]? with
  | some ([x], [y]) => if x = b then (g y).map ((97 + i).toUInt8 :: ·) else []
  | _ => []
def rowP (E : Eds) (g : UInt8 → List (List UInt8)) (b : UInt8) (ks : List Nat) : List (List UInt8) := ks.flatMap (stepP E g b)
/-- all paths to t, of those with so many edges at most -/
def pathsF (E : Eds) (t : UInt8) : Nat → UInt8 → List (List UInt8)
  | 0, b => if b = t then [[]] else []
  | f + 1, b => if b = t then [[]] else rowP E (pathsF E t f) b (List.range E.length)
theorem stepP_yes {E : Eds} {g : UInt8 → List (List UInt8)} {b y : UInt8} {i : Nat} (h : E[i]? = some ([b], [y])) : stepP E g b i = (g y).map ((97 + i).toUInt8 :: ·) := by
  unfold stepP; rw [h]; simp only; rw [if_pos trivial]
theorem stepP_no {E : Eds} {g : UInt8 → List (List UInt8)} {b x y : UInt8} {i : Nat} (h : E[i]? = some ([x], [y])) (hx : x ≠ b) : stepP E g b i = [] := by
  unfold stepP; rw [h]; simp only; rw [if_neg hx]
theorem rowP_snoc (E : Eds) (g : UInt8 → List (List UInt8)) (b : UInt8) (ks : List Nat) (k : Nat) : rowP E g b (ks ++ [k]) = rowP E g b ks ++ stepP E g b k := by simp [rowP]
theorem rowP_filter (E : Eds) (g : UInt8 → List (List UInt8)) (b : UInt8) (q : Nat → Bool) : ∀ (ks : List Nat), (∀ k ∈ ks, q k = false → stepP E g b k = []) → rowP E g b (ks.filter q) = rowP E g b ks
  | [], _ => rfl
  | k :: ks, h => by
    have ih := rowP_filter E g b q ks fun j hj => h j (by simp [hj])
    unfold rowP at ih ⊢
    cases hq : q k with
    | true => rw [List.filter_cons_of_pos hq, List.flatMap_cons, List.flatMap_cons, ih]
    | false => rw [List.filter_cons_of_neg (by rw [hq]; exact Bool.false_ne_true), List.flatMap_cons, h k (by simp) hq, List.nil_append, ih]
theorem rowP_congr {E : Eds} {g g' : UInt8 → List (List UInt8)} {b : UInt8} (h : ∀ y, ([b], [y]) ∈ E → g y = g' y) (ks : List Nat) : rowP E g b ks = rowP E g' b ks := by
  have step : ∀ (i : Nat), stepP E g b i = stepP E g' b i := by
    intro i
    unfold stepP
    split
    · rename_i x y he
      by_cases hx : x = b
      · subst hx; rw [h y (List.mem_of_getElem? he)]
      · rw [if_neg hx, if_neg hx]
    · rfl
  unfold rowP; rw [funext step]

/-- where edges lead on, more edges make no more paths -/
theorem pathsF_same {E : Eds} {t : UInt8} : ∀ (n : Nat) (r : List UInt8) (b : UInt8), r.length ≤ n → Topo E (b :: r) → ∀ f g, r.length < f → r.length < g → pathsF E t f b = pathsF E t g b
  | 0, r, b, hn, ht, f, g, hf, hg => by
    obtain ⟨f, rfl⟩ : ∃ k, f = k + 1 := ⟨f - 1, by omega⟩
    obtain ⟨g, rfl⟩ : ∃ k, g = k + 1 := ⟨g - 1, by omega⟩
    have hr : r = [] := List.length_eq_zero_iff.1 (by omega)
    subst hr
    unfold pathsF
    rw [rowP_congr (fun y hy => absurd (ht.1 y hy) (by simp)) _]
  | n + 1, r, b, hn, ht, f, g, hf, hg => by
    obtain ⟨f, rfl⟩ : ∃ k, f = k + 1 := ⟨f - 1, by omega⟩
    obtain ⟨g, rfl⟩ : ∃ k, g = k + 1 := ⟨g - 1, by omega⟩
    unfold pathsF
    rw [rowP_congr (fun y hy => ?_) _]
    obtain ⟨a, r2, hr⟩ := List.append_of_mem (ht.1 y hy)
    have h2 : Topo E (y :: r2) := Topo.drop (a := a) (by rw [← hr]; exact ht.2)
    have hl := congrArg List.length hr
    simp at hl
    exact pathsF_same n r2 y (by omega) h2 f g (by omega) (by omega)

/-- all paths from a block to t -/
def pathsE (E : Eds) (t b : UInt8) : List (List UInt8) := pathsF E t 8 b
theorem pathsE_at {E : Eds} {t : UInt8} : pathsE E t t = [[]] := by
  unfold pathsE pathsF; exact if_pos rfl
theorem pathsE_fix {E : Eds} {t : UInt8} {r : List UInt8} {b : UInt8} (ht : Topo E (b :: r)) (hr : r.length ≤ 7) (hb : b ≠ t) : pathsE E t b = rowP E (pathsE E t) b (List.range E.length) := by
  have e : pathsE E t b = rowP E (pathsF E t 7) b (List.range E.length) := by
    unfold pathsE; rw [pathsF]; exact if_neg hb
  rw [e]
  refine rowP_congr (fun y hy => ?_) _
  obtain ⟨a, r2, hr2⟩ := List.append_of_mem (ht.1 y hy)
  have h2 : Topo E (y :: r2) := Topo.drop (a := a) (by rw [← hr2]; exact ht.2)
  have hl := congrArg List.length hr2
  simp at hl
  exact pathsF_same r2.length r2 y (Nat.le_refl _) h2 7 8 (by omega) (by omega)
theorem pathsF_len {E : Eds} {t : UInt8} : ∀ (f : Nat) (b : UInt8), ∀ p ∈ pathsF E t f b, p.length ≤ f
  | 0, b, p, hp => by
    unfold pathsF at hp
    split at hp
    · simp at hp; subst hp; simp
    · simp at hp
  | f + 1, b, p, hp => by
    unfold pathsF at hp
    split at hp
    · simp at hp; subst hp; simp
    · unfold rowP at hp
      obtain ⟨i, _, hi⟩ := List.mem_flatMap.1 hp
      unfold stepP at hi
      split at hi
      · split at hi
        · obtain ⟨q, hq, rfl⟩ := List.mem_map.1 hi
          have := pathsF_len f _ q hq
          simp; omega
        · simp at hi
      · simp at hi
theorem pathsE_len {E : Eds} {t b : UInt8} {p : List UInt8} (h : p ∈ pathsE E t b) : p.length ≤ 8 := pathsF_len 8 b p h

/-- the paths, as texts -/
def tx (R : List (List UInt8)) : List ByteArray := R.map fun p => ⟨p.toArray⟩
theorem tx_length (R : List (List UInt8)) : (tx R).length = R.length := by simp [tx]

end Go.Proofs.Ytcfcmlbbnpfejaa
