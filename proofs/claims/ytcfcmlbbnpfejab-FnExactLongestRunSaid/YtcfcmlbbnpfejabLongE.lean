/- The longest path from a block, as lists. No program here. -/
import Derived.Test.YtcfcmlbbnpfejabTopo
namespace Go.Proofs.Ytcfcmlbbnpfejab

/-- one edge looked at, from block b, where g has the paths from the blocks behind -/
def stepG (E : Eds) (g : UInt8 → List UInt8) (b : UInt8) (out : List UInt8) (i : Nat) : List UInt8 := match E[i]? with
  | some ([x], [y]) => if x = b ∧ out.length < (g y).length + 1 then (97 + i).toUInt8 :: g y else out
  | _ => out
def rowG (E : Eds) (g : UInt8 → List UInt8) (b : UInt8) (ks : List Nat) : List UInt8 := ks.foldl (stepG E g b) []
/-- the longest path, of those with so many edges at most -/
def long (E : Eds) : Nat → UInt8 → List UInt8
  | 0, _ => []
  | f + 1, b => rowG E (long E f) b (List.range E.length)
theorem long_succ (E : Eds) (f : Nat) (b : UInt8) : long E (f + 1) b = rowG E (long E f) b (List.range E.length) := rfl
theorem rowG_snoc (E : Eds) (g : UInt8 → List UInt8) (b : UInt8) (ks : List Nat) (k : Nat) : rowG E g b (ks ++ [k]) = stepG E g b (rowG E g b ks) k := by simp [rowG, List.foldl_append]
theorem stepG_yes {E : Eds} {g : UInt8 → List UInt8} {b y : UInt8} {out : List UInt8} {i : Nat} (h : E[i]? = some ([b], [y])) (hl : out.length < (g y).length + 1) : stepG E g b out i = (97 + i).toUInt8 :: g y := by
  unfold stepG; rw [h]; simp only; rw [if_pos ⟨trivial, hl⟩]
theorem stepG_short {E : Eds} {g : UInt8 → List UInt8} {b y : UInt8} {out : List UInt8} {i : Nat} (h : E[i]? = some ([b], [y])) (hl : ¬ out.length < (g y).length + 1) : stepG E g b out i = out := by
  unfold stepG; rw [h]; simp only; rw [if_neg fun q => hl q.2]
theorem stepG_no {E : Eds} {g : UInt8 → List UInt8} {b x y : UInt8} {out : List UInt8} {i : Nat} (h : E[i]? = some ([x], [y])) (hx : x ≠ b) : stepG E g b out i = out := by
  unfold stepG; rw [h]; simp only; rw [if_neg fun q => hx q.1]
theorem rowG_filter (E : Eds) (g : UInt8 → List UInt8) (b : UInt8) (q : Nat → Bool) (ks : List Nat) (h : ∀ k ∈ ks, q k = false → ∀ out, stepG E g b out k = out) : rowG E g b (ks.filter q) = rowG E g b ks := by
  have main : ∀ (ks : List Nat) (out : List UInt8), (∀ k ∈ ks, q k = false → ∀ out, stepG E g b out k = out) → (ks.filter q).foldl (stepG E g b) out = ks.foldl (stepG E g b) out := by
    intro ks
    induction ks with
    | nil => intro out _; rfl
    | cons k ks ih =>
      intro out h
      have ih' := fun o => ih o (fun j hj => h j (by simp [hj]))
      cases hq : q k with
      | true => rw [List.filter_cons_of_pos hq]; exact ih' _
      | false =>
        rw [List.filter_cons_of_neg (by rw [hq]; exact Bool.false_ne_true), ih' out, List.foldl_cons, h k (by simp) hq]
  exact main ks [] h

theorem stepG_len {E : Eds} {g : UInt8 → List UInt8} {b : UInt8} {out : List UInt8} {i m : Nat} (hg : ∀ y, (g y).length ≤ m) (h : out.length ≤ m + 1) : (stepG E g b out i).length ≤ m + 1 := by
  unfold stepG
  split
  · rename_i x y _
    split
    · have := hg y; simp; omega
    · exact h
  · exact h
theorem rowG_len {E : Eds} {g : UInt8 → List UInt8} {b : UInt8} {m : Nat} (hg : ∀ y, (g y).length ≤ m) (ks : List Nat) : (rowG E g b ks).length ≤ m + 1 := by
  have main : ∀ (ks : List Nat) (out : List UInt8), out.length ≤ m + 1 → (ks.foldl (stepG E g b) out).length ≤ m + 1 := by
    intro ks
    induction ks with
    | nil => intro out h; exact h
    | cons k ks ih => intro out h; exact ih _ (stepG_len hg h)
  exact main ks [] (by simp)
theorem long_len (E : Eds) : ∀ (f : Nat) (b : UInt8), (long E f b).length ≤ f
  | 0, _ => by simp [long]
  | f + 1, b => by rw [long_succ]; exact rowG_len (long_len E f) _

theorem rowG_congr {E : Eds} {g g' : UInt8 → List UInt8} {b : UInt8} (h : ∀ y, ([b], [y]) ∈ E → g y = g' y) (ks : List Nat) : rowG E g b ks = rowG E g' b ks := by
  have step : ∀ (out : List UInt8) (i : Nat), stepG E g b out i = stepG E g' b out i := by
    intro out i
    unfold stepG
    split
    · rename_i x y he
      by_cases hx : x = b
      · subst hx; rw [h y (List.mem_of_getElem? he)]
      · rw [if_neg fun q => hx q.1, if_neg fun q => hx q.1]
    · rfl
  have : stepG E g b = stepG E g' b := funext fun o => funext fun i => step o i
  unfold rowG; rw [this]

/-- where edges lead on, more edges make no longer path -/
theorem long_same {E : Eds} : ∀ (n : Nat) (r : List UInt8) (b : UInt8), r.length ≤ n → Topo E (b :: r) → ∀ f g, r.length < f → r.length < g → long E f b = long E g b
  | 0, r, b, hn, ht, f, g, hf, hg => by
    obtain ⟨f, rfl⟩ : ∃ k, f = k + 1 := ⟨f - 1, by omega⟩
    obtain ⟨g, rfl⟩ : ∃ k, g = k + 1 := ⟨g - 1, by omega⟩
    have hr : r = [] := List.length_eq_zero_iff.1 (by omega)
    subst hr
    rw [long_succ, long_succ]
    exact rowG_congr (fun y hy => absurd (ht.1 y hy) (by simp)) _
  | n + 1, r, b, hn, ht, f, g, hf, hg => by
    obtain ⟨f, rfl⟩ : ∃ k, f = k + 1 := ⟨f - 1, by omega⟩
    obtain ⟨g, rfl⟩ : ∃ k, g = k + 1 := ⟨g - 1, by omega⟩
    rw [long_succ, long_succ]
    refine rowG_congr (fun y hy => ?_) _
    obtain ⟨a, r2, hr⟩ := List.append_of_mem (ht.1 y hy)
    have h2 : Topo E (y :: r2) := Topo.drop (a := a) (by rw [← hr]; exact ht.2)
    have hl := congrArg List.length hr
    simp at hl
    exact long_same n r2 y (by omega) h2 f g (by omega) (by omega)

/-- the longest path from a block -/
def longE (E : Eds) (b : UInt8) : List UInt8 := long E 8 b
theorem longE_len (E : Eds) (b : UInt8) : (longE E b).length ≤ 8 := long_len E 8 b
theorem longE_fix {E : Eds} {r : List UInt8} {b : UInt8} (ht : Topo E (b :: r)) (hr : r.length ≤ 7) : longE E b = rowG E (longE E) b (List.range E.length) := by
  unfold longE
  rw [long_succ]
  refine rowG_congr (fun y hy => ?_) _
  obtain ⟨a, r2, hr2⟩ := List.append_of_mem (ht.1 y hy)
  have h2 : Topo E (y :: r2) := Topo.drop (a := a) (by rw [← hr2]; exact ht.2)
  have hl := congrArg List.length hr2
  simp at hl
  exact long_same r2.length r2 y (Nat.le_refl _) h2 7 8 (by omega) (by omega)

end Go.Proofs.Ytcfcmlbbnpfejab
