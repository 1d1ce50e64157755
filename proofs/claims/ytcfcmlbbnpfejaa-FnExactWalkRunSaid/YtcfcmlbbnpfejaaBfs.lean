/- A search in breadth, as plain lists: who is met, by which path. No program here. -/
import Derived.Test.YtcfcmlbbnpfejaaMath
namespace Go.Proofs.Ytcfcmlbbnpfejaa

/-- the name of an edge, as a letter -/
def nameL (k : Nat) : UInt8 := (97 + k).toUInt8

/-- blocks that have been met, with the paths that lead to them, in the order of the search -/
abbrev Met := List (UInt8 × List UInt8)
def keysM (D : Met) : List UInt8 := D.map (·.1)

/-- one edge looked at, from block b, to which path p leads -/
def stepE (E : Eds) (b : UInt8) (p : List UInt8) (D : Met) (k : Nat) : Met :=
  match E[k]? with
  | some ([x], [y]) => if x = b ∧ y ∉ keysM D then D ++ [(y, p ++ [nameL k])] else D
  | _ => D
/-- so many edges looked at -/
def rowE (E : Eds) (b : UInt8) (p : List UInt8) (D : Met) (n : Nat) : Met := (List.range n).foldl (stepE E b p) D
/-- so many blocks gone on from -/
def bfs (E : Eds) (s : UInt8) : Nat → Met
  | 0 => [(s, [])]
  | j + 1 => match (bfs E s j)[j]? with
    | some (b, p) => rowE E b p (bfs E s j) E.length
    | none => bfs E s j
/-- the path that the search finds to a block -/
def pathE (E : Eds) (s t : UInt8) : List UInt8 := ((bfs E s 8).find? (fun x => x.1 == t)).elim [] (·.2)

theorem rowE_zero (E : Eds) (b : UInt8) (p : List UInt8) (D : Met) : rowE E b p D 0 = D := rfl
theorem rowE_succ (E : Eds) (b : UInt8) (p : List UInt8) (D : Met) (n : Nat) : rowE E b p D (n + 1) = stepE E b p (rowE E b p D n) n := by
  simp [rowE, List.range_succ, List.foldl_append]

/-- what the search has met: each block once, of the net's -/
structure MetOk (l : List UInt8) (D : Met) : Prop where
  nodup : (keysM D).Nodup
  sub : ∀ x ∈ keysM D, x ∈ l

theorem stepE_yes {E : Eds} {b x y : UInt8} {p : List UInt8} {D : Met} {k : Nat} (he : E[k]? = some ([x], [y])) (hx : x = b) (hy : y ∉ keysM D) : stepE E b p D k = D ++ [(y, p ++ [nameL k])] := by
  unfold stepE; rw [he]; simp only; rw [if_pos ⟨hx, hy⟩]
theorem stepE_no {E : Eds} {b x y : UInt8} {p : List UInt8} {D : Met} {k : Nat} (he : E[k]? = some ([x], [y])) (h : ¬ (x = b ∧ y ∉ keysM D)) : stepE E b p D k = D := by
  unfold stepE; rw [he]; simp only; rw [if_neg h]
theorem stepE_pre (E : Eds) (b : UInt8) (p : List UInt8) (D : Met) (k : Nat) : D <+: stepE E b p D k := by
  unfold stepE
  split
  · split
    · exact ⟨_, rfl⟩
    · exact List.prefix_refl _
  · exact List.prefix_refl _
theorem stepE_ok {l : List UInt8} {E : Eds} {b : UInt8} {p : List UInt8} {D : Met} {k : Nat} (hl : ∀ x y, ([x], [y]) ∈ E → y ∈ l) (h : MetOk l D) : MetOk l (stepE E b p D k) := by
  unfold stepE
  split
  · rename_i x y he
    split
    · rename_i hc
      have hk : keysM (D ++ [(y, p ++ [nameL k])]) = keysM D ++ [y] := by simp [keysM]
      refine ⟨?_, ?_⟩
      · rw [hk, List.nodup_append]
        exact ⟨h.nodup, by simp, fun a ha b hb => by simp at hb; subst hb; exact fun e => hc.2 (e ▸ ha)⟩
      · rw [hk]
        intro z hz
        rcases List.mem_append.1 hz with hz | hz
        · exact h.sub z hz
        · simp at hz; subst hz
          exact hl _ _ (List.mem_of_getElem? he)
    · exact h
  · exact h
theorem rowE_pre (E : Eds) (b : UInt8) (p : List UInt8) (D : Met) : ∀ {m n : Nat}, m ≤ n → rowE E b p D m <+: rowE E b p D n
  | m, 0, h => by rw [show m = 0 by omega]; exact List.prefix_refl _
  | m, n + 1, h => by
    by_cases hm : m = n + 1
    · rw [hm]; exact List.prefix_refl _
    · rw [rowE_succ]
      exact (rowE_pre E b p D (show m ≤ n by omega)).trans (stepE_pre _ _ _ _ _)
theorem rowE_ok {l : List UInt8} {E : Eds} {b : UInt8} {p : List UInt8} {D : Met} (hl : ∀ x y, ([x], [y]) ∈ E → y ∈ l) (h : MetOk l D) : ∀ n, MetOk l (rowE E b p D n)
  | 0 => h
  | n + 1 => by rw [rowE_succ]; exact stepE_ok hl (rowE_ok hl h n)

theorem bfs_some {E : Eds} {s b : UInt8} {p : List UInt8} {j : Nat} (h : (bfs E s j)[j]? = some (b, p)) : bfs E s (j + 1) = rowE E b p (bfs E s j) E.length := by
  rw [bfs, h]
theorem bfs_none {E : Eds} {s : UInt8} {j : Nat} (h : (bfs E s j).length ≤ j) : bfs E s (j + 1) = bfs E s j := by
  rw [bfs, List.getElem?_eq_none h]
theorem bfs_pre (E : Eds) (s : UInt8) : ∀ {i j : Nat}, i ≤ j → bfs E s i <+: bfs E s j
  | i, 0, h => by rw [show i = 0 by omega]; exact List.prefix_refl _
  | i, j + 1, h => by
    by_cases hi : i = j + 1
    · rw [hi]; exact List.prefix_refl _
    · refine (bfs_pre E s (show i ≤ j by omega)).trans ?_
      cases hj : (bfs E s j)[j]? with
      | none => rw [bfs_none (List.getElem?_eq_none_iff.1 hj)]; exact List.prefix_refl _
      | some x =>
        obtain ⟨b, p⟩ := x
        rw [bfs_some hj]
        have h0 := rowE_pre E b p (bfs E s j) (Nat.zero_le E.length)
        rwa [rowE_zero] at h0
theorem bfs_ok {l : List UInt8} {E : Eds} {s : UInt8} (hl : ∀ x y, ([x], [y]) ∈ E → y ∈ l) (hs : s ∈ l) : ∀ j, MetOk l (bfs E s j)
  | 0 => ⟨by simp [bfs, keysM], by simp [bfs, keysM, hs]⟩
  | j + 1 => by
    cases hj : (bfs E s j)[j]? with
    | none => rw [bfs_none (List.getElem?_eq_none_iff.1 hj)]; exact bfs_ok hl hs j
    | some x =>
      obtain ⟨b, p⟩ := x
      rw [bfs_some hj]
      exact rowE_ok hl (bfs_ok hl hs j) _
theorem MetOk.len {l : List UInt8} {D : Met} (h : MetOk l D) : D.length ≤ l.length := by
  have := nodup_len h.nodup h.sub
  simpa [keysM] using this
theorem bfs_still {E : Eds} {s : UInt8} {i : Nat} (h : (bfs E s i).length ≤ i) : ∀ j, i ≤ j → bfs E s j = bfs E s i
  | 0, hj => by rw [show i = 0 by omega]
  | j + 1, hj => by
    by_cases hi : i = j + 1
    · rw [hi]
    · have := bfs_still h j (by omega)
      rw [bfs_none (by rw [this]; omega), this]

theorem stepE_plen {E : Eds} {b : UInt8} {p : List UInt8} {D : Met} {k m : Nat} (hp : p.length < m) (h : ∀ x ∈ D, x.2.length ≤ m) : ∀ x ∈ stepE E b p D k, x.2.length ≤ m := by
  unfold stepE
  split
  · split
    · intro x hx
      rcases List.mem_append.1 hx with hx | hx
      · exact h x hx
      · simp at hx; subst hx; simp; omega
    · exact h
  · exact h
theorem rowE_plen {E : Eds} {b : UInt8} {p : List UInt8} {D : Met} {m : Nat} (hp : p.length < m) (h : ∀ x ∈ D, x.2.length ≤ m) : ∀ n, ∀ x ∈ rowE E b p D n, x.2.length ≤ m
  | 0 => h
  | n + 1 => by rw [rowE_succ]; exact stepE_plen hp (rowE_plen hp h n)
theorem bfs_plen {E : Eds} {s : UInt8} : ∀ j, ∀ x ∈ bfs E s j, x.2.length ≤ j
  | 0 => by simp [bfs]
  | j + 1 => by
    cases hj : (bfs E s j)[j]? with
    | none =>
      rw [bfs_none (List.getElem?_eq_none_iff.1 hj)]
      exact fun x hx => Nat.le_succ_of_le (bfs_plen j x hx)
    | some x =>
      obtain ⟨b, p⟩ := x
      rw [bfs_some hj]
      have := bfs_plen j (b, p) (List.mem_of_getElem? hj)
      exact rowE_plen (by simp only at this; omega) (fun x hx => Nat.le_succ_of_le (bfs_plen j x hx)) _

/-- the one entry of a block -/
theorem find_one : ∀ {D : Met} {t : UInt8} {p : List UInt8}, (keysM D).Nodup → (t, p) ∈ D → D.find? (fun x => x.1 == t) = some (t, p)
  | [], _, _, _, h => absurd h (by simp)
  | (a, q) :: D, t, p, hn, h => by
    simp only [keysM, List.map_cons, List.nodup_cons] at hn
    rcases List.mem_cons.1 h with h | h
    · injection h with h1 h2
      subst h1; subst h2
      simp
    · have hne : a ≠ t := fun e => hn.1 (by subst e; exact List.mem_map_of_mem (f := (·.1)) h)
      rw [List.find?_cons_of_neg (by simpa using hne)]
      exact find_one hn.2 h
theorem pathE_of {l : List UInt8} {E : Eds} {s t : UInt8} {p : List UInt8} {D : Met} (hl : ∀ x y, ([x], [y]) ∈ E → y ∈ l) (hs : s ∈ l) (hp : D <+: bfs E s 8) (h : (t, p) ∈ D) : pathE E s t = p := by
  unfold pathE
  rw [find_one (bfs_ok hl hs 8).nodup (hp.subset h)]
  rfl
theorem pathE_none {E : Eds} {s t : UInt8} {i : Nat} (h : (bfs E s i).length ≤ i) (hi : i ≤ 8) (ht : t ∉ keysM (bfs E s i)) : pathE E s t = [] := by
  unfold pathE
  rw [bfs_still h 8 hi]
  have : (bfs E s i).find? (fun x => x.1 == t) = none := by
    rw [List.find?_eq_none]
    intro x hx he
    simp at he
    exact ht (he ▸ List.mem_map_of_mem (f := (·.1)) hx)
  rw [this]
  rfl

/-- so many of some edges looked at -/
def rowO (E : Eds) (b : UInt8) (p : List UInt8) (D : Met) (ks : List Nat) : Met := ks.foldl (stepE E b p) D
theorem rowO_nil (E : Eds) (b : UInt8) (p : List UInt8) (D : Met) : rowO E b p D [] = D := rfl
theorem rowO_snoc (E : Eds) (b : UInt8) (p : List UInt8) (D : Met) (ks : List Nat) (k : Nat) : rowO E b p D (ks ++ [k]) = stepE E b p (rowO E b p D ks) k := by
  simp [rowO, List.foldl_append]
theorem rowO_filter (E : Eds) (b : UInt8) (p : List UInt8) (q : Nat → Bool) : ∀ (ks : List Nat) (D : Met), (∀ k ∈ ks, q k = false → ∀ D', stepE E b p D' k = D') → rowO E b p D (ks.filter q) = rowO E b p D ks
  | [], _, _ => rfl
  | k :: ks, D, h => by
    have ih := fun D' => rowO_filter E b p q ks D' (fun j hj => h j (by simp [hj]))
    cases hq : q k with
    | true => rw [List.filter_cons_of_pos hq]; exact ih _
    | false =>
      rw [List.filter_cons_of_neg (by simp [hq]), ih D]
      show rowO E b p D ks = rowO E b p (stepE E b p D k) ks
      rw [h k (by simp) hq]
theorem rowO_ok {l : List UInt8} {E : Eds} {b : UInt8} {p : List UInt8} {D : Met} (hl : ∀ x y, ([x], [y]) ∈ E → y ∈ l) (h : MetOk l D) (ks : List Nat) : MetOk l (rowO E b p D ks) := by
  induction ks generalizing D with
  | nil => exact h
  | cons k ks ih => exact ih (stepE_ok hl h)
theorem rowO_pre (E : Eds) (b : UInt8) (p : List UInt8) (D : Met) (ks : List Nat) : D <+: rowO E b p D ks := by
  induction ks generalizing D with
  | nil => exact List.prefix_refl _
  | cons k ks ih => exact (stepE_pre _ _ _ _ _).trans (ih _)

end Go.Proofs.Ytcfcmlbbnpfejaa
