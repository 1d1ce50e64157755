/- How many edges leave the blocks, all told: pure. -/
import Derived.Test.YtkclbjgnaichhaaMath
import Derived.Test.YtkclbjgnaichhaaNet1
namespace Go.Proofs.Ytkclbjgnaichhaa

theorem name_inj {i j : Nat} (hi : i ≤ 100) (hj : j ≤ 100) (h : nameOf i = nameOf j) : i = j := by
  have h1 := nameOf_toNat hi
  have h2 := nameOf_toNat hj
  rw [h] at h1; omega
theorem names_in {p : Nat → Bool} {n k : Nat} (hn : n ≤ 100) (hk : k < n) : nameOf k ∈ names p n ↔ p k = true := by
  unfold names
  constructor
  · intro h
    obtain ⟨j, hj, he⟩ := List.mem_map.1 h
    obtain ⟨hj1, hj2⟩ := List.mem_filter.1 hj
    have hj3 : j < n := by simpa using hj1
    have := name_inj (by omega) (by omega) he
    subst this; exact hj2
  · intro h
    exact List.mem_map.2 ⟨k, List.mem_filter.2 ⟨by simpa using hk, h⟩, rfl⟩
theorem names_dec (p : Nat → Bool) {n k : Nat} (hn : n ≤ 100) (hk : k < n) : p k = decide (nameOf k ∈ names p n) := by
  cases hb : p k with
  | true => exact (decide_eq_true ((names_in hn hk).2 hb)).symm
  | false => exact (decide_eq_false fun h => by rw [(names_in hn hk).1 h] at hb; cases hb).symm
theorem names_same {p q : Nat → Bool} : ∀ {n : Nat}, (∀ k, k < n → p k = q k) → names p n = names q n
  | 0, _ => rfl
  | n + 1, h => by
    have ih := names_same (n := n) fun k hk => h k (by omega)
    cases hp : p n with
    | true => rw [names_yes hp, names_yes ((h n (by omega)).symm.trans hp), ih]
    | false => rw [names_no hp, names_no ((h n (by omega)).symm.trans hp), ih]
theorem names_nil {p : Nat → Bool} : ∀ {n : Nat}, names p n = [] ↔ ∀ k, k < n → p k = false
  | 0 => ⟨fun _ k hk => absurd hk (by omega), fun _ => rfl⟩
  | n + 1 => by
    cases hp : p n with
    | true =>
      rw [names_yes hp]
      exact ⟨fun h => absurd h (by simp), fun h => absurd (h n (by omega)) (by rw [hp]; simp)⟩
    | false =>
      rw [names_no hp, names_nil]
      exact ⟨fun h k hk => by
        rcases Nat.lt_or_ge k n with hk' | hk'
        · exact h k hk'
        · rw [show k = n by omega]; exact hp, fun h k hk => h k (by omega)⟩

theorem ones_sum (x : UInt8) : ∀ (l : List UInt8), (l.map fun c => if x == c then 1 else 0).sum = l.count x
  | [] => rfl
  | c :: l => by
    rw [List.map_cons, List.sum_cons, ones_sum x l, List.count_cons]
    by_cases h : x = c
    · subst h; simp; omega
    · have h1 : (x == c) = false := by simpa using h
      have h2 : (c == x) = false := by simpa using fun e => h e.symm
      simp [h1, h2]
theorem ones_one {x : UInt8} : ∀ {l : List UInt8}, l.Nodup → x ∈ l → l.count x = 1
  | [], _, h => by cases h
  | c :: l, hn, h => by
    rw [List.nodup_cons] at hn
    rw [List.count_cons]
    by_cases hc : c = x
    · subst hc
      rw [List.count_eq_zero.2 hn.1]; simp
    · rw [ones_one hn.2 (by rcases List.mem_cons.1 h with e | e
                            · exact absurd e.symm hc
                            · exact e)]
      simp [hc]
theorem map_add (f g : UInt8 → Nat) : ∀ (l : List UInt8), (l.map fun c => f c + g c).sum = (l.map f).sum + (l.map g).sum
  | [] => rfl
  | c :: l => by
    simp only [List.map_cons, List.sum_cons, map_add f g l]; omega

/-- how many of the first n have the letter -/
def degL (g : Nat → UInt8) (n : Nat) (c : UInt8) : Nat := (names (fun k => g k == c) n).length
theorem degL_succ (g : Nat → UInt8) (n : Nat) (c : UInt8) : degL g (n + 1) c = degL g n c + (if g n == c then 1 else 0) := by
  unfold degL
  cases hp : g n == c with
  | true => rw [names_yes (p := fun k => g k == c) hp]; simp
  | false => rw [names_no (p := fun k => g k == c) hp]; simp
/-- all of them have one of the letters -/
theorem deg_sum {l : List UInt8} (hn : l.Nodup) (g : Nat → UInt8) : ∀ (n : Nat), (∀ k, k < n → g k ∈ l) → (l.map (degL g n)).sum = n
  | 0, _ => by
    have h : ∀ l : List UInt8, (l.map (degL g 0)).sum = 0 := fun l => by
      induction l with
      | nil => rfl
      | cons c l ih => rw [List.map_cons, List.sum_cons, ih]; rfl
    exact h l
  | n + 1, h => by
    have e : degL g (n + 1) = fun c => degL g n c + (if g n == c then 1 else 0) := funext fun c => degL_succ g n c
    rw [e, map_add, deg_sum hn g n (fun k hk => h k (by omega)), ones_sum, ones_one hn (h n (by omega))]
/-- the letters up to one -/
def degTo (g : Nat → UInt8) (n : Nat) (l : List UInt8) (i : Nat) : Nat := ((l.take i).map (degL g n)).sum
theorem degTo_succ {g : Nat → UInt8} {n : Nat} {l : List UInt8} {i : Nat} (h : i < l.length) : degTo g n l (i + 1) = degTo g n l i + degL g n l[i] := by
  unfold degTo
  rw [List.take_succ_eq_append_getElem h, List.map_append, List.sum_append]
  simp
theorem degL_le (g : Nat → UInt8) (n : Nat) (c : UInt8) : degL g n c ≤ n := names_length _ n
theorem degTo_le (g : Nat → UInt8) (n : Nat) (l : List UInt8) : ∀ i, i ≤ l.length → degTo g n l i ≤ n * i
  | 0, _ => by simp [degTo]
  | i + 1, h => by
    have := degTo_le g n l i (by omega)
    have := degL_le g n l[i]
    rw [degTo_succ (by omega), Nat.mul_succ]; omega
theorem degTo_all {g : Nat → UInt8} {n : Nat} {l : List UInt8} (hn : l.Nodup) (h : ∀ k, k < n → g k ∈ l) : degTo g n l l.length = n := by
  unfold degTo
  rw [List.take_length, deg_sum hn g n h]

/-- a way that leads on begins with an edge -/
theorem way_head {E : Eds} {a b : UInt8} (h : Way E a b) : a ≠ b → ∃ y, ([a], [y]) ∈ E := by
  induction h with
  | refl => exact fun h => absurd rfl h
  | @step b' c' hw he ih =>
    intro _
    by_cases hab : a = b'
    · subst hab; exact ⟨_, he⟩
    · exact ih hab
/-- and ends with one -/
theorem way_last {E : Eds} {a b : UInt8} (h : Way E a b) (hn : a ≠ b) : ∃ x, ([x], [b]) ∈ E := by
  cases h with
  | refl => exact absurd rfl hn
  | step hw he => exact ⟨_, he⟩

/-- nothing leaves the exit, all other blocks have an edge that leaves -/
theorem leave_none {l : List UInt8} {E : Eds} (hv : Valid l E) {c : UInt8} (hc : c ∈ l) : (∀ y, ([c], [y]) ∉ E) ↔ c = exit_ l := by
  have h2 := hv.1.1.1
  have hx : l[l.length - 1]? = some (exit_ l) := by
    unfold exit_
    have hne : l ≠ [] := fun e => by rw [e] at h2; simp at h2
    rw [List.getLastD_eq_getLast?, List.getLast?_eq_some_getLast hne, Option.getD_some, List.getLast_eq_getElem, ← List.getElem?_eq_getElem]
  constructor
  · intro h
    by_cases hce : c = exit_ l
    · exact hce
    · obtain ⟨y, hy⟩ := way_head (way_flip_iff.1 (hv.2.2 c hc)) hce
      exact absurd hy (h y)
  · rintro rfl y hy
    have h3 := (hv.1.2.2 _ hy).2.2.1
    simp only [bIdx] at h3
    rw [indexByte_of_get hv.1.1.2.2.2 hx] at h3
    omega
/-- nothing comes to the entry, all other blocks have an edge that comes -/
theorem come_none {l : List UInt8} {E : Eds} (hv : Valid l E) {c : UInt8} (hc : c ∈ l) : (∀ x, ([x], [c]) ∉ E) ↔ c = entry l := by
  have h2 := hv.1.1.1
  have hx : l[0]? = some (entry l) := by
    unfold entry
    match l, h2 with
    | a :: l, _ => rfl
  constructor
  · intro h
    by_cases hce : entry l = c
    · exact hce.symm
    · obtain ⟨x, hx⟩ := way_last (hv.2.1 c hc) hce
      exact absurd hx (h x)
  · rintro rfl x hy
    have h3 := (hv.1.2.2 _ hy).2.2.2
    simp only [bIdx] at h3
    rw [indexByte_of_get hv.1.1.2.2.2 hx] at h3
    exact h3 rfl

end Go.Proofs.Ytkclbjgnaichhaa
