/- Nets as plain lists: shape, what can be come to, what is valid. No program here. -/
import Derived.Lib.Bytealg
import Derived.Lib.IndexLaws
namespace Go.Proofs.Ytcfcmlbbnpfejaa

/-- the place of a block in a text of blocks -/
def bIdx (B : List UInt8) (b : List UInt8) : Int := match b with
  | [c] => Lib.indexByte B c
  | _ => -1

/-- the truth of a statement -/
noncomputable def decB (p : Prop) : Bool := @decide p (Classical.propDecidable p)
theorem decB_t {p : Prop} (h : p) : decB p = true := @decide_eq_true p (Classical.propDecidable p) h
theorem decB_f {p : Prop} (h : ¬ p) : decB p = false := @decide_eq_false p (Classical.propDecidable p) h
theorem decB_iff {p : Prop} : decB p = true ↔ p := ⟨@of_decide_eq_true p (Classical.propDecidable p), decB_t⟩
theorem decB_not {p : Prop} : decB p = false ↔ ¬ p := ⟨@of_decide_eq_false p (Classical.propDecidable p), decB_f⟩
theorem decB_congr {p q : Prop} (h : p ↔ q) : decB p = decB q := by
  by_cases hp : p
  · rw [decB_t hp, decB_t (h.1 hp)]
  · rw [decB_f hp, decB_f (fun hq => hp (h.2 hq))]

abbrev Eds := List (List UInt8 × List UInt8)

/-- blocks are 2 to 8 different letters from A to H -/
def BlocksOk (l : List UInt8) : Prop := 2 ≤ l.length ∧ l.length ≤ 8 ∧ (∀ b ∈ l, 65 ≤ b.toNat ∧ b.toNat ≤ 72) ∧ l.Nodup

/-- an edge leads from one block to one, not from the exit, not to the entry -/
def EdgeOk (l : List UInt8) (e : List UInt8 × List UInt8) : Prop :=
  0 ≤ bIdx l e.1 ∧ 0 ≤ bIdx l e.2 ∧ bIdx l e.1 ≠ (l.length : Int) - 1 ∧ bIdx l e.2 ≠ 0

def EdgesOk (l : List UInt8) (E : Eds) : Prop := E.length ≤ 16 ∧ ∀ e ∈ E, EdgeOk l e
def ShapeOk (l : List UInt8) (E : Eds) : Prop := BlocksOk l ∧ EdgesOk l E

/-- there is a way along edges -/
inductive Way (E : Eds) : UInt8 → UInt8 → Prop
  | refl (a : UInt8) : Way E a a
  | step {a b c : UInt8} : Way E a b → ([b], [c]) ∈ E → Way E a c

def flip (E : Eds) : Eds := E.map fun e => (e.2, e.1)

theorem Way.trans {E : Eds} {a b c : UInt8} (h : Way E a b) (k : Way E b c) : Way E a c := by
  induction k with
  | refl => exact h
  | step _ he ih => exact .step ih he

theorem mem_flip {E : Eds} {a b : List UInt8} : (a, b) ∈ flip E ↔ (b, a) ∈ E := by
  simp only [flip, List.mem_map, Prod.mk.injEq]
  constructor
  · rintro ⟨e, he, rfl, rfl⟩; exact he
  · intro h; exact ⟨_, h, rfl, rfl⟩

theorem way_flip {E : Eds} {a b : UInt8} (h : Way E a b) : Way (flip E) b a := by
  induction h with
  | refl => exact .refl _
  | step _ he ih => exact Way.trans (.step (.refl _) (mem_flip.2 he)) ih

theorem flip_flip (E : Eds) : flip (flip E) = E := by simp [flip, Function.comp_def]

theorem way_flip_iff {E : Eds} {a b : UInt8} : Way (flip E) b a ↔ Way E a b :=
  ⟨fun h => by have := way_flip h; rwa [flip_flip] at this, way_flip⟩

/-- each block of a net can be come to from a block -/
def AllFrom (l : List UInt8) (E : Eds) (s : UInt8) : Prop := ∀ b ∈ l, Way E s b

def entry (l : List UInt8) : UInt8 := l.headD 0
def exit_ (l : List UInt8) : UInt8 := l.getLastD 0

/-- the document's valid net -/
def Valid (l : List UInt8) (E : Eds) : Prop := ShapeOk l E ∧ AllFrom l E (entry l) ∧ AllFrom l (flip E) (exit_ l)

/-- what a search has met: each block once, all that can be come to -/
structure Closed (E : Eds) (s : UInt8) (out : List UInt8) : Prop where
  nodup : out.Nodup
  start : s ∈ out
  way : ∀ x ∈ out, Way E s x
  closed : ∀ x ∈ out, ∀ y, ([x], [y]) ∈ E → y ∈ out

theorem Closed.all {E : Eds} {s : UInt8} {out : List UInt8} (h : Closed E s out) {x : UInt8} (hw : Way E s x) : x ∈ out := by
  induction hw with
  | refl => exact h.start
  | step _ he ih => exact h.closed _ ih _ he

theorem Closed.mem_iff {E : Eds} {s : UInt8} {out : List UInt8} (h : Closed E s out) (x : UInt8) : x ∈ out ↔ Way E s x := ⟨h.way x, h.all⟩

theorem nodup_len {α : Type} [DecidableEq α] : ∀ {a b : List α}, a.Nodup → (∀ x ∈ a, x ∈ b) → a.length ≤ b.length
  | [], _, _, _ => by simp
  | x :: a, b, hn, hs => by
    have hx := hs x (by simp)
    have hn' := List.nodup_cons.1 hn
    have h := nodup_len (a := a) (b := b.erase x) hn'.2 (fun y hy => by
      have hne : y ≠ x := fun e => hn'.1 (e ▸ hy)
      exact (List.mem_erase_of_ne hne).2 (hs y (by simp [hy])))
    rw [List.length_erase_of_mem hx] at h
    have := List.length_pos_of_mem hx
    simp; omega

/-- as many met as there are blocks: all are met -/
theorem Closed.count {E : Eds} {s : UInt8} {out l : List UInt8} (h : Closed E s out) (hl : l.Nodup) (hsub : ∀ x ∈ out, x ∈ l) : out.length = l.length ↔ AllFrom l E s := by
  constructor
  · intro he x hx
    refine h.way x (Classical.byContradiction fun hne => ?_)
    have h1 := nodup_len (a := x :: out) (b := l) (List.nodup_cons.2 ⟨hne, h.nodup⟩) (fun y hy => by
      rcases List.mem_cons.1 hy with rfl | hy
      · exact hx
      · exact hsub y hy)
    simp at h1; omega
  · intro ha
    have h1 := nodup_len h.nodup hsub
    have h2 := nodup_len hl (fun x hx => h.all (ha x hx))
    omega

theorem indexByte_nonneg {l : List UInt8} {c : UInt8} : 0 ≤ Lib.indexByte l c ↔ c ∈ l := by
  induction l with
  | nil => simp [Lib.indexByte]
  | cons b l ih =>
    have hg := Lib.indexByte_ge l c
    unfold Lib.indexByte
    by_cases hb : b = c
    · simp [hb]
    · have hb' : (b == c) = false := by simpa using hb
      have hc : ¬ c = b := fun h => hb h.symm
      simp only [hb', Bool.false_eq_true, if_false, List.mem_cons, hc, false_or, ← ih]
      split <;> rename_i hx <;> simp at hx <;> omega

theorem indexByte_lt {l : List UInt8} {c : UInt8} : Lib.indexByte l c < l.length := by
  induction l with
  | nil => simp [Lib.indexByte]
  | cons b l ih =>
    unfold Lib.indexByte
    split
    · simp
    · split <;> simp <;> omega

theorem indexByte_get {l : List UInt8} {c : UInt8} (h : c ∈ l) : l[(Lib.indexByte l c).toNat]? = some c := by
  have h0 := indexByte_nonneg.2 h
  obtain ⟨k, hk⟩ := Int.eq_ofNat_of_zero_le h0
  rw [hk]; simp
  exact (Lib.indexByte_some hk).1

theorem indexByte_of_get {l : List UInt8} (hn : l.Nodup) {i : Nat} {c : UInt8} (h : l[i]? = some c) : Lib.indexByte l c = i := by
  have hm : c ∈ l := List.mem_of_getElem? h
  have h1 := indexByte_get hm
  have h0 := indexByte_nonneg.2 hm
  have hi : i < l.length := by
    rw [List.getElem?_eq_some_iff] at h; exact h.1
  have hlt := indexByte_lt (l := l) (c := c)
  have := (List.getElem?_inj (by omega) hn).1 (h1.trans h.symm)
  omega

theorem bIdx_some {B b : List UInt8} (h : 0 ≤ bIdx B b) : ∃ c, b = [c] ∧ c ∈ B ∧ bIdx B b = Lib.indexByte B c := by
  unfold bIdx at h ⊢
  split at h
  · exact ⟨_, rfl, indexByte_nonneg.1 h, rfl⟩
  · omega

/-- no letter stands ahead of its place: the letters differ -/
theorem nodup_of_index {l : List UInt8} (h : ∀ (i : Nat) (b : UInt8), l[i]? = some b → ¬ Lib.indexByte l b < i) : l.Nodup := by
  refine List.pairwise_iff_getElem.2 fun i j hi hj hij he => ?_
  have hb : l[j]? = some l[i] := by rw [he, List.getElem?_eq_getElem hj]
  have h1 := h j _ hb
  have hm : l[i] ∈ l := List.getElem_mem hi
  obtain ⟨k, hk⟩ := Int.eq_ofNat_of_zero_le (indexByte_nonneg.2 hm)
  have h2 := (Lib.indexByte_some hk).2 i (by omega)
  exact h2 (List.getElem?_eq_getElem hi)

/-- a letter that does not stand in the part ahead of it -/
theorem nodup_of_take {l : List UInt8} (h : ∀ (i : Nat) (b : UInt8), l[i]? = some b → b ∉ l.take i) : l.Nodup := by
  refine List.pairwise_iff_getElem.2 fun i j hi hj hij he => ?_
  have hb : l[j]? = some l[i] := by rw [he, List.getElem?_eq_getElem hj]
  refine h j _ hb ?_
  exact List.mem_of_getElem? (i := i) (by rw [List.getElem?_take, if_pos hij, List.getElem?_eq_getElem hi])

theorem nodup_take {l : List UInt8} (hn : l.Nodup) {i : Nat} {b : UInt8} (h : l[i]? = some b) : b ∉ l.take i := by
  intro hm
  obtain ⟨j, hj⟩ := List.mem_iff_getElem?.1 hm
  rw [List.getElem?_take] at hj
  split at hj
  · have hi : i < l.length := (List.getElem?_eq_some_iff.1 h).1
    have := (List.getElem?_inj (by omega) hn).1 (hj.trans h.symm)
    omega
  · cases hj

end Go.Proofs.Ytcfcmlbbnpfejaa
