/- Places that are joined, as labels; edges that make no way round. -/
import Derived.Test.YtadngnajenedpaaPaths
namespace Go.Proofs.Ytadngnajenedpaa
open Go.RowKit

/-- joined, as the model does it: those with b's label get a's -/
def joinL (f : Nat → Nat) (a b : Nat) : Nat → Nat := fun m => if f m = f b then f a else f m
/-- joined, as the program does it: those with a's label get b's -/
def joinR (f : Nat → Nat) (a b : Nat) : Nat → Nat := fun m => if f m = f a then f b else f m
/-- the same places are joined -/
def SameL (n : Nat) (f g : Nat → Nat) : Prop := ∀ i j, i < n → j < n → (f i = f j ↔ g i = g j)

theorem SameL.refl (n : Nat) (f : Nat → Nat) : SameL n f f := fun _ _ _ _ => Iff.rfl
theorem SameL.join {n : Nat} {f g : Nat → Nat} {a b : Nat} (h : SameL n f g) (ha : a < n) (hb : b < n) : SameL n (joinL f a b) (joinR g a b) := by
  intro i j hi hj
  have h1 := h i j hi hj
  have h2 := h i b hi hb
  have h3 := h j b hj hb
  have h4 := h i a hi ha
  have h5 := h j a hj ha
  have h6 := h a b ha hb
  simp only [joinL, joinR]
  clear h hi hj ha hb
  generalize f i = fi at *
  generalize f j = fj at *
  generalize f a = fa at *
  generalize f b = fb at *
  generalize g i = gi at *
  generalize g j = gj at *
  generalize g a = ga at *
  generalize g b = gb at *
  split <;> split <;> split <;> split <;> omega
theorem SameL.same {n : Nat} {f g : Nat → Nat} {a b : Nat} (h : SameL n f g) (ha : a < n) (hb : b < n) : (f a != f b) = (g a != g b) := by
  have := h a b ha hb
  by_cases c : f a = f b
  · rw [bne_eq_false_iff_eq.2 c, bne_eq_false_iff_eq.2 (this.1 c)]
  · rw [bne_iff_ne.2 c, bne_iff_ne.2 (fun e => c (this.2 e))]
theorem joinL_self {f : Nat → Nat} {a b : Nat} (h : f a = f b) : joinL f a b = f := by
  funext m
  unfold joinL
  split
  · rename_i e; rw [e, h]
  · rfl
theorem joinL_lt {f : Nat → Nat} {a b n : Nat} (h : ∀ i, i < n → f i < n) (ha : a < n) : ∀ i, i < n → joinL f a b i < n := fun i hi => by
  unfold joinL
  split
  · exact h a ha
  · exact h i hi
theorem joinR_lt {f : Nat → Nat} {a b n : Nat} (h : ∀ i, i < n → f i < n) (hb : b < n) : ∀ i, i < n → joinR f a b i < n := fun i hi => by
  unfold joinR
  split
  · exact h b hb
  · exact h i hi

/-- the places of both ends of an edge -/
def endsN (l : List UInt8) (E : Eds) (k : Nat) : Nat × Nat := ((bIdx l (E.getD k ([], [])).1).toNat, (bIdx l (E.getD k ([], [])).2).toNat)

theorem ends_at {l : List UInt8} {es : List (ByteArray × ByteArray)} (h : EdgesOk l (ebs es)) {k : Nat} (hk : k < es.length) :
    ∃ x y i j, es[k].1 = ⟨#[x]⟩ ∧ es[k].2 = ⟨#[y]⟩ ∧ endsN l (ebs es) k = (i, j) ∧ Lib.indexByte l x = (i : Nat) ∧ Lib.indexByte l y = (j : Nat) ∧ i < l.length ∧ j < l.length := by
  have hg : (ebs es).getD k ([], []) = (es[k].1.data.toList, es[k].2.data.toList) := by simp [ebs, List.getD, hk]
  have hm : (es[k].1.data.toList, es[k].2.data.toList) ∈ ebs es := by
    refine List.mem_map.2 ⟨es[k], List.getElem_mem hk, rfl⟩
  obtain ⟨h1, h2, _, _⟩ := h.2 _ hm
  simp only at h1 h2
  obtain ⟨x, hx, hxm, hxe⟩ := bIdx_some h1
  obtain ⟨y, hy, hym, hye⟩ := bIdx_some h2
  have z1 := indexByte_nonneg.2 hxm
  have z2 := indexByte_nonneg.2 hym
  have l1 := indexByte_lt (l := l) (c := x)
  have l2 := indexByte_lt (l := l) (c := y)
  refine ⟨x, y, (Lib.indexByte l x).toNat, (Lib.indexByte l y).toNat, str_ext hx, str_ext hy, ?_, by omega, by omega, by omega, by omega⟩
  unfold endsN
  rw [hg]
  simp only [hxe, hye]

/-- whether edges make no way round with each other and what is joined -/
def forest (E : Nat → Nat × Nat) : (Nat → Nat) → List Nat → Bool
  | _, [] => true
  | f, k :: r => if f (E k).1 = f (E k).2 then false else forest E (joinL f (E k).1 (E k).2) r
theorem forest_no {E : Nat → Nat × Nat} {f : Nat → Nat} {k : Nat} {r : List Nat} (h : f (E k).1 = f (E k).2) : forest E f (k :: r) = false := if_pos h
theorem forest_yes {E : Nat → Nat × Nat} {f : Nat → Nat} {k : Nat} {r : List Nat} (h : ¬ f (E k).1 = f (E k).2) : forest E f (k :: r) = forest E (joinL f (E k).1 (E k).2) r := if_neg h

/-- what is joined at first: the exit and the entry -/
def fresh (n : Nat) : Nat → Nat := joinL (fun i => i) 0 (n - 1)
theorem fresh_lt (n m : Nat) (hm : 0 < m) : ∀ i, i < m → fresh n i < m := joinL_lt (fun _ h => h) hm

/-- the places of the edges that a text names -/
def ksOf (l : List UInt8) : List Nat := l.map fun c => c.toNat - 97
theorem ks_drop {l : List UInt8} {i : Nat} (h : i < l.length) : (ksOf l).drop i = ((l.getD i 0).toNat - 97) :: (ksOf l).drop (i + 1) := by
  have h' : i < (ksOf l).length := by simpa [ksOf] using h
  rw [List.drop_eq_getElem_cons h']
  simp [ksOf, List.getD, h]
theorem ks_end {l : List UInt8} {i : Nat} (h : l.length ≤ i) : (ksOf l).drop i = [] := List.drop_of_length_le (by simpa [ksOf] using h)

/-- a text has names of edges in their order, each once -/
def Known (n : Nat) (l : List UInt8) : Prop := ∀ i, i < l.length → 0 ≤ eIdx n [l.getD i 0] ∧ (0 < i → (l.getD (i - 1) 0).toNat < (l.getD i 0).toNat)
theorem Known.at {n : Nat} {l : List UInt8} (h : Known n l) {i : Nat} (hi : i < l.length) : eIdx n [l.getD i 0] = ((l.getD i 0).toNat - 97 : Nat) ∧ (l.getD i 0).toNat - 97 < n := by
  have h1 := (h i hi).1
  unfold eIdx at h1 ⊢
  simp only at h1 ⊢
  split at h1
  · rename_i c
    rw [if_pos c]
    omega
  · omega

/-- whether a text is a tree -/
noncomputable def treeV (B : ByteArray) (es : List (ByteArray × ByteArray)) (t : ByteArray) : Bool :=
  decB (Valid B.data.toList (ebs es) ∧ Known es.length t.data.toList ∧ t.size + 2 = B.size ∧ forest (endsN B.data.toList (ebs es)) (fresh B.size) (ksOf t.data.toList) = true)

theorem grown_on {a b c : World} {row : Option Nat} (h : a.grownBy b row) (k : b.grownBy c row) : a.grownBy c row :=
  ⟨k.os.trans h.os, k.tape.trans h.tape, k.output.trans h.output, Nat.le_trans h.size k.size, fun i hi hr => (k.block i (Nat.lt_of_lt_of_le hi h.size) hr).trans (h.block i hi hr)⟩

end Go.Proofs.Ytadngnajenedpaa
