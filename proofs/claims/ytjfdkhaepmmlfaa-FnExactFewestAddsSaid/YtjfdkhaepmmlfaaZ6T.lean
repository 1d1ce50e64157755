/- Trees by both. -/
import Derived.Test.YtjfdkhaepmmlfaaPaths
import Derived.Test.YtjfdkhaepmmlfaaMem
import Derived.Test.YtjfdkhaepmmlfaaNetQ
import Derived.Deep.OwnRows
import Derived.LaidEqlPtr
import Derived.Deep.RegionHeld3
import Derived.BigRegion
namespace Go.Proofs.Ytjfdkhaepmmlfaa
open Go.RowKit

/-- joined, as the model does it: those with b's label get a's -/
def joinL (f : Nat → Nat) (a b : Nat) : Nat → Nat := fun m => if f m = f b then f a else f m
/-- joined, as the program does it: those with a's label get b's -/
def joinR (f : Nat → Nat) (a b : Nat) : Nat → Nat := fun m => if f m = f a then f b else f m
/-- the same places are joined -/
def SameL (n : Nat) (f g : Nat → Nat) : Prop := ∀ i j, i < n → j < n → (f i = f j ↔ g i = g j)

theorem SameL.refl (n : Nat) (f : Nat → Nat) : SameL n f f := fun _ _ _ _ => Iff.rfl
theorem SameL.join {n : Nat} {f g : Nat → Nat} {a b : Nat} (h : SameL n f g) (ha : a < n) (hb : b < n) : SameL n (joinL f a b) (joinR g a b) := by
  intro i j hi hj
  have h1 := h i j hi hj
  have h2 := h i b hi hb
  have h3 := h j b hj hb
  have h4 := h i a hi ha
  have h5 := h j a hj ha
  have h6 := h a b ha hb
  simp only [joinL, joinR]
  clear h hi hj ha hb
  generalize f i = fi at *
  generalize f j = fj at *
  generalize f a = fa at *
  generalize f b = fb at *
  generalize g i = gi at *
  generalize g j = gj at *
  generalize g a = ga at *
  generalize g b = gb at *
  split <;> split <;> split <;> split <;> omega
theorem SameL.same {n : Nat} {f g : Nat → Nat} {a b : Nat} (h : SameL n f g) (ha : a < n) (hb : b < n) : (f a != f b) = (g a != g b) := by
  have := h a b ha hb
  by_cases c : f a = f b
  · rw [bne_eq_false_iff_eq.2 c, bne_eq_false_iff_eq.2 (this.1 c)]
  · rw [bne_iff_ne.2 c, bne_iff_ne.2 (fun e => c (this.2 e))]
theorem joinL_self {f : Nat → Nat} {a b : Nat} (h : f a = f b) : joinL f a b = f := by
  funext m
  unfold joinL
  split
  · rename_i e; rw [e, h]
  · rfl
theorem joinL_lt {f : Nat → Nat} {a b n : Nat} (h : ∀ i, i < n → f i < n) (ha : a < n) : ∀ i, i < n → joinL f a b i < n := fun i hi => by
  unfold joinL
  split
  · exact h a ha
  · exact h i hi
theorem joinR_lt {f : Nat → Nat} {a b n : Nat} (h : ∀ i, i < n → f i < n) (hb : b < n) : ∀ i, i < n → joinR f a b i < n := fun i hi => by
  unfold joinR
  split
  · exact h b hb
  · exact h i hi

/-- the places of both ends of an edge -/
def endsN (l : List UInt8) (E : Eds) (k : Nat) : Nat × Nat := ((bIdx l (E.getD k ([], [])).1).toNat, (bIdx l (E.getD k ([], [])).2).toNat)

theorem ends_at {l : List UInt8} {es : List (ByteArray × ByteArray)} (h : EdgesOk l (ebs es)) {k : Nat} (hk : k < es.length) :
    ∃ x y i j, es[k].1 = ⟨#[x]⟩ ∧ es[k].2 = ⟨#[y]⟩ ∧ endsN l (ebs es) k = (i, j) ∧ Lib.indexByte l x = (i : Nat) ∧ Lib.indexByte l y = (j : Nat) ∧ i < l.length ∧ j < l.length := by
  have hg : (ebs es).getD k ([], []) = (es[k].1.data.toList, es[k].2.data.toList) := by simp [ebs, List.getD, hk]
  have hm : (es[k].1.data.toList, es[k].2.data.toList) ∈ ebs es := by
    refine List.mem_map.2 ⟨es[k], List.getElem_mem hk, rfl⟩
  obtain ⟨h1, h2, _, _⟩ := h.2 _ hm
  simp only at h1 h2
  obtain ⟨x, hx, hxm, hxe⟩ := bIdx_some h1
  obtain ⟨y, hy, hym, hye⟩ := bIdx_some h2
  have z1 := indexByte_nonneg.2 hxm
  have z2 := indexByte_nonneg.2 hym
  have l1 := indexByte_lt (l := l) (c := x)
  have l2 := indexByte_lt (l := l) (c := y)
  refine ⟨x, y, (Lib.indexByte l x).toNat, (Lib.indexByte l y).toNat, str_ext hx, str_ext hy, ?_, by omega, by omega, by omega, by omega⟩
  unfold endsN
  rw [hg]
  simp only [hxe, hye]

/-- whether edges make no way round with each other and what is joined -/
def forest (E : Nat → Nat × Nat) : (Nat → Nat) → List Nat → Bool
  | _, [] => true
  | f, k :: r => if f (E k).1 = f (E k).2 then false else forest E (joinL f (E k).1 (E k).2) r
theorem forest_no {E : Nat → Nat × Nat} {f : Nat → Nat} {k : Nat} {r : List Nat} (h : f (E k).1 = f (E k).2) : forest E f (k :: r) = false := if_pos h
theorem forest_yes {E : Nat → Nat × Nat} {f : Nat → Nat} {k : Nat} {r : List Nat} (h : ¬ f (E k).1 = f (E k).2) : forest E f (k :: r) = forest E (joinL f (E k).1 (E k).2) r := if_neg h

/-- what is joined at first: the exit and the entry -/
def fresh (n : Nat) : Nat → Nat := joinL (fun i => i) 0 (n - 1)
theorem fresh_lt (n m : Nat) (hm : 0 < m) : ∀ i, i < m → fresh n i < m := joinL_lt (fun _ h => h) hm

/-- the places of the edges that a text names -/
def ksOf (l : List UInt8) : List Nat := l.map fun c => c.toNat - 97
theorem ks_drop {l : List UInt8} {i : Nat} (h : i < l.length) : (ksOf l).drop i = ((l.getD i 0).toNat - 97) :: (ksOf l).drop (i + 1) := by
  have h' : i < (ksOf l).length := by simpa [ksOf] using h
  rw [List.drop_eq_getElem_cons h']
  simp [ksOf, List.getD, h]
theorem ks_end {l : List UInt8} {i : Nat} (h : l.length ≤ i) : (ksOf l).drop i = [] := List.drop_of_length_le (by simpa [ksOf] using h)

/-- a text has names of edges in their order, each once -/
def Known (n : Nat) (l : List UInt8) : Prop := ∀ i, i < l.length → 0 ≤ eIdx n [l.getD i 0] ∧ (0 < i → (l.getD (i - 1) 0).toNat < (l.getD i 0).toNat)
theorem Known.at {n : Nat} {l : List UInt8} (h : Known n l) {i : Nat} (hi : i < l.length) : eIdx n [l.getD i 0] = ((l.getD i 0).toNat - 97 : Nat) ∧ (l.getD i 0).toNat - 97 < n := by
  have h1 := (h i hi).1
  unfold eIdx at h1 ⊢
  simp only at h1 ⊢
  split at h1
  · rename_i c
    rw [if_pos c]
    omega
  · omega

/-- whether a text is a tree -/
noncomputable def treeV (B : ByteArray) (es : List (ByteArray × ByteArray)) (t : ByteArray) : Bool :=
  decB (Valid B.data.toList (ebs es) ∧ Known es.length t.data.toList ∧ t.size + 2 = B.size ∧ forest (endsN B.data.toList (ebs es)) (fresh B.size) (ksOf t.data.toList) = true)

theorem grown_on {a b c : World} {row : Option Nat} (h : a.grownBy b row) (k : b.grownBy c row) : a.grownBy c row :=
  ⟨k.os.trans h.os, k.tape.trans h.tape, k.output.trans h.output, Nat.le_trans h.size k.size, fun i hi hr => (k.block i (Nat.lt_of_lt_of_le hi h.size) hr).trans (h.block i hi hr)⟩

end Go.Proofs.Ytjfdkhaepmmlfaa

namespace Go.Proofs.Ytjfdkhaepmmlfaa
open Go.RowKit

/-- what a group points to -/
def parV (G : Nat → Nat) : Option Nat → Value
  | none => .pointer none
  | some j => .pointer (some ⟨G j, 0, none⟩)

/-- the groups of n blocks as they lie in memory: row R, their blocks G, which each points to, which stands for all (f), how far it is (d) -/
structure Uni (w : World) (base R n : Nat) (G : Nat → Nat) (par : Nat → Option Nat) (f d : Nat → Nat) : Prop where
  row : w.rowIs R 173 n (fun i => .pointer (some ⟨G i, 0, none⟩))
  cell : ∀ i, i < n → w.rowIs (G i) 175 1 (fun _ => parV G (par i))
  lo : base ≤ R ∧ ∀ i, i < n → base ≤ G i
  ne : ∀ i, i < n → G i ≠ R
  inj : ∀ i j, i < n → j < n → G i = G j → i = j
  root : ∀ i, i < n → par i = none → f i = i
  up : ∀ i j, i < n → par i = some j → j < n ∧ f j = f i ∧ d j < d i

/-- all lies as it lay, but the groups' own blocks -/
structure KeepG (n : Nat) (G : Nat → Nat) (w w' : World) : Prop where
  os : w'.os = w.os
  tape : w'.tape = w.tape
  output : w'.output = w.output
  size : w.heap.size ≤ w'.heap.size
  block : ∀ b, b < w.heap.size → (∀ i, i < n → b ≠ G i) → w'.heap[b]? = w.heap[b]?

theorem KeepG.refl (n : Nat) (G : Nat → Nat) (w : World) : KeepG n G w w := ⟨rfl, rfl, rfl, Nat.le_refl _, fun _ _ _ => rfl⟩
theorem KeepG.trans {n : Nat} {G : Nat → Nat} {a b c : World} (h : KeepG n G a b) (k : KeepG n G b c) : KeepG n G a c :=
  ⟨k.os.trans h.os, k.tape.trans h.tape, k.output.trans h.output, Nat.le_trans h.size k.size, fun i hi hn => (k.block i (Nat.lt_of_lt_of_le hi h.size) hn).trans (h.block i hi hn)⟩
theorem KeepG.set (n : Nat) (G : Nat → Nat) (w : World) {i : Nat} (hi : i < n) (u : Value) : KeepG n G w (w.setCell ⟨G i, 0, none⟩ u) :=
  ⟨rfl, rfl, rfl, by simp [World.setCell], fun b _ hn => Below.heap_setCell _ _ _ _ (hn i hi)⟩
theorem KeepG.cell {n : Nat} {G : Nat → Nat} {w w' : World} (h : KeepG n G w w') {p : Addr} {v : Value} (hp : p.block < w.heap.size) (hn : ∀ i, i < n → p.block ≠ G i) (hc : w.cell? p = some v) : w'.cell? p = some v := by
  rw [← hc]; exact World.cell?_of_block (w := w) (h.block p.block hp hn)
theorem KeepG.below {n : Nat} {G : Nat → Nat} {w w' a : World} {base : Nat} (h : KeepG n G w w') (k : Below base a w) (hs : base ≤ w.heap.size) (hlo : ∀ i, i < n → base ≤ G i) : Below base a w' :=
  ⟨h.os.trans k.os, h.tape.trans k.tape, h.output.trans k.output, Nat.le_trans k.size h.size, fun b hb => (h.block b (by omega) (fun i hi => by have := hlo i hi; omega)).trans (k.block b hb)⟩
theorem KeepG.of_below {n : Nat} {G : Nat → Nat} {w w' : World} (h : Below w.heap.size w w') : KeepG n G w w' := ⟨h.os, h.tape, h.output, h.size, fun b hb _ => h.block b hb⟩

section
variable {w : World} {base R n : Nat} {G : Nat → Nat} {par : Nat → Option Nat} {f d : Nat → Nat}

theorem Uni.lt (h : Uni w base R n G par f d) {i : Nat} (hi : i < n) : G i < w.heap.size := (h.cell i hi).lt
theorem Uni.below {w' : World} {B : Nat} (h : Uni w base R n G par f d) (k : Below B w w') (hB : R < B ∧ ∀ i, i < n → G i < B) : Uni w' base R n G par f d :=
  ⟨h.row.of_block (k.block _ hB.1), fun i hi => (h.cell i hi).of_block (k.block _ (hB.2 i hi)), h.lo, h.ne, h.inj, h.root, h.up⟩
theorem Uni.below_all {w' : World} (h : Uni w base R n G par f d) (k : Below w.heap.size w w') : Uni w' base R n G par f d := h.below k ⟨h.row.lt, fun _ hi => h.lt hi⟩

/-- the one that stands for all is found -/
theorem Uni.fix (h : Uni w base R n G par f d) : ∀ (k i : Nat), d i ≤ k → i < n → f i < n ∧ par (f i) = none ∧ (par i ≠ none → d (f i) < d i) := by
  intro k
  induction k with
  | zero =>
    intro i hd hi
    cases hp : par i with
    | none =>
      have := h.root i hi hp
      rw [this]
      exact ⟨hi, hp, fun c => absurd rfl c⟩
    | some j =>
      have := h.up i j hi hp
      omega
  | succ k ih =>
    intro i hd hi
    cases hp : par i with
    | none =>
      have := h.root i hi hp
      rw [this]
      exact ⟨hi, hp, fun c => absurd rfl c⟩
    | some j =>
      obtain ⟨h1, h2, h3⟩ := h.up i j hi hp
      obtain ⟨g1, g2, g3⟩ := ih j (by omega) h1
      rw [h2] at g1 g2 g3
      refine ⟨g1, g2, fun _ => ?_⟩
      by_cases hj : par j = none
      · have := h.root j h1 hj
        rw [h2] at this
        rw [this]; exact h3
      · have := g3 hj; omega
theorem Uni.flt (h : Uni w base R n G par f d) {i : Nat} (hi : i < n) : f i < n := (h.fix _ i (Nat.le_refl _) hi).1
theorem Uni.fnone (h : Uni w base R n G par f d) {i : Nat} (hi : i < n) : par (f i) = none := (h.fix _ i (Nat.le_refl _) hi).2.1
theorem Uni.ff (h : Uni w base R n G par f d) {i : Nat} (hi : i < n) : f (f i) = f i := h.root _ (h.flt hi) (h.fnone hi)

/-- a group that points to the one that stands for all -/
theorem Uni.point (h : Uni w base R n G par f d) {i : Nat} (hi : i < n) (hp : d (f i) < d i) : Uni (w.setCell ⟨G i, 0, none⟩ (.pointer (some ⟨G (f i), 0, none⟩))) base R n G (fun m => if m = i then some (f i) else par m) f d := by
  refine ⟨h.row.setOther (fun e => h.ne i hi e.symm) _, fun m hm => ?_, h.lo, h.ne, h.inj, fun m hm hn => ?_, fun m j hm hj => ?_⟩
  · by_cases hmi : m = i
    · subst hmi
      refine ((h.cell m hm).set 0 _).congr fun q hq => ?_
      obtain rfl : q = 0 := by omega
      simp [parV]
    · rw [if_neg hmi]
      exact (h.cell m hm).setOther (fun e => hmi (h.inj m i hm hi e)) _
  · skip
    split at hn
    · cases hn
    · exact h.root m hm hn
  · skip
    split at hj
    · rename_i e
      subst e
      injection hj with hj
      subst hj
      exact ⟨h.flt hi, h.ff hi, hp⟩
    · exact h.up m j hm hj

/-- two that stand for all: one points to the other -/
theorem Uni.link (h : Uni w base R n G par f d) {a b : Nat} (ha : a < n) (hb : b < n) (hne : f a ≠ f b) : Uni (w.setCell ⟨G (f a), 0, none⟩ (.pointer (some ⟨G (f b), 0, none⟩))) base R n G (fun m => if m = f a then some (f b) else par m) (joinR f a b) (fun m => if f m = f a then d m + d (f b) + 1 else d m) := by
  have hfa := h.flt ha
  have hfb := h.flt hb
  refine ⟨h.row.setOther (fun e => h.ne _ hfa e.symm) _, fun m hm => ?_, h.lo, h.ne, h.inj, fun m hm hn => ?_, fun m j hm hj => ?_⟩
  · by_cases hmi : m = f a
    · subst hmi
      refine ((h.cell _ hm).set 0 _).congr fun q hq => ?_
      obtain rfl : q = 0 := by omega
      simp [parV]
    · rw [if_neg hmi]
      exact (h.cell m hm).setOther (fun e => hmi (h.inj m _ hm hfa e)) _
  · skip
    split at hn
    · cases hn
    · rename_i hm2
      have := h.root m hm hn
      unfold joinR
      rw [if_neg]
      · exact this
      · intro e; exact hm2 (this.symm.trans e)
  · skip
    split at hj
    · rename_i e
      subst e
      injection hj with hj
      subst hj
      refine ⟨hfb, ?_, ?_⟩
      · unfold joinR
        rw [h.ff hb, h.ff ha, if_neg (fun e => hne e.symm), if_pos rfl]
      · rw [h.ff hb, h.ff ha, if_neg (fun e => hne e.symm), if_pos rfl]
        omega
    · obtain ⟨g1, g2, g3⟩ := h.up m j hm hj
      refine ⟨g1, ?_, ?_⟩
      · unfold joinR; rw [g2]
      · simp only [g2]
        split <;> omega

theorem joinR_self {f : Nat → Nat} {a b : Nat} (h : f a = f b) : joinR f a b = f := by
  funext m
  unfold joinR
  split
  · rename_i e; rw [e, h]
  · rfl
end

set_option maxRecDepth 100000 in
set_option maxHeartbeats 2000000 in
/-- (*impl.group).first -/
theorem first_any (base R n : Nat) (G : Nat → Nat) (f d : Nat → Nat) : ∀ (k i : Nat) (par : Nat → Option Nat) (w : World), d i ≤ k → i < n → Uni w base R n G par f d →
    Calls Try.prog 137 #[.pointer (some ⟨G i, 0, none⟩)] w fun e w' => e = .returned (.pointer (some ⟨G (f i), 0, none⟩)) ∧ (∃ par', Uni w' base R n G par' f d) ∧ KeepG n G w w' := by
  intro k
  induction k with
  | zero =>
    intro i par w hd hi hU
    cases hp : par i with
    | some j => have := hU.up i j hi hp; omega
    | none =>
      have hc := (hU.cell i hi).cell (i := 0) (by omega)
      rw [hp] at hc
      have hf := hU.root i hi hp
      have HF := Lib.hid hf; have HU := Lib.hid hU
      clear hf hU hp
      simp only [parV] at hc
      go_enter Try.func137, Try.ntmps137
      go_wp2_with fail
      go_ret
      exact ⟨by rw [HF.out]; rfl, ⟨par, HU.out⟩, KeepG.refl _ _ _⟩
  | succ k ih =>
    intro i par w hd hi hU
    cases hp : par i with
    | none =>
      have hc := (hU.cell i hi).cell (i := 0) (by omega)
      rw [hp] at hc
      have hf := hU.root i hi hp
      have HF := Lib.hid hf; have HU := Lib.hid hU
      clear hf hU hp ih
      simp only [parV] at hc
      go_enter Try.func137, Try.ntmps137
      go_wp2_with fail
      go_ret
      exact ⟨by rw [HF.out]; rfl, ⟨par, HU.out⟩, KeepG.refl _ _ _⟩
    | some j =>
      have hc := (hU.cell i hi).cell (i := 0) (by omega)
      rw [hp] at hc
      obtain ⟨u1, u2, u3⟩ := hU.up i j hi hp
      have hdf := (hU.fix _ i (Nat.le_refl _) hi).2.2 (by rw [hp]; simp)
      have IH := Lib.hid (ih j par w (by omega) u1 hU)
      have HU2 := Lib.hid u2; have HDF := Lib.hid hdf
      clear hU hp ih hdf u2 u3
      simp only [parV] at hc
      go_enter Try.func137, Try.ntmps137
      go_wp2_with fail
      refine IH.out.mono ?_
      rintro e w2 ⟨rfl, ⟨par2, hU2⟩, hk2⟩
      rw [HU2.out]
      have hc2 := (hU2.cell i hi).cell (i := 0) (by omega)
      have hf2 := (hU2.cell i hi).frozen 0
      have HK2 := Lib.hid hk2; have HUU := Lib.hid hU2
      clear hk2 hU2 hc
      go_wp2_with fail
      go_ret
      exact ⟨rfl, ⟨_, HUU.out.point hi HDF.out⟩, HK2.out.trans (KeepG.set n G w2 hi _)⟩

end Go.Proofs.Ytjfdkhaepmmlfaa

namespace Go.Proofs.Ytjfdkhaepmmlfaa
open Go.RowKit

theorem groupInfo : (Try.prog.info? 173).map (fun i => (i.zero, i.size, i.bytes)) = some (some (.pointer none), 1, 8) := by kernel_rfl
theorem groupBox : (Try.prog.info? 175).map (fun i => (i.zero, i.size, i.bytes)) = some (some (.agg #[.pointer none]), 1, 8) := by kernel_rfl
set_option maxRecDepth 100000 in
theorem same_group (x : Nat) (W : World) : (binOp BinOp.eql 173 (.pointer (some ⟨x, 0, none⟩)) (.pointer (some ⟨x, 0, none⟩))).run Try.prog W = .ok (.bool true) W := by
  obtain ⟨i0, hi, _, _, _⟩ := info_parts groupBox
  exact run_eql_ptr_same W _ Try.underlying173 hi
set_option maxRecDepth 100000 in
theorem other_group {x y : Nat} {W : World} {T : TypeId} {fx fy : Nat → Value} (h : ¬ x = y) (hx : W.rowIs x T 1 fx) (hy : W.rowIs y T 1 fy) : (binOp BinOp.eql 173 (.pointer (some ⟨x, 0, none⟩)) (.pointer (some ⟨y, 0, none⟩))).run Try.prog W = .ok (.bool false) W := by
  obtain ⟨i0, hi, _, h1, _⟩ := info_parts groupBox
  obtain ⟨cx, bx, _, _⟩ := hx
  obtain ⟨cy, by', _, _⟩ := hy
  exact run_eql_ptr_other W Try.underlying173 hi (by rw [h1]; decide) (fun e => h (by injection e)) bx by'

theorem make_groups (n : Nat) (hn : n ≤ 1099511627776) (W : World) : (Instr.makeSlice 168 (.int .i64 (n : Int)) (.int .i64 (n : Int))).run Try.prog W =
    .ok (.slice (some ⟨W.heap.size, 0, none⟩) n n) (W.alloc (.cells (madeCells #[.pointer none] n) 173)) := by
  obtain ⟨i0, hi, hz0, hz1, hz2⟩ := info_parts groupInfo
  have h := run_make (P := Try.prog) W 168 _ i0 _ Try.underlying168 hi hz0 .i64 .i64 (n : Int) (n : Int) (by omega) (by omega) (by rw [hz2]; omega) (by omega)
  rw [hz1] at h
  simp only [Int.toNat_natCast, Nat.mul_one] at h
  exact h

set_option maxRecDepth 100000 in
set_option maxHeartbeats 2000000 in
/-- (*impl.group).join -/
theorem joinP_any (base R n : Nat) (G : Nat → Nat) (par : Nat → Option Nat) (f d : Nat → Nat) (a b : Nat) (w : World) (ha : a < n) (hb : b < n) (hU : Uni w base R n G par f d) :
    Calls Try.prog 136 #[.pointer (some ⟨G a, 0, none⟩), .pointer (some ⟨G b, 0, none⟩)] w fun e w' => e = .returned (.bool (f a != f b)) ∧ (∃ par' d', Uni w' base R n G par' (joinR f a b) d') ∧ KeepG n G w w' := by
  have HA := Lib.hid (fun (par : Nat → Option Nat) (W : World) (h : Uni W base R n G par f d) => first_any base R n G f d _ a par W (Nat.le_refl _) ha h)
  have HB := Lib.hid (fun (par : Nat → Option Nat) (W : World) (h : Uni W base R n G par f d) => first_any base R n G f d _ b par W (Nat.le_refl _) hb h)
  have HU := Lib.hid hU
  clear hU
  go_enter Try.func136, Try.ntmps136
  go_wp2_with fail
  refine (HA.out par w HU.out).mono ?_
  rintro e w2 ⟨rfl, ⟨par2, hU2⟩, hk2⟩
  have HU2 := Lib.hid hU2; have HK2 := Lib.hid hk2
  clear hU2 hk2
  go_wp2_with fail
  refine (HB.out par2 w2 HU2.out).mono ?_
  rintro e w3 ⟨rfl, ⟨par3, hU3⟩, hk3⟩
  have HU3 := Lib.hid hU3; have HK3 := Lib.hid (HK2.out.trans hk3)
  have hfa := hU3.flt ha
  have hfb := hU3.flt hb
  by_cases hs : f a = f b
  · have HS := Lib.hid (joinR_self hs)
    have q : (f a != f b) = false := bne_eq_false_iff_eq.2 hs
    have HQ := Lib.hid q
    rw [hs]
    clear q
    have qe := same_group (G (f b)) w3
    clear hU3 hk3 hs hfa hfb
    go_wp2_with fail
    go_ret
    exact ⟨ret_bool HQ.out.symm, ⟨par3, d, by rw [HS.out]; exact HU3.out⟩, HK3.out⟩
  · have hne : ¬ G (f a) = G (f b) := fun e => hs (hU3.inj _ _ hfa hfb e)
    have hc := (hU3.cell _ hfa).cell (i := 0) (by omega)
    have hf := (hU3.cell _ hfa).frozen 0
    rw [hU3.fnone ha] at hc
    simp only [parV] at hc
    have HL := Lib.hid (hU3.link ha hb hs)
    have HKS := Lib.hid (KeepG.set n G w3 hfa (.pointer (some ⟨G (f b), 0, none⟩)))
    have q : (f a != f b) = true := bne_iff_ne.2 hs
    have HQ := Lib.hid q
    have qe := other_group hne (hU3.cell _ hfa) (hU3.cell _ hfb)
    clear hU3 hk3 hs hfa hfb q
    obtain ⟨x, hx⟩ : ∃ x, G (f a) = x := ⟨_, rfl⟩
    obtain ⟨y, hy⟩ : ∃ y, G (f b) = y := ⟨_, rfl⟩
    rw [hx] at hne hc hf HL HKS qe ⊢
    rw [hy] at hne HL HKS qe ⊢
    clear hx hy
    go_wp2_with fail
    go_ret
    exact ⟨ret_bool HQ.out.symm, ⟨_, _, HL.out⟩, HK3.out.trans HKS.out⟩

set_option maxRecDepth 100000 in
set_option maxHeartbeats 4000000 in
/-- impl.groupsOf -/
theorem groupsOf_any (B : ByteArray) (sl : Value) (w : World) (h2 : 2 ≤ B.size) (h8 : B.size ≤ 8) :
    Calls Try.prog 133 #[.agg #[.string B, sl]] w fun e w' => ∃ (R : Nat) (G : Nat → Nat) (par : Nat → Option Nat) (d : Nat → Nat), e = .returned (.slice (some ⟨R, 0, none⟩) B.size B.size) ∧ Uni w' w.heap.size R B.size G par (fresh B.size) d ∧ Below w.heap.size w w' := by
  have hb1 : Below w.heap.size w (w.alloc (.cells #[.string B, sl] 30)) := (Below.refl _ _).alloc (Nat.le_refl _) _
  have hc0 : (w.alloc (.cells #[.string B, sl] 30)).cell? ⟨w.heap.size, 0, none⟩ = some (.string B) := by go_simp
  have hz1 : (w.alloc (.cells #[.string B, sl] 30)).heap.size = w.heap.size + 1 := by simp
  have hmk := fun W => make_groups B.size (by omega) W
  go_enter Try.func133, Try.ntmps133
  go_wp2_with fail
  clear hmk
  have hg0 : ((w.alloc (.cells #[.string B, sl] 30)).alloc (.cells (madeCells #[.pointer none] B.size) 173)).rowIs (w.heap.size + 1) 173 B.size (fun _ => .pointer none) := by
    have := World.rowIs_made (w.alloc (.cells #[.string B, sl] 30)) (.pointer none) B.size 173
    rwa [World.size_alloc] at this
  have hb2 : Below w.heap.size w ((w.alloc (.cells #[.string B, sl] 30)).alloc (.cells (madeCells #[.pointer none] B.size) 173)) := hb1.alloc hb1.size _
  have hz2 : ((w.alloc (.cells #[.string B, sl] 30)).alloc (.cells (madeCells #[.pointer none] B.size) 173)).heap.size = w.heap.size + 2 := by simp
  generalize hW2 : (w.alloc (.cells #[.string B, sl] 30)).alloc (.cells (madeCells #[.pointer none] B.size) 173) = w2 at hg0 hb2 hz2 ⊢
  clear hW2 hb1 hc0 hz1
  have HG0 := Lib.hid hg0; have HB2 := Lib.hid hb2; have HZ2 := Lib.hid hz2
  clear hg0 hb2 hz2
  obtain ⟨R, hR⟩ : ∃ R, w.heap.size + 1 = R := ⟨_, rfl⟩
  rw [hR] at HG0 ⊢
  have HR := Lib.hid hR
  clear hR
  go_loopw [11] (fun i wr => ∃ k : Nat, k ≤ B.size ∧ i = .int .i64 k ∧ Below w.heap.size w wr ∧ wr.heap.size = R + 1 + k ∧
    Hid (wr.rowIs R 173 B.size (fun i => if i < k then .pointer (some ⟨R + 1 + i, 0, none⟩) else .pointer none)) ∧
    Hid (∀ i, i < k → wr.rowIs (R + 1 + i) 175 1 (fun _ => .pointer none))) (fun i _ => B.size - (intOf i).toNat)
  case atStart => exact ⟨0, Nat.zero_le _, rfl, HB2.out, by have := HZ2.out; have := HR.out; omega, Lib.hid (HG0.out.congr fun i _ => by simp), Lib.hid fun i h => absurd h (by omega)⟩
  case round =>
    obtain ⟨k, hk, rfl, hb, hz, hrow, hn⟩ := hrel
    have hRw := HR.out
    by_cases hlt : k < B.size
    · have hst : (wr.alloc (.cells #[.pointer none] 175)).cell? ⟨R, k, none⟩ = some (.pointer none) := by
        rw [World.cell?_alloc_lt _ _ _ (by simp only; omega)]
        have := hrow.out.cell (i := k) hlt; simpa using this
      have hfr : (wr.alloc (.cells #[.pointer none] 175)).frozen? ⟨R, k, none⟩ = false := (hrow.out.alloc _).frozen k
      have HZ := Lib.hid hz
      clear hz hRw
      go_wp2_with fail
      go_roundw
      case rel =>
        have hz := HZ.out
        have hRw := HR.out
        refine ⟨k + 1, by omega, by go_num, (hb.alloc hb.size _).setCell (by simp only; omega) _, by simp [World.setCell]; omega, Lib.hid (((hrow.out.alloc _).set k _).congr fun i hi => ?_), Lib.hid fun i hik => ?_⟩
        · by_cases hik : i = k
          · subst hik; simp [hz]
          · have : (i < k + 1) = (i < k) := by rw [eq_iff_iff]; omega
            simp [hik, this]
        · by_cases hik' : i = k
          · subst hik'
            have h1 := World.rowIs_alloc wr #[.pointer none] 175 (fun _ => .pointer none) (by intro j hj; match j, hj with | 0, _ => rfl)
            rw [hz] at h1
            exact h1.setOther (by simp only; omega) _
          · exact ((hn.out i (by omega)).alloc _).setOther (by simp only; omega) _
      case measure => simp [intOf]; omega
    · obtain rfl : k = B.size := by omega
      obtain ⟨m, hm⟩ : ∃ m, B.size = m + 1 := ⟨B.size - 1, by omega⟩
      have hU : Uni wr w.heap.size R B.size (fun i => R + 1 + i) (fun _ => none) (fun i => i) (fun _ => 0) := by
        refine ⟨hrow.out.congr fun i hi => by rw [if_pos hi], fun i hi => (hn.out i hi).congr fun _ _ => rfl, ⟨by omega, fun i _ => by omega⟩, fun i _ => by omega, fun i j _ _ e => by omega, fun _ _ _ => rfl, fun i j _ h => by cases h⟩
      have hc1 := hU.row.cell (i := m) (by omega)
      have hc2 := hU.row.cell (i := 0) (by omega)
      have HJ : Hid (∀ W : World, Below wr.heap.size wr W → Calls Try.prog 136 #[.pointer (some ⟨R + 1 + m, 0, none⟩), .pointer (some ⟨R + 1 + 0, 0, none⟩)] W fun e w' => e = .returned (.bool (m != 0)) ∧ (∃ par' d', Uni w' w.heap.size R B.size (fun i => R + 1 + i) par' (joinR (fun i => i) m 0) d') ∧ KeepG B.size (fun i => R + 1 + i) W w') := Lib.hid fun W h =>
        joinP_any w.heap.size R B.size (fun i => R + 1 + i) (fun _ => none) (fun i => i) (fun _ => 0) m 0 W (by omega) (by omega) (hU.below_all h)
      have HLO := Lib.hid hU.lo
      have HF : Hid (fresh B.size = joinR (fun i => i) m 0) := Lib.hid (by unfold fresh; rw [hm]; rfl)
      have a1 : IntKind.i64.wrap ((B.size : Int) - 1) = (m : Int) := by rw [IntWalk.i64_in _ (by omega)]; omega
      have a2 : (0 : Int) ≤ (m : Int) := by omega
      have a3 : (m : Int) < (B.size : Int) := by omega
      have a4 : m < B.size := by omega
      have a5 : 0 < B.size := by omega
      have a6 : (0 : Int) < (B.size : Int) := by omega
      have hC : ∀ W, Below wr.heap.size wr W → (W.cell? ⟨R, m, none⟩ = some (.pointer (some ⟨R + 1 + m, 0, none⟩)) ∧ W.cell? ⟨R, 0, none⟩ = some (.pointer (some ⟨R + 1 + 0, 0, none⟩))) := fun W h => ⟨(h.cell (by simp only; omega)).trans hc1, (h.cell (by simp only; omega)).trans hc2⟩
      have HSS := Lib.hid hC
      have HZ := Lib.hid hz
      have HRZ : Hid (∀ W : World, Below wr.heap.size wr W → R < W.heap.size) := Lib.hid fun W h => by have := h.size; omega
      clear hU hrow hn hm hz hC hc1 hc2 hk hlt
      go_wp2_with fail
      go_region_held3 (fun W => W.cell? ⟨R, m, none⟩ = some (.pointer (some ⟨R + 1 + m, 0, none⟩)) ∧ W.cell? ⟨R, 0, none⟩ = some (.pointer (some ⟨R + 1 + 0, 0, none⟩)))
        (first
          | exact hs5
          | exact HSS.out _ (Below.refl _ _).drew)
        (first
          | (go_at_call 136; refine (HJ.out _ (Below.refl _ _).drew).mono ?_; rintro e w5 ⟨rfl, ⟨par5, d5, hU5⟩, hk5⟩
             have hs5 : w5.cell? ⟨R, m, none⟩ = some (.pointer (some ⟨R + 1 + m, 0, none⟩)) ∧ w5.cell? ⟨R, 0, none⟩ = some (.pointer (some ⟨R + 1 + 0, 0, none⟩)) := ⟨hU5.row.cell (i := m) a4, hU5.row.cell (i := 0) a5⟩
             have HU5 := Lib.hid hU5; have HK5 := Lib.hid hk5
             clear hU5 hk5))
      have hfin : Below w.heap.size w w5 := HK5.out.below (hb.drew) (by have := hb.size; simpa using this) HLO.out.2
      go_wp2_with fail
      go_ret
      exact ⟨R, _, par5, d5, rfl, by rw [HF.out]; exact HU5.out, hfin⟩

end Go.Proofs.Ytjfdkhaepmmlfaa

namespace Go.Proofs.Ytjfdkhaepmmlfaa
open Go.RowKit

set_option maxRecDepth 100000 in
set_option maxHeartbeats 4000000 in
/-- impl.joinEnds -/
theorem joinEnds_any (B : ByteArray) (A : Option Addr) (cap gcap : Nat) (es : List (ByteArray × ByteArray)) (base R : Nat) (G : Nat → Nat) (par : Nat → Option Nat) (f d : Nat → Nat) (k : Nat) (w : World) (hE : EdgesIn w base A es) (_ : es.length ≤ 1099511627776) (hV : EdgesOk B.data.toList (ebs es)) (_ : B.size ≤ 8) (hU : Uni w base R B.size G par f d) (hbase : base ≤ w.heap.size) (hk : k < es.length) :
    Calls Try.prog 134 #[.agg #[.string B, .slice A es.length cap], .slice (some ⟨R, 0, none⟩) B.size gcap, .int .i64 k] w fun e w' => e = .returned (.bool (f (endsN B.data.toList (ebs es) k).1 != f (endsN B.data.toList (ebs es) k).2)) ∧ (∃ par' d', Uni w' base R B.size G par' (joinR f (endsN B.data.toList (ebs es) k).1 (endsN B.data.toList (ebs es) k).2) d') ∧ KeepG B.size G w w' := by
  obtain ⟨x, y, i, j, e1, e2, e3, e4, e5, e6, e7⟩ := ends_at hV hk
  rw [e3]
  have hBL : B.data.toList.length = B.size := by simp
  rw [hBL] at e6 e7
  have FB : Hid (∀ (c : UInt8) (W : World), Calls Try.prog 102 #[.agg #[.string B, .slice A es.length cap], .string ⟨#[c]⟩] W fun e w' => e = .returned (.int .i64 (Lib.indexByte B.data.toList c)) ∧ Below W.heap.size W w') := Lib.hid fun c W => by
    have := blockIndex_any B ⟨#[c]⟩ (.slice A es.length cap) W
    simpa [bIdx] using this
  have HI := Lib.hid e4; have HJ := Lib.hid e5
  obtain ⟨eb, eo, rfl, hlow, h1, h2⟩ := hE k hk
  rw [e1] at h1
  rw [e2] at h2
  have hlow' : eb < w.heap.size := by omega
  clear e1 e2 e3 e4 e5 hV hBL hlow hE
  obtain ⟨W0, hW0⟩ : ∃ W0, W0 = (w.alloc (.cells #[.string B, .slice (some ⟨eb, eo, none⟩) es.length cap] 30)).alloc (.cells #[.string ⟨#[x]⟩, .string ⟨#[y]⟩] 104) := ⟨_, rfl⟩
  have hb0 : Below w.heap.size w W0 := by rw [hW0]; exact ((Below.refl _ _).alloc (Nat.le_refl _) _).alloc (by simp) _
  have hc0 : W0.cell? ⟨w.heap.size, 0, none⟩ = some (.string B) := by rw [hW0]; go_simp
  have hc1 : W0.cell? ⟨w.heap.size, 1, none⟩ = some (.slice (some ⟨eb, eo, none⟩) es.length cap) := by rw [hW0]; go_simp
  have hc2 : W0.cell? ⟨w.heap.size + 1, 0, none⟩ = some (.string ⟨#[x]⟩) := by rw [hW0]; go_simp
  have hc3 : W0.cell? ⟨w.heap.size + 1, 1, none⟩ = some (.string ⟨#[y]⟩) := by rw [hW0]; go_simp
  have hz0 : W0.heap.size = w.heap.size + 2 := by rw [hW0]; simp
  have hU0 := hU.below_all hb0
  have hr1 := hU0.row.cell (i := i) e6
  have hr2 := hU0.row.cell (i := j) e7
  have hRl := hU0.row.lt
  have hGl : ∀ m, m < B.size → G m < w.heap.size := fun m hm => hU.lt hm
  have a1 : (0 : Int) ≤ (i : Int) := by omega
  have a2 : (i : Int) < (B.size : Int) := by omega
  have a3 : (0 : Int) ≤ (j : Int) := by omega
  have a4 : (j : Int) < (B.size : Int) := by omega
  have hC : ∀ W, Below W0.heap.size W0 W → (W.cell? ⟨w.heap.size, 0, none⟩ = some (.string B) ∧ W.cell? ⟨w.heap.size, 1, none⟩ = some (.slice (some ⟨eb, eo, none⟩) es.length cap) ∧ W.cell? ⟨w.heap.size + 1, 0, none⟩ = some (.string ⟨#[x]⟩) ∧ W.cell? ⟨w.heap.size + 1, 1, none⟩ = some (.string ⟨#[y]⟩) ∧ W.cell? ⟨R, i, none⟩ = some (.pointer (some ⟨G i, 0, none⟩)) ∧ W.cell? ⟨R, j, none⟩ = some (.pointer (some ⟨G j, 0, none⟩))) := fun W h =>
    ⟨(h.cell (by simp only; omega)).trans hc0, (h.cell (by simp only; omega)).trans hc1, (h.cell (by simp only; omega)).trans hc2, (h.cell (by simp only; omega)).trans hc3, (h.cell (by simp only; omega)).trans hr1, (h.cell (by simp only; omega)).trans hr2⟩
  have hC5 : ∀ W W', Below W0.heap.size W0 W → KeepG B.size G W W' → (W'.cell? ⟨w.heap.size, 0, none⟩ = some (.string B) ∧ W'.cell? ⟨w.heap.size, 1, none⟩ = some (.slice (some ⟨eb, eo, none⟩) es.length cap) ∧ W'.cell? ⟨w.heap.size + 1, 0, none⟩ = some (.string ⟨#[x]⟩) ∧ W'.cell? ⟨w.heap.size + 1, 1, none⟩ = some (.string ⟨#[y]⟩) ∧ W'.cell? ⟨R, i, none⟩ = some (.pointer (some ⟨G i, 0, none⟩)) ∧ W'.cell? ⟨R, j, none⟩ = some (.pointer (some ⟨G j, 0, none⟩))) := fun W W' h k => by
    obtain ⟨g0, g1, g2, g3, g4, g5⟩ := hC W h
    have hs := h.size
    exact ⟨k.cell (by simp only; omega) (fun m hm => by have := hGl m hm; simp only; omega) g0, k.cell (by simp only; omega) (fun m hm => by have := hGl m hm; simp only; omega) g1, k.cell (by simp only; omega) (fun m hm => by have := hGl m hm; simp only; omega) g2, k.cell (by simp only; omega) (fun m hm => by have := hGl m hm; simp only; omega) g3, k.cell (by simp only; omega) (fun m hm => (hU.ne m hm).symm) g4, k.cell (by simp only; omega) (fun m hm => (hU.ne m hm).symm) g5⟩
  have HJN : Hid (∀ W : World, Below W0.heap.size W0 W → Calls Try.prog 136 #[.pointer (some ⟨G i, 0, none⟩), .pointer (some ⟨G j, 0, none⟩)] W fun e w' => e = .returned (.bool (f i != f j)) ∧ (∃ par' d', Uni w' base R B.size G par' (joinR f i j) d') ∧ KeepG B.size G W w') := Lib.hid fun W h =>
    joinP_any base R B.size G par f d i j W e6 e7 (hU0.below_all h)
  have HSS := Lib.hid hC; have HS5 := Lib.hid hC5; have HB0 := Lib.hid hb0
  clear hC hC5 hU hU0 hr1 hr2 hRl hGl hb0 hc0 hc1 hc2 hc3 e6 e7 hbase
  go_enter Try.func134, Try.ntmps134
  go_wp2_with fail
  rw [← hW0]
  clear hW0 h1 h2
  go_region_held3 (fun W => W.cell? ⟨w.heap.size, 0, none⟩ = some (.string B) ∧ W.cell? ⟨w.heap.size, 1, none⟩ = some (.slice (some ⟨eb, eo, none⟩) es.length cap) ∧ W.cell? ⟨w.heap.size + 1, 0, none⟩ = some (.string ⟨#[x]⟩) ∧ W.cell? ⟨w.heap.size + 1, 1, none⟩ = some (.string ⟨#[y]⟩) ∧ W.cell? ⟨R, i, none⟩ = some (.pointer (some ⟨G i, 0, none⟩)) ∧ W.cell? ⟨R, j, none⟩ = some (.pointer (some ⟨G j, 0, none⟩)))
    (first
      | exact hs5
      | exact HSS.out _ (Below.refl _ _).drew
      | exact HSS.out _ ((Below.refl _ _).drew.trans hb1)
      | exact HSS.out _ (((Below.refl _ _).drew.trans hb1).trans (hb2.mono hb1.size)))
    (first
      | (go_at_call 136
         have hbb := ((Below.refl W0.heap.size W0).drew.trans hb1).trans (hb2.mono hb1.size)
         refine (HJN.out _ hbb).mono ?_; rintro e w5 ⟨rfl, hU5, hk5⟩
         have hs5 := HS5.out _ _ hbb hk5
         have HU5 := Lib.hid hU5; have HK5 := Lib.hid hk5; have HBB := Lib.hid hbb
         clear hU5 hk5 hbb)
      | (go_at_call 102; have tok := w1; clear tok; refine (FB.out y _).mono ?_; rw [HJ.out]; rintro e w2 ⟨rfl, hb2⟩)
      | (go_at_call 102; refine (FB.out x _).mono ?_; rw [HI.out]; rintro e w1 ⟨rfl, hb1⟩))
  go_wp2_with fail
  go_ret
  exact ⟨rfl, HU5.out, (KeepG.of_below (HB0.out.trans (HBB.out.mono HB0.out.size))).trans HK5.out⟩

end Go.Proofs.Ytjfdkhaepmmlfaa

namespace Go.Proofs.Ytjfdkhaepmmlfaa
open Go.RowKit

set_option maxRecDepth 100000 in
set_option maxHeartbeats 4000000 in
/-- impl.makesRound -/
theorem makesRound_any (B : ByteArray) (A : Option Addr) (cap : Nat) (es : List (ByteArray × ByteArray)) (b : ByteArray) (w : World) (hE : EdgesIn w w.heap.size A es) (hl : es.length ≤ 1099511627776) (hV : Valid B.data.toList (ebs es)) (hK : Known es.length b.data.toList) (hbz : b.size ≤ 1099511627776) :
    Calls Try.prog 130 #[.agg #[.string B, .slice A es.length cap], .string b] w (BoolPost (!forest (endsN B.data.toList (ebs es)) (fresh B.size) (ksOf b.data.toList)) w) := by
  have HL := Lib.hid hl
  have h2 : 2 ≤ B.size := by have := hV.1.1.1; simpa using this
  have h8 : B.size ≤ 8 := by have := hV.1.1.2.1; simpa using this
  have HLEN : Hid (b.data.toList.length = b.size) := Lib.hid (by simp)
  have HBL : Hid (B.data.toList.length = B.size) := Lib.hid (by simp)
  have HEO := Lib.hid hV.1.2; have HK := Lib.hid hK
  obtain ⟨E, hEE⟩ : ∃ E, endsN B.data.toList (ebs es) = E := ⟨_, rfl⟩
  have FJ : Hid (∀ (base R gcap : Nat) (G : Nat → Nat) (par : Nat → Option Nat) (f d : Nat → Nat) (k : Nat) (W : World), EdgesIn W base A es → Uni W base R B.size G par f d → base ≤ W.heap.size → k < es.length → Calls Try.prog 134 #[.agg #[.string B, .slice A es.length cap], .slice (some ⟨R, 0, none⟩) B.size gcap, .int .i64 k] W fun e w' => e = .returned (.bool (f (E k).1 != f (E k).2)) ∧ (∃ par' d', Uni w' base R B.size G par' (joinR f (E k).1 (E k).2) d') ∧ KeepG B.size G W w') := Lib.hid fun base R gcap G par f d k W h hU hb hk => by
    rw [← hEE]
    exact joinEnds_any B A cap gcap es base R G par f d k W h HL.out HEO.out h8 hU hb hk
  have FN : Hid (∀ k, k < es.length → (E k).1 < B.size ∧ (E k).2 < B.size) := Lib.hid fun k hk => by
    obtain ⟨x, y, i, j, _, _, e3, _, _, h1, h2⟩ := ends_at HEO.out hk
    rw [← hEE, e3]
    have := HBL.out
    simp only
    omega
  have FI : Hid (∀ (k : Nat) (c : UInt8) (s : ByteArray), s.data.toList = [c] → eIdx es.length [c] = k → ∀ W : World, Calls Try.prog 122 #[.agg #[.string B, .slice A es.length cap], .string s] W fun e w' => e = .returned (.int .i64 (k : Int)) ∧ Below W.heap.size W w') := Lib.hid fun k c s hs hi W => by
    have := edgeIndex_any (.string B) A es.length cap s W HL.out
    rwa [hs, hi] at this
  rw [hEE]
  have hb1 : Below w.heap.size w (w.alloc (.cells #[.string B, .slice A es.length cap] 30)) := (Below.refl _ _).alloc (Nat.le_refl _) _
  have t1 := Two.made w B A es.length cap 30
  have hz1 : (w.alloc (.cells #[.string B, .slice A es.length cap] 30)).heap.size = w.heap.size + 1 := by simp
  clear hl hV hK hEE
  go_enter Try.func130, Try.ntmps130
  go_wp2_with fail
  generalize hW1 : w.alloc (.cells #[.string B, .slice A es.length cap] 30) = w1 at hb1 t1 hz1 ⊢
  clear hW1
  refine (groupsOf_any B _ _ h2 h8).mono ?_
  rintro e w2 ⟨R, G, par0, d0, rfl, hU2, hb2⟩
  have t2 := t1.below hb2 (by omega)
  have hb2' := hb1.trans (hb2.mono hb1.size)
  have hE2 := (hE.below hb2').more (show w.heap.size ≤ w1.heap.size by omega)
  have hz2 := hb2.size
  obtain ⟨base, hbs⟩ : ∃ base, w1.heap.size = base := ⟨_, rfl⟩
  rw [hbs] at hU2 hE2 hz1 hz2
  have HU2 := Lib.hid hU2; have HT2 := Lib.hid t2; have HB2 := Lib.hid hb2'; have HZ := Lib.hid hz1; have HE2 := Lib.hid hE2
  have HZ2 := Lib.hid hz2
  clear hU2 t2 hb2' hb1 hb2 t1 hz1 hbs hE2 hz2
  go_wp2_with fail
  go_loopw [11] (fun c wr => ∃ (i : Nat) (f g d : Nat → Nat) (par : Nat → Option Nat), i ≤ b.size ∧ c = .int .i64 i ∧ Hid (Uni wr base R B.size G par g d) ∧ Hid (SameL B.size f g) ∧ Two wr w.heap.size B A es.length cap ∧ Below w.heap.size w wr ∧ base ≤ wr.heap.size ∧ Hid (forest E (fresh B.size) (ksOf b.data.toList) = forest E f ((ksOf b.data.toList).drop i))) (fun c _ => b.size - (intOf c).toNat)
  case atStart => exact ⟨0, fresh B.size, fresh B.size, d0, par0, Nat.zero_le _, rfl, HU2, Lib.hid (SameL.refl _ _), HT2.out, HB2.out, HZ2.out, Lib.hid (by rw [List.drop_zero])⟩
  case round =>
    obtain ⟨i, f, g, d, par, hi, rfl, HU, HS, tr, hb, hgr, HF⟩ := hrel
    by_cases hlt : i < b.size
    case neg =>
      have HD : Hid (false = !forest E (fresh B.size) (ksOf b.data.toList)) := Lib.hid (by rw [HF.out, ks_end (by have := HLEN.out; omega)]; rfl)
      clear tr
      go_wp2_with fail
      go_ret
      exact ⟨ret_bool HD.out, hb⟩
    have hex := letter_at (p := b) hlt
    have hka := HK.out.at (i := i) (by have := HLEN.out; omega)
    have hkd := ks_drop (l := b.data.toList) (i := i) (by have := HLEN.out; omega)
    obtain ⟨c, hc⟩ : ∃ c, b.data.toList.getD i 0 = c := ⟨_, rfl⟩
    rw [hc] at hex hka hkd
    obtain ⟨k, hk⟩ : ∃ k, c.toNat - 97 = k := ⟨_, rfl⟩
    rw [hk] at hka hkd
    have HFX := Lib.hid (FI.out k c (b.extract i (i + 1)) hex hka.1)
    obtain ⟨n1, n2⟩ := FN.out k hka.2
    have HKD := Lib.hid hkd
    have HJN : Hid (∀ W : World, Below wr.heap.size wr W → Calls Try.prog 134 #[.agg #[.string B, .slice A es.length cap], .slice (some ⟨R, 0, none⟩) B.size B.size, .int .i64 k] W fun e w' => e = .returned (.bool (g (E k).1 != g (E k).2)) ∧ (∃ par' d', Uni w' base R B.size G par' (joinR g (E k).1 (E k).2) d') ∧ KeepG B.size G W w') := Lib.hid fun W h => by
      have hbw := hb.trans (h.mono hb.size)
      exact FJ.out base R B.size G par g d k W (by have := hE.below hbw; exact this.more (by have := HZ.out; omega)) (HU.out.below_all h) (Nat.le_trans hgr h.size) hka.2
    have hsame := HS.out.same n1 n2
    have hnew := HS.out.join n1 n2
    have hfo1 : forest E (fresh B.size) (ksOf b.data.toList) = forest E f (k :: (ksOf b.data.toList).drop (i + 1)) := by rw [HF.out, HKD.out]
    obtain ⟨p1, hp1⟩ : ∃ p, (E k).1 = p := ⟨_, rfl⟩
    obtain ⟨p2, hp2⟩ : ∃ p, (E k).2 = p := ⟨_, rfl⟩
    have HFO : Hid (forest E (fresh B.size) (ksOf b.data.toList) = if f p1 = f p2 then false else forest E (joinL f p1 p2) ((ksOf b.data.toList).drop (i + 1))) := Lib.hid (by
      rw [hfo1]
      show (if f (E k).1 = f (E k).2 then false else forest E (joinL f (E k).1 (E k).2) ((ksOf b.data.toList).drop (i + 1))) = _
      rw [hp1, hp2])
    rw [hp1, hp2] at HJN hsame hnew
    obtain ⟨q, hq⟩ : ∃ q, (g p1 != g p2) = q := ⟨_, rfl⟩
    rw [hq] at HJN hsame
    have HSAME := Lib.hid hsame; have HNEW := Lib.hid hnew
    have a1 : (0 : Int) ≤ (i : Int) := by omega
    have a4 : (0 : Int) ≤ (i : Int) + 1 := by omega
    have a5 : ((i : Int) + 1).toNat = i + 1 := by omega
    have a6 : (i : Int) + 1 ≤ (b.size : Int) := by omega
    have a7 : i + 1 ≤ b.size := by omega
    have a8 : (i : Int) ≤ (i : Int) + 1 := by omega
    have a9 : IntKind.i64.wrap ((i : Int) + 1) = (i : Int) + 1 := IntWalk.i64_in _ (by omega)
    have hwz : w.heap.size < wr.heap.size := by have := HZ.out; omega
    have hC : ∀ W, Below wr.heap.size wr W → (W.cell? ⟨w.heap.size, 0, none⟩ = some (.string B) ∧ W.cell? ⟨w.heap.size, 1, none⟩ = some (.slice A es.length cap)) := fun W h => ⟨(h.cell (by simp only; omega)).trans tr.1, (h.cell (by simp only; omega)).trans tr.2⟩
    have hLO := HU.out.lo.2
    have hGl : ∀ m, m < B.size → w.heap.size ≠ G m := fun m hm => by have := hLO m hm; have := HZ.out; omega
    have hC5 : ∀ W W', Below wr.heap.size wr W → KeepG B.size G W W' → (W'.cell? ⟨w.heap.size, 0, none⟩ = some (.string B) ∧ W'.cell? ⟨w.heap.size, 1, none⟩ = some (.slice A es.length cap)) := fun W W' h k => by
      obtain ⟨g0, g1⟩ := hC W h
      have hs := h.size
      exact ⟨k.cell (by simp only; omega) (fun m hm => hGl m hm) g0, k.cell (by simp only; omega) (fun m hm => hGl m hm) g1⟩
    have HSS := Lib.hid hC; have HS5 := Lib.hid hC5; have HLO := Lib.hid hLO
    have HBW := Lib.hid hb
    clear hC hC5 hGl hLO hex hka hkd hc hk hp1 hp2 hfo1 hsame hnew tr hwz n1 n2 hq hb
    go_wp2_with fail
    go_region_held3 (fun W => W.cell? ⟨w.heap.size, 0, none⟩ = some (.string B) ∧ W.cell? ⟨w.heap.size, 1, none⟩ = some (.slice A es.length cap))
      (first
        | exact hs5
        | exact HSS.out _ (Below.refl _ _).drew
        | exact HSS.out _ ((Below.refl _ _).drew.trans hb3))
      (first
        | (go_at_call 134
           have hbb := (Below.refl wr.heap.size wr).drew.trans hb3
           refine (HJN.out _ hbb).mono ?_; rintro e w5 ⟨rfl, hU5, hk5⟩
           have hs5 := HS5.out _ _ hbb hk5
           have HU5 := Lib.hid hU5; have HK5 := Lib.hid hk5; have HBB := Lib.hid hbb
           clear hU5 hk5 hbb)
        | (go_at_call 122; refine (HFX.out _).mono ?_; rintro e w3 ⟨rfl, hb3⟩))
    rename_i hHeld
    have hwz : w.heap.size ≤ wr.heap.size := HBW.out.size
    have hfin : Below w.heap.size w w5 := HK5.out.below (HBW.out.trans (HBB.out.mono hwz)) (Nat.le_trans hwz HBB.out.size) (fun m hm => by have := HLO.out m hm; have := HZ.out; omega)
    have hsz5 : base ≤ w5.heap.size := Nat.le_trans hgr (Nat.le_trans HBB.out.size HK5.out.size)
    have HH := Lib.hid hHeld; have HSZ := Lib.hid hsz5
    clear hHeld a1 a4 a5 a6 a7 a8 a9 hwz hsz5
    cases q with
    | false =>
      have HD : Hid (true = !forest E (fresh B.size) (ksOf b.data.toList)) := Lib.hid (by
        rw [HFO.out, if_pos (bne_eq_false_iff_eq.1 HSAME.out)]; rfl)
      go_wp2_with fail
      go_ret
      exact ⟨ret_bool HD.out, hfin⟩
    | true =>
      have HD : Hid (forest E (fresh B.size) (ksOf b.data.toList) = forest E (joinL f p1 p2) ((ksOf b.data.toList).drop (i + 1))) := Lib.hid (by
        rw [HFO.out, if_neg (bne_iff_ne.1 HSAME.out)])
      go_wp2_with fail
      go_roundw
      case rel =>
        obtain ⟨par5, d5, hU5⟩ := HU5.out
        exact ⟨i + 1, _, _, d5, par5, by omega, by go_num, Lib.hid hU5, HNEW, HH.out, hfin, HSZ.out, HD⟩
      case measure => simp [intOf]; omega

end Go.Proofs.Ytjfdkhaepmmlfaa

namespace Go.Proofs.Ytjfdkhaepmmlfaa
open Go.RowKit

theorem eIdx_one {n : Nat} {c : UInt8} (h : 0 ≤ eIdx n [c]) : eIdx n [c] = (c.toNat : Int) - 97 := by
  unfold eIdx at h ⊢
  simp only at h ⊢
  split at h
  · rename_i q; rw [if_pos q]
  · omega

set_option maxRecDepth 100000 in
set_option maxHeartbeats 4000000 in
/-- impl.inOrder -/
theorem inOrder_any (B : ByteArray) (A : Option Addr) (n cap : Nat) (b : ByteArray) (w : World) (hn : n ≤ 1099511627776) (hbz : b.size ≤ 1099511627776) :
    Calls Try.prog 129 #[.agg #[.string B, .slice A n cap], .string b] w (BoolPost (decB (Known n b.data.toList)) w) := by
  have hlen : b.data.toList.length = b.size := by simp
  have HLEN := Lib.hid hlen; have HN := Lib.hid hn
  clear hlen hn
  have hb1 : Below w.heap.size w (w.alloc (.cells #[.string B, .slice A n cap] 30)) := (Below.refl _ _).alloc (Nat.le_refl _) _
  have t1 := Two.made w B A n cap 30
  have hz1 : (w.alloc (.cells #[.string B, .slice A n cap] 30)).heap.size = w.heap.size + 1 := by simp
  go_enter Try.func129, Try.ntmps129
  go_wp2_with fail
  generalize hW1 : w.alloc (.cells #[.string B, .slice A n cap] 30) = w1 at hb1 t1 hz1 ⊢
  clear hW1
  go_loopw [5, 10] (fun last c wr => ∃ (i : Nat) (L : Int), i ≤ b.size ∧ c = .int .i64 i ∧ last = .int .i64 L ∧ Below w1.heap.size w1 wr ∧ Hid ((i = 0 → L = -1) ∧ (0 < i → L = ((b.data.toList.getD (i - 1) 0).toNat : Int) - 97 ∧ 0 ≤ L) ∧ ∀ j, j < i → 0 ≤ eIdx n [b.data.toList.getD j 0] ∧ (0 < j → (b.data.toList.getD (j - 1) 0).toNat < (b.data.toList.getD j 0).toNat))) (fun _ c _ => b.size - (intOf c).toNat)
  case atStart => exact ⟨0, -1, Nat.zero_le _, rfl, rfl, Below.refl _ _, Lib.hid ⟨fun _ => rfl, fun h => absurd h (by omega), fun j h => absurd h (by omega)⟩⟩
  case round =>
    obtain ⟨i, L, hi, rfl, rfl, hb, HR⟩ := hrel
    have hbw := hb1.trans (hb.mono hb1.size)
    by_cases hlt : i < b.size
    case neg =>
      have HD : Hid (true = decB (Known n b.data.toList)) := Lib.hid (by
        symm; refine decB_t fun j hj => HR.out.2.2 j (by have := HLEN.out; omega))
      go_wp2_with fail
      go_ret
      exact ⟨ret_bool HD.out, hbw⟩
    have hex := letter_at (p := b) hlt
    have FX : Hid (∀ W : World, Calls Try.prog 122 #[.agg #[.string B, .slice A n cap], .string (b.extract i (i + 1))] W fun e w' => e = .returned (.int .i64 (eIdx n [b.data.toList.getD i 0])) ∧ Below W.heap.size W w') := Lib.hid fun W => by
      have := edgeIndex_any (.string B) A n cap (b.extract i (i + 1)) W HN.out
      rwa [hex] at this
    obtain ⟨c, hc⟩ : ∃ c, b.data.toList.getD i 0 = c := ⟨_, rfl⟩
    have HCC := Lib.hid hc
    obtain ⟨r, hr⟩ : ∃ r, eIdx n [c] = r := ⟨_, rfl⟩
    rw [hc] at FX
    rw [hr] at FX
    have HRR := Lib.hid hr
    have a1 : (0 : Int) ≤ (i : Int) := by omega
    have a4 : (0 : Int) ≤ (i : Int) + 1 := by omega
    have a5 : ((i : Int) + 1).toNat = i + 1 := by omega
    have a6 : (i : Int) + 1 ≤ (b.size : Int) := by omega
    have a7 : i + 1 ≤ b.size := by omega
    have a8 : (i : Int) ≤ (i : Int) + 1 := by omega
    have a9 : IntKind.i64.wrap ((i : Int) + 1) = (i : Int) + 1 := IntWalk.i64_in _ (by omega)
    have x0 : ∀ x : After wr, x.W.cell? ⟨w.heap.size, 0, none⟩ = some (.string B) := fun x => x.cell (by have := hb.size; simp only; omega) ((hb.cell (by simp only; omega)).trans t1.1)
    have x1 : ∀ x : After wr, x.W.cell? ⟨w.heap.size, 1, none⟩ = some (.slice A n cap) := fun x => x.cell (by have := hb.size; simp only; omega) ((hb.cell (by simp only; omega)).trans t1.2)
    clear hex hc hr t1
    by_cases hrl : r ≤ L
    · have HD : Hid (false = decB (Known n b.data.toList)) := Lib.hid (by
        symm; refine decB_f fun h => ?_
        obtain ⟨k1, k2⟩ := h i (by have := HLEN.out; omega)
        have e1 := eIdx_one k1
        obtain ⟨g1, g2, _⟩ := HR.out
        rw [HCC.out] at k1 k2 e1
        rw [HRR.out] at k1 e1
        by_cases hi0 : 0 < i
        · have := k2 hi0
          have := g2 hi0
          omega
        · have := g1 (by omega)
          omega)
      go_wp2_with fail
      refine wp_region_below (by kernel_rfl) (by kernel_rfl) ?_
      repeat (go_big_quiet_step ((go_at_call 122; exact After.call (FX.out _))))
      refine wpQuiet_nil ?_
      rintro _ ⟨xw, rfl⟩
      clear x0 x1
      go_wp2_with fail
      go_ret
      exact ⟨ret_bool HD.out, hbw.trans (xw.h.mono hbw.size)⟩
    · have HNX : Hid ((i + 1 = 0 → r = -1) ∧ (0 < i + 1 → r = ((b.data.toList.getD (i + 1 - 1) 0).toNat : Int) - 97 ∧ 0 ≤ r) ∧ ∀ j, j < i + 1 → 0 ≤ eIdx n [b.data.toList.getD j 0] ∧ (0 < j → (b.data.toList.getD (j - 1) 0).toNat < (b.data.toList.getD j 0).toNat)) := Lib.hid (by
        obtain ⟨g1, g2, g3⟩ := HR.out
        have h0 : 0 ≤ r := by
          by_cases hi0 : 0 < i
          · have := g2 hi0; omega
          · have := g1 (by omega); omega
        have e1 : r = (c.toNat : Int) - 97 := by
          have := eIdx_one (n := n) (c := c) (by rw [HRR.out]; exact h0)
          rw [HRR.out] at this; exact this
        refine ⟨fun h => absurd h (by omega), fun _ => ⟨by rw [Nat.add_sub_cancel, HCC.out]; exact e1, h0⟩, fun j hj => ?_⟩
        by_cases hji : j < i
        · exact g3 j hji
        · obtain rfl : j = i := by omega
          rw [HCC.out, HRR.out]
          refine ⟨h0, fun hj0 => ?_⟩
          have := g2 hj0
          omega)
      go_wp2_with fail
      refine wp_region_below (by kernel_rfl) (by kernel_rfl) ?_
      repeat (go_big_quiet_step ((go_at_call 122; exact After.call (FX.out _))))
      refine wpQuiet_nil ?_
      rintro _ ⟨xw, rfl⟩
      clear x0 x1
      go_wp2_with fail
      go_roundw
      case rel => exact ⟨i + 1, r, by omega, by go_num, rfl, hb.trans (xw.h.mono hb.size), HNX⟩
      case measure => simp [intOf]; omega

set_option maxRecDepth 100000 in
set_option maxHeartbeats 4000000 in
/-- impl.IsTree -/
theorem implIsTree_any (B : ByteArray) (A : Option Addr) (cap : Nat) (es : List (ByteArray × ByteArray)) (b : ByteArray) (w : World) (hs : B.size ≤ maxLen) (hE : EdgesIn w w.heap.size A es) (hl : es.length ≤ 1099511627776) (_ : ∀ e ∈ es, e.1.size ≤ 1099511627776 ∧ e.2.size ≤ 1099511627776) (hbz : b.size ≤ 1099511627776) :
    Calls Try.prog 116 #[.agg #[.string B, .slice A es.length cap], .string b] w (BoolPost (treeV B es b) w) := by
  have HL := Lib.hid hl; have HM := Lib.hid hs
  clear hl hs
  have hb1 : Below w.heap.size w (w.alloc (.cells #[.string B, .slice A es.length cap] 30)) := (Below.refl _ _).alloc (Nat.le_refl _) _
  have t1 := Two.made w B A es.length cap 30
  have hz1 : (w.alloc (.cells #[.string B, .slice A es.length cap] 30)).heap.size = w.heap.size + 1 := by simp
  obtain ⟨v, hv⟩ : ∃ v, decB (Valid B.data.toList (ebs es)) = v := ⟨_, rfl⟩
  have FA : Hid (∀ W : World, EdgesIn W W.heap.size A es → Calls Try.prog 46 #[.agg #[.string B, .slice A es.length cap]] W fun e w' => e = .returned (.bool v) ∧ Below W.heap.size W w') := Lib.hid fun W h => by
    have := valid_any B A cap es W HM.out h (by unfold maxLen; have := HL.out; omega)
    rwa [hv] at this
  cases v with
  | false =>
    have HN : Hid (treeV B es b = false) := Lib.hid (decB_f fun h => decB_not.1 hv h.1)
    clear hv
    go_enter Try.func116, Try.ntmps116
    go_wp2_with fail
    refine (FA.out _ ((hE.below hb1).more hb1.size)).mono ?_
    rintro e w2 ⟨rfl, hb2⟩
    have hb2' := hb1.trans (hb2.mono hb1.size)
    clear hb2 t1
    go_wp2_with fail
    go_ret
    exact ⟨ret_bool HN.out.symm, hb2'⟩
  | true =>
  have HVAL := Lib.hid (decB_iff.1 hv)
  have hB2 : 2 ≤ B.size := by have := HVAL.out.1.1.1; simpa using this
  have hB8 : B.size ≤ 8 := by have := HVAL.out.1.1.2.1; simpa using this
  clear hv
  have z1 : IntKind.i64.wrap ((B.size : Int) - 2) = (B.size : Int) - 2 := IntWalk.i64_in _ (by omega)
  by_cases hsz : b.size + 2 = B.size
  case neg =>
    have HN : Hid (treeV B es b = false) := Lib.hid (decB_f fun h => hsz h.2.2.1)
    have z2 : ((b.size : Int) == (B.size : Int) - 2) = false := by rw [beq_eq_false_iff_ne]; omega
    clear hsz hB2 hB8
    go_enter Try.func116, Try.ntmps116
    go_wp2_with fail
    refine (FA.out _ ((hE.below hb1).more hb1.size)).mono ?_
    rintro e w2 ⟨rfl, hb2⟩
    have hb2' := hb1.trans (hb2.mono hb1.size)
    have t2 := t1.below hb2 (by omega)
    have hd0 := t2.1
    clear hb2 t1
    go_wp2_with fail
    go_ret
    exact ⟨ret_bool HN.out.symm, hb2'⟩
  have z2 : ((b.size : Int) == (B.size : Int) - 2) = true := by rw [beq_iff_eq]; omega
  obtain ⟨u, hu⟩ : ∃ u, decB (Known es.length b.data.toList) = u := ⟨_, rfl⟩
  have FK : Hid (∀ W : World, Calls Try.prog 129 #[.agg #[.string B, .slice A es.length cap], .string b] W fun e w' => e = .returned (.bool u) ∧ Below W.heap.size W w') := Lib.hid fun W => by
    have := inOrder_any B A es.length cap b W HL.out hbz
    rwa [hu] at this
  have HSZ := Lib.hid hsz
  clear hsz hB2 hB8
  cases u with
  | false =>
    have HN : Hid (treeV B es b = false) := Lib.hid (decB_f fun h => decB_not.1 hu h.2.1)
    clear hu
    go_enter Try.func116, Try.ntmps116
    go_wp2_with fail
    refine (FA.out _ ((hE.below hb1).more hb1.size)).mono ?_
    rintro e w2 ⟨rfl, hb2⟩
    have hb2' := hb1.trans (hb2.mono hb1.size)
    have t2 := t1.below hb2 (by omega)
    have hd0 := t2.1; have hd1 := t2.2
    clear hb2 t1
    go_wp2_with fail
    refine (FK.out _).mono ?_
    rintro e w3 ⟨rfl, hb3⟩
    have hb3' := hb2'.trans (hb3.mono hb2'.size)
    clear hb3 hd0 hd1 t2
    go_wp2_with fail
    go_ret
    exact ⟨ret_bool HN.out.symm, hb3'⟩
  | true =>
  have HKN := Lib.hid (decB_iff.1 hu)
  clear hu
  obtain ⟨fo, hfo⟩ : ∃ fo, forest (endsN B.data.toList (ebs es)) (fresh B.size) (ksOf b.data.toList) = fo := ⟨_, rfl⟩
  have HN : Hid (treeV B es b = fo) := Lib.hid (by
    rw [← hfo]
    cases h : forest (endsN B.data.toList (ebs es)) (fresh B.size) (ksOf b.data.toList) with
    | false => exact decB_f fun g => by rw [h] at g; exact absurd g.2.2.2 (by simp)
    | true => exact decB_t ⟨HVAL.out, HKN.out, HSZ.out, h⟩)
  have FF : Hid (∀ W : World, EdgesIn W W.heap.size A es → Calls Try.prog 130 #[.agg #[.string B, .slice A es.length cap], .string b] W fun e w' => e = .returned (.bool (!fo)) ∧ Below W.heap.size W w') := Lib.hid fun W h => by
    have := makesRound_any B A cap es b W h HL.out HVAL.out HKN.out hbz
    rwa [hfo] at this
  have HQ : Hid ((!!fo) = fo) := Lib.hid (by simp)
  clear hfo
  go_enter Try.func116, Try.ntmps116
  go_wp2_with fail
  refine (FA.out _ ((hE.below hb1).more hb1.size)).mono ?_
  rintro e w2 ⟨rfl, hb2⟩
  have hb2' := hb1.trans (hb2.mono hb1.size)
  have t2 := t1.below hb2 (by omega)
  have hz2 := hb2.size
  have hd0 := t2.1; have hd1 := t2.2
  clear hb2 t1 FA
  go_wp2_with fail
  refine (FK.out _).mono ?_
  rintro e w3 ⟨rfl, hb3⟩
  have hb3' := hb2'.trans (hb3.mono hb2'.size)
  have t3 := t2.below hb3 (by omega)
  have hf0 := t3.1; have hf1 := t3.2
  clear hb3 hd0 hd1 t2 FK
  go_wp2_with fail
  refine (FF.out _ ((hE.below hb3').more hb3'.size)).mono ?_
  rintro e w4 ⟨rfl, hb4⟩
  have hb4' := hb3'.trans (hb4.mono hb3'.size)
  clear hb4 hf0 hf1 t3 FF
  go_wp2_with fail
  go_ret
  exact ⟨ret_bool (by first | exact HN.out.symm | exact HQ.out.trans HN.out.symm), hb4'⟩

end Go.Proofs.Ytjfdkhaepmmlfaa

namespace Go.Proofs.Ytjfdkhaepmmlfaa
open Go.RowKit

/-- a row of eight labels -/
def Labs (w : World) (g : Nat) (f : Nat → Nat) : Prop := w.rowIs g 59 8 (fun i => .int .i64 ((f i : Nat) : Int))

theorem drewN_block (w : World) (n b : Nat) : (w.drewN n).heap[b]? = w.heap[b]? := rfl
theorem grown_drewN {w : World} {n : Nat} {row : Option Nat} : w.grownBy (w.drewN n) row := ⟨rfl, rfl, rfl, Nat.le_refl _, fun _ _ _ => rfl⟩

set_option maxRecDepth 100000 in
set_option maxHeartbeats 2000000 in
/-- (*spec.l5Groups).join -/
theorem join5_any (g : Nat) (f : Nat → Nat) (a b : Nat) (w : World) (hr : Labs w g f) (ha : a < 8) (hb : b < 8) :
    Calls Try.prog 67 #[.pointer (some ⟨g, 0, none⟩), .int .i64 a, .int .i64 b] w fun e w' => e = .returned (.bool (f a != f b)) ∧ Labs w' g (joinL f a b) ∧ w.grownBy w' (some g) := by
  unfold Labs at hr ⊢
  have ca := hr.cell (i := a) ha
  have cb := hr.cell (i := b) hb
  have a1 : (0 : Int) ≤ (a : Int) := by omega
  have a2 : (a : Int) < 8 := by omega
  have b1 : (0 : Int) ≤ (b : Int) := by omega
  have b2 : (b : Int) < 8 := by omega
  have HJ : Hid (joinL f a b = fun m => if f m = f b then f a else f m) := Lib.hid rfl
  obtain ⟨x, hx⟩ : ∃ x, f a = x := ⟨_, rfl⟩
  obtain ⟨y, hy⟩ : ∃ y, f b = y := ⟨_, rfl⟩
  rw [hx, hy] at HJ
  rw [hx] at ca ⊢
  rw [hy] at cb ⊢
  have HR := Lib.hid hr
  clear hr hx hy
  go_enter Try.func67, Try.ntmps67
  go_wp2_with fail
  go_quiet (fail)
  go_wp2_with fail
  clear ca cb
  go_loopw [22] (fun c wr => ∃ m : Nat, m ≤ 8 ∧ c = .int .i64 m ∧ wr.rowIs g 59 8 (fun i => .int .i64 ((if i < m then joinL f a b i else f i : Nat) : Int)) ∧ w.grownBy wr (some g)) (fun c _ => 8 - (intOf c).toNat)
  case atStart => exact ⟨0, Nat.zero_le _, rfl, (HR.out.of_block (drewN_block _ _ _)).congr (fun i _ => by simp), grown_drewN⟩
  case round =>
    obtain ⟨m, hm, rfl, hrow, hgr⟩ := hrel
    have HROW := Lib.hid hrow; have HGR := Lib.hid hgr
    clear hgr
    by_cases hlt : m < 8
    · have cm := hrow.cell (i := m) hlt
      have fm := hrow.frozen m
      rw [if_neg (Nat.lt_irrefl m)] at cm
      have HM : Hid (joinL f a b m = if f m = y then x else f m) := Lib.hid (by rw [HJ.out])
      obtain ⟨v, hv⟩ : ∃ v, f m = v := ⟨_, rfl⟩
      rw [hv] at cm HM
      have HV := Lib.hid hv
      have m1 : (0 : Int) ≤ (m : Int) := by omega
      have m2 : (m : Int) < 8 := by omega
      clear hrow hv
      by_cases hvy : v = y
      · have q : ((v : Int) == (y : Int)) = true := by simp [hvy]
        rw [if_pos hvy] at HM
        clear hvy
        go_wp2_with fail
        go_roundw
        case rel =>
          refine ⟨m + 1, by omega, by go_num, (HROW.out.set m (.int .i64 (x : Int))).congr fun i hi => ?_, only_setCell_at HGR.out⟩
          by_cases him : i = m
          · subst him
            simp only [if_true]
            rw [if_pos (Nat.lt_succ_self _), HM.out]
          · simp only [if_neg him]
            by_cases hl : i < m
            · rw [if_pos hl, if_pos (by omega)]
            · rw [if_neg hl, if_neg (by omega)]
        case measure => simp [intOf]; omega
      · have q : ((v : Int) == (y : Int)) = false := by rw [beq_eq_false_iff_ne]; omega
        rw [if_neg hvy] at HM
        clear hvy
        go_wp2_with fail
        go_roundw
        case rel =>
          refine ⟨m + 1, by omega, by go_num, HROW.out.congr fun i hi => ?_, HGR.out⟩
          by_cases him : i = m
          · subst him
            rw [if_neg (Nat.lt_irrefl _), if_pos (Nat.lt_succ_self _), HM.out, HV.out]
          · by_cases hl : i < m
            · rw [if_pos hl, if_pos (by omega)]
            · rw [if_neg hl, if_neg (by omega)]
        case measure => simp [intOf]; omega
    · have h8 : m = 8 := by omega
      subst h8
      clear hrow
      go_wp2_with fail
      go_ret
      refine ⟨ret_bool ?_, HROW.out.congr fun i hi => by rw [if_pos hi], HGR.out⟩
      by_cases hxy : x = y
      · subst hxy; simp
      · rw [bne_iff_ne.2 hxy, bne_iff_ne]; omega

set_option maxRecDepth 100000 in
set_option maxHeartbeats 2000000 in
/-- spec.l5Make -/
theorem l5Make_any (B : ByteArray) (sl : Value) (w : World) (h2 : 2 ≤ B.size) (h8 : B.size ≤ 8) :
    Calls Try.prog 32 #[.agg #[.string B, sl]] w fun e w' => ∃ g, e = .returned (.pointer (some ⟨g, 0, none⟩)) ∧ w.heap.size ≤ g ∧ g < w'.heap.size ∧ Labs w' g (fresh B.size) ∧ Below w.heap.size w w' := by
  have hb1 : Below w.heap.size w (w.alloc (.cells #[.string B, sl] 30)) := (Below.refl _ _).alloc (Nat.le_refl _) _
  have hc0 : (w.alloc (.cells #[.string B, sl] 30)).cell? ⟨w.heap.size, 0, none⟩ = some (.string B) := by go_simp
  have hz1 : (w.alloc (.cells #[.string B, sl] 30)).heap.size = w.heap.size + 1 := by simp
  go_enter Try.func32, Try.ntmps32
  go_wp2_with fail
  generalize hW1 : w.alloc (.cells #[.string B, sl] 30) = w1 at hb1 hc0 hz1 ⊢
  clear hW1
  have hrow := World.rowIs_alloc w1 #[.int .i64 0, .int .i64 0, .int .i64 0, .int .i64 0, .int .i64 0, .int .i64 0, .int .i64 0, .int .i64 0] 59 (fun _ => .int .i64 0) (fun i hi => by
    match i, hi with
    | 0, _ => rfl
    | 1, _ => rfl
    | 2, _ => rfl
    | 3, _ => rfl
    | 4, _ => rfl
    | 5, _ => rfl
    | 6, _ => rfl
    | 7, _ => rfl)
  have hb2 : Below w1.heap.size w1 (w1.alloc (.cells #[.int .i64 0, .int .i64 0, .int .i64 0, .int .i64 0, .int .i64 0, .int .i64 0, .int .i64 0, .int .i64 0] 59)) := (Below.refl _ _).alloc (Nat.le_refl _) _
  have hz2 : (w1.alloc (.cells #[.int .i64 0, .int .i64 0, .int .i64 0, .int .i64 0, .int .i64 0, .int .i64 0, .int .i64 0, .int .i64 0] 59)).heap.size = w1.heap.size + 1 := by simp
  generalize hW2 : w1.alloc (.cells #[.int .i64 0, .int .i64 0, .int .i64 0, .int .i64 0, .int .i64 0, .int .i64 0, .int .i64 0, .int .i64 0] 59) = w2 at hrow hb2 hz2 ⊢
  clear hW2
  rw [hz1] at hrow hb2 hz2
  obtain ⟨g, hg⟩ : ∃ g, w.heap.size + 1 = g := ⟨_, rfl⟩
  rw [hg] at hrow hb2 hz2 ⊢
  have HG : Hid (w.heap.size < g ∧ w2.heap.size = g + 1) := Lib.hid ⟨by omega, by omega⟩
  have hb2' : Below w.heap.size w w2 := hb1.trans (hb2.mono (by omega))
  have HC : Hid (∀ W : World, w2.grownBy W (some g) → W.cell? ⟨w.heap.size, 0, none⟩ = some (.string B)) := Lib.hid fun W h => by
    have h1 := (hb2.cell (p := ⟨w.heap.size, 0, none⟩) (by simp only; omega)).trans hc0
    rw [h.cell_far _ (by simp only; omega) (by simp only; intro e; injection e with e; omega)]
    exact h1
  have HB2 := Lib.hid hb2'
  have HROW : Hid (w2.rowIs g 59 8 (fun _ => .int .i64 0)) := Lib.hid hrow
  clear hb1 hc0 hz1 hb2 hz2 hb2' hrow hg
  go_loopw [7] (fun c wr => ∃ m : Nat, m ≤ 8 ∧ c = .int .i64 m ∧ wr.rowIs g 59 8 (fun i => .int .i64 ((if i < m then i else 0 : Nat) : Int)) ∧ w2.grownBy wr (some g)) (fun c _ => 8 - (intOf c).toNat)
  case atStart => exact ⟨0, Nat.zero_le _, rfl, HROW.out.congr (fun i _ => by simp), World.grownBy.refl _ _⟩
  case round =>
    obtain ⟨m, hm, rfl, hrow, hgr⟩ := hrel
    have HRO := Lib.hid hrow; have HGR := Lib.hid hgr
    clear hgr
    by_cases hlt : m < 8
    · have cm := hrow.cell (i := m) hlt
      have fm := hrow.frozen m
      have m1 : (0 : Int) ≤ (m : Int) := by omega
      have m2 : (m : Int) < 8 := by omega
      clear hrow
      go_wp2_with fail
      go_roundw
      case rel =>
        refine ⟨m + 1, by omega, by go_num, (HRO.out.set m (.int .i64 (m : Int))).congr fun i hi => ?_, only_setCell_at HGR.out⟩
        by_cases him : i = m
        · subst him
          simp only [if_true]
          rw [if_pos (Nat.lt_succ_self _)]
        · simp only [if_neg him]
          by_cases hl : i < m
          · rw [if_pos hl, if_pos (by omega)]
          · rw [if_neg hl, if_neg (by omega)]
      case measure => simp [intOf]; omega
    · have h8' : m = 8 := by omega
      subst h8'
      clear hrow
      have hc := HC.out _ HGR.out
      have hlab : Labs wr g (fun i => i) := HRO.out.congr fun i hi => by rw [if_pos hi]
      obtain ⟨d, hd⟩ : ∃ d, B.size = d + 1 := ⟨B.size - 1, by omega⟩
      have z1 : IntKind.i64.wrap ((B.size : Int) - 1) = (d : Int) := by rw [IntWalk.i64_in _ (by omega)]; omega
      have HD := Lib.hid hd
      have d8 : d < 8 := by omega
      have HL := Lib.hid hlab
      clear hd hlab
      go_wp2_with fail
      refine (join5_any g (fun i => i) 0 d wr HL.out (by omega) d8).mono ?_
      rintro e w4 ⟨rfl, hl4, hg4⟩
      have HL4 := Lib.hid hl4; have HG4 := Lib.hid hg4
      clear hl4 hg4 hc
      go_wp2_with fail
      go_ret
      have hgg := grown_on HGR.out HG4.out
      refine ⟨g, rfl, Nat.le_of_lt HG.out.1, ?_, ?_, HB2.out.grown hgg (by have := HB2.out.size; omega) (fun k e => by injection e with e; have := HG.out.1; omega)⟩
      · have := HG4.out.size; have := HGR.out.size; have := HG.out.2; omega
      · show Labs w4 g (joinL (fun i => i) 0 (B.size - 1))
        rw [HD.out]
        exact HL4.out

set_option maxRecDepth 100000 in
set_option maxHeartbeats 2000000 in
/-- spec.l5Ends -/
theorem l5Ends_any (B : ByteArray) (A : Option Addr) (cap : Nat) (es : List (ByteArray × ByteArray)) (b : ByteArray) (k : Nat) (w : World) (hs : B.size ≤ maxLen) (hE : EdgesIn w w.heap.size A es) (hl : es.length ≤ 1099511627776) (hV : EdgesOk B.data.toList (ebs es)) (hk : k < es.length) (hi : eIdx es.length b.data.toList = k) :
    Calls Try.prog 66 #[.agg #[.string B, .slice A es.length cap], .string b] w fun e w' => e = .returned (.tuple #[.int .i64 (((endsN B.data.toList (ebs es) k).1 : Nat) : Int), .int .i64 (((endsN B.data.toList (ebs es) k).2 : Nat) : Int)]) ∧ Below w.heap.size w w' := by
  have HL := Lib.hid hl; have HM := Lib.hid hs; have HI := Lib.hid hi
  clear hl hs hi
  obtain ⟨x, y, i, j, e1, e2, e3, e4, e5, _, _⟩ := ends_at hV hk
  rw [e3]
  have FL : Hid (∀ W : World, EdgesIn W W.heap.size A es → Calls Try.prog 98 #[.agg #[.string B, .slice A es.length cap], .string b] W fun e w' => e = .returned (.agg #[.string ⟨#[x]⟩, .string ⟨#[y]⟩]) ∧ Below W.heap.size W w') := Lib.hid fun W h => by
    have := l2Edge_any B A cap es b k W h HL.out hk HI.out
    rwa [e1, e2] at this
  have HQ : Hid (Ending.returned (.tuple #[.int .i64 (Lib.indexByte B.data.toList x), .int .i64 (Lib.indexByte B.data.toList y)]) = .returned (.tuple #[.int .i64 ((i : Nat) : Int), .int .i64 ((j : Nat) : Int)])) := Lib.hid (by rw [e4, e5])
  have hb1 : Below w.heap.size w (w.alloc (.cells #[.string B, .slice A es.length cap] 30)) := (Below.refl _ _).alloc (Nat.le_refl _) _
  have t1 := Two.made w B A es.length cap 30
  have hz1 : (w.alloc (.cells #[.string B, .slice A es.length cap] 30)).heap.size = w.heap.size + 1 := by simp
  clear e1 e2 e3 e4 e5 hV hk
  go_enter Try.func66, Try.ntmps66
  go_wp2_with fail
  refine (FL.out _ ((hE.below hb1).more hb1.size)).mono ?_
  rintro e w2 ⟨rfl, hb2⟩
  have hb2' := hb1.trans (hb2.mono hb1.size)
  have t2 := t1.below hb2 (by omega)
  have hz2 := hb2.size
  have hba : Below w2.heap.size w2 (w2.alloc (.cells #[.string ⟨#[x]⟩, .string ⟨#[y]⟩] 104)) := (Below.refl _ _).alloc (Nat.le_refl _) _
  have hn0 := (hba.cell (p := ⟨w.heap.size, 0, none⟩) (by simp only; omega)).trans t2.1
  have hn2 : (w2.alloc (.cells #[.string ⟨#[x]⟩, .string ⟨#[y]⟩] 104)).cell? ⟨w2.heap.size, 0, none⟩ = some (.string ⟨#[x]⟩) := by go_simp
  have hn3 : (w2.alloc (.cells #[.string ⟨#[x]⟩, .string ⟨#[y]⟩] 104)).cell? ⟨w2.heap.size, 1, none⟩ = some (.string ⟨#[y]⟩) := by go_simp
  have hbw := hb2'.trans (hba.mono hb2'.size)
  clear hb1 hb2 t1 FL hba hz1 hz2
  go_wp2_with fail
  generalize hW0 : w2.alloc (.cells #[.string ⟨#[x]⟩, .string ⟨#[y]⟩] 104) = W0 at hn0 hn2 hn3 hbw ⊢
  clear hW0
  go_quiet ((go_at_call 96; exact Calls.quiet_of_same ((find_any _ _ _ HM.out).mono fun _ _ ⟨h, h'⟩ => ⟨h, h'.symm⟩)))
  go_wp2_with fail
  go_ret2
  exact ⟨HQ.out, below_drewN hbw _⟩

end Go.Proofs.Ytjfdkhaepmmlfaa

namespace Go.Proofs.Ytjfdkhaepmmlfaa
open Go.RowKit

set_option maxRecDepth 100000 in
set_option maxHeartbeats 4000000 in
/-- spec.l5Known -/
theorem l5Known_any (B : ByteArray) (A : Option Addr) (n cap : Nat) (b : ByteArray) (w : World) (hn : n ≤ 1099511627776) (hbz : b.size ≤ 1099511627776) :
    Calls Try.prog 125 #[.agg #[.string B, .slice A n cap], .string b] w (BoolPost (decB (Known n b.data.toList)) w) := by
  have hlen : b.data.toList.length = b.size := by simp
  have HLEN := Lib.hid hlen; have HN := Lib.hid hn
  clear hlen hn
  have hb1 : Below w.heap.size w (w.alloc (.cells #[.string B, .slice A n cap] 30)) := (Below.refl _ _).alloc (Nat.le_refl _) _
  have t1 := Two.made w B A n cap 30
  have hz1 : (w.alloc (.cells #[.string B, .slice A n cap] 30)).heap.size = w.heap.size + 1 := by simp
  go_enter Try.func125, Try.ntmps125
  go_wp2_with fail
  generalize hW1 : w.alloc (.cells #[.string B, .slice A n cap] 30) = w1 at hb1 t1 hz1 ⊢
  clear hW1
  go_loopw [8] (fun c wr => ∃ i : Nat, i ≤ b.size ∧ c = .int .i64 i ∧ Below w1.heap.size w1 wr ∧ Hid (∀ j, j < i → 0 ≤ eIdx n [b.data.toList.getD j 0] ∧ (0 < j → (b.data.toList.getD (j - 1) 0).toNat < (b.data.toList.getD j 0).toNat))) (fun c _ => b.size - (intOf c).toNat)
  case atStart => exact ⟨0, Nat.zero_le _, rfl, Below.refl _ _, Lib.hid fun j h => absurd h (by omega)⟩
  case round =>
    obtain ⟨i, hi, rfl, hb, HR⟩ := hrel
    have hbw := hb1.trans (hb.mono hb1.size)
    by_cases hlt : i < b.size
    case neg =>
      have HD : Hid (true = decB (Known n b.data.toList)) := Lib.hid (by
        symm; refine decB_t fun j hj => HR.out j (by have := HLEN.out; omega))
      go_wp2_with fail
      go_ret
      exact ⟨ret_bool HD.out, hbw⟩
    have hex := letter_at (p := b) hlt
    have FX : Hid (∀ W : World, Calls Try.prog 117 #[.agg #[.string B, .slice A n cap], .string (b.extract i (i + 1))] W fun e w' => e = .returned (.int .i64 (eIdx n [b.data.toList.getD i 0])) ∧ Below W.heap.size W w') := Lib.hid fun W => by
      have := l1Index_any (.string B) A n cap (b.extract i (i + 1)) W HN.out
      rwa [hex] at this
    have HC : Hid (b[i] = b.data.toList.getD i 0) := Lib.hid (by
      have h : b.data.toList[i]? = some b[i] := List.getElem?_eq_getElem (by simpa using hlt)
      rw [List.getD_eq_getElem?_getD, h]; rfl)
    obtain ⟨c, hc⟩ : ∃ c, b.data.toList.getD i 0 = c := ⟨_, rfl⟩
    have HCC := Lib.hid hc
    obtain ⟨r, hr⟩ : ∃ r, eIdx n [c] = r := ⟨_, rfl⟩
    rw [hc] at FX HC
    rw [hr] at FX
    have HRR := Lib.hid hr
    have a1 : (0 : Int) ≤ (i : Int) := by omega
    have a4 : (0 : Int) ≤ (i : Int) + 1 := by omega
    have a5 : ((i : Int) + 1).toNat = i + 1 := by omega
    have a6 : (i : Int) + 1 ≤ (b.size : Int) := by omega
    have a7 : i + 1 ≤ b.size := by omega
    have a8 : (i : Int) ≤ (i : Int) + 1 := by omega
    have a9 : IntKind.i64.wrap ((i : Int) + 1) = (i : Int) + 1 := IntWalk.i64_in _ (by omega)
    have x0 : ∀ x : After wr, x.W.cell? ⟨w.heap.size, 0, none⟩ = some (.string B) := fun x => x.cell (by have := hb.size; simp only; omega) ((hb.cell (by simp only; omega)).trans t1.1)
    have x1 : ∀ x : After wr, x.W.cell? ⟨w.heap.size, 1, none⟩ = some (.slice A n cap) := fun x => x.cell (by have := hb.size; simp only; omega) ((hb.cell (by simp only; omega)).trans t1.2)
    clear hex hc hr t1
    by_cases hr0 : r < 0
    · have HD : Hid (false = decB (Known n b.data.toList)) := Lib.hid (by
        symm; refine decB_f fun h => ?_
        have := (h i (by have := HLEN.out; omega)).1
        rw [HCC.out, HRR.out] at this
        omega)
      go_wp2_with fail
      refine wp_region_below (by kernel_rfl) (by kernel_rfl) ?_
      repeat (go_big_quiet_step ((go_at_call 117; exact After.call (FX.out _))))
      refine wpQuiet_nil ?_
      rintro _ ⟨xw, rfl⟩
      clear x0 x1
      go_wp2_with fail
      go_ret
      exact ⟨ret_bool HD.out, hbw.trans (xw.h.mono hbw.size)⟩
    have q0 : decide (r < 0) = false := by simp; omega
    cases i with
    | zero =>
      have a2 : ¬ (0 : Int) < ((0 : Nat) : Int) := by omega
      have HNX : Hid (∀ j, j < 0 + 1 → 0 ≤ eIdx n [b.data.toList.getD j 0] ∧ (0 < j → (b.data.toList.getD (j - 1) 0).toNat < (b.data.toList.getD j 0).toNat)) := Lib.hid fun j hj => by
        obtain rfl : j = 0 := by omega
        rw [HCC.out, HRR.out]
        exact ⟨by omega, fun h => absurd h (by omega)⟩
      go_wp2_with fail
      refine wp_region_below (by kernel_rfl) (by kernel_rfl) ?_
      repeat (go_big_quiet_step ((go_at_call 117; exact After.call (FX.out _))))
      refine wpQuiet_nil ?_
      rintro _ ⟨xw, rfl⟩
      clear x0 x1
      go_wp2_with fail
      go_roundw
      case rel => exact ⟨0 + 1, by omega, by go_num, hb.trans (xw.h.mono hb.size), HNX⟩
      case measure => simp [intOf]; omega
    | succ p =>
      have hp : p < b.size := by omega
      have HC2 : Hid (b[p] = b.data.toList.getD p 0) := Lib.hid (by
        have h : b.data.toList[p]? = some b[p] := List.getElem?_eq_getElem (by simpa using hp)
        rw [List.getD_eq_getElem?_getD, h]; rfl)
      obtain ⟨c2, hc2⟩ : ∃ c2, b.data.toList.getD p 0 = c2 := ⟨_, rfl⟩
      rw [hc2] at HC2
      have HCP := Lib.hid hc2
      have b1 : IntKind.i64.wrap (((p + 1 : Nat) : Int) - 1) = (p : Int) := by rw [IntWalk.i64_in _ (by omega)]; omega
      have b2 : (0 : Int) ≤ (p : Int) := by omega
      have b3 : (p : Int) < (b.size : Int) := by omega
      have b4 : (0 : Int) < ((p + 1 : Nat) : Int) := by omega
      have b5 : ((p + 1 : Nat) : Int) < (b.size : Int) := by omega
      have g1 : b[p] = c2 := HC2.out
      have g2 : b[p + 1] = c := HC.out
      clear hc2
      obtain ⟨v1, hv1⟩ : ∃ v1 : Nat, c.toNat = v1 := ⟨_, rfl⟩
      obtain ⟨v2, hv2⟩ : ∃ v2 : Nat, c2.toNat = v2 := ⟨_, rfl⟩
      have g3 : ((b[p].toNat : Nat) : Int) = (v2 : Int) := by rw [g1, hv2]
      have g4 : ((b[p + 1].toNat : Nat) : Int) = (v1 : Int) := by rw [g2, hv1]
      have HV1 := Lib.hid hv1; have HV2 := Lib.hid hv2
      clear g1 g2 hv1 hv2
      by_cases hge : v1 ≤ v2
      · have HD : Hid (false = decB (Known n b.data.toList)) := Lib.hid (by
          symm; refine decB_f fun h => ?_
          have := (h (p + 1) (by have := HLEN.out; omega)).2 (by omega)
          rw [Nat.add_sub_cancel, HCC.out, HCP.out, HV1.out, HV2.out] at this
          omega)
        have q : (v1 : Int) ≤ (v2 : Int) := by omega
        go_wp2_with fail
        refine wp_region_below (by kernel_rfl) (by kernel_rfl) ?_
        repeat (go_big_quiet_step ((go_at_call 117; exact After.call (FX.out _))))
        refine wpQuiet_nil ?_
        rintro _ ⟨xw, rfl⟩
        clear x0 x1 g3 g4
        go_wp2_with fail
        go_ret
        exact ⟨ret_bool HD.out, hbw.trans (xw.h.mono hbw.size)⟩
      · have HNX : Hid (∀ j, j < p + 1 + 1 → 0 ≤ eIdx n [b.data.toList.getD j 0] ∧ (0 < j → (b.data.toList.getD (j - 1) 0).toNat < (b.data.toList.getD j 0).toNat)) := Lib.hid fun j hj => by
          by_cases hjp : j < p + 1
          · exact HR.out j hjp
          · obtain rfl : j = p + 1 := by omega
            rw [HCC.out, HRR.out, Nat.add_sub_cancel, HCP.out, HV1.out, HV2.out]
            exact ⟨by omega, fun _ => by omega⟩
        have q : ¬ (v1 : Int) ≤ (v2 : Int) := by omega
        go_wp2_with fail
        refine wp_region_below (by kernel_rfl) (by kernel_rfl) ?_
        repeat (go_big_quiet_step ((go_at_call 117; exact After.call (FX.out _))))
        refine wpQuiet_nil ?_
        rintro _ ⟨xw, rfl⟩
        clear x0 x1 g3 g4
        go_wp2_with fail
        go_roundw
        case rel => exact ⟨p + 1 + 1, by omega, by go_num, hb.trans (xw.h.mono hb.size), HNX⟩
        case measure => simp [intOf]; omega

end Go.Proofs.Ytjfdkhaepmmlfaa

namespace Go.Proofs.Ytjfdkhaepmmlfaa
open Go.RowKit

set_option maxRecDepth 100000 in
set_option maxHeartbeats 4000000 in
/-- spec.l5Forest -/
theorem l5Forest_any (B : ByteArray) (A : Option Addr) (cap : Nat) (es : List (ByteArray × ByteArray)) (b : ByteArray) (w : World) (hs : B.size ≤ maxLen) (hE : EdgesIn w w.heap.size A es) (hl : es.length ≤ 1099511627776) (hV : Valid B.data.toList (ebs es)) (hK : Known es.length b.data.toList) (hbz : b.size ≤ 1099511627776) :
    Calls Try.prog 126 #[.agg #[.string B, .slice A es.length cap], .string b] w (BoolPost (forest (endsN B.data.toList (ebs es)) (fresh B.size) (ksOf b.data.toList)) w) := by
  have HL := Lib.hid hl; have HM := Lib.hid hs
  have h2 : 2 ≤ B.size := by have := hV.1.1.1; simpa using this
  have h8 : B.size ≤ 8 := by have := hV.1.1.2.1; simpa using this
  have HLEN : Hid (b.data.toList.length = b.size) := Lib.hid (by simp)
  have HBL : Hid (B.data.toList.length = B.size) := Lib.hid (by simp)
  have HEO := Lib.hid hV.1.2; have HK := Lib.hid hK
  obtain ⟨E, hEE⟩ : ∃ E, endsN B.data.toList (ebs es) = E := ⟨_, rfl⟩
  have FE : Hid (∀ (k : Nat) (c : UInt8) (s : ByteArray), k < es.length → s.data.toList = [c] → eIdx es.length [c] = k → ∀ W : World, EdgesIn W W.heap.size A es → Calls Try.prog 66 #[.agg #[.string B, .slice A es.length cap], .string s] W fun e w' => e = .returned (.tuple #[.int .i64 (((E k).1 : Nat) : Int), .int .i64 (((E k).2 : Nat) : Int)]) ∧ Below W.heap.size W w') := Lib.hid fun k c s hk hs hi W h => by
    rw [← hEE]
    exact l5Ends_any B A cap es s k W HM.out h HL.out HEO.out hk (by rw [hs, hi])
  have FN : Hid (∀ k, k < es.length → (E k).1 < 8 ∧ (E k).2 < 8) := Lib.hid fun k hk => by
    obtain ⟨x, y, i, j, _, _, e3, _, _, h1, h2⟩ := ends_at HEO.out hk
    rw [← hEE, e3]
    have := HBL.out
    simp only
    omega
  rw [hEE]
  have hb1 : Below w.heap.size w (w.alloc (.cells #[.string B, .slice A es.length cap] 30)) := (Below.refl _ _).alloc (Nat.le_refl _) _
  have t1 := Two.made w B A es.length cap 30
  have hz1 : (w.alloc (.cells #[.string B, .slice A es.length cap] 30)).heap.size = w.heap.size + 1 := by simp
  clear hl hs hV hK hEE
  go_enter Try.func126, Try.ntmps126
  go_wp2_with fail
  generalize hW1 : w.alloc (.cells #[.string B, .slice A es.length cap] 30) = w1 at hb1 t1 hz1 ⊢
  clear hW1
  refine (l5Make_any B _ _ h2 h8).mono ?_
  rintro e w2 ⟨g, rfl, hg1, hg2, hlab, hb2⟩
  have t2 := t1.below hb2 (by omega)
  have hb2' := hb1.trans (hb2.mono hb1.size)
  have HG : Hid (w.heap.size < g) := Lib.hid (by omega)
  have HLAB := Lib.hid hlab; have HT2 := Lib.hid t2; have HB2 := Lib.hid hb2'; have HG2 := Lib.hid hg2
  clear hlab t2 hb2' hb1 hb2 t1 hz1 hg1 hg2
  go_wp2_with fail
  go_loopw [13] (fun c wr => ∃ (i : Nat) (f : Nat → Nat), i ≤ b.size ∧ c = .int .i64 i ∧ Hid (Labs wr g f) ∧ Two wr w.heap.size B A es.length cap ∧ Below w.heap.size w wr ∧ g < wr.heap.size ∧ Hid (forest E (fresh B.size) (ksOf b.data.toList) = forest E f ((ksOf b.data.toList).drop i))) (fun c _ => b.size - (intOf c).toNat)
  case atStart => exact ⟨0, fresh B.size, Nat.zero_le _, rfl, HLAB, HT2.out, HB2.out, HG2.out, Lib.hid (by rw [List.drop_zero])⟩
  case round =>
    obtain ⟨i, f, hi, rfl, HR, tr, hb, hgr, HF⟩ := hrel
    have hgw := HG.out
    by_cases hlt : i < b.size
    case neg =>
      have HD : Hid (true = forest E (fresh B.size) (ksOf b.data.toList)) := Lib.hid (by rw [HF.out, ks_end (by have := HLEN.out; omega)]; rfl)
      clear tr
      go_wp2_with fail
      go_ret
      exact ⟨ret_bool HD.out, hb⟩
    have hex := letter_at (p := b) hlt
    have hka := HK.out.at (i := i) (by have := HLEN.out; omega)
    have hkd := ks_drop (l := b.data.toList) (i := i) (by have := HLEN.out; omega)
    obtain ⟨c, hc⟩ : ∃ c, b.data.toList.getD i 0 = c := ⟨_, rfl⟩
    rw [hc] at hex hka hkd
    obtain ⟨k, hk⟩ : ∃ k, c.toNat - 97 = k := ⟨_, rfl⟩
    rw [hk] at hka hkd
    have FX := FE.out k c (b.extract i (i + 1)) hka.2 hex hka.1
    obtain ⟨n1, n2⟩ := FN.out k hka.2
    have HKD := Lib.hid hkd
    obtain ⟨p1, hp1⟩ : ∃ p, (E k).1 = p := ⟨_, rfl⟩
    obtain ⟨p2, hp2⟩ : ∃ p, (E k).2 = p := ⟨_, rfl⟩
    rw [hp1, hp2] at FX
    rw [hp1] at n1
    rw [hp2] at n2
    have HFX := Lib.hid FX
    have HP1 := Lib.hid hp1; have HP2 := Lib.hid hp2
    have a1 : (0 : Int) ≤ (i : Int) := by omega
    have a4 : (0 : Int) ≤ (i : Int) + 1 := by omega
    have a5 : ((i : Int) + 1).toNat = i + 1 := by omega
    have a6 : (i : Int) + 1 ≤ (b.size : Int) := by omega
    have a7 : i + 1 ≤ b.size := by omega
    have a8 : (i : Int) ≤ (i : Int) + 1 := by omega
    have a9 : IntKind.i64.wrap ((i : Int) + 1) = (i : Int) + 1 := IntWalk.i64_in _ (by omega)
    have x0 : ∀ x : After wr, x.W.cell? ⟨w.heap.size, 0, none⟩ = some (.string B) := fun x => x.cell (by simp only; omega) tr.1
    have x1 : ∀ x : After wr, x.W.cell? ⟨w.heap.size, 1, none⟩ = some (.slice A es.length cap) := fun x => x.cell (by simp only; omega) tr.2
    have xE : ∀ x : After wr, EdgesIn x.W x.W.heap.size A es := fun x => (hE.below (hb.trans (x.h.mono hb.size))).more (hb.trans (x.h.mono hb.size)).size
    have XE := Lib.hid xE
    clear xE hex hka hkd hc hk hp1 hp2 FX
    go_wp2_with fail
    refine wp_region_below (by kernel_rfl) (by kernel_rfl) ?_
    repeat (go_big_quiet_step ((go_at_call 66; exact After.call (HFX.out _ (XE.out _)))))
    refine wpQuiet_nil ?_
    rintro _ ⟨xw, rfl⟩
    clear x0 x1 a1 a4 a5 a6 a7 a8 a9
    have hLx : Labs xw.W g f := HR.out.of_block (xw.h.block g hgr)
    have tx := tr.below xw.h (by omega)
    have hbx := hb.trans (xw.h.mono hb.size)
    have hgx : g < xw.W.heap.size := Nat.lt_of_lt_of_le hgr xw.h.size
    have HLX := Lib.hid hLx; have HTX := Lib.hid tx
    clear hLx tx tr hb XE
    go_wp2_with fail
    refine (join5_any g f p1 p2 xw.W HLX.out n1 n2).mono ?_
    rintro e w4 ⟨rfl, hl4, hg4⟩
    have HL4 := Lib.hid hl4; have HG4 := Lib.hid hg4
    have hb4 : Below w.heap.size w w4 := hbx.grown hg4 hbx.size (fun q e => by injection e with e; omega)
    have t4 := HTX.out.grown hg4 (by have := hbx.size; omega) (by intro e; injection e with e; omega)
    have hg4' : g < w4.heap.size := Nat.lt_of_lt_of_le hgx hg4.size
    clear hl4 hg4 hbx hgx
    by_cases hsame : f p1 = f p2
    · have HD : Hid (false = forest E (fresh B.size) (ksOf b.data.toList)) := Lib.hid (by
        rw [HF.out, HKD.out, forest_no (by rw [HP1.out, HP2.out]; exact hsame)])
      have q : (f p1 != f p2) = false := bne_eq_false_iff_eq.2 hsame
      clear hsame t4
      go_wp2_with fail
      go_ret
      exact ⟨ret_bool HD.out, hb4⟩
    · have HD : Hid (forest E (fresh B.size) (ksOf b.data.toList) = forest E (joinL f p1 p2) ((ksOf b.data.toList).drop (i + 1))) := Lib.hid (by
        rw [HF.out, HKD.out, forest_yes (by rw [HP1.out, HP2.out]; exact hsame), HP1.out, HP2.out])
      have q : (f p1 != f p2) = true := bne_iff_ne.2 hsame
      clear hsame
      go_wp2_with fail
      go_roundw
      case rel => exact ⟨i + 1, _, by omega, by go_num, HL4, t4, hb4, hg4', HD⟩
      case measure => simp [intOf]; omega

set_option maxRecDepth 100000 in
set_option maxHeartbeats 4000000 in
/-- spec.IsTree -/
theorem specIsTree_any (B : ByteArray) (A : Option Addr) (cap : Nat) (es : List (ByteArray × ByteArray)) (b : ByteArray) (w : World) (hs : B.size ≤ maxLen) (hE : EdgesIn w w.heap.size A es) (hl : es.length ≤ 1099511627776) (_ : ∀ e ∈ es, e.1.size ≤ 1099511627776 ∧ e.2.size ≤ 1099511627776) (hbz : b.size ≤ 1099511627776) :
    Calls Try.prog 114 #[.agg #[.string B, .slice A es.length cap], .string b] w (BoolPost (treeV B es b) w) := by
  have HL := Lib.hid hl; have HM := Lib.hid hs
  clear hl hs
  have hb1 : Below w.heap.size w (w.alloc (.cells #[.string B, .slice A es.length cap] 30)) := (Below.refl _ _).alloc (Nat.le_refl _) _
  have t1 := Two.made w B A es.length cap 30
  have hz1 : (w.alloc (.cells #[.string B, .slice A es.length cap] 30)).heap.size = w.heap.size + 1 := by simp
  obtain ⟨v, hv⟩ : ∃ v, decB (Valid B.data.toList (ebs es)) = v := ⟨_, rfl⟩
  have FA : Hid (∀ W : World, EdgesIn W W.heap.size A es → Calls Try.prog 43 #[.agg #[.string B, .slice A es.length cap]] W fun e w' => e = .returned (.bool v) ∧ Below W.heap.size W w') := Lib.hid fun W h => by
    have := specValid_any B A cap es W HM.out h (by unfold maxLen; have := HL.out; omega)
    rwa [hv] at this
  cases v with
  | false =>
    have HN : Hid (treeV B es b = false) := Lib.hid (decB_f fun h => decB_not.1 hv h.1)
    clear hv
    go_enter Try.func114, Try.ntmps114
    go_wp2_with fail
    refine (FA.out _ ((hE.below hb1).more hb1.size)).mono ?_
    rintro e w2 ⟨rfl, hb2⟩
    have hb2' := hb1.trans (hb2.mono hb1.size)
    clear hb2 t1
    go_wp2_with fail
    go_ret
    exact ⟨ret_bool HN.out.symm, hb2'⟩
  | true =>
  have HVAL := Lib.hid (decB_iff.1 hv)
  have hB2 : 2 ≤ B.size := by have := HVAL.out.1.1.1; simpa using this
  have hB8 : B.size ≤ 8 := by have := HVAL.out.1.1.2.1; simpa using this
  obtain ⟨u, hu⟩ : ∃ u, decB (Known es.length b.data.toList) = u := ⟨_, rfl⟩
  have FK : Hid (∀ W : World, Calls Try.prog 125 #[.agg #[.string B, .slice A es.length cap], .string b] W fun e w' => e = .returned (.bool u) ∧ Below W.heap.size W w') := Lib.hid fun W => by
    have := l5Known_any B A es.length cap b W HL.out hbz
    rwa [hu] at this
  clear hv
  cases u with
  | false =>
    have HN : Hid (treeV B es b = false) := Lib.hid (decB_f fun h => decB_not.1 hu h.2.1)
    clear hu
    go_enter Try.func114, Try.ntmps114
    go_wp2_with fail
    refine (FA.out _ ((hE.below hb1).more hb1.size)).mono ?_
    rintro e w2 ⟨rfl, hb2⟩
    have hb2' := hb1.trans (hb2.mono hb1.size)
    have t2 := t1.below hb2 (by omega)
    have hd0 := t2.1; have hd1 := t2.2
    clear hb2 t1
    go_wp2_with fail
    refine (FK.out _).mono ?_
    rintro e w3 ⟨rfl, hb3⟩
    have hb3' := hb2'.trans (hb3.mono hb2'.size)
    clear hb3 hd0 hd1 t2
    go_wp2_with fail
    go_ret
    exact ⟨ret_bool HN.out.symm, hb3'⟩
  | true =>
  have HKN := Lib.hid (decB_iff.1 hu)
  clear hu
  by_cases hsz : b.size + 2 = B.size
  case neg =>
    have HN : Hid (treeV B es b = false) := Lib.hid (decB_f fun h => hsz h.2.2.1)
    have z1 : IntKind.i64.wrap ((B.size : Int) - 2) = (B.size : Int) - 2 := IntWalk.i64_in _ (by omega)
    have z2 : ((b.size : Int) == (B.size : Int) - 2) = false := by rw [beq_eq_false_iff_ne]; omega
    clear hsz hB2 hB8
    go_enter Try.func114, Try.ntmps114
    go_wp2_with fail
    refine (FA.out _ ((hE.below hb1).more hb1.size)).mono ?_
    rintro e w2 ⟨rfl, hb2⟩
    have hb2' := hb1.trans (hb2.mono hb1.size)
    have t2 := t1.below hb2 (by omega)
    have hz2 := hb2.size
    have hd0 := t2.1; have hd1 := t2.2
    clear hb2 t1
    go_wp2_with fail
    refine (FK.out _).mono ?_
    rintro e w3 ⟨rfl, hb3⟩
    have hb3' := hb2'.trans (hb3.mono hb2'.size)
    have t3 := t2.below hb3 (by omega)
    have hf0 := t3.1
    clear hb3 hd0 hd1 t2
    go_wp2_with fail
    go_ret
    exact ⟨ret_bool HN.out.symm, hb3'⟩
  obtain ⟨fo, hfo⟩ : ∃ fo, forest (endsN B.data.toList (ebs es)) (fresh B.size) (ksOf b.data.toList) = fo := ⟨_, rfl⟩
  have HN : Hid (treeV B es b = fo) := Lib.hid (by
    rw [← hfo]
    cases h : forest (endsN B.data.toList (ebs es)) (fresh B.size) (ksOf b.data.toList) with
    | false => exact decB_f fun g => by rw [h] at g; exact absurd g.2.2.2 (by simp)
    | true => exact decB_t ⟨HVAL.out, HKN.out, hsz, h⟩)
  have FF : Hid (∀ W : World, EdgesIn W W.heap.size A es → Calls Try.prog 126 #[.agg #[.string B, .slice A es.length cap], .string b] W fun e w' => e = .returned (.bool fo) ∧ Below W.heap.size W w') := Lib.hid fun W h => by
    have := l5Forest_any B A cap es b W HM.out h HL.out HVAL.out HKN.out hbz
    rwa [hfo] at this
  have z1 : IntKind.i64.wrap ((B.size : Int) - 2) = (B.size : Int) - 2 := IntWalk.i64_in _ (by omega)
  have z2 : ((b.size : Int) == (B.size : Int) - 2) = true := by rw [beq_iff_eq]; omega
  clear hsz hB2 hB8 hfo
  go_enter Try.func114, Try.ntmps114
  go_wp2_with fail
  refine (FA.out _ ((hE.below hb1).more hb1.size)).mono ?_
  rintro e w2 ⟨rfl, hb2⟩
  have hb2' := hb1.trans (hb2.mono hb1.size)
  have t2 := t1.below hb2 (by omega)
  have hz2 := hb2.size
  have hd0 := t2.1; have hd1 := t2.2
  clear hb2 t1 FA
  go_wp2_with fail
  refine (FK.out _).mono ?_
  rintro e w3 ⟨rfl, hb3⟩
  have hb3' := hb2'.trans (hb3.mono hb2'.size)
  have t3 := t2.below hb3 (by omega)
  have hf0 := t3.1; have hf1 := t3.2
  clear hb3 hd0 hd1 t2 FK
  go_wp2_with fail
  refine (FF.out _ ((hE.below hb3').more hb3'.size)).mono ?_
  rintro e w4 ⟨rfl, hb4⟩
  have hb4' := hb3'.trans (hb4.mono hb3'.size)
  clear hb4 hf0 hf1 t3 FF
  go_wp2_with fail
  go_ret
  exact ⟨ret_bool HN.out.symm, hb4'⟩

end Go.Proofs.Ytjfdkhaepmmlfaa
