/- Groups of blocks by the program: pointers towards the one that stands for all. -/
import Derived.Test.YtadngnajenedpaaPart
import Derived.Test.YtadngnajenedpaaMem
import Derived.Deep.OwnRows
namespace Go.Proofs.Ytadngnajenedpaa
open Go.RowKit

/-- what a group points to -/
def parV (G : Nat → Nat) : Option Nat → Value
  | none => .pointer none
  | some j => .pointer (some ⟨G j, 0, none⟩)

/-- the groups of n blocks as they lie in memory: row R, their blocks G, which each points to, which stands for all (f), how far it is (d) -/
structure Uni (w : World) (base R n : Nat) (G : Nat → Nat) (par : Nat → Option Nat) (f d : Nat → Nat) : Prop where
  row : w.rowIs R 96 n (fun i => .pointer (some ⟨G i, 0, none⟩))
  cell : ∀ i, i < n → w.rowIs (G i) 98 1 (fun _ => parV G (par i))
  lo : base ≤ R ∧ ∀ i, i < n → base ≤ G i
  ne : ∀ i, i < n → G i ≠ R
  inj : ∀ i j, i < n → j < n → G i = G j → i = j
  root : ∀ i, i < n → par i = none → f i = i
  up : ∀ i j, i < n → par i = some j → j < n ∧ f j = f i ∧ d j < d i

/-- all lies as it lay, but the groups' own blocks -/
structure KeepG (n : Nat) (G : Nat → Nat) (w w' : World) : Prop where
  os : w'.os = w.os
  tape : w'.tape = w.tape
  output : w'.output = w.output
  size : w.heap.size ≤ w'.heap.size
  block : ∀ b, b < w.heap.size → (∀ i, i < n → b ≠ G i) → w'.heap[b]? = w.heap[b]?

theorem KeepG.refl (n : Nat) (G : Nat → Nat) (w : World) : KeepG n G w w := ⟨rfl, rfl, rfl, Nat.le_refl _, fun _ _ _ => rfl⟩
theorem KeepG.trans {n : Nat} {G : Nat → Nat} {a b c : World} (h : KeepG n G a b) (k : KeepG n G b c) : KeepG n G a c :=
  ⟨k.os.trans h.os, k.tape.trans h.tape, k.output.trans h.output, Nat.le_trans h.size k.size, fun i hi hn => (k.block i (Nat.lt_of_lt_of_le hi h.size) hn).trans (h.block i hi hn)⟩
theorem KeepG.set (n : Nat) (G : Nat → Nat) (w : World) {i : Nat} (hi : i < n) (u : Value) : KeepG n G w (w.setCell ⟨G i, 0, none⟩ u) :=
  ⟨rfl, rfl, rfl, by simp [World.setCell], fun b _ hn => Below.heap_setCell _ _ _ _ (hn i hi)⟩
theorem KeepG.cell {n : Nat} {G : Nat → Nat} {w w' : World} (h : KeepG n G w w') {p : Addr} {v : Value} (hp : p.block < w.heap.size) (hn : ∀ i, i < n → p.block ≠ G i) (hc : w.cell? p = some v) : w'.cell? p = some v := by
  rw [← hc]; exact World.cell?_of_block (w := w) (h.block p.block hp hn)
theorem KeepG.below {n : Nat} {G : Nat → Nat} {w w' a : World} {base : Nat} (h : KeepG n G w w') (k : Below base a w) (hs : base ≤ w.heap.size) (hlo : ∀ i, i < n → base ≤ G i) : Below base a w' :=
  ⟨h.os.trans k.os, h.tape.trans k.tape, h.output.trans k.output, Nat.le_trans k.size h.size, fun b hb => (h.block b (by omega) (fun i hi => by have := hlo i hi; omega)).trans (k.block b hb)⟩
theorem KeepG.of_below {n : Nat} {G : Nat → Nat} {w w' : World} (h : Below w.heap.size w w') : KeepG n G w w' := ⟨h.os, h.tape, h.output, h.size, fun b hb _ => h.block b hb⟩

section
variable {w : World} {base R n : Nat} {G : Nat → Nat} {par : Nat → Option Nat} {f d : Nat → Nat}

theorem Uni.lt (h : Uni w base R n G par f d) {i : Nat} (hi : i < n) : G i < w.heap.size := (h.cell i hi).lt
theorem Uni.below {w' : World} {B : Nat} (h : Uni w base R n G par f d) (k : Below B w w') (hB : R < B ∧ ∀ i, i < n → G i < B) : Uni w' base R n G par f d :=
  ⟨h.row.of_block (k.block _ hB.1), fun i hi => (h.cell i hi).of_block (k.block _ (hB.2 i hi)), h.lo, h.ne, h.inj, h.root, h.up⟩
theorem Uni.below_all {w' : World} (h : Uni w base R n G par f d) (k : Below w.heap.size w w') : Uni w' base R n G par f d := h.below k ⟨h.row.lt, fun _ hi => h.lt hi⟩

/-- the one that stands for all is found -/
theorem Uni.fix (h : Uni w base R n G par f d) : ∀ (k i : Nat), d i ≤ k → i < n → f i < n ∧ par (f i) = none ∧ (par i ≠ none → d (f i) < d i) := by
  intro k
  induction k with
  | zero =>
    intro i hd hi
    cases hp : par i with
    | none =>
      have := h.root i hi hp
      rw [this]
      exact ⟨hi, hp, fun c => absurd rfl c⟩
    | some j =>
      have := h.up i j hi hp
      omega
  | succ k ih =>
    intro i hd hi
    cases hp : par i with
    | none =>
      have := h.root i hi hp
      rw [this]
      exact ⟨hi, hp, fun c => absurd rfl c⟩
    | some j =>
      obtain ⟨h1, h2, h3⟩ := h.up i j hi hp
      obtain ⟨g1, g2, g3⟩ := ih j (by omega) h1
      rw [h2] at g1 g2 g3
      refine ⟨g1, g2, fun _ => ?_⟩
      by_cases hj : par j = none
      · have := h.root j h1 hj
        rw [h2] at this
        rw [this]; exact h3
      · have := g3 hj; omega
theorem Uni.flt (h : Uni w base R n G par f d) {i : Nat} (hi : i < n) : f i < n := (h.fix _ i (Nat.le_refl _) hi).1
theorem Uni.fnone (h : Uni w base R n G par f d) {i : Nat} (hi : i < n) : par (f i) = none := (h.fix _ i (Nat.le_refl _) hi).2.1
theorem Uni.ff (h : Uni w base R n G par f d) {i : Nat} (hi : i < n) : f (f i) = f i := h.root _ (h.flt hi) (h.fnone hi)

/-- a group that points to the one that stands for all -/
theorem Uni.point (h : Uni w base R n G par f d) {i : Nat} (hi : i < n) (hp : d (f i) < d i) : Uni (w.setCell ⟨G i, 0, none⟩ (.pointer (some ⟨G (f i), 0, none⟩))) base R n G (fun m => if m = i then some (f i) else par m) f d := by
  refine ⟨h.row.setOther (fun e => h.ne i hi e.symm) _, fun m hm => ?_, h.lo, h.ne, h.inj, fun m hm hn => ?_, fun m j hm hj => ?_⟩
  · by_cases hmi : m = i
    · subst hmi
      refine ((h.cell m hm).set 0 _).congr fun q hq => ?_
      obtain rfl : q = 0 := by omega
      simp [parV]
    · rw [if_neg hmi]
      exact (h.cell m hm).setOther (fun e => hmi (h.inj m i hm hi e)) _
  · skip
    split at hn
    · cases hn
    · exact h.root m hm hn
  · skip
    split at hj
    · rename_i e
      subst e
      injection hj with hj
      subst hj
      exact ⟨h.flt hi, h.ff hi, hp⟩
    · exact h.up m j hm hj

/-- two that stand for all: one points to the other -/
theorem Uni.link (h : Uni w base R n G par f d) {a b : Nat} (ha : a < n) (hb : b < n) (hne : f a ≠ f b) : Uni (w.setCell ⟨G (f a), 0, none⟩ (.pointer (some ⟨G (f b), 0, none⟩))) base R n G (fun m => if m = f a then some (f b) else par m) (joinR f a b) (fun m => if f m = f a then d m + d (f b) + 1 else d m) := by
  have hfa := h.flt ha
  have hfb := h.flt hb
  refine ⟨h.row.setOther (fun e => h.ne _ hfa e.symm) _, fun m hm => ?_, h.lo, h.ne, h.inj, fun m hm hn => ?_, fun m j hm hj => ?_⟩
  · by_cases hmi : m = f a
    · subst hmi
      refine ((h.cell _ hm).set 0 _).congr fun q hq => ?_
      obtain rfl : q = 0 := by omega
      simp [parV]
    · rw [if_neg hmi]
      exact (h.cell m hm).setOther (fun e => hmi (h.inj m _ hm hfa e)) _
  · skip
    split at hn
    · cases hn
    · rename_i hm2
      have := h.root m hm hn
      unfold joinR
      rw [if_neg]
      · exact this
      · intro e; exact hm2 (this.symm.trans e)
  · skip
    split at hj
    · rename_i e
      subst e
      injection hj with hj
      subst hj
      refine ⟨hfb, ?_, ?_⟩
      · unfold joinR
        rw [h.ff hb, h.ff ha, if_neg (fun e => hne e.symm), if_pos rfl]
      · rw [h.ff hb, h.ff ha, if_neg (fun e => hne e.symm), if_pos rfl]
        omega
    · obtain ⟨g1, g2, g3⟩ := h.up m j hm hj
      refine ⟨g1, ?_, ?_⟩
      · unfold joinR; rw [g2]
      · simp only [g2]
        split <;> omega

theorem joinR_self {f : Nat → Nat} {a b : Nat} (h : f a = f b) : joinR f a b = f := by
  funext m
  unfold joinR
  split
  · rename_i e; rw [e, h]
  · rfl
end

set_option maxRecDepth 100000 in
set_option maxHeartbeats 2000000 in
/-- (*impl.group).first -/
theorem first_any (base R n : Nat) (G : Nat → Nat) (f d : Nat → Nat) : ∀ (k i : Nat) (par : Nat → Option Nat) (w : World), d i ≤ k → i < n → Uni w base R n G par f d →
    Calls Try.prog 101 #[.pointer (some ⟨G i, 0, none⟩)] w fun e w' => e = .returned (.pointer (some ⟨G (f i), 0, none⟩)) ∧ (∃ par', Uni w' base R n G par' f d) ∧ KeepG n G w w' := by
  intro k
  induction k with
  | zero =>
    intro i par w hd hi hU
    cases hp : par i with
    | some j => have := hU.up i j hi hp; omega
    | none =>
      have hc := (hU.cell i hi).cell (i := 0) (by omega)
      rw [hp] at hc
      have hf := hU.root i hi hp
      have HF := Lib.hid hf; have HU := Lib.hid hU
      clear hf hU hp
      simp only [parV] at hc
      go_enter Try.func101, Try.ntmps101
      go_wp2_with fail
      go_ret
      exact ⟨by rw [HF.out]; rfl, ⟨par, HU.out⟩, KeepG.refl _ _ _⟩
  | succ k ih =>
    intro i par w hd hi hU
    cases hp : par i with
    | none =>
      have hc := (hU.cell i hi).cell (i := 0) (by omega)
      rw [hp] at hc
      have hf := hU.root i hi hp
      have HF := Lib.hid hf; have HU := Lib.hid hU
      clear hf hU hp ih
      simp only [parV] at hc
      go_enter Try.func101, Try.ntmps101
      go_wp2_with fail
      go_ret
      exact ⟨by rw [HF.out]; rfl, ⟨par, HU.out⟩, KeepG.refl _ _ _⟩
    | some j =>
      have hc := (hU.cell i hi).cell (i := 0) (by omega)
      rw [hp] at hc
      obtain ⟨u1, u2, u3⟩ := hU.up i j hi hp
      have hdf := (hU.fix _ i (Nat.le_refl _) hi).2.2 (by rw [hp]; simp)
      have IH := Lib.hid (ih j par w (by omega) u1 hU)
      have HU2 := Lib.hid u2; have HDF := Lib.hid hdf
      clear hU hp ih hdf u2 u3
      simp only [parV] at hc
      go_enter Try.func101, Try.ntmps101
      go_wp2_with fail
      refine IH.out.mono ?_
      rintro e w2 ⟨rfl, ⟨par2, hU2⟩, hk2⟩
      rw [HU2.out]
      have hc2 := (hU2.cell i hi).cell (i := 0) (by omega)
      have hf2 := (hU2.cell i hi).frozen 0
      have HK2 := Lib.hid hk2; have HUU := Lib.hid hU2
      clear hk2 hU2 hc
      go_wp2_with fail
      go_ret
      exact ⟨rfl, ⟨_, HUU.out.point hi HDF.out⟩, HK2.out.trans (KeepG.set n G w2 hi _)⟩

end Go.Proofs.Ytadngnajenedpaa
