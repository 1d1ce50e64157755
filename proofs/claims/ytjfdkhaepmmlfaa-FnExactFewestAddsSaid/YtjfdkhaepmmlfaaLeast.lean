/- What is least is kept by a closure: impl.leastKept. -/
import Derived.Test.YtjfdkhaepmmlfaaBstP
namespace Go.Proofs.Ytjfdkhaepmmlfaa
open Go.RowKit

/-- the three cells of the closure: what is kept, its count, and whether there is none -/
structure Least (W : World) (K : Nat) (s : List UInt8 × Int) : Prop where
  kept : W.cell? ⟨K, 0, none⟩ = some (.string ⟨s.1.toArray⟩)
  least : ∃ v : Int, W.cell? ⟨K + 1, 0, none⟩ = some (.int .i64 v) ∧ (0 ≤ s.2 → v = s.2)
  non : W.cell? ⟨K + 2, 0, none⟩ = some (.bool (decide (s.2 < 0)))
  fk : W.frozen? ⟨K, 0, none⟩ = false
  fl : W.frozen? ⟨K + 1, 0, none⟩ = false
  fn : W.frozen? ⟨K + 2, 0, none⟩ = false
  lt : K + 2 < W.heap.size
theorem Least.below {W W' : World} {K : Nat} {s : List UInt8 × Int} (h : Least W K s) (k : Below W.heap.size W W') : Least W' K s := by
  have hlt := h.lt
  obtain ⟨v, h1, h2⟩ := h.least
  exact ⟨(k.cell (by simp only; omega)).trans h.kept, ⟨v, (k.cell (by simp only; omega)).trans h1, h2⟩, (k.cell (by simp only; omega)).trans h.non, (k.frozen (by simp only; omega)).trans h.fk, (k.frozen (by simp only; omega)).trans h.fl, (k.frozen (by simp only; omega)).trans h.fn, Nat.lt_of_lt_of_le hlt k.size⟩

set_option maxRecDepth 100000 in
set_option maxHeartbeats 2000000 in
/-- impl.leastKept -/
theorem leastKept_any (w : World) : Calls Try.prog 36 #[] w fun e w' => e = .returned (.func (.func 73) #[] #[.pointer (some ⟨w.heap.size + 2, 0, none⟩), .pointer (some ⟨w.heap.size + 1, 0, none⟩), .pointer (some ⟨w.heap.size, 0, none⟩)]) ∧ Least w' w.heap.size ([], -1) ∧ Below w.heap.size w w' := by
  go_enter Try.func36, Try.ntmps36
  go_wp2_with fail
  go_ret
  refine ⟨rfl, ⟨by go_simp, ⟨0, by go_simp, fun h => absurd h (by simp)⟩, by go_simp, by go_simp, by go_simp, by go_simp, by simp⟩, (((Below.refl _ _).alloc (Nat.le_refl _) _).alloc (by simp) _).alloc (by first | omega | (simp; done) | (simp; omega)) _⟩

/-- nothing older was written but three cells -/
structure Three (W W' : World) (K : Nat) : Prop where
  os : W'.os = W.os
  tape : W'.tape = W.tape
  output : W'.output = W.output
  size : W.heap.size ≤ W'.heap.size
  block : ∀ i, i < W.heap.size → i ≠ K → i ≠ K + 1 → i ≠ K + 2 → W'.heap[i]? = W.heap[i]?

theorem three_put (W : World) (K : Nat) (u v z : Value) : Three W (((W.setCell ⟨K, 0, none⟩ u).setCell ⟨K + 1, 0, none⟩ v).setCell ⟨K + 2, 0, none⟩ z) K :=
  ⟨rfl, rfl, rfl, by simp [World.setCell], fun i _ h1 h2 h3 => (Below.heap_setCell _ _ _ _ h3).trans ((Below.heap_setCell _ _ _ _ h2).trans (Below.heap_setCell _ _ _ _ h1))⟩
theorem least_put {W : World} {K : Nat} {t u v z : Value} {x : List UInt8} {q : Int} (h1 : W.cell? ⟨K, 0, none⟩ = some u) (h2 : W.cell? ⟨K + 1, 0, none⟩ = some v) (h3 : W.cell? ⟨K + 2, 0, none⟩ = some z) (f1 : W.frozen? ⟨K, 0, none⟩ = false) (f2 : W.frozen? ⟨K + 1, 0, none⟩ = false) (f3 : W.frozen? ⟨K + 2, 0, none⟩ = false) (hlt : K + 2 < W.heap.size) (ht : t = .string ⟨x.toArray⟩) (hq : 0 ≤ q) : Least (((W.setCell ⟨K, 0, none⟩ t).setCell ⟨K + 1, 0, none⟩ (.int .i64 q)).setCell ⟨K + 2, 0, none⟩ (.bool false)) K (x, q) := by
  subst ht
  have hd : decide (q < 0) = false := decide_eq_false (by omega)
  refine ⟨by go_simp, ⟨q, by go_simp, fun _ => rfl⟩, by simp only [hd]; go_simp, by go_simp, by go_simp, by go_simp, by simpa [World.setCell] using hlt⟩

set_option maxRecDepth 100000 in
set_option maxHeartbeats 2000000 in
/-- impl.leastKept$1: one text more -/
theorem least_call (K : Nat) (s : List UInt8 × Int) (c : List UInt8 → Nat) (x : List UInt8) (W : World) (h : Least W K s) :
    Calls Try.prog 73 #[.string ⟨x.toArray⟩, .int .i64 ((c x : Nat) : Int), .pointer (some ⟨K + 2, 0, none⟩), .pointer (some ⟨K + 1, 0, none⟩), .pointer (some ⟨K, 0, none⟩)] W fun e w' => e = .returned (.string ⟨(keepT c s x).1.toArray⟩) ∧ Least w' K (keepT c s x) ∧ Three W w' K := by
  obtain ⟨h1, ⟨v, h2, hv⟩, h3, f1, f2, f3, hlt⟩ := h
  obtain ⟨q, hq⟩ : ∃ q : Int, ((c x : Nat) : Int) = q := ⟨_, rfl⟩
  have hq0 : 0 ≤ q := by omega
  obtain ⟨t, ht⟩ : ∃ t : ByteArray, (⟨x.toArray⟩ : ByteArray) = t := ⟨_, rfl⟩
  obtain ⟨sb, hsb⟩ : ∃ sb : ByteArray, (⟨s.1.toArray⟩ : ByteArray) = sb := ⟨_, rfl⟩
  have hK1 : s.2 < 0 ∨ q < s.2 → keepT c s x = (x, q) := fun h => by unfold keepT; rw [hq, if_pos h]
  have hK2 : ¬ (s.2 < 0 ∨ q < s.2) → keepT c s x = s := fun h => by unfold keepT; rw [hq, if_neg h]
  have hd : decide (q < 0) = false := decide_eq_false (by omega)
  rw [hsb] at h1
  have n1 : (⟨K, 0, none⟩ : Addr).block ≠ K + 1 := by simp
  have hset : ∀ (W : World) (a b : Nat) (u : Value), a ≠ b → (W.setCell ⟨a, 0, none⟩ u).cell? ⟨b, 0, none⟩ = W.cell? ⟨b, 0, none⟩ := fun W a b u hab => World.cell?_of_block (Below.heap_setCell _ _ _ _ (fun e => hab e.symm))
  by_cases h0 : s.2 < 0
  · have hn : decide (s.2 < 0) = true := decide_eq_true h0
    rw [hn] at h3
    rw [hK1 (.inl h0), hq, ht]
    clear hK1 hK2 h0 hn hset
    go_enter Try.func73, Try.ntmps73
    go_wp2_with fail
    go_ret
    exact ⟨rfl, least_put h1 h2 h3 f1 f2 f3 hlt (by rw [ht]) hq0, three_put _ _ _ _ _⟩
  have hn : decide (s.2 < 0) = false := decide_eq_false h0
  rw [hn] at h3
  have hv2 := hv (by omega)
  by_cases hl : q < s.2
  · have hg : q < v := by omega
    rw [hK1 (.inr hl), hq, ht]
    clear hK1 hK2 h0 hn hset hv hl hv2
    go_enter Try.func73, Try.ntmps73
    go_wp2_with fail
    go_ret
    exact ⟨rfl, least_put h1 h2 h3 f1 f2 f3 hlt (by rw [ht]) hq0, three_put _ _ _ _ _⟩
  · have hg : ¬ q < v := by omega
    have hk := hK2 (fun h => h.elim h0 hl)
    have HLE : Hid (Least W K (keepT c s x)) := Lib.hid (by rw [hk]; exact ⟨by rw [h1, hsb], ⟨v, h2, hv⟩, by rw [h3, hn], f1, f2, f3, hlt⟩)
    have HTX : Hid ((⟨(keepT c s x).1.toArray⟩ : ByteArray) = sb) := Lib.hid (by rw [hk, hsb])
    rw [hq, ht, HTX.out]
    clear hK1 hK2 h0 hn hset hv hl hv2 hk
    go_enter Try.func73, Try.ntmps73
    go_wp2_with fail
    go_ret
    exact ⟨rfl, HLE.out, ⟨rfl, rfl, rfl, Nat.le_refl _, fun _ _ _ _ _ => rfl⟩⟩

end Go.Proofs.Ytjfdkhaepmmlfaa
