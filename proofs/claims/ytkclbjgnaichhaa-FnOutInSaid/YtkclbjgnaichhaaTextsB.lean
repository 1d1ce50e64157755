/- A slice of texts: as it lies in memory. -/
import Derived.Test.YtkclbjgnaichhaaNetQ
import Derived.Test.YtkclbjgnaichhaaGraph
import Derived.Deep.RegionHeld3
import Derived.Laws.OwnMore
namespace Go.Proofs.Ytkclbjgnaichhaa
open Go.RowKit

/-- texts that lie below a block, whatever their number -/
def TextsIn (w : World) (B : Nat) (A : Option Addr) (ts : List ByteArray) : Prop :=
  ∀ k, (h : k < ts.length) → ∃ b, A = some ⟨b, 0, none⟩ ∧ b < B ∧ w.cell? ⟨b, k, none⟩ = some (.string ts[k])

theorem TextsIn.below {w w' : World} {B : Nat} {A : Option Addr} {ts : List ByteArray} (h : TextsIn w B A ts) (hb : Below B w w') : TextsIn w' B A ts := by
  intro k hk
  obtain ⟨b, e, hl, h1⟩ := h k hk
  exact ⟨b, e, hl, (hb.cell hl).trans h1⟩
theorem TextsIn.more {w : World} {B B' : Nat} {A : Option Addr} {ts : List ByteArray} (h : TextsIn w B A ts) (hb : B ≤ B') : TextsIn w B' A ts := by
  intro k hk
  obtain ⟨b, e, hl, h1⟩ := h k hk
  exact ⟨b, e, by omega, h1⟩
theorem TextsIn.grown_low {W W' : World} {B : Nat} {row : Option Nat} {A : Option Addr} {ts : List ByteArray} (h : TextsIn W B A ts) (k : W.grownBy W' row) (hB : B ≤ W.heap.size) (hr : ∀ a, A = some a → some a.block ≠ row) : TextsIn W' B A ts := by
  intro i hi
  obtain ⟨b, e, hl, h1⟩ := h i hi
  exact ⟨b, e, hl, (World.cell?_of_block (k.block b (by omega) (hr _ e))).trans h1⟩

/-- texts that are a call's own: none, or a row from a block on -/
def OwnTexts (W : World) (base : Nat) (A : Option Addr) (n : Nat) : Prop :=
  (n = 0 ∧ A = none) ∨ ∃ g r f, A = some ⟨g, 0, none⟩ ∧ base ≤ g ∧ g < W.heap.size ∧ n ≤ r ∧ W.rowIs g 9 r f

theorem OwnTexts.grown {W W' : World} {base n : Nat} {row : Option Nat} {A : Option Addr} (h : OwnTexts W base A n) (k : W.grownBy W' row) (hr : ∀ a, A = some a → some a.block ≠ row) : OwnTexts W' base A n := by
  rcases h with h | ⟨g, r, f, rfl, hb, hg, hn, hrow⟩
  · exact .inl h
  · exact .inr ⟨g, r, f, rfl, hb, Nat.lt_of_lt_of_le hg k.size, hn, hrow.of_block (k.block g hg (hr _ rfl))⟩
theorem OwnTexts.below {W W' : World} {base n : Nat} {A : Option Addr} (h : OwnTexts W base A n) (k : Below W.heap.size W W') : OwnTexts W' base A n := by
  rcases h with h | ⟨g, r, f, rfl, hb, hg, hn, hrow⟩
  · exact .inl h
  · exact .inr ⟨g, r, f, rfl, hb, Nat.lt_of_lt_of_le hg k.size, hn, hrow.of_block (k.block g hg)⟩
theorem OwnTexts.ne {W : World} {base n : Nat} {A : Option Addr} (h : OwnTexts W base A n) {c : Nat} (hc : c < base) : ∀ a, A = some a → some a.block ≠ some c := by
  rintro a rfl e
  rcases h with ⟨_, h⟩ | ⟨g, r, f, h, hb, _⟩
  · simp at h
  · injection h with h
    subst h
    injection e with e
    simp only at e
    omega

theorem OwnTexts.mono {W : World} {base base' n : Nat} {A : Option Addr} (h : OwnTexts W base A n) (hb : base' ≤ base) : OwnTexts W base' A n := by
  rcases h with h | ⟨g, r, f, e, hg, rest⟩
  · exact .inl h
  · exact .inr ⟨g, r, f, e, by omega, rest⟩

theorem OwnTexts.row {W : World} {base n : Nat} {A : Option Addr} (h : OwnTexts W base A n) {c : Nat} (hc : c < base) : rowOf A ≠ some c := by
  rcases h with ⟨_, rfl⟩ | ⟨g, r, f, rfl, hb, _⟩
  · intro e; cases e
  · intro e; simp [rowOf] at e; omega
theorem below_after_texts {w W W' : World} {base n : Nat} {A : Option Addr} (h : Below w.heap.size w W) (ho : OwnTexts W base A n) (hb : w.heap.size ≤ base) (k : W.grownBy W' (rowOf A)) : Below w.heap.size w W' := by
  refine ⟨k.os.trans h.os, k.tape.trans h.tape, k.output.trans h.output, Nat.le_trans h.size k.size, fun i hi => (k.block i (Nat.lt_of_lt_of_le hi h.size) ?_).trans (h.block i hi)⟩
  exact fun e => ho.row (c := i) (by omega) e.symm
/-- texts below a block, behind a write to a row that lies higher -/
theorem TextsIn.low {W W' : World} {B : Nat} {row : Option Nat} {A : Option Addr} {ts : List ByteArray} (h : TextsIn W B A ts) (k : W.grownBy W' row) (hB : B ≤ W.heap.size) (hr : ∀ c, c < B → some c ≠ row) : TextsIn W' B A ts := by
  intro i hi
  obtain ⟨b, e, hl, h1⟩ := h i hi
  exact ⟨b, e, hl, (World.cell?_of_block (k.block b (by omega) (hr b hl))).trans h1⟩

/-- a row of the call's own, as texts -/
theorem own_texts {w : World} {base : Nat} {v : Value} {ts : List ByteArray} (h : w.ownsRow base 9 1 v ts.length (ts.map Value.string)) :
    ∃ A cap, v = .slice A ts.length cap ∧ TextsIn w w.heap.size A ts ∧ OwnTexts w base A ts.length := by
  rcases h.2 with ⟨rfl, h0⟩ | ⟨g, cap, cur, rfl, hb, hg, hn, hc, hs, htake⟩
  · exact ⟨none, 0, by rw [h0], fun k hk => absurd hk (by omega), .inl ⟨h0, rfl⟩⟩
  · have hlt : g < w.heap.size := (Array.getElem?_eq_some_iff.1 hg).1
    refine ⟨_, cap, rfl, fun k hk => ⟨g, rfl, hlt, ?_⟩, .inr ⟨g, cur.size, fun i => cur.getD i (.bool true), rfl, hb, hlt, by omega, cur, hg, rfl, fun i hi => by simp [hi]⟩⟩
    have := h.cells (g := g) rfl k (.string ts[k]) (by simp [hk])
    have e : ((⟨g, 0, none⟩ : Addr).add k) = ⟨g, k, none⟩ := by unfold Addr.add; split <;> simp_all
    rwa [e] at this

theorem textCell : (Try.prog.info? 9).map (fun i => (i.zero, i.size, i.bytes)) = some (some (.string ⟨#[]⟩), 1, 16) := by kernel_rfl

/-- what holds while texts are gathered -/
structure SeaV (w : World) (B : ByteArray) (A : Option Addr) (n cap : Nat) (v : Value) (xs : List Value) (wr : World) : Prop where
  below : Below w.heap.size w wr
  two : Two wr w.heap.size B A n cap
  own : wr.ownsRow (w.heap.size + 1) 9 1 v xs.length xs
  size : w.heap.size + 1 ≤ wr.heap.size
theorem SeaV.go {w wr W : World} {B : ByteArray} {A : Option Addr} {n cap : Nat} {v : Value} {xs : List Value} (h : SeaV w B A n cap v xs wr) (k : Below wr.heap.size wr W) : SeaV w B A n cap v xs W :=
  ⟨h.below.trans (k.mono h.below.size), h.two.below k (by have := h.size; omega), ownsRow_of_block h.own fun b hb => k.block b (ownBlock_lt h.own hb).2, Nat.le_trans h.size k.size⟩
theorem ownV_ne {W : World} {base n : Nat} {T : TypeId} {z : Nat} {v : Value} {xs : List Value} (h : W.ownsRow base T z v n xs) {c : Nat} (hc : c < base) : some c ≠ v.ownBlock := by
  rcases h.2 with ⟨rfl, _⟩ | ⟨g, cap, cur, rfl, hb, _⟩
  · intro e; cases e
  · intro e
    have e' : some c = some g := e
    injection e' with e'; omega
theorem SeaV.push {w wr W : World} {B : ByteArray} {A : Option Addr} {n cap : Nat} {v v' : Value} {xs xs' : List Value} (h : SeaV w B A n cap v xs wr) (k : wr.grownBy W v.ownBlock) (hq : W.ownsRow (w.heap.size + 1) 9 1 v' xs'.length xs') : SeaV w B A n cap v' xs' W := by
  have hn : ∀ c, c < w.heap.size + 1 → some c ≠ v.ownBlock := fun c hc => ownV_ne h.own hc
  exact ⟨h.below.grown k h.below.size (fun q e => Nat.le_of_not_lt fun hq => hn q (by omega) e.symm), h.two.grown k (by have := h.size; omega) (hn _ (by omega)), hq, Nat.le_trans h.size k.size⟩

/-- what is handed back: a row of texts of the call's own -/
def RowPost (ts : List ByteArray) (w : World) (e : Ending) (w' : World) : Prop :=
  ∃ A cap, e = .returned (.slice A ts.length cap) ∧ TextsIn w' w'.heap.size A ts ∧ Below w.heap.size w w' ∧ OwnTexts w' w.heap.size A ts.length

theorem one_new (w : World) (u : Value) : ∀ j x, [u][j]? = some x → (w.alloc (.cells #[u] 9)).cell? ((⟨w.heap.size, 0, none⟩ : Addr).add j) = some x := by
  intro j x hj
  match j, hj with
  | 0, hj => simp at hj; subst hj; simp [Addr.add]
  | j + 1, hj => simp at hj

/-- what is handed back -/
def CutPost (q : List ByteArray × Bool) (w : World) (e : Ending) (w' : World) : Prop :=
  ∃ A cap, e = .returned (.tuple #[.slice A q.1.length cap, .bool q.2]) ∧ TextsIn w' w'.heap.size A q.1 ∧ Below w.heap.size w w' ∧ OwnTexts w' w.heap.size A q.1.length
/-- no text, and a row of the call's own for it -/
theorem no_texts (w w2 : World) (hb : Below w.heap.size w w2) (e : Ending) (he : e = .returned (.tuple #[.slice (some ⟨w2.heap.size, 0, none⟩) 0 0, .bool false])) : CutPost ([], false) w e (w2.alloc (.cells #[] 9)) := by
  subst he
  have hb3 : Below w.heap.size w (w2.alloc (.cells #[] 9)) := hb.alloc hb.size _
  refine ⟨some ⟨w2.heap.size, 0, none⟩, 0, rfl, fun k hk => absurd hk (by simp), hb3, .inr ⟨w2.heap.size, 0, fun _ => .bool true, rfl, hb.size, by simp, Nat.le_refl _, ?_⟩⟩
  exact World.rowIs_alloc w2 #[] 9 _ (fun i hi => absurd hi (by simp))

end Go.Proofs.Ytkclbjgnaichhaa
