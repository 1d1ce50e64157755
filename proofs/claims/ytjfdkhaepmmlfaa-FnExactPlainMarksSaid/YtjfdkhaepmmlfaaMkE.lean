/- Marks that begin early: impl.beginEarly; marks that are a call's own. -/
import Derived.Test.YtjfdkhaepmmlfaaMkW
namespace Go.Proofs.Ytjfdkhaepmmlfaa
open Go.RowKit

/-- impl.beginEarly -/
theorem beginEarly_any (B : ByteArray) (sl : Value) (w : World) : Calls Try.prog 53 #[.agg #[.string B, sl]] w fun e w' => e = .returned (.func (.func 91) #[] #[.pointer (some ⟨w.heap.size, 0, none⟩)]) ∧ w.alloc (.cells #[.string B, sl] 30) = w' := by
  go_enter Try.func53, Try.ntmps53
  go_wp2_with fail
  go_ret
  exact ⟨rfl, rfl⟩

set_option maxRecDepth 100000 in
set_option maxHeartbeats 2000000 in
/-- impl.beginEarly$1 -/
theorem early_any (B e1 e2 en : ByteArray) (A : Option Addr) (n cap nb : Nat) (w : World) (h0 : w.cell? ⟨nb, 0, none⟩ = some (.string B)) (h1 : w.cell? ⟨nb, 1, none⟩ = some (.slice A n cap))
    (hx : ∀ W, Calls Try.prog 92 #[.agg #[.string B, .slice A n cap]] W fun e W' => e = .returned (.string en) ∧ Below W.heap.size W W') :
    Calls Try.prog 91 #[.agg #[.string e1, .string e2], .pointer (some ⟨nb, 0, none⟩)] w fun e w' => e = .returned (.string (if e1.toList == en.toList then ⟨#[115, 101, 116]⟩ else ⟨#[]⟩)) ∧ Below w.heap.size w w' := by
  have hnb : nb < w.heap.size := World.block_lt_of_cell? w ⟨nb, 0, none⟩ h0
  have hb1 : Below w.heap.size w (w.alloc (.cells #[.string e1, .string e2] 104)) := (Below.refl _ _).alloc (Nat.le_refl _) _
  have g0 : (w.alloc (.cells #[.string e1, .string e2] 104)).cell? ⟨w.heap.size, 0, none⟩ = some (.string e1) := by go_simp
  have g1 := (hb1.cell (p := ⟨nb, 0, none⟩) hnb).trans h0
  have g2 := (hb1.cell (p := ⟨nb, 1, none⟩) hnb).trans h1
  have hz1 : (w.alloc (.cells #[.string e1, .string e2] 104)).heap.size = w.heap.size + 1 := by simp
  have FX := Lib.hid hx
  clear hx h0 h1
  obtain ⟨w1, hw1⟩ : ∃ w1, w.alloc (.cells #[.string e1, .string e2] 104) = w1 := ⟨_, rfl⟩
  have HW1 := Lib.hid hw1
  rw [hw1] at hb1 g0 g1 g2 hz1
  have x0 : ∀ x : After w1, x.W.cell? ⟨w.heap.size, 0, none⟩ = some (.string e1) := fun x => x.cell (by simp only; omega) g0
  have x1 : ∀ x : After w1, x.W.cell? ⟨nb, 0, none⟩ = some (.string B) := fun x => x.cell (by simp only; omega) g1
  have x2 : ∀ x : After w1, x.W.cell? ⟨nb, 1, none⟩ = some (.slice A n cap) := fun x => x.cell (by simp only; omega) g2
  obtain ⟨q, hq⟩ : ∃ q, (e1.toList == en.toList) = q := ⟨_, rfl⟩
  rw [hq]
  clear hw1
  go_enter Try.func91, Try.ntmps91
  go_wp2_with fail
  rw [HW1.out]
  refine wp_region_below (by kernel_rfl) (by kernel_rfl) ?_
  repeat (go_big_quiet_step ((go_at_call 92; exact After.call (FX.out _))))
  refine wpQuiet_nil ?_
  rintro _ ⟨x, rfl⟩
  clear x0 x1 x2
  have hbx := hb1.trans (x.h.mono (by omega))
  cases q with
  | true =>
    go_wp2_with fail
    go_ret
    exact ⟨rfl, hbx⟩
  | false =>
    go_wp2_with fail
    go_ret
    exact ⟨rfl, hbx⟩

/-- what begins a count early: 'set' on edges that leave the entry -/
def earlyV (en : ByteArray) (es : List (ByteArray × ByteArray)) (i : Nat) : ByteArray := if (es.getD i (⟨#[]⟩, ⟨#[]⟩)).1.toList == en.toList then ⟨#[115, 101, 116]⟩ else ⟨#[]⟩

/-- marks that are a call's own: none, or a row from a block on -/
def OwnMks (W : World) (base : Nat) (A : Option Addr) (n : Nat) : Prop :=
  (n = 0 ∧ A = none) ∨ ∃ g f, A = some ⟨g, 0, none⟩ ∧ base ≤ g ∧ g < W.heap.size ∧ W.rowIs g 78 (n * 3) f
theorem OwnMks.grown {W W' : World} {base n : Nat} {row : Option Nat} {A : Option Addr} (h : OwnMks W base A n) (k : W.grownBy W' row) (hr : ∀ a, A = some a → some a.block ≠ row) : OwnMks W' base A n := by
  rcases h with h | ⟨g, f, rfl, hb, hg, hrow⟩
  · exact .inl h
  · exact .inr ⟨g, f, rfl, hb, Nat.lt_of_lt_of_le hg k.size, hrow.of_block (k.block g hg (hr _ rfl))⟩
theorem OwnMks.below {W W' : World} {base n : Nat} {A : Option Addr} (h : OwnMks W base A n) (k : Below W.heap.size W W') : OwnMks W' base A n := by
  rcases h with h | ⟨g, f, rfl, hb, hg, hrow⟩
  · exact .inl h
  · exact .inr ⟨g, f, rfl, hb, Nat.lt_of_lt_of_le hg k.size, hrow.of_block (k.block g hg)⟩
theorem OwnMks.ne {W : World} {base n : Nat} {A : Option Addr} (h : OwnMks W base A n) {c : Nat} (hc : c < base) : ∀ a, A = some a → some a.block ≠ some c := by
  rintro a rfl e
  rcases h with ⟨_, h⟩ | ⟨g, f, h, hb, _⟩
  · simp at h
  · injection h with h
    subst h
    injection e with e
    simp only at e
    omega
theorem OwnMks.row {W : World} {base n : Nat} {A : Option Addr} (h : OwnMks W base A n) {c : Nat} (hc : c < base) : rowOf A ≠ some c := by
  rcases h with ⟨_, rfl⟩ | ⟨g, f, rfl, hb, _⟩
  · intro e; cases e
  · intro e; simp [rowOf] at e; omega
theorem below_after_mks {w W W' : World} {base n : Nat} {A : Option Addr} (h : Below w.heap.size w W) (ho : OwnMks W base A n) (hb : w.heap.size ≤ base) (k : W.grownBy W' (rowOf A)) : Below w.heap.size w W' := by
  refine ⟨k.os.trans h.os, k.tape.trans h.tape, k.output.trans h.output, Nat.le_trans h.size k.size, fun i hi => (k.block i (Nat.lt_of_lt_of_le hi h.size) ?_).trans (h.block i hi)⟩
  exact fun e => ho.row (c := i) (by omega) e.symm
/-- what is handed back: marks, and whether there are any -/
def MksPost (q : List Mk × Bool) (w : World) (e : Ending) (w' : World) : Prop :=
  ∃ A cap, e = .returned (.tuple #[.slice A q.1.length cap, .bool q.2]) ∧ MarksIn w' w'.heap.size A q.1 ∧ Below w.heap.size w w' ∧ OwnMks w' w.heap.size A q.1.length
/-- .. by the model -/
def MksPostS (q : List Mk × Bool) (w : World) (e : Ending) (w' : World) : Prop :=
  ∃ A cap, e = .returned (.tuple #[.slice A q.1.length cap, .bool q.2]) ∧ MarksIn w' w'.heap.size A q.1 ∧ Below w.heap.size w w'

/-- early marks that add amounts -/
noncomputable def earlyMks (B : ByteArray) (es : List (ByteArray × ByteArray)) (q : List Int × Bool) : List Mk × Bool := if q.2 = true then (mksV (earlyV (B.extract 0 1) es) q.1 (B.extract (B.size - 1) B.size) es, true) else ([], false)
theorem earlyMks_no {B : ByteArray} {es : List (ByteArray × ByteArray)} {q : List Int × Bool} (h : q.2 = false) : earlyMks B es q = ([], false) := if_neg (by rw [h]; simp)
theorem earlyMks_yes {B : ByteArray} {es : List (ByteArray × ByteArray)} {q : List Int × Bool} (h : q.2 = true) : earlyMks B es q = (mksV (earlyV (B.extract 0 1) es) q.1 (B.extract (B.size - 1) B.size) es, true) := if_pos h

end Go.Proofs.Ytjfdkhaepmmlfaa
