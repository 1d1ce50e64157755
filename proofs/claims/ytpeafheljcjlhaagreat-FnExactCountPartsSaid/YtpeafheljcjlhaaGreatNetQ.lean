/- What hands back a net and a truth: the pairs of cells of nets that lie in variables, edges of a call's own. -/
import Derived.Test.YtpeafheljcjlhaaGreatTurn
import Derived.Lib.SmallJoins
namespace Go.Proofs.YtpeafheljcjlhaaGreat
open Go.RowKit

theorem alloc_old (W : World) (o : Obj) {i : Nat} {x : Obj} (h : W.heap[i]? = some x) : (W.alloc o).heap[i]? = some x := (Below.heap_alloc W o i (Array.getElem?_eq_some_iff.1 h).1).trans h
theorem alloc_at (W : World) (o : Obj) {i : Nat} (h : W.heap.size = i) : (W.alloc o).heap[i]? = some o := by rw [← h]; exact heap_alloc_new W o

/-- edges that are a call's own: none, or a row from a block on -/
def OwnEdges (W : World) (base : Nat) (A : Option Addr) (n : Nat) : Prop :=
  (n = 0 ∧ A = none) ∨ ∃ g r f, A = some ⟨g, 0, none⟩ ∧ base ≤ g ∧ g < W.heap.size ∧ n * 2 ≤ r ∧ W.rowIs g 70 r f

/-- a net, or none, and whether there is one -/
abbrev NetQ := ByteArray × List (ByteArray × ByteArray) × Bool

/-- what the program hands back -/
def OwnPost (q : NetQ) (w : World) (e : Ending) (w' : World) : Prop :=
  ∃ A cap, e = .returned (.tuple #[.agg #[.string q.1, .slice A q.2.1.length cap], .bool q.2.2]) ∧ EdgesIn w' w'.heap.size A q.2.1 ∧ Below w.heap.size w w' ∧ OwnEdges w' w.heap.size A q.2.1.length
/-- what the model hands back -/
def QPost (q : NetQ) (w : World) (e : Ending) (w' : World) : Prop :=
  ∃ A cap, e = .returned (.tuple #[.agg #[.string q.1, .slice A q.2.1.length cap], .bool q.2.2]) ∧ EdgesIn w' w'.heap.size A q.2.1 ∧ Below w.heap.size w w'

/-- a net in a variable -/
def Two (W : World) (b : Nat) (B : ByteArray) (A : Option Addr) (n cap : Nat) : Prop :=
  W.cell? ⟨b, 0, none⟩ = some (.string B) ∧ W.cell? ⟨b, 1, none⟩ = some (.slice A n cap)

theorem Two.below {W W' : World} {b B0 : Nat} {B : ByteArray} {A : Option Addr} {n cap : Nat} (h : Two W b B A n cap) (k : Below B0 W W') (hb : b < B0) : Two W' b B A n cap :=
  ⟨(k.cell (by simp only; omega)).trans h.1, (k.cell (by simp only; omega)).trans h.2⟩
theorem Two.grown {W W' : World} {b : Nat} {row : Option Nat} {B : ByteArray} {A : Option Addr} {n cap : Nat} (h : Two W b B A n cap) (k : W.grownBy W' row) (hb : b < W.heap.size) (hr : some b ≠ row) : Two W' b B A n cap :=
  ⟨(World.cell?_of_block (a := ⟨b, 0, none⟩) (k.block b hb hr)).trans h.1, (World.cell?_of_block (a := ⟨b, 1, none⟩) (k.block b hb hr)).trans h.2⟩
theorem Two.made (W : World) (B : ByteArray) (A : Option Addr) (n cap : Nat) (T : TypeId) : Two (W.alloc (.cells #[.string B, .slice A n cap] T)) W.heap.size B A n cap := by
  constructor
  · go_simp
  · go_simp

theorem EdgesIn.grown {W W' : World} {B : Nat} {row : Option Nat} {A : Option Addr} {es : List (ByteArray × ByteArray)} (h : EdgesIn W B A es) (k : W.grownBy W' row) (hB : B ≤ W.heap.size) (hr : ∀ a, A = some a → some a.block ≠ row) : EdgesIn W' B A es := by
  intro i hi
  obtain ⟨b, o, rfl, hl, q1, q2⟩ := h i hi
  have hx := k.block b (by omega) (hr _ rfl)
  exact ⟨b, o, rfl, hl, (World.cell?_of_block (a := ⟨b, o + i * 2, none⟩) hx).trans q1, (World.cell?_of_block (a := ⟨b, o + i * 2 + 1, none⟩) hx).trans q2⟩

theorem EdgesIn.grown_low {W W' : World} {B : Nat} {row : Option Nat} {A : Option Addr} {es : List (ByteArray × ByteArray)} (h : EdgesIn W B A es) (k : W.grownBy W' row) (hB : B ≤ W.heap.size) (hr : ∀ c, c < B → some c ≠ row) : EdgesIn W' B A es := by
  intro i hi
  obtain ⟨b, o, rfl, hl, q1, q2⟩ := h i hi
  have hx := k.block b (by omega) (hr b hl)
  exact ⟨b, o, rfl, hl, (World.cell?_of_block (a := ⟨b, o + i * 2, none⟩) hx).trans q1, (World.cell?_of_block (a := ⟨b, o + i * 2 + 1, none⟩) hx).trans q2⟩

/-- the block of edges -/
def rowOf (A : Option Addr) : Option Nat := A.map (·.block)

theorem OwnEdges.grown {W W' : World} {base n : Nat} {row : Option Nat} {A : Option Addr} (h : OwnEdges W base A n) (k : W.grownBy W' row) (hr : ∀ a, A = some a → some a.block ≠ row) : OwnEdges W' base A n := by
  rcases h with h | ⟨g, r, f, rfl, hb, hg, hn, hrow⟩
  · exact .inl h
  · exact .inr ⟨g, r, f, rfl, hb, Nat.lt_of_lt_of_le hg k.size, hn, hrow.of_block (k.block g hg (hr _ rfl))⟩
theorem OwnEdges.below {W W' : World} {base n : Nat} {A : Option Addr} (h : OwnEdges W base A n) (k : Below W.heap.size W W') : OwnEdges W' base A n := by
  rcases h with h | ⟨g, r, f, rfl, hb, hg, hn, hrow⟩
  · exact .inl h
  · exact .inr ⟨g, r, f, rfl, hb, Nat.lt_of_lt_of_le hg k.size, hn, hrow.of_block (k.block g hg)⟩
theorem OwnEdges.ne {W : World} {base n : Nat} {A : Option Addr} (h : OwnEdges W base A n) {c : Nat} (hc : c < base) : ∀ a, A = some a → some a.block ≠ some c := by
  rcases h with ⟨_, rfl⟩ | ⟨g, r, f, rfl, hb, _⟩
  · intro a e; cases e
  · intro a e; injection e with e; subst e; intro e; injection e with e; simp only at e; omega
theorem OwnEdges.row {W : World} {base n : Nat} {A : Option Addr} (h : OwnEdges W base A n) {c : Nat} (hc : c < base) : rowOf A ≠ some c := by
  rcases h with ⟨_, rfl⟩ | ⟨g, r, f, rfl, hb, _⟩
  · intro e; cases e
  · intro e; simp [rowOf] at e; omega

theorem OwnEdges.row_hi {W : World} {base n : Nat} {A : Option Addr} (h : OwnEdges W base A n) {c : Nat} (hc : W.heap.size ≤ c) : some c ≠ rowOf A := by
  rcases h with ⟨_, rfl⟩ | ⟨g, r, f, rfl, _, hg, _⟩
  · intro e; cases e
  · intro e; simp [rowOf] at e; omega

theorem OwnEdges.mono {W : World} {base base' n : Nat} {A : Option Addr} (h : OwnEdges W base A n) (hb : base' ≤ base) : OwnEdges W base' A n := by
  rcases h with h | ⟨g, r, f, e, h1, rest⟩
  · exact .inl h
  · exact .inr ⟨g, r, f, e, Nat.le_trans hb h1, rest⟩

theorem below_after_row {w W W' : World} {base n : Nat} {A : Option Addr} (h : Below w.heap.size w W) (ho : OwnEdges W base A n) (hb : w.heap.size ≤ base) (k : W.grownBy W' (rowOf A)) : Below w.heap.size w W' := by
  refine ⟨k.os.trans h.os, k.tape.trans h.tape, k.output.trans h.output, Nat.le_trans h.size k.size, fun i hi => (k.block i (Nat.lt_of_lt_of_le hi h.size) ?_).trans (h.block i hi)⟩
  exact fun e => ho.row (c := i) (by omega) e.symm

theorem valid_sizes {B : ByteArray} {es : List (ByteArray × ByteArray)} (h : Valid B.data.toList (ebs es)) : B.size ≤ 8 ∧ es.length ≤ 16 := by
  have h1 := h.1.1.2.1
  have h2 := h.1.2.1
  simp [ebs] at h1 h2
  exact ⟨h1, h2⟩

end Go.Proofs.YtpeafheljcjlhaaGreat
