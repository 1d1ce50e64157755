/- Heights and steps by the model. -/
import Derived.Test.YtjfdkhaepmmlfaaNetQ
import Derived.Test.YtjfdkhaepmmlfaaGraph
import Derived.Test.YtjfdkhaepmmlfaaZ6W
import Derived.Test.YtjfdkhaepmmlfaaPaths
import Derived.Test.YtjfdkhaepmmlfaaSpec2
import Derived.Test.YtjfdkhaepmmlfaaZ6V
import Derived.Deep.RegionHeld3
import Derived.Laws.OwnMore
import Derived.Maps.AppendAt
import Derived.BigRegion
import Derived.BigQuiet
namespace Go.Proofs.Ytjfdkhaepmmlfaa
open Go.RowKit

/-- texts that lie below a block, whatever their number -/
def TextsIn (w : World) (B : Nat) (A : Option Addr) (ts : List ByteArray) : Prop :=
  ∀ k, (h : k < ts.length) → ∃ b, A = some ⟨b, 0, none⟩ ∧ b < B ∧ w.cell? ⟨b, k, none⟩ = some (.string ts[k])

theorem TextsIn.below {w w' : World} {B : Nat} {A : Option Addr} {ts : List ByteArray} (h : TextsIn w B A ts) (hb : Below B w w') : TextsIn w' B A ts := by
  intro k hk
  obtain ⟨b, e, hl, h1⟩ := h k hk
  exact ⟨b, e, hl, (hb.cell hl).trans h1⟩
theorem TextsIn.more {w : World} {B B' : Nat} {A : Option Addr} {ts : List ByteArray} (h : TextsIn w B A ts) (hb : B ≤ B') : TextsIn w B' A ts := by
  intro k hk
  obtain ⟨b, e, hl, h1⟩ := h k hk
  exact ⟨b, e, by omega, h1⟩
theorem TextsIn.grown_low {W W' : World} {B : Nat} {row : Option Nat} {A : Option Addr} {ts : List ByteArray} (h : TextsIn W B A ts) (k : W.grownBy W' row) (hB : B ≤ W.heap.size) (hr : ∀ a, A = some a → some a.block ≠ row) : TextsIn W' B A ts := by
  intro i hi
  obtain ⟨b, e, hl, h1⟩ := h i hi
  exact ⟨b, e, hl, (World.cell?_of_block (k.block b (by omega) (hr _ e))).trans h1⟩

/-- texts that are a call's own: none, or a row from a block on -/
def OwnTexts (W : World) (base : Nat) (A : Option Addr) (n : Nat) : Prop :=
  (n = 0 ∧ A = none) ∨ ∃ g r f, A = some ⟨g, 0, none⟩ ∧ base ≤ g ∧ g < W.heap.size ∧ n ≤ r ∧ W.rowIs g 9 r f

theorem OwnTexts.grown {W W' : World} {base n : Nat} {row : Option Nat} {A : Option Addr} (h : OwnTexts W base A n) (k : W.grownBy W' row) (hr : ∀ a, A = some a → some a.block ≠ row) : OwnTexts W' base A n := by
  rcases h with h | ⟨g, r, f, rfl, hb, hg, hn, hrow⟩
  · exact .inl h
  · exact .inr ⟨g, r, f, rfl, hb, Nat.lt_of_lt_of_le hg k.size, hn, hrow.of_block (k.block g hg (hr _ rfl))⟩
theorem OwnTexts.below {W W' : World} {base n : Nat} {A : Option Addr} (h : OwnTexts W base A n) (k : Below W.heap.size W W') : OwnTexts W' base A n := by
  rcases h with h | ⟨g, r, f, rfl, hb, hg, hn, hrow⟩
  · exact .inl h
  · exact .inr ⟨g, r, f, rfl, hb, Nat.lt_of_lt_of_le hg k.size, hn, hrow.of_block (k.block g hg)⟩
theorem OwnTexts.ne {W : World} {base n : Nat} {A : Option Addr} (h : OwnTexts W base A n) {c : Nat} (hc : c < base) : ∀ a, A = some a → some a.block ≠ some c := by
  rintro a rfl e
  rcases h with ⟨_, h⟩ | ⟨g, r, f, h, hb, _⟩
  · simp at h
  · injection h with h
    subst h
    injection e with e
    simp only at e
    omega

theorem OwnTexts.mono {W : World} {base base' n : Nat} {A : Option Addr} (h : OwnTexts W base A n) (hb : base' ≤ base) : OwnTexts W base' A n := by
  rcases h with h | ⟨g, r, f, e, hg, rest⟩
  · exact .inl h
  · exact .inr ⟨g, r, f, e, by omega, rest⟩

theorem OwnTexts.row {W : World} {base n : Nat} {A : Option Addr} (h : OwnTexts W base A n) {c : Nat} (hc : c < base) : rowOf A ≠ some c := by
  rcases h with ⟨_, rfl⟩ | ⟨g, r, f, rfl, hb, _⟩
  · intro e; cases e
  · intro e; simp [rowOf] at e; omega
theorem below_after_texts {w W W' : World} {base n : Nat} {A : Option Addr} (h : Below w.heap.size w W) (ho : OwnTexts W base A n) (hb : w.heap.size ≤ base) (k : W.grownBy W' (rowOf A)) : Below w.heap.size w W' := by
  refine ⟨k.os.trans h.os, k.tape.trans h.tape, k.output.trans h.output, Nat.le_trans h.size k.size, fun i hi => (k.block i (Nat.lt_of_lt_of_le hi h.size) ?_).trans (h.block i hi)⟩
  exact fun e => ho.row (c := i) (by omega) e.symm
/-- texts below a block, behind a write to a row that lies higher -/
theorem TextsIn.low {W W' : World} {B : Nat} {row : Option Nat} {A : Option Addr} {ts : List ByteArray} (h : TextsIn W B A ts) (k : W.grownBy W' row) (hB : B ≤ W.heap.size) (hr : ∀ c, c < B → some c ≠ row) : TextsIn W' B A ts := by
  intro i hi
  obtain ⟨b, e, hl, h1⟩ := h i hi
  exact ⟨b, e, hl, (World.cell?_of_block (k.block b (by omega) (hr b hl))).trans h1⟩

/-- a row of the call's own, as texts -/
theorem own_texts {w : World} {base : Nat} {v : Value} {ts : List ByteArray} (h : w.ownsRow base 9 1 v ts.length (ts.map Value.string)) :
    ∃ A cap, v = .slice A ts.length cap ∧ TextsIn w w.heap.size A ts ∧ OwnTexts w base A ts.length := by
  rcases h.2 with ⟨rfl, h0⟩ | ⟨g, cap, cur, rfl, hb, hg, hn, hc, hs, htake⟩
  · exact ⟨none, 0, by rw [h0], fun k hk => absurd hk (by omega), .inl ⟨h0, rfl⟩⟩
  · have hlt : g < w.heap.size := (Array.getElem?_eq_some_iff.1 hg).1
    refine ⟨_, cap, rfl, fun k hk => ⟨g, rfl, hlt, ?_⟩, .inr ⟨g, cur.size, fun i => cur.getD i (.bool true), rfl, hb, hlt, by omega, cur, hg, rfl, fun i hi => by simp [hi]⟩⟩
    have := h.cells (g := g) rfl k (.string ts[k]) (by simp [hk])
    have e : ((⟨g, 0, none⟩ : Addr).add k) = ⟨g, k, none⟩ := by unfold Addr.add; split <;> simp_all
    rwa [e] at this

theorem textCell : (Try.prog.info? 9).map (fun i => (i.zero, i.size, i.bytes)) = some (some (.string ⟨#[]⟩), 1, 16) := by kernel_rfl

/-- what holds while texts are gathered -/
structure SeaV (w : World) (B : ByteArray) (A : Option Addr) (n cap : Nat) (v : Value) (xs : List Value) (wr : World) : Prop where
  below : Below w.heap.size w wr
  two : Two wr w.heap.size B A n cap
  own : wr.ownsRow (w.heap.size + 1) 9 1 v xs.length xs
  size : w.heap.size + 1 ≤ wr.heap.size
theorem SeaV.go {w wr W : World} {B : ByteArray} {A : Option Addr} {n cap : Nat} {v : Value} {xs : List Value} (h : SeaV w B A n cap v xs wr) (k : Below wr.heap.size wr W) : SeaV w B A n cap v xs W :=
  ⟨h.below.trans (k.mono h.below.size), h.two.below k (by have := h.size; omega), ownsRow_of_block h.own fun b hb => k.block b (ownBlock_lt h.own hb).2, Nat.le_trans h.size k.size⟩
theorem ownV_ne {W : World} {base n : Nat} {T : TypeId} {z : Nat} {v : Value} {xs : List Value} (h : W.ownsRow base T z v n xs) {c : Nat} (hc : c < base) : some c ≠ v.ownBlock := by
  rcases h.2 with ⟨rfl, _⟩ | ⟨g, cap, cur, rfl, hb, _⟩
  · intro e; cases e
  · intro e
    have e' : some c = some g := e
    injection e' with e'; omega
theorem SeaV.push {w wr W : World} {B : ByteArray} {A : Option Addr} {n cap : Nat} {v v' : Value} {xs xs' : List Value} (h : SeaV w B A n cap v xs wr) (k : wr.grownBy W v.ownBlock) (hq : W.ownsRow (w.heap.size + 1) 9 1 v' xs'.length xs') : SeaV w B A n cap v' xs' W := by
  have hn : ∀ c, c < w.heap.size + 1 → some c ≠ v.ownBlock := fun c hc => ownV_ne h.own hc
  exact ⟨h.below.grown k h.below.size (fun q e => Nat.le_of_not_lt fun hq => hn q (by omega) e.symm), h.two.grown k (by have := h.size; omega) (hn _ (by omega)), hq, Nat.le_trans h.size k.size⟩

/-- what is handed back: a row of texts of the call's own -/
def RowPost (ts : List ByteArray) (w : World) (e : Ending) (w' : World) : Prop :=
  ∃ A cap, e = .returned (.slice A ts.length cap) ∧ TextsIn w' w'.heap.size A ts ∧ Below w.heap.size w w' ∧ OwnTexts w' w.heap.size A ts.length

theorem one_new (w : World) (u : Value) : ∀ j x, [u][j]? = some x → (w.alloc (.cells #[u] 9)).cell? ((⟨w.heap.size, 0, none⟩ : Addr).add j) = some x := by
  intro j x hj
  match j, hj with
  | 0, hj => simp at hj; subst hj; simp [Addr.add]
  | j + 1, hj => simp at hj

/-- what is handed back -/
def CutPost (q : List ByteArray × Bool) (w : World) (e : Ending) (w' : World) : Prop :=
  ∃ A cap, e = .returned (.tuple #[.slice A q.1.length cap, .bool q.2]) ∧ TextsIn w' w'.heap.size A q.1 ∧ Below w.heap.size w w' ∧ OwnTexts w' w.heap.size A q.1.length
/-- no text, and a row of the call's own for it -/
theorem no_texts (w w2 : World) (hb : Below w.heap.size w w2) (e : Ending) (he : e = .returned (.tuple #[.slice (some ⟨w2.heap.size, 0, none⟩) 0 0, .bool false])) : CutPost ([], false) w e (w2.alloc (.cells #[] 9)) := by
  subst he
  have hb3 : Below w.heap.size w (w2.alloc (.cells #[] 9)) := hb.alloc hb.size _
  refine ⟨some ⟨w2.heap.size, 0, none⟩, 0, rfl, fun k hk => absurd hk (by simp), hb3, .inr ⟨w2.heap.size, 0, fun _ => .bool true, rfl, hb.size, by simp, Nat.le_refl _, ?_⟩⟩
  exact World.rowIs_alloc w2 #[] 9 _ (fun i hi => absurd hi (by simp))

end Go.Proofs.Ytjfdkhaepmmlfaa

namespace Go.Proofs.Ytjfdkhaepmmlfaa
open Go.RowKit

/-- the moves from a block -/
def outM (U : List Ed) (c : UInt8) : List Mv := (mvs U).filter fun m => m.fr == c
theorem outM_append (U V : List Ed) (c : UInt8) : outM (U ++ V) c = outM U c ++ outM V c := by simp [outM, mvs]
theorem outM_one (e : Ed) (c : UInt8) : outM [e] c = (if e.a = c then [plus e] else []) ++ (if e.b = c then [minus e] else []) := by
  simp only [outM, mvs, List.flatMap_cons, List.flatMap_nil, List.append_nil]
  have h1 : (plus e).fr = e.a := rfl
  have h2 : (minus e).fr = e.b := rfl
  by_cases c1 : e.a = c <;> by_cases c2 : e.b = c <;> simp [h1, h2, c1, c2]
theorem outM_len (U : List Ed) (c : UInt8) : (outM U c).length ≤ 2 * U.length := by
  refine Nat.le_trans (List.length_filter_le _ _) ?_
  induction U with
  | nil => exact Nat.le_refl _
  | cons e U ih =>
    show ([plus e, minus e] ++ mvs U).length ≤ _
    rw [List.length_append]
    simp only [List.length_cons, List.length_nil]
    omega
theorem ks_takeK {l : List UInt8} {i : Nat} (h : i < l.length) : (ksOf l).take (i + 1) = (ksOf l).take i ++ [(l.getD i 0).toNat - 97] := by
  rw [List.take_add_one]
  simp [ksOf, List.getD, h]
theorem edge_madeK (w : World) : ∀ w' : World, Below (w.drew.alloc (.cells #[.string ⟨#[]⟩, .string ⟨#[]⟩] 104)).heap.size (w.drew.alloc (.cells #[.string ⟨#[]⟩, .string ⟨#[]⟩] 104)) w' →
  w'.cell? ⟨w.heap.size, 0, none⟩ = some (.string ⟨#[]⟩) ∧ w'.cell? ⟨w.heap.size, 1, none⟩ = some (.string ⟨#[]⟩) ∧ w'.frozen? ⟨w.heap.size, 0, none⟩ = false ∧ w'.frozen? ⟨w.heap.size, 1, none⟩ = false := fun w' h =>
  ⟨(h.cell (by simp)).trans (by go_simp), (h.cell (by simp)).trans (by go_simp), (h.frozen (by simp)).trans (by go_simp), (h.frozen (by simp)).trans (by go_simp)⟩
/-- as texts -/
def sgT (m : Mv) : ByteArray := ⟨#[m.sg, m.nm]⟩
def tbT (m : Mv) : ByteArray := ⟨#[m.tb]⟩

/-- two rows of the call's own, apart -/
structure Rows2 (w : World) (B : ByteArray) (A : Option Addr) (n cap : Nat) (v t : Value) (D : List Mv) (wr : World) : Prop where
  below : Below w.heap.size w wr
  two : Two wr w.heap.size B A n cap
  ownS : wr.ownsRow (w.heap.size + 1) 9 1 v D.length ((D.map sgT).map Value.string)
  ownT : wr.ownsRow (w.heap.size + 1) 9 1 t D.length ((D.map tbT).map Value.string)
  apart : ∀ q, v.ownBlock = some q → t.ownBlock ≠ some q
  size : w.heap.size + 1 ≤ wr.heap.size
theorem Rows2.go {w wr W : World} {B : ByteArray} {A : Option Addr} {n cap : Nat} {v t : Value} {D : List Mv} (h : Rows2 w B A n cap v t D wr) (k : Below wr.heap.size wr W) : Rows2 w B A n cap v t D W :=
  ⟨h.below.trans (k.mono h.below.size), h.two.below k (by have := h.size; omega), ownsRow_of_block h.ownS fun b hb => k.block b (ownBlock_lt h.ownS hb).2, ownsRow_of_block h.ownT fun b hb => k.block b (ownBlock_lt h.ownT hb).2, h.apart, Nat.le_trans h.size k.size⟩
/-- between the appends: the one row has its move, the other not yet -/
structure Rows2M (w : World) (B : ByteArray) (A : Option Addr) (n cap : Nat) (v t : Value) (D : List Mv) (m : Mv) (wr : World) : Prop where
  below : Below w.heap.size w wr
  two : Two wr w.heap.size B A n cap
  ownS : wr.ownsRow (w.heap.size + 1) 9 1 v (D.length + 1) (((D ++ [m]).map sgT).map Value.string)
  ownT : wr.ownsRow (w.heap.size + 1) 9 1 t D.length ((D.map tbT).map Value.string)
  apart : ∀ q, v.ownBlock = some q → t.ownBlock ≠ some q
  size : w.heap.size + 1 ≤ wr.heap.size
theorem Rows2M.go {w wr W : World} {B : ByteArray} {A : Option Addr} {n cap : Nat} {v t : Value} {D : List Mv} {m : Mv} (h : Rows2M w B A n cap v t D m wr) (k : Below wr.heap.size wr W) : Rows2M w B A n cap v t D m W :=
  ⟨h.below.trans (k.mono h.below.size), h.two.below k (by have := h.size; omega), ownsRow_of_block h.ownS fun b hb => k.block b (ownBlock_lt h.ownS hb).2, ownsRow_of_block h.ownT fun b hb => k.block b (ownBlock_lt h.ownT hb).2, h.apart, Nat.le_trans h.size k.size⟩
theorem Rows2.push {w wr W : World} {B : ByteArray} {A : Option Addr} {n cap : Nat} {v v' t : Value} {D : List Mv} {m : Mv} {s : ByteArray} (h : Rows2 w B A n cap v t D wr) (hs : s = sgT m) (k : wr.grownBy W v.ownBlock) (hat : v'.ownBlock = v.ownBlock ∨ v'.ownBlock = some wr.heap.size) (hq : W.ownsRow (w.heap.size + 1) 9 1 v' (D.length + 1) ((D.map sgT).map Value.string ++ [.string s])) : Rows2M w B A n cap v' t D m W := by
  have hn : ∀ c, c < w.heap.size + 1 → some c ≠ v.ownBlock := fun c hc => ownV_ne h.ownS hc
  refine ⟨h.below.grown k h.below.size (fun q e => Nat.le_of_not_lt fun hq => hn q (by omega) e.symm), h.two.grown k (by have := h.size; omega) (hn _ (by omega)), ?_, ?_, ?_, Nat.le_trans h.size k.size⟩
  · rw [hs] at hq; simpa using hq
  · exact ownsRow_of_block h.ownT fun b hb => k.block b (ownBlock_lt h.ownT hb).2 fun e => h.apart b e.symm hb
  · intro q hq2 hq3
    rcases hat with e | e
    · rw [e] at hq2; exact h.apart q hq2 hq3
    · rw [e] at hq2; injection hq2 with hq2; have := (ownBlock_lt h.ownT hq3).2; omega
theorem Rows2M.push {w wr W : World} {B : ByteArray} {A : Option Addr} {n cap : Nat} {v t t' : Value} {D : List Mv} {m : Mv} {s : ByteArray} (h : Rows2M w B A n cap v t D m wr) (hs : s = tbT m) (k : wr.grownBy W t.ownBlock) (hat : t'.ownBlock = t.ownBlock ∨ t'.ownBlock = some wr.heap.size) (hq : W.ownsRow (w.heap.size + 1) 9 1 t' (D.length + 1) ((D.map tbT).map Value.string ++ [.string s])) : Rows2 w B A n cap v t' (D ++ [m]) W := by
  have hn : ∀ c, c < w.heap.size + 1 → some c ≠ t.ownBlock := fun c hc => ownV_ne h.ownT hc
  refine ⟨h.below.grown k h.below.size (fun q e => Nat.le_of_not_lt fun hq => hn q (by omega) e.symm), h.two.grown k (by have := h.size; omega) (hn _ (by omega)), ?_, ?_, ?_, Nat.le_trans h.size k.size⟩
  · rw [List.length_append]
    exact ownsRow_of_block h.ownS fun b hb => k.block b (ownBlock_lt h.ownS hb).2 fun e => h.apart b hb e.symm
  · rw [hs] at hq; simpa using hq
  · intro q hq2 hq3
    rcases hat with e | e
    · rw [e] at hq3; exact h.apart q hq2 hq3
    · rw [e] at hq3; injection hq3 with hq3; have := (ownBlock_lt h.ownS hq2).2; omega

section
variable {w : World} {P : Program}
/-- an append to a row of the call's own, where a region draws its order; and where the row then lies -/
theorem step_append_at {ops : Array Oper} {o : Oper} {a : Act} {K : Act → World → Prop} {Q : Exit → Act → World → Prop} {E : Prop} (hgd : o.guard = none) (s x : Operand) (t : TypeId)
    (ho : o.op = .call { callee := .builtin .append, args := #[s, x], argTypes := #[t, t] })
    (base : Nat) (e : TypeId) (i : TypeInfo) (z : Value) (size bytes : Nat) (ht : P.underlying t = some (.slice e)) (hi : P.info? e = some i) (hz : i.zero = some z)
    (hsize : i.size = size) (hby : i.bytes = bytes) (hzs : z.cells.size = size) (hsz : 0 < size)
    (v : Value) (n : Nat) (xs : List Value) (hs : a.eval s = v) (hown : w.ownsRow base e size v n xs)
    (ad : Addr) (m c : Nat) (news : List Value) (hx : a.eval x = .slice (some ad) m c) (hl : news.length = m * size) (hnews : ∀ j u, news[j]? = some u → w.cell? (ad.add j) = some u) (h1 : ∀ u ∈ news, u.oneCell' = true)
    (h63 : n + m ≤ maxLen) (hbytes : (n + m) * bytes ≤ 140737488355328) (hbase : base ≤ w.heap.size)
    (h : ∀ v' w', w'.ownsRow base e size v' (n + m) (xs ++ news) → w.grownBy w' v.ownBlock → (v'.ownBlock = v.ownBlock ∨ v'.ownBlock = some w.heap.size) → K (a.put o.dst v') w') :
    if Region.wanted o (yielded ops a.tmps) = true then Oper.wp P o a w K Q else E := by
  have hw : Region.wanted o (yielded ops a.tmps) = true := by simp [Region.wanted, hgd]
  rw [if_pos hw]
  obtain ⟨v', w', hr, h2, h3, -, h5⟩ := run_append_own_at (P := P) w base t o.type e i z size bytes ht hi hz hsize hby hzs hsz v n xs hown ad m c news hl hnews h1 h63 hbytes hbase
  unfold Oper.wp execOp
  simp only [ho, resolve, invoke, builtin, Sem.run_bind, Sem.run_pure, Result.andThen_ok, List.map_toArray, List.map_cons, List.map_nil, hs, hx, hr]
  exact h v' w' h2 h3 h5
end

/-- an edge in memory, apart from both rows -/
structure EdgeAt (W : World) (g : Nat) (x y : ByteArray) (v t : Value) : Prop where
  c0 : W.cell? ⟨g, 0, none⟩ = some (.string x)
  c1 : W.cell? ⟨g, 1, none⟩ = some (.string y)
  lt : g < W.heap.size
  nv : v.ownBlock ≠ some g
  nt : t.ownBlock ≠ some g
theorem EdgeAt.go {W W' : World} {g : Nat} {x y : ByteArray} {v t : Value} (h : EdgeAt W g x y v t) (k : Below W.heap.size W W') : EdgeAt W' g x y v t :=
  ⟨(k.cell h.lt).trans h.c0, (k.cell h.lt).trans h.c1, Nat.lt_of_lt_of_le h.lt k.size, h.nv, h.nt⟩
theorem EdgeAt.pushS {W W' : World} {g : Nat} {x y : ByteArray} {v v' t : Value} (h : EdgeAt W g x y v t) (k : W.grownBy W' v.ownBlock) (hat : v'.ownBlock = v.ownBlock ∨ v'.ownBlock = some W.heap.size) : EdgeAt W' g x y v' t := by
  have hb := k.block g h.lt (fun e => h.nv e.symm)
  refine ⟨(World.cell?_of_block hb).trans h.c0, (World.cell?_of_block hb).trans h.c1, Nat.lt_of_lt_of_le h.lt k.size, fun e => ?_, h.nt⟩
  rcases hat with q | q
  · rw [q] at e; exact h.nv e
  · rw [q] at e; injection e with e; have := h.lt; omega
theorem EdgeAt.pushT {W W' : World} {g : Nat} {x y : ByteArray} {v t t' : Value} (h : EdgeAt W g x y v t) (k : W.grownBy W' t.ownBlock) (hat : t'.ownBlock = t.ownBlock ∨ t'.ownBlock = some W.heap.size) : EdgeAt W' g x y v t' := by
  have hb := k.block g h.lt (fun e => h.nt e.symm)
  refine ⟨(World.cell?_of_block hb).trans h.c0, (World.cell?_of_block hb).trans h.c1, Nat.lt_of_lt_of_le h.lt k.size, h.nv, fun e => ?_⟩
  rcases hat with q | q
  · rw [q] at e; exact h.nt e
  · rw [q] at e; injection e with e; have := h.lt; omega
theorem one_cell (s : ByteArray) : ∀ u ∈ [Value.string s], u.oneCell' = true := by
  intro u hu; simp at hu; subst hu; rfl

theorem sz_ok {n : Nat} (h : n ≤ 110) : n + 1 ≤ maxLen ∧ (n + 1) * 16 ≤ 140737488355328 := ⟨by unfold maxLen; omega, by omega⟩

/-- what the moves from a block are handed back as -/
def StepsPost (D : List Mv) (w : World) (e : Ending) (w' : World) : Prop :=
  ∃ A1 c1 A2 c2, e = .returned (.tuple #[.slice A1 D.length c1, .slice A2 D.length c2]) ∧ TextsIn w' w'.heap.size A1 (D.map sgT) ∧ TextsIn w' w'.heap.size A2 (D.map tbT) ∧ OwnTexts w' w.heap.size A1 D.length ∧ OwnTexts w' w.heap.size A2 D.length ∧ Below w.heap.size w w'

theorem steps_post {w W : World} {B : ByteArray} {A : Option Addr} {n cap : Nat} {v t : Value} {D : List Mv} (h : Rows2 w B A n cap v t D W) : StepsPost D w (.returned (.tuple #[v, t])) W := by
  obtain ⟨A1, c1, hv, h1, h2⟩ := own_texts (ts := D.map sgT) (by have := h.ownS; rwa [← List.length_map (f := sgT)] at this)
  obtain ⟨A2, c2, ht, h3, h4⟩ := own_texts (ts := D.map tbT) (by have := h.ownT; rwa [← List.length_map (f := tbT)] at this)
  rw [List.length_map] at hv ht h2 h4
  exact ⟨A1, c1, A2, c2, by rw [hv, ht], h1, h3, h2.mono (by omega), h4.mono (by omega), h.below⟩

set_option maxRecDepth 100000 in
set_option maxHeartbeats 1000000 in
/-- spec.l5Steps -/
theorem l5Steps_any (B : ByteArray) (A : Option Addr) (cap : Nat) (es : List (ByteArray × ByteArray)) (b : ByteArray) (c : UInt8) (ct : ByteArray) (hct : ct = ⟨#[c]⟩) (w : World) (hs : B.size ≤ maxLen) (hE : EdgesIn w w.heap.size A es) (hl : es.length ≤ 1099511627776) (hV : Valid B.data.toList (ebs es)) (hK : Known es.length b.data.toList) (hb6 : b.size ≤ 6) :
    Calls Try.prog 119 #[.agg #[.string B, .slice A es.length cap], .string b, .string ct] w (StepsPost (outM ((ksOf b.data.toList).map (edK es) ++ [edZ B.data.toList]) c) w) := by
  obtain ⟨i0, hi, hi0, hi1, hi2⟩ := info_parts textCell
  have HI := Lib.hid hi; have HI0 := Lib.hid hi0; have HI1 := Lib.hid hi1; have HI2 := Lib.hid hi2
  have h2 : 2 ≤ B.size := by have := hV.1.1.1; simpa using this
  have HL := Lib.hid hl
  have H16 := Lib.hid (valid_sizes hV).2
  have HLEN : Hid (b.data.toList.length = b.size) := Lib.hid (by simp)
  have HEO := Lib.hid hV.1.2; have HK := Lib.hid hK
  have hlb : B.data.toList.length = B.size := by simp
  obtain ⟨m1, m2, m3, m4⟩ := entry_exit (l := B.data.toList) (by omega) hV.1.1.2.2.2
  have hen : B.extract 0 1 = ⟨#[entry B.data.toList]⟩ := bytes_one (by
    have := letter_at (p := B) (i := 0) (by omega)
    rw [Nat.zero_add] at this
    rw [this, List.getD_eq_getElem?_getD, ← m3, idxL_get m1]; rfl)
  have hex : B.extract (B.size - 1) B.size = ⟨#[exit_ B.data.toList]⟩ := bytes_one (by
    have := letter_at (p := B) (i := B.size - 1) (by omega)
    rw [show B.size - 1 + 1 = B.size by omega] at this
    rw [this, List.getD_eq_getElem?_getD, ← hlb, ← m4, idxL_get m2]; rfl)
  obtain ⟨l, hll⟩ : ∃ l, B.data.toList = l := ⟨_, rfl⟩
  obtain ⟨xe, hxe⟩ : ∃ xe, exit_ l = xe := ⟨_, rfl⟩
  obtain ⟨ye, hye⟩ : ∃ ye, entry l = ye := ⟨_, rfl⟩
  rw [hll, hye] at hen
  rw [hll, hxe] at hex
  rw [hll] at HEO ⊢
  have hne : ¬ xe = ye := fun e => by
    rw [hll, hye] at m3; rw [hll, hxe, e, m3] at m4; rw [← hll] at m4; omega
  obtain ⟨xt, hxt⟩ : ∃ xt : ByteArray, (⟨#[xe]⟩ : ByteArray) = xt := ⟨_, rfl⟩
  obtain ⟨yt, hyt⟩ : ∃ yt : ByteArray, (⟨#[ye]⟩ : ByteArray) = yt := ⟨_, rfl⟩
  have HXT := Lib.hid hxt; have HYT := Lib.hid hyt; have HCT := Lib.hid hct
  rw [hxt] at hex
  rw [hyt] at hen
  have HZE : Hid (edZ l = ⟨122, xe, ye⟩) := Lib.hid (by rw [← hxe, ← hye]; rfl)
  have FEN : Hid (∀ W : World, Calls Try.prog 81 #[.agg #[.string B, .slice A es.length cap]] W fun e w' => e = .returned (.string yt) ∧ Below W.heap.size W w') := Lib.hid fun W => by
    rw [← hen]; exact l1Entry_any B _ W (by omega) hs
  have FEX : Hid (∀ W : World, Calls Try.prog 82 #[.agg #[.string B, .slice A es.length cap]] W fun e w' => e = .returned (.string xt) ∧ Below W.heap.size W w') := Lib.hid fun W => by
    rw [← hex]; exact l1Exit_any B _ W (by omega) hs
  have hb1 : Below w.heap.size w (w.alloc (.cells #[.string B, .slice A es.length cap] 30)) := (Below.refl _ _).alloc (Nat.le_refl _) _
  have t1 := Two.made w B A es.length cap 30
  have hz1 : (w.alloc (.cells #[.string B, .slice A es.length cap] 30)).heap.size = w.heap.size + 1 := by simp
  have HROW : Hid (Rows2 w B A es.length cap (.slice (some ⟨w.heap.size + 1, 0, none⟩) 0 0) (.slice (some ⟨w.heap.size + 2, 0, none⟩) 0 0) [] (((w.alloc (.cells #[.string B, .slice A es.length cap] 30)).alloc (.cells #[] 9)).alloc (.cells #[] 9))) := by
    have hba1 : Below (w.alloc (.cells #[.string B, .slice A es.length cap] 30)).heap.size (w.alloc (.cells #[.string B, .slice A es.length cap] 30)) ((w.alloc (.cells #[.string B, .slice A es.length cap] 30)).alloc (.cells #[] 9)) := (Below.refl _ _).alloc (Nat.le_refl _) _
    have hba2 := hba1.alloc (by simp) (.cells #[] 9)
    have ho1 := World.ownsRow_lit (base := w.heap.size + 1) (w.alloc (.cells #[.string B, .slice A es.length cap] 30)) (e := 9) (size := 1) #[] 0 (by simp) (by unfold maxLen; omega) rfl
    have ho2 := World.ownsRow_lit (base := w.heap.size + 1) ((w.alloc (.cells #[.string B, .slice A es.length cap] 30)).alloc (.cells #[] 9)) (e := 9) (size := 1) #[] 0 (by simp) (by unfold maxLen; omega) rfl
    have hz2 : ((w.alloc (.cells #[.string B, .slice A es.length cap] 30)).alloc (.cells #[] 9)).heap.size = w.heap.size + 2 := by simp
    rw [hz1] at ho1
    rw [hz2] at ho2
    refine ⟨hb1.trans (hba2.mono hb1.size), t1.below hba2 (by omega), ownsRow_of_block ho1 fun q hq => ?_, ho2, fun q h1 h2 => ?_, by simp⟩
    · have := (ownBlock_lt ho1 hq).2
      exact heap_alloc_old _ _ this
    · injection h1 with h1; injection h2 with h2; have h1' : w.heap.size + 1 = q := h1; have h2' : w.heap.size + 2 = q := h2; omega
  clear hxt hyt hct hl hs hV hK hi hi0 hi1 hi2 hen hex m1 m2 m3 m4 hlb hll h2 hxe hye
  go_enter Try.func119, Try.ntmps119
  go_wp2_with fail
  go_loopw [8, 9, 16] (fun vv tt cc wr => ∃ i : Nat, i ≤ b.size ∧ cc = .int .i64 i ∧ Rows2 w B A es.length cap vv tt (outM (((ksOf b.data.toList).take i).map (edK es)) c) wr) (fun _ _ c _ => b.size - (intOf c).toNat)
  case atStart => exact ⟨0, Nat.zero_le _, rfl, by simpa [outM, mvs] using HROW.out⟩
  case round =>
    clear HROW
    obtain ⟨i, hi, rfl, hrow⟩ := hrel
    have hlen := HLEN.out
    by_cases hlt : i < b.size
    case neg =>
      have hib : i = b.size := by omega
      have hke : (ksOf b.data.toList).take i = ksOf b.data.toList := List.take_of_length_le (by simp [ksOf]; omega)
      rw [hke] at hrow
      have HOM : Hid (outM ((ksOf b.data.toList).map (edK es) ++ [edZ l]) c = outM ((ksOf b.data.toList).map (edK es)) c ++ ((if xe = c then [plus (edZ l)] else []) ++ (if ye = c then [minus (edZ l)] else []))) := Lib.hid (by
        rw [outM_append, outM_one, HZE.out])
      have HLD : Hid ((outM ((ksOf b.data.toList).map (edK es)) c).length ≤ 100) := Lib.hid (by
        refine Nat.le_trans (outM_len _ _) ?_
        rw [List.length_map]; simp [ksOf]; omega)
      obtain ⟨D, hD⟩ : ∃ D, outM ((ksOf b.data.toList).map (edK es)) c = D := ⟨_, rfl⟩
      rw [hD] at hrow HOM HLD
      have HROW := Lib.hid hrow
      have hd0 := hrow.two.1; have hd1 := hrow.two.2
      clear hke hib hD hrow hlen
      go_wp2_with fail
      by_cases cx : xe = c
      · have hcy : ¬ ye = c := fun h => hne (cx.trans h.symm)
        have HDD : Hid (outM ((ksOf b.data.toList).map (edK es) ++ [edZ l]) c = D ++ [plus (edZ l)]) := Lib.hid (by rw [HOM.out, if_pos cx, if_neg hcy]; rfl)
        have hq : ct = xt := by rw [HCT.out, ← cx, HXT.out]
        have hf : (ct.toList == yt.toList) = false := by rw [HCT.out, ← HYT.out]; simp [Lib.toList_data]; exact fun h => hcy h.symm
        subst hq
        clear hcy
        refine (FEX.out _).mono ?_
        rintro e w1 ⟨rfl, hb1⟩
        have HR1 := Lib.hid (HROW.out.go hb1)
        have hk01 := HR1.out.two.1; have hk11 := HR1.out.two.2
        clear hb1
        have hbasa : Below w1.heap.size w1 (w1.alloc (.cells #[.string (⟨#[43, 122]⟩)] 9)) := (Below.refl _ _).alloc (Nat.le_refl _) _
        have HRAsa := Lib.hid (HR1.out.go hbasa)
        have HSZsa : Hid ((D).length + 1 ≤ maxLen ∧ ((D).length + 1) * 16 ≤ 140737488355328) := Lib.hid (sz_ok (by have := HLD.out; (try simp only [List.length_append, List.length_cons, List.length_nil]); omega))
        clear hbasa
        go_wp2_with (first
          | (at_builtin
             refine wpList_append_own_at _ rfl (.tmp 67) (.tmp 68) 154 rfl (w.heap.size + 1) 9 i0 (.string ⟨#[]⟩) 1 16 Try.underlying154 HI.out HI0.out HI1.out HI2.out rfl (by decide) _ (D).length (((D).map sgT).map Value.string) rfl HRAsa.out.ownS ⟨w1.heap.size, 0, none⟩ 1 1 [.string (⟨#[43, 122]⟩)] rfl rfl (cell_one_new w1 (.string (⟨#[43, 122]⟩)) 9) (one_cell (⟨#[43, 122]⟩)) (HSZsa.out).1 (HSZsa.out).2 HRAsa.out.size ?_
             intro vsa wsa hownsa hgrsa _ hatsa
             go_must (
             have HRsa := Lib.hid (HRAsa.out.push (m := plus (edZ l)) (by rw [HZE.out]; rfl) hgrsa hatsa hownsa)
             have hj0 := HRsa.out.two.1; have hj1 := HRsa.out.two.2
             clear hownsa hgrsa hatsa)))
        refine (FEN.out _).mono ?_
        rintro e w3 ⟨rfl, hb3⟩
        have HR3 := Lib.hid (HRsa.out.go hb3)
        clear hb3 hj0 hj1
        have hbasb : Below w3.heap.size w3 (w3.alloc (.cells #[.string (yt)] 9)) := (Below.refl _ _).alloc (Nat.le_refl _) _
        have HRAsb := Lib.hid (HR3.out.go hbasb)
        have HSZsb : Hid ((D).length + 1 ≤ maxLen ∧ ((D).length + 1) * 16 ≤ 140737488355328) := Lib.hid (sz_ok (by have := HLD.out; (try simp only [List.length_append, List.length_cons, List.length_nil]); omega))
        clear hbasb
        go_wp2_with (first
          | (at_builtin
             refine wpList_append_own_at _ rfl (.tmp 70) (.tmp 73) 154 rfl (w.heap.size + 1) 9 i0 (.string ⟨#[]⟩) 1 16 Try.underlying154 HI.out HI0.out HI1.out HI2.out rfl (by decide) _ (D).length (((D).map tbT).map Value.string) rfl HRAsb.out.ownT ⟨w3.heap.size, 0, none⟩ 1 1 [.string (yt)] rfl rfl (cell_one_new w3 (.string (yt)) 9) (one_cell (yt)) (HSZsb.out).1 (HSZsb.out).2 HRAsb.out.size ?_
             intro vsb wsb hownsb hgrsb _ hatsb
             go_must (
             have HRsb := Lib.hid (HRAsb.out.push (m := plus (edZ l)) (by rw [← HYT.out, HZE.out]; rfl) hgrsb hatsb hownsb)
             have hj0 := HRsb.out.two.1; have hj1 := HRsb.out.two.2
             clear hownsb hgrsb hatsb)))
        refine (FEN.out _).mono ?_
        rintro e w5 ⟨rfl, hb5⟩
        have HR5 := Lib.hid (HRsb.out.go hb5)
        clear hb5 hj0 hj1
        go_wp2_with fail
        go_ret2
        rw [HDD.out]
        exact steps_post HR5.out
      have hfx : (ct.toList == xt.toList) = false := by rw [HCT.out, ← HXT.out]; simp [Lib.toList_data]; exact fun h => cx h.symm
      refine (FEX.out _).mono ?_
      rintro e w1 ⟨rfl, hb1⟩
      have HR1 := Lib.hid (HROW.out.go hb1)
      have hk01 := HR1.out.two.1; have hk11 := HR1.out.two.2
      clear hb1
      by_cases cy : ye = c
      · have HDD : Hid (outM ((ksOf b.data.toList).map (edK es) ++ [edZ l]) c = D ++ [minus (edZ l)]) := Lib.hid (by rw [HOM.out, if_neg cx, if_pos cy]; rfl)
        have hq : ct = yt := by rw [HCT.out, ← cy, HYT.out]
        subst hq
        go_wp2_with fail
        refine (FEN.out _).mono ?_
        rintro e w2 ⟨rfl, hb2⟩
        have HR2 := Lib.hid (HR1.out.go hb2)
        have hk02 := HR2.out.two.1; have hk12 := HR2.out.two.2
        clear hb2
        have hbasa : Below w2.heap.size w2 (w2.alloc (.cells #[.string (⟨#[45, 122]⟩)] 9)) := (Below.refl _ _).alloc (Nat.le_refl _) _
        have HRAsa := Lib.hid (HR2.out.go hbasa)
        have HSZsa : Hid ((D).length + 1 ≤ maxLen ∧ ((D).length + 1) * 16 ≤ 140737488355328) := Lib.hid (sz_ok (by have := HLD.out; (try simp only [List.length_append, List.length_cons, List.length_nil]); omega))
        clear hbasa
        go_wp2_with (first
          | (at_builtin
             refine wpList_append_own_at _ rfl (.tmp 79) (.tmp 80) 154 rfl (w.heap.size + 1) 9 i0 (.string ⟨#[]⟩) 1 16 Try.underlying154 HI.out HI0.out HI1.out HI2.out rfl (by decide) _ (D).length (((D).map sgT).map Value.string) rfl HRAsa.out.ownS ⟨w2.heap.size, 0, none⟩ 1 1 [.string (⟨#[45, 122]⟩)] rfl rfl (cell_one_new w2 (.string (⟨#[45, 122]⟩)) 9) (one_cell (⟨#[45, 122]⟩)) (HSZsa.out).1 (HSZsa.out).2 HRAsa.out.size ?_
             intro vsa wsa hownsa hgrsa _ hatsa
             go_must (
             have HRsa := Lib.hid (HRAsa.out.push (m := minus (edZ l)) (by rw [HZE.out]; rfl) hgrsa hatsa hownsa)
             have hj0 := HRsa.out.two.1; have hj1 := HRsa.out.two.2
             clear hownsa hgrsa hatsa)))
        refine (FEX.out _).mono ?_
        rintro e w3 ⟨rfl, hb3⟩
        have HR3 := Lib.hid (HRsa.out.go hb3)
        clear hb3 hj0 hj1
        have hbasb : Below w3.heap.size w3 (w3.alloc (.cells #[.string (xt)] 9)) := (Below.refl _ _).alloc (Nat.le_refl _) _
        have HRAsb := Lib.hid (HR3.out.go hbasb)
        have HSZsb : Hid ((D).length + 1 ≤ maxLen ∧ ((D).length + 1) * 16 ≤ 140737488355328) := Lib.hid (sz_ok (by have := HLD.out; (try simp only [List.length_append, List.length_cons, List.length_nil]); omega))
        clear hbasb
        go_wp2_with (first
          | (at_builtin
             refine wpList_append_own_at _ rfl (.tmp 82) (.tmp 85) 154 rfl (w.heap.size + 1) 9 i0 (.string ⟨#[]⟩) 1 16 Try.underlying154 HI.out HI0.out HI1.out HI2.out rfl (by decide) _ (D).length (((D).map tbT).map Value.string) rfl HRAsb.out.ownT ⟨w3.heap.size, 0, none⟩ 1 1 [.string (xt)] rfl rfl (cell_one_new w3 (.string (xt)) 9) (one_cell (xt)) (HSZsb.out).1 (HSZsb.out).2 HRAsb.out.size ?_
             intro vsb wsb hownsb hgrsb _ hatsb
             go_must (
             have HRsb := Lib.hid (HRAsb.out.push (m := minus (edZ l)) (by rw [← HXT.out, HZE.out]; rfl) hgrsb hatsb hownsb)
             have hj0 := HRsb.out.two.1; have hj1 := HRsb.out.two.2
             clear hownsb hgrsb hatsb)))
        go_wp2_with fail
        go_ret2
        rw [HDD.out]
        exact steps_post HRsb.out
      have hfy : (ct.toList == yt.toList) = false := by rw [HCT.out, ← HYT.out]; simp [Lib.toList_data]; exact fun h => cy h.symm
      have HDD : Hid (outM ((ksOf b.data.toList).map (edK es) ++ [edZ l]) c = D) := Lib.hid (by rw [HOM.out, if_neg cx, if_neg cy]; exact List.append_nil _)
      go_wp2_with fail
      refine (FEN.out _).mono ?_
      rintro e w2 ⟨rfl, hb2⟩
      have HR2 := Lib.hid (HR1.out.go hb2)
      have hk02 := HR2.out.two.1; have hk12 := HR2.out.two.2
      clear hb2
      go_wp2_with fail
      go_ret2
      rw [HDD.out]
      exact steps_post HR2.out
    have hex := letter_at (p := b) hlt
    have hka := HK.out.at (i := i) (by have := HLEN.out; omega)
    have hkt := ks_takeK (l := b.data.toList) (i := i) (by have := HLEN.out; omega)
    obtain ⟨ch, hc⟩ : ∃ ch, b.data.toList.getD i 0 = ch := ⟨_, rfl⟩
    rw [hc] at hex hka hkt
    obtain ⟨k, hk⟩ : ∃ k, ch.toNat - 97 = k := ⟨_, rfl⟩
    rw [hk] at hka hkt
    have hcn : nameOf k = ch := by
      have h97 : 97 ≤ ch.toNat := by
        have := hka.1
        unfold eIdx at this
        simp only at this
        split at this
        · rename_i q; exact q.1
        · omega
      apply UInt8.toNat_inj.1
      rw [nameOf_toNat (by have := H16.out; have := hka.2; omega)]
      omega
    have hkl : k < es.length := hka.2
    obtain ⟨q1, q2, _, _, _⟩ := edK_at HEO.out hkl
    have HIX : Hid (eIdx es.length (b.extract i (i + 1)).data.toList = k) := Lib.hid (by rw [hex]; exact hka.1)
    obtain ⟨e, he⟩ : ∃ e, edK es k = e := ⟨_, rfl⟩
    have hnm : e.nm = ch := by rw [← he]; exact hcn
    rw [he] at q1 q2
    have HKEY : Hid (b.extract i (i + 1) = ⟨#[e.nm]⟩) := Lib.hid (by rw [hnm]; exact bytes_one hex)
    have HOM : Hid (outM (((ksOf b.data.toList).take (i + 1)).map (edK es)) c = outM (((ksOf b.data.toList).take i).map (edK es)) c ++ ((if e.a = c then [plus e] else []) ++ (if e.b = c then [minus e] else []))) := Lib.hid (by rw [hkt, List.map_append, outM_append, List.map_cons, List.map_nil, he, outM_one])
    obtain ⟨ea, hea⟩ : ∃ ea : ByteArray, (⟨#[e.a]⟩ : ByteArray) = ea := ⟨_, rfl⟩
    obtain ⟨eb, heb⟩ : ∃ eb : ByteArray, (⟨#[e.b]⟩ : ByteArray) = eb := ⟨_, rfl⟩
    have HEA := Lib.hid hea.symm; have HEB := Lib.hid heb.symm
    rw [hea] at q1
    rw [heb] at q2
    have HX := Lib.hid q1; have HY := Lib.hid q2
    have HLD : Hid ((outM (((ksOf b.data.toList).take i).map (edK es)) c).length ≤ 100) := Lib.hid (by
      refine Nat.le_trans (outM_len _ _) ?_
      rw [List.length_map, List.length_take]; omega)
    obtain ⟨D, hD⟩ : ∃ D, outM (((ksOf b.data.toList).take i).map (edK es)) c = D := ⟨_, rfl⟩
    rw [hD] at hrow HOM HLD
    have HROW := Lib.hid hrow
    have hS : ∀ W, Below wr.heap.size wr W → (W.cell? ⟨w.heap.size, 0, none⟩ = some (.string B) ∧ W.cell? ⟨w.heap.size, 1, none⟩ = some (.slice A es.length cap) ∧ Below wr.heap.size wr W) :=
      fun W h => ⟨(HROW.out.go h).two.1, (HROW.out.go h).two.2, h⟩
    have HSS := Lib.hid hS
    have HA : Hid (∀ W, Below wr.heap.size wr W → EdgesIn W W.heap.size A es) := Lib.hid fun W h => (hE.below (HROW.out.go h).below).more (HROW.out.go h).below.size
    have HF := Lib.hid (edge_madeK wr)
    have a1 : (0 : Int) ≤ (i : Int) := by omega
    have a4 : (0 : Int) ≤ (i : Int) + 1 := by omega
    have a5 : ((i : Int) + 1).toNat = i + 1 := by omega
    have a6 : (i : Int) + 1 ≤ (b.size : Int) := by omega
    have a7 : i + 1 ≤ b.size := by omega
    have a8 : (i : Int) ≤ (i : Int) + 1 := by omega
    have a9 : IntKind.i64.wrap ((i : Int) + 1) = (i : Int) + 1 := IntWalk.i64_in _ (by omega)
    clear hea heb hex hka hkt hc hk hcn q1 q2 he hnm hD hrow hS
    go_wp2_with fail
    go_region_held3 (fun W => W.cell? ⟨w.heap.size, 0, none⟩ = some (.string B) ∧ W.cell? ⟨w.heap.size, 1, none⟩ = some (.slice A es.length cap) ∧ Below wr.heap.size wr W)
      (first
        | exact HSS.out _ (Below.refl _ _).drew
        | exact HSS.out _ ((Below.refl _ _).drew.trans hb4)
        | exact HSS.out _ ((Below.refl _ _).drew.alloc (by simp) _)
        | exact HSS.out _ (((Below.refl _ _).drew.alloc (by simp) _).trans (hb4.mono (by simp)))
        | exact HSS.out _ (((Below.refl _ _).drew.trans hb4).alloc (by first | exact hb4.size | (have := hb4.size; simpa using this)) _)
        | exact HSS.out _ (((((Below.refl _ _).drew.alloc (by simp) _).trans (hb4.mono (by simp))).setCell (by simp) _).setCell (by simp) _)
        | exact HSS.out _ (((((Below.refl _ _).drew.trans hb4).alloc (by first | exact hb4.size | (have := hb4.size; simpa using this)) _).setCell (by first | exact hb4.size | (have := hb4.size; simpa using this)) _).setCell (by first | exact hb4.size | (have := hb4.size; simpa using this)) _))
      (first
        | (go_at_call 98; refine (l2Edge_any B A cap es _ k _ (HA.out _ (by first | exact (Below.refl _ _).drew | exact (Below.refl _ _).drew.alloc (by simp) _)) (by have := HL.out; omega) hkl HIX.out).mono ?_; rw [HX.out, HY.out]; rintro e w4 ⟨rfl, hb4⟩
           first | (have hp := HF.out w4 hb4; obtain ⟨hp0, hp1, hp2, hp3⟩ := hp) | (clear HF)))
    all_goals
      rename_i hHeld
      first
        | (have hc0 : ((w4.setCell ⟨wr.heap.size, 0, none⟩ (.string ea)).setCell ⟨wr.heap.size, 1, none⟩ (.string eb)).cell? ⟨wr.heap.size, 0, none⟩ = some (.string ea) := (World.cell?_setCell_other _ _ _ _ (by intro e; injection e with _ e; omega)).trans (World.cell?_setCell_same' _ _ _ (by rw [hp0]; rfl))
           have hc1 : ((w4.setCell ⟨wr.heap.size, 0, none⟩ (.string ea)).setCell ⟨wr.heap.size, 1, none⟩ (.string eb)).cell? ⟨wr.heap.size, 1, none⟩ = some (.string eb) := World.cell?_setCell_same' _ _ _ (by rw [World.cell?_setCell_other _ _ _ _ (by intro e; injection e with _ e; omega), hp1]; rfl)
           have hg2 : wr.heap.size < ((w4.setCell ⟨wr.heap.size, 0, none⟩ (.string ea)).setCell ⟨wr.heap.size, 1, none⟩ (.string eb)).heap.size := by
             have := hb4.size
             simp at this
             simp [World.setCell]; omega
           have hx5 := hHeld.2.2
           generalize (w4.setCell ⟨wr.heap.size, 0, none⟩ (.string ea)).setCell ⟨wr.heap.size, 1, none⟩ (.string eb) = W5 at hc0 hc1 hg2 hx5 ⊢
           clear hHeld hb4 hp0 hp1 hp2 hp3
           obtain ⟨g, hge⟩ : ∃ g, wr.heap.size = g := ⟨_, rfl⟩
           rw [hge] at hc0 hc1 hg2 ⊢
           have hg1 : wr.heap.size ≤ g := by omega
           clear hge)
        | (have hc0 : (w4.alloc (.cells #[.string ea, .string eb] 104)).cell? ⟨w4.heap.size, 0, none⟩ = some (.string ea) := by go_simp
           have hc1 : (w4.alloc (.cells #[.string ea, .string eb] 104)).cell? ⟨w4.heap.size, 1, none⟩ = some (.string eb) := by go_simp
           have hg2 : w4.heap.size < (w4.alloc (.cells #[.string ea, .string eb] 104)).heap.size := by simp
           have hg1 : wr.heap.size ≤ w4.heap.size := by have := hb4.size; simpa using this
           have hx5 := hHeld.2.2
           generalize w4.alloc (.cells #[.string ea, .string eb] 104) = W5 at hc0 hc1 hg2 hx5 ⊢
           clear hHeld hb4
           obtain ⟨g, hge⟩ : ∃ g, w4.heap.size = g := ⟨_, rfl⟩
           rw [hge] at hc0 hc1 hg2 hg1 ⊢
           clear hge)
      have HROW5 := Lib.hid (HROW.out.go hx5)
      have HE5 : Hid (EdgeAt W5 g ea eb u8 u9) := Lib.hid ⟨hc0, hc1, hg2, fun q => by have := (ownBlock_lt HROW.out.ownS q).2; omega, fun q => by have := (ownBlock_lt HROW.out.ownT q).2; omega⟩
      clear hx5 HSS HA hc0 hc1 hg1 hg2 HROW
      by_cases ca : e.a = c <;> by_cases cb : e.b = c
      · have HDD : Hid (outM (((ksOf b.data.toList).take (i + 1)).map (edK es)) c = D ++ [plus e] ++ [minus e]) := Lib.hid (by rw [HOM.out, if_pos ca, if_pos cb]; simp)
        have hqa : ct = ea := by rw [HCT.out, HEA.out, ca]
        subst hqa
        have hqb : ct = eb := by rw [HCT.out, HEB.out, cb]
        subst hqb
        have hd0 := HE5.out.c0; have hd1 := HE5.out.c1
        have hbapa : Below W5.heap.size W5 (W5.alloc (.cells #[.string (⟨#[43]⟩ ++ b.extract i (i + 1))] 9)) := (Below.refl _ _).alloc (Nat.le_refl _) _
        have HRApa := Lib.hid (HROW5.out.go hbapa)
        have HEApa := Lib.hid (HE5.out.go hbapa)
        have HSZpa : Hid ((D).length + 1 ≤ maxLen ∧ ((D).length + 1) * 16 ≤ 140737488355328) := Lib.hid (sz_ok (by have := HLD.out; (try simp only [List.length_append, List.length_cons, List.length_nil]); omega))
        clear hbapa
        go_wp2_with (first
          | (at_builtin
             refine wpList_append_own_at _ rfl (.tmp 30) (.tmp 37) 154 rfl (w.heap.size + 1) 9 i0 (.string ⟨#[]⟩) 1 16 Try.underlying154 HI.out HI0.out HI1.out HI2.out rfl (by decide) _ (D).length (((D).map sgT).map Value.string) rfl HRApa.out.ownS ⟨W5.heap.size, 0, none⟩ 1 1 [.string (⟨#[43]⟩ ++ b.extract i (i + 1))] rfl rfl (cell_one_new W5 (.string (⟨#[43]⟩ ++ b.extract i (i + 1))) 9) (one_cell (⟨#[43]⟩ ++ b.extract i (i + 1))) (HSZpa.out).1 (HSZpa.out).2 HRApa.out.size ?_
             intro vpa wpa hownpa hgrpa _ hatpa
             go_must (
             have HRpa := Lib.hid (HRApa.out.push (m := plus e) (by rw [HKEY.out]; exact bytes_ext (by rw [Go.Joins.data_append]; rfl)) hgrpa hatpa hownpa)
             have HEpa := Lib.hid (HEApa.out.pushS hgrpa hatpa)
             have hc0p := HEpa.out.c0; have hc1p := HEpa.out.c1
             have hbapb : Below wpa.heap.size wpa (wpa.alloc (.cells #[.string (ct)] 9)) := (Below.refl _ _).alloc (Nat.le_refl _) _
             have HRApb := Lib.hid (HRpa.out.go hbapb)
             have HEApb := Lib.hid (HEpa.out.go hbapb)
             have HSZpb : Hid ((D).length + 1 ≤ maxLen ∧ ((D).length + 1) * 16 ≤ 140737488355328) := Lib.hid (sz_ok (by have := HLD.out; (try simp only [List.length_append, List.length_cons, List.length_nil]); omega))
             clear hbapb
             clear hownpa hgrpa hatpa))
          | (at_builtin
             refine wpList_append_own_at _ rfl (.tmp 39) (.tmp 42) 154 rfl (w.heap.size + 1) 9 i0 (.string ⟨#[]⟩) 1 16 Try.underlying154 HI.out HI0.out HI1.out HI2.out rfl (by decide) _ (D).length (((D).map tbT).map Value.string) rfl HRApb.out.ownT ⟨wpa.heap.size, 0, none⟩ 1 1 [.string (ct)] rfl rfl (cell_one_new wpa (.string (ct)) 9) (one_cell (ct)) (HSZpb.out).1 (HSZpb.out).2 HRApb.out.size ?_
             intro vpb wpb hownpb hgrpb _ hatpb
             go_must (
             have HRpb := Lib.hid (HRApb.out.push (m := plus e) HEB.out hgrpb hatpb hownpb)
             have HEpb := Lib.hid (HEApb.out.pushT hgrpb hatpb)
             have hd0p := HEpb.out.c0; have hd1p := HEpb.out.c1
             have hbama : Below wpb.heap.size wpb (wpb.alloc (.cells #[.string (⟨#[45]⟩ ++ b.extract i (i + 1))] 9)) := (Below.refl _ _).alloc (Nat.le_refl _) _
             have HRAma := Lib.hid (HRpb.out.go hbama)
             have HEAma := Lib.hid (HEpb.out.go hbama)
             have HSZma : Hid ((D ++ [plus e]).length + 1 ≤ maxLen ∧ ((D ++ [plus e]).length + 1) * 16 ≤ 140737488355328) := Lib.hid (sz_ok (by have := HLD.out; (try simp only [List.length_append, List.length_cons, List.length_nil]); omega))
             clear hbama
             clear hownpb hgrpb hatpb))
          | (at_builtin
             refine wpList_append_own_at _ rfl (.tmp 48) (.tmp 55) 154 rfl (w.heap.size + 1) 9 i0 (.string ⟨#[]⟩) 1 16 Try.underlying154 HI.out HI0.out HI1.out HI2.out rfl (by decide) _ (D ++ [plus e]).length (((D ++ [plus e]).map sgT).map Value.string) rfl HRAma.out.ownS ⟨wpb.heap.size, 0, none⟩ 1 1 [.string (⟨#[45]⟩ ++ b.extract i (i + 1))] rfl rfl (cell_one_new wpb (.string (⟨#[45]⟩ ++ b.extract i (i + 1))) 9) (one_cell (⟨#[45]⟩ ++ b.extract i (i + 1))) (HSZma.out).1 (HSZma.out).2 HRAma.out.size ?_
             intro vma wma hownma hgrma _ hatma
             go_must (
             have HRma := Lib.hid (HRAma.out.push (m := minus e) (by rw [HKEY.out]; exact bytes_ext (by rw [Go.Joins.data_append]; rfl)) hgrma hatma hownma)
             have HEma := Lib.hid (HEAma.out.pushS hgrma hatma)
             have hc0m := HEma.out.c0; have hc1m := HEma.out.c1
             have hbamb : Below wma.heap.size wma (wma.alloc (.cells #[.string (ct)] 9)) := (Below.refl _ _).alloc (Nat.le_refl _) _
             have HRAmb := Lib.hid (HRma.out.go hbamb)
             have HEAmb := Lib.hid (HEma.out.go hbamb)
             have HSZmb : Hid ((D ++ [plus e]).length + 1 ≤ maxLen ∧ ((D ++ [plus e]).length + 1) * 16 ≤ 140737488355328) := Lib.hid (sz_ok (by have := HLD.out; (try simp only [List.length_append, List.length_cons, List.length_nil]); omega))
             clear hbamb
             clear hownma hgrma hatma))
          | (at_builtin
             refine wpList_append_own_at _ rfl (.tmp 57) (.tmp 60) 154 rfl (w.heap.size + 1) 9 i0 (.string ⟨#[]⟩) 1 16 Try.underlying154 HI.out HI0.out HI1.out HI2.out rfl (by decide) _ (D ++ [plus e]).length (((D ++ [plus e]).map tbT).map Value.string) rfl HRAmb.out.ownT ⟨wma.heap.size, 0, none⟩ 1 1 [.string (ct)] rfl rfl (cell_one_new wma (.string (ct)) 9) (one_cell (ct)) (HSZmb.out).1 (HSZmb.out).2 HRAmb.out.size ?_
             intro vmb wmb hownmb hgrmb _ hatmb
             go_must (
             have HRmb := Lib.hid (HRAmb.out.push (m := minus e) HEA.out hgrmb hatmb hownmb)
             have HEmb := Lib.hid (HEAmb.out.pushT hgrmb hatmb)
             have hd0m := HEmb.out.c0; have hd1m := HEmb.out.c1
             clear hownmb hgrmb hatmb)))
        go_roundw
        case rel => exact ⟨i + 1, by omega, by go_num, by rw [HDD.out]; exact HRmb.out⟩
        case measure => simp [intOf]; omega
      · have HDD : Hid (outM (((ksOf b.data.toList).take (i + 1)).map (edK es)) c = D ++ [plus e]) := Lib.hid (by rw [HOM.out, if_pos ca, if_neg cb]; simp)
        have hqa : ct = ea := by rw [HCT.out, HEA.out, ca]
        subst hqa
        have hqb : (eb.toList == ct.toList) = false := by rw [HCT.out, HEB.out]; simp [Lib.toList_data]; exact cb
        have hd0 := HE5.out.c0; have hd1 := HE5.out.c1
        have hbapa : Below W5.heap.size W5 (W5.alloc (.cells #[.string (⟨#[43]⟩ ++ b.extract i (i + 1))] 9)) := (Below.refl _ _).alloc (Nat.le_refl _) _
        have HRApa := Lib.hid (HROW5.out.go hbapa)
        have HEApa := Lib.hid (HE5.out.go hbapa)
        have HSZpa : Hid ((D).length + 1 ≤ maxLen ∧ ((D).length + 1) * 16 ≤ 140737488355328) := Lib.hid (sz_ok (by have := HLD.out; (try simp only [List.length_append, List.length_cons, List.length_nil]); omega))
        clear hbapa
        go_wp2_with (first
          | (at_builtin
             refine wpList_append_own_at _ rfl (.tmp 30) (.tmp 37) 154 rfl (w.heap.size + 1) 9 i0 (.string ⟨#[]⟩) 1 16 Try.underlying154 HI.out HI0.out HI1.out HI2.out rfl (by decide) _ (D).length (((D).map sgT).map Value.string) rfl HRApa.out.ownS ⟨W5.heap.size, 0, none⟩ 1 1 [.string (⟨#[43]⟩ ++ b.extract i (i + 1))] rfl rfl (cell_one_new W5 (.string (⟨#[43]⟩ ++ b.extract i (i + 1))) 9) (one_cell (⟨#[43]⟩ ++ b.extract i (i + 1))) (HSZpa.out).1 (HSZpa.out).2 HRApa.out.size ?_
             intro vpa wpa hownpa hgrpa _ hatpa
             go_must (
             have HRpa := Lib.hid (HRApa.out.push (m := plus e) (by rw [HKEY.out]; exact bytes_ext (by rw [Go.Joins.data_append]; rfl)) hgrpa hatpa hownpa)
             have HEpa := Lib.hid (HEApa.out.pushS hgrpa hatpa)
             have hc0p := HEpa.out.c0; have hc1p := HEpa.out.c1
             have hbapb : Below wpa.heap.size wpa (wpa.alloc (.cells #[.string (eb)] 9)) := (Below.refl _ _).alloc (Nat.le_refl _) _
             have HRApb := Lib.hid (HRpa.out.go hbapb)
             have HEApb := Lib.hid (HEpa.out.go hbapb)
             have HSZpb : Hid ((D).length + 1 ≤ maxLen ∧ ((D).length + 1) * 16 ≤ 140737488355328) := Lib.hid (sz_ok (by have := HLD.out; (try simp only [List.length_append, List.length_cons, List.length_nil]); omega))
             clear hbapb
             clear hownpa hgrpa hatpa))
          | (at_builtin
             refine wpList_append_own_at _ rfl (.tmp 39) (.tmp 42) 154 rfl (w.heap.size + 1) 9 i0 (.string ⟨#[]⟩) 1 16 Try.underlying154 HI.out HI0.out HI1.out HI2.out rfl (by decide) _ (D).length (((D).map tbT).map Value.string) rfl HRApb.out.ownT ⟨wpa.heap.size, 0, none⟩ 1 1 [.string (eb)] rfl rfl (cell_one_new wpa (.string (eb)) 9) (one_cell (eb)) (HSZpb.out).1 (HSZpb.out).2 HRApb.out.size ?_
             intro vpb wpb hownpb hgrpb _ hatpb
             go_must (
             have HRpb := Lib.hid (HRApb.out.push (m := plus e) HEB.out hgrpb hatpb hownpb)
             have HEpb := Lib.hid (HEApb.out.pushT hgrpb hatpb)
             have hd0p := HEpb.out.c0; have hd1p := HEpb.out.c1
             clear hownpb hgrpb hatpb)))
        go_roundw
        case rel => exact ⟨i + 1, by omega, by go_num, by rw [HDD.out]; exact HRpb.out⟩
        case measure => simp [intOf]; omega
      · have HDD : Hid (outM (((ksOf b.data.toList).take (i + 1)).map (edK es)) c = D ++ [minus e]) := Lib.hid (by rw [HOM.out, if_neg ca, if_pos cb]; simp)
        have hqa : (ea.toList == ct.toList) = false := by rw [HCT.out, HEA.out]; simp [Lib.toList_data]; exact ca
        have hqb : ct = eb := by rw [HCT.out, HEB.out, cb]
        subst hqb
        have hd0 := HE5.out.c0; have hd1 := HE5.out.c1
        have hbama : Below W5.heap.size W5 (W5.alloc (.cells #[.string (⟨#[45]⟩ ++ b.extract i (i + 1))] 9)) := (Below.refl _ _).alloc (Nat.le_refl _) _
        have HRAma := Lib.hid (HROW5.out.go hbama)
        have HEAma := Lib.hid (HE5.out.go hbama)
        have HSZma : Hid ((D).length + 1 ≤ maxLen ∧ ((D).length + 1) * 16 ≤ 140737488355328) := Lib.hid (sz_ok (by have := HLD.out; (try simp only [List.length_append, List.length_cons, List.length_nil]); omega))
        clear hbama
        go_wp2_with (first
          | (at_builtin
             refine wpList_append_own_at _ rfl (.tmp 48) (.tmp 55) 154 rfl (w.heap.size + 1) 9 i0 (.string ⟨#[]⟩) 1 16 Try.underlying154 HI.out HI0.out HI1.out HI2.out rfl (by decide) _ (D).length (((D).map sgT).map Value.string) rfl HRAma.out.ownS ⟨W5.heap.size, 0, none⟩ 1 1 [.string (⟨#[45]⟩ ++ b.extract i (i + 1))] rfl rfl (cell_one_new W5 (.string (⟨#[45]⟩ ++ b.extract i (i + 1))) 9) (one_cell (⟨#[45]⟩ ++ b.extract i (i + 1))) (HSZma.out).1 (HSZma.out).2 HRAma.out.size ?_
             intro vma wma hownma hgrma _ hatma
             go_must (
             have HRma := Lib.hid (HRAma.out.push (m := minus e) (by rw [HKEY.out]; exact bytes_ext (by rw [Go.Joins.data_append]; rfl)) hgrma hatma hownma)
             have HEma := Lib.hid (HEAma.out.pushS hgrma hatma)
             have hc0m := HEma.out.c0; have hc1m := HEma.out.c1
             have hbamb : Below wma.heap.size wma (wma.alloc (.cells #[.string (ea)] 9)) := (Below.refl _ _).alloc (Nat.le_refl _) _
             have HRAmb := Lib.hid (HRma.out.go hbamb)
             have HEAmb := Lib.hid (HEma.out.go hbamb)
             have HSZmb : Hid ((D).length + 1 ≤ maxLen ∧ ((D).length + 1) * 16 ≤ 140737488355328) := Lib.hid (sz_ok (by have := HLD.out; (try simp only [List.length_append, List.length_cons, List.length_nil]); omega))
             clear hbamb
             clear hownma hgrma hatma))
          | (at_builtin
             refine wpList_append_own_at _ rfl (.tmp 57) (.tmp 60) 154 rfl (w.heap.size + 1) 9 i0 (.string ⟨#[]⟩) 1 16 Try.underlying154 HI.out HI0.out HI1.out HI2.out rfl (by decide) _ (D).length (((D).map tbT).map Value.string) rfl HRAmb.out.ownT ⟨wma.heap.size, 0, none⟩ 1 1 [.string (ea)] rfl rfl (cell_one_new wma (.string (ea)) 9) (one_cell (ea)) (HSZmb.out).1 (HSZmb.out).2 HRAmb.out.size ?_
             intro vmb wmb hownmb hgrmb _ hatmb
             go_must (
             have HRmb := Lib.hid (HRAmb.out.push (m := minus e) HEA.out hgrmb hatmb hownmb)
             have HEmb := Lib.hid (HEAmb.out.pushT hgrmb hatmb)
             have hd0m := HEmb.out.c0; have hd1m := HEmb.out.c1
             clear hownmb hgrmb hatmb)))
        go_roundw
        case rel => exact ⟨i + 1, by omega, by go_num, by rw [HDD.out]; exact HRmb.out⟩
        case measure => simp [intOf]; omega
      · have HDD : Hid (outM (((ksOf b.data.toList).take (i + 1)).map (edK es)) c = D) := Lib.hid (by rw [HOM.out, if_neg ca, if_neg cb]; simp)
        have hqa : (ea.toList == ct.toList) = false := by rw [HCT.out, HEA.out]; simp [Lib.toList_data]; exact ca
        have hqb : (eb.toList == ct.toList) = false := by rw [HCT.out, HEB.out]; simp [Lib.toList_data]; exact cb
        have hd0 := HE5.out.c0; have hd1 := HE5.out.c1
        go_wp2_with fail
        go_roundw
        case rel => exact ⟨i + 1, by omega, by go_num, by rw [HDD.out]; exact HROW5.out⟩
        case measure => simp [intOf]; omega

end Go.Proofs.Ytjfdkhaepmmlfaa

namespace Go.Proofs.Ytjfdkhaepmmlfaa
open Go.RowKit

/-- blocks that were met, and the ways to them -/
abbrev MetW := List (UInt8 × List Mv)
def keysW (D : MetW) : List UInt8 := D.map (·.1)
structure MetP (U : List Ed) (a : UInt8) (D : MetW) : Prop where
  ways : ∀ x ∈ D, NbWay U a x.1 x.2 ∧ ∀ s ∈ stops a x.2, s ∈ keysW D
  nodup : (keysW D).Nodup
  start : a ∈ keysW D
theorem metP_one (U : List Ed) (a : UInt8) : MetP U a [(a, [])] := by
  refine ⟨fun x hx => ?_, by simp [keysW], by simp [keysW]⟩
  simp at hx
  subst hx
  exact ⟨⟨rfl, True.intro⟩, fun s hs => by simpa [stops, keysW] using hs⟩
theorem nb_snoc {U : List Ed} {m : Mv} : ∀ (p : List Mv) (a : UInt8), Wk U a p m.fr → NB p → (∀ s ∈ stops a p, s ≠ m.tb) → NB (p ++ [m])
  | [], a, _, _, _ => True.intro
  | [n], a, h, _, hs => ⟨fun e => hs a (by simp [stops]) (by rw [← h.2.1]; exact e.symm), True.intro⟩
  | n :: n2 :: p, a, h, hn, hs => ⟨hn.1, nb_snoc (n2 :: p) n.tb h.2.2 hn.2 (fun s hs' => hs s (by
      have e : stops a (n :: n2 :: p) = a :: stops n.tb (n2 :: p) := rfl
      rw [e]; exact List.mem_cons_of_mem _ hs'))⟩
theorem stops_snoc (a : UInt8) (p : List Mv) (m : Mv) : stops a (p ++ [m]) = stops a p ++ [m.tb] := by simp [stops]
theorem wk_last {U : List Ed} : ∀ {p : List Mv} {a b : UInt8}, Wk U a p b → b ∈ stops a p
  | [], a, b, h => by have : a = b := h; subst this; simp [stops]
  | m :: p, a, b, h => by
    have := wk_last (p := p) h.2.2
    have e : stops a (m :: p) = a :: stops m.tb p := rfl
    rw [e]; exact List.mem_cons_of_mem _ this
theorem keysW_append (D : MetW) (x : UInt8 × List Mv) : keysW (D ++ [x]) = keysW D ++ [x.1] := by simp [keysW]
theorem MetP.push {U : List Ed} {a b : UInt8} {p : List Mv} {m : Mv} {D : MetW} (h : MetP U a D) (hx : (b, p) ∈ D) (hm : m ∈ mvs U) (hb : m.fr = b) (hn : m.tb ∉ keysW D) : MetP U a (D ++ [(m.tb, p ++ [m])]) := by
  obtain ⟨⟨h1, h2⟩, h3⟩ := h.ways _ hx
  subst hb
  refine ⟨fun x hx => ?_, ?_, by rw [keysW_append]; exact List.mem_append_left _ h.start⟩
  · rw [keysW_append]
    rcases List.mem_append.1 hx with hx | hx
    · exact ⟨(h.ways x hx).1, fun s hs => List.mem_append_left _ ((h.ways x hx).2 s hs)⟩
    · simp at hx
      subst hx
      refine ⟨⟨h1.append ⟨hm, rfl, rfl⟩, nb_snoc p a h1 h2 fun s hs e => hn (e ▸ h3 s hs)⟩, fun s hs => ?_⟩
      rw [stops_snoc] at hs
      rcases List.mem_append.1 hs with hs | hs
      · exact List.mem_append_left _ (h3 s hs)
      · exact List.mem_append_right _ hs
  · rw [keysW_append]
    exact List.nodup_append.2 ⟨h.nodup, by simp, fun x hx y hy => by simp at hy; subst hy; exact fun e => hn (e ▸ hx)⟩
theorem MetP.len {U : List Ed} {a : UInt8} {D : MetW} {l : List UInt8} (h : MetP U a D) (hU : ∀ e ∈ U, e.a ∈ l ∧ e.b ∈ l) (ha : a ∈ l) : D.length ≤ l.length := by
  have := nodup_len h.nodup (b := l) (fun x hx => by
    obtain ⟨y, hy, rfl⟩ := List.mem_map.1 hx
    have := (h.ways y hy).1.1
    exact wk_in hU ha this _ (wk_last this))
  simpa [keysW] using this
/-- what lies behind the first blocks was met -/
def Clo (U : List Ed) (D : MetW) (i : Nat) : Prop := ∀ j x, j < i → D[j]? = some x → ∀ m ∈ mvs U, m.fr = x.1 → m.tb ∈ keysW D
theorem clo_reach {U : List Ed} {D : MetW} {t : UInt8} (h : Clo U D D.length) : ∀ (p : List Mv) (c : UInt8), c ∈ keysW D → Wk U c p t → t ∈ keysW D
  | [], c, hc, hw => by have : c = t := hw; rw [← this]; exact hc
  | m :: p, c, hc, hw => by
    obtain ⟨x, hx, hxc⟩ := List.mem_map.1 hc
    obtain ⟨j, hj, he⟩ := List.mem_iff_getElem.1 hx
    refine clo_reach h p m.tb (h j x hj (by rw [List.getElem?_eq_getElem hj, he]) m hw.1 ?_) hw.2.2
    rw [hw.2.1]; exact hxc.symm
theorem Clo.next {U : List Ed} {D D1 : MetW} {i : Nat} {b : UInt8} {p : List Mv} {outs : List Mv} (h : Clo U D i) (hp : D <+: D1) (hi : D[i]? = some (b, p)) (hou : ∀ m ∈ mvs U, m.fr = b → m ∈ outs) (hin : ∀ m ∈ outs, m.tb ∈ keysW D1) : Clo U D1 (i + 1) := by
  obtain ⟨r, hr⟩ := hp
  have hil : i < D.length := (List.getElem?_eq_some_iff.1 hi).1
  intro j x hj hx m hm hf
  have hj2 : D[j]? = some x := by rw [← hr, List.getElem?_append_left (by omega)] at hx; exact hx
  by_cases hji : j < i
  · have := h j x hji hj2 m hm hf
    rw [← hr]; simp only [keysW, List.map_append]; exact List.mem_append_left _ this
  · have : j = i := by omega
    subst this
    rw [hi] at hj2
    injection hj2 with e
    subst e
    exact hin m (hou m hm hf)
theorem mem_outM {U : List Ed} {c : UInt8} {m : Mv} : m ∈ outM U c ↔ m ∈ mvs U ∧ m.fr = c := by
  unfold outM; rw [List.mem_filter]; simp
theorem mem_outT {l : List UInt8} {es : List (ByteArray × ByteArray)} {ks : List Nat} {c : UInt8} {m : Mv} : m ∈ outM (ks.map (edK es) ++ [edZ l]) c ↔ m ∈ mvs (edsT l es ks) ∧ m.fr = c := by
  rw [mem_outM, mem_mvs, mem_mvs]
  unfold edsT
  simp only [List.mem_append, List.mem_reverse]

/-- the ways, as cells -/
def txtsW (D : MetW) : List Value := D.map fun x => .string ⟨(txtM x.2).toArray⟩
/-- what holds while the model searches -/
structure SeaW (w : World) (B : ByteArray) (A : Option Addr) (n cap : Nat) (v : Value) (D : MetW) (wr : World) : Prop where
  below : Below w.heap.size w wr
  two : Two wr w.heap.size B A n cap
  own : wr.ownsRow (w.heap.size + 1) 9 1 v D.length (txtsW D)
  size : w.heap.size + 1 ≤ wr.heap.size
theorem SeaW.go {w wr W : World} {B : ByteArray} {A : Option Addr} {n cap : Nat} {v : Value} {D : MetW} (h : SeaW w B A n cap v D wr) (k : Below wr.heap.size wr W) : SeaW w B A n cap v D W :=
  ⟨h.below.trans (k.mono h.below.size), h.two.below k (by have := h.size; omega), ownsRow_of_block h.own fun b hb => k.block b (ownBlock_lt h.own hb).2, Nat.le_trans h.size k.size⟩
theorem SeaW.push {w wr W : World} {B : ByteArray} {A : Option Addr} {n cap : Nat} {v v' : Value} {D D' : MetW} (h : SeaW w B A n cap v D wr) (k : wr.grownBy W v.ownBlock) (hq : W.ownsRow (w.heap.size + 1) 9 1 v' D'.length (txtsW D')) : SeaW w B A n cap v' D' W := by
  have hn : ∀ c, c < w.heap.size + 1 → some c ≠ v.ownBlock := fun c hc => own_block h.own hc
  exact ⟨h.below.grown k h.below.size (fun q e => Nat.le_of_not_lt fun hq => hn q (by omega) e.symm), h.two.grown k (by have := h.size; omega) (hn _ (by omega)), hq, Nat.le_trans h.size k.size⟩
/-- texts that an append leaves alone -/
structure Beside (v : Value) (A : Option Addr) (ts : List ByteArray) (W : World) : Prop where
  texts : TextsIn W W.heap.size A ts
  apart : ∀ a, A = some a → a.block < W.heap.size ∧ some a.block ≠ v.ownBlock
theorem Beside.push {v v' : Value} {A : Option Addr} {ts : List ByteArray} {W W' : World} (h : Beside v A ts W) (k : W.grownBy W' v.ownBlock) (hat : v'.ownBlock = v.ownBlock ∨ v'.ownBlock = some W.heap.size) : Beside v' A ts W' := by
  refine ⟨(h.texts.grown_low k (Nat.le_refl _) fun a e => (h.apart a e).2).more k.size, fun a e => ?_⟩
  obtain ⟨h1, h2⟩ := h.apart a e
  refine ⟨Nat.lt_of_lt_of_le h1 k.size, ?_⟩
  rcases hat with hat | hat
  · rw [hat]; exact h2
  · rw [hat]; intro e; injection e with e; omega
theorem Beside.go {v : Value} {A : Option Addr} {ts : List ByteArray} {W W' : World} (h : Beside v A ts W) (k : Below W.heap.size W W') : Beside v A ts W' :=
  ⟨(h.texts.below k).more k.size, fun a e => ⟨Nat.lt_of_lt_of_le (h.apart a e).1 k.size, (h.apart a e).2⟩⟩
theorem beside_own {W' : World} {v : Value} {A : Option Addr} {ts : List ByteArray} {n base : Nat} (h : TextsIn W' W'.heap.size A ts) (ho : OwnTexts W' base A n) (hv : ∀ q, v.ownBlock = some q → q < base) : Beside v A ts W' := by
  refine ⟨h, fun a e => ?_⟩
  rcases ho with ⟨_, h⟩ | ⟨g, _, _, h, hg, hlt, _⟩
  · rw [h] at e; cases e
  · rw [h] at e; injection e with e; subst e
    exact ⟨hlt, fun e => by have := hv g e.symm; omega⟩

section
variable {w : World} {P : Program}
/-- an append to a row of the call's own, where a region draws its order: what the row held stays where it lay; and where the row then lies -/
theorem step_append_keptW {ops : Array Oper} {o : Oper} {a : Act} {K : Act → World → Prop} {Q : Exit → Act → World → Prop} {E : Prop} (hgd : o.guard = none) (s x : Operand) (t : TypeId)
    (ho : o.op = .call { callee := .builtin .append, args := #[s, x], argTypes := #[t, t] })
    (base : Nat) (e : TypeId) (i : TypeInfo) (z : Value) (size bytes : Nat) (ht : P.underlying t = some (.slice e)) (hi : P.info? e = some i) (hz : i.zero = some z)
    (hsize : i.size = size) (hby : i.bytes = bytes) (hzs : z.cells.size = size) (hsz : 0 < size)
    (g0 c0 : Nat) (n : Nat) (xs : List Value) (hs : a.eval s = .slice (some ⟨g0, 0, none⟩) n c0) (hown : w.ownsRow base e size (.slice (some ⟨g0, 0, none⟩) n c0) n xs)
    (ad : Addr) (m c : Nat) (news : List Value) (hx : a.eval x = .slice (some ad) m c) (hl : news.length = m * size) (hnews : ∀ j u, news[j]? = some u → w.cell? (ad.add j) = some u) (h1 : ∀ u ∈ news, u.oneCell' = true)
    (h63 : n + m ≤ maxLen) (hbytes : (n + m) * bytes ≤ 140737488355328) (hbase : base ≤ w.heap.size)
    (h : ∀ v' w', w'.ownsRow base e size v' (n + m) (xs ++ news) → w.grownBy w' (Value.slice (some ⟨g0, 0, none⟩) n c0).ownBlock → (∀ j u, xs[j]? = some u → w'.cell? ((⟨g0, 0, none⟩ : Addr).add j) = some u) → (v'.ownBlock = some g0 ∨ v'.ownBlock = some w.heap.size) → K (a.put o.dst v') w') :
    if Region.wanted o (yielded ops a.tmps) = true then Oper.wp P o a w K Q else E := by
  have hw : Region.wanted o (yielded ops a.tmps) = true := by simp [Region.wanted, hgd]
  rw [if_pos hw]
  obtain ⟨v', w', hr, h2, h3, -, h5⟩ := run_append_own_at (P := P) w base t o.type e i z size bytes ht hi hz hsize hby hzs hsz _ n xs hown ad m c news hl hnews h1 h63 hbytes hbase
  have hk : ∀ j u, xs[j]? = some u → w'.cell? ((⟨g0, 0, none⟩ : Addr).add j) = some u := by
    have hcs := hown.cells (g := g0) rfl
    subst hsize
    subst hby
    rcases hown.2 with ⟨h, -⟩ | ⟨g, cap, cur, hv, hbg, hg, hnc, hcm, hcz, htake⟩
    · simp at h
    · injection hv with e1 e2 e3
      injection e1 with e1
      injection e1 with e1
      subst e1; subst e3
      by_cases hroom : n + m ≤ c0
      · have hfit : n * i.size + news.length ≤ cur.size := by rw [hl, hcz, ← Nat.add_mul]; exact Nat.mul_le_mul_right _ hroom
        have hr2 := run_append_room (P := P) w t o.type e i ht hi g0 n c0 cur hg ad m c news hl hnews h1 hroom hfit
        rw [hr2] at hr
        injection hr with e4 e5
        subst e4
        intro j u hj
        refine h2.cells (g := g0) rfl j u ?_
        rw [List.getElem?_append_left (List.getElem?_eq_some_iff.1 hj).1]
        exact hj
      · have hr2 := run_append_grow (P := P) w t o.type e i z ht hi hz ⟨g0, 0, none⟩ n c0 xs hown.1 hcs ad m c news hl hnews (by omega) (by simp only [maxLen] at h63; omega) (growslice_fits (by omega) hbytes)
        rw [hr2] at hr
        injection hr with e4 e5
        subst e5
        intro j u hj
        rw [← hcs j u hj]
        have hlt : g0 < w.drew.heap.size := (Array.getElem?_eq_some_iff.1 hg).1
        have hadd : ((⟨g0, 0, none⟩ : Addr).add j).block = g0 := by unfold Addr.add; split <;> simp_all
        exact (World.cell?_of_block (by rw [hadd]; exact heap_alloc_old w.drew _ hlt)).trans rfl
  unfold Oper.wp execOp
  simp only [ho, resolve, invoke, builtin, Sem.run_bind, Sem.run_pure, Result.andThen_ok, List.map_toArray, List.map_cons, List.map_nil, hs, hx, hr]
  exact h v' w' h2 h3 hk h5
end

end Go.Proofs.Ytjfdkhaepmmlfaa

namespace Go.Proofs.Ytjfdkhaepmmlfaa
open Go.RowKit

set_option maxRecDepth 100000 in
set_option maxHeartbeats 1000000 in
/-- spec.l5Way -/
theorem l5Way_any (B : ByteArray) (A : Option Addr) (cap : Nat) (es : List (ByteArray × ByteArray)) (b : ByteArray) (a t : UInt8) (U : List Ed) (ft tt : ByteArray) (hft : ft = ⟨#[a]⟩) (htt : tt = ⟨#[t]⟩) (hUe : U = edsT B.data.toList es (ksOf b.data.toList)) (w : World) (hs : B.size ≤ maxLen) (hE : EdgesIn w w.heap.size A es) (hl : es.length ≤ 1099511627776) (hV : Valid B.data.toList (ebs es)) (hK : Known es.length b.data.toList) (hb6 : b.size ≤ 6)
    (hf : Fr U) (hU : ∀ e ∈ U, e.a ∈ B.data.toList ∧ e.b ∈ B.data.toList) (ha : a ∈ B.data.toList) (hc : Cn U a t) :
    Calls Try.prog 128 #[.agg #[.string B, .slice A es.length cap], .string b, .string ft, .string tt] w fun e w' => e = .returned (.string ⟨(txtM (wayP U a t)).toArray⟩) ∧ Below w.heap.size w w' := by
  obtain ⟨i0, hi, hi0, hi1, hi2⟩ := info_parts textCell
  have HI := Lib.hid hi; have HI0 := Lib.hid hi0; have HI1 := Lib.hid hi1; have HI2 := Lib.hid hi2
  have h8 := (valid_sizes hV).1
  have hlb : B.data.toList.length = B.size := by simp
  have FST : Hid (∀ (c : UInt8) (ct : ByteArray), ct = ⟨#[c]⟩ → ∀ W : World, EdgesIn W W.heap.size A es → Calls Try.prog 119 #[.agg #[.string B, .slice A es.length cap], .string b, .string ct] W (StepsPost (outM ((ksOf b.data.toList).map (edK es) ++ [edZ B.data.toList]) c) W)) := Lib.hid fun c ct h W hW => l5Steps_any B A cap es b c ct h W hs hW hl hV hK hb6
  have HMO : Hid (∀ (c : UInt8) (m : Mv), m ∈ outM ((ksOf b.data.toList).map (edK es) ++ [edZ B.data.toList]) c ↔ m ∈ mvs U ∧ m.fr = c) := Lib.hid fun c m => by rw [hUe]; exact mem_outT
  have HOL : Hid (∀ c : UInt8, (outM ((ksOf b.data.toList).map (edK es) ++ [edZ B.data.toList]) c).length ≤ 100) := Lib.hid fun c => by
    refine Nat.le_trans (outM_len _ _) ?_
    rw [List.length_append, List.length_map]
    simp [ksOf]; omega
  obtain ⟨outs, hou⟩ : ∃ outs : UInt8 → List Mv, (fun c => outM ((ksOf b.data.toList).map (edK es) ++ [edZ B.data.toList]) c) = outs := ⟨_, rfl⟩
  have hou2 : ∀ c, outM ((ksOf b.data.toList).map (edK es) ++ [edZ B.data.toList]) c = outs c := fun c => by rw [← hou]
  simp only [hou2] at FST HMO HOL
  have HLEN8 : Hid (∀ D : MetW, MetP U a D → D.length ≤ 8) := Lib.hid fun D h => Nat.le_trans (h.len hU ha) (by omega)
  have HSH : Hid (∀ (p : List Mv) (c : UInt8), NbWay U a c p → p.length ≤ 7) := Lib.hid fun p c h => nb_short hf hU (by omega) ha h
  have HFR := Lib.hid hf; have HCN := Lib.hid hc
  have HFT := Lib.hid hft; have HTT := Lib.hid htt
  have hbA : Below w.heap.size w ((w.alloc (.cells #[.string B, .slice A es.length cap] 30)).alloc (.cells #[.string ⟨#[]⟩] 9)) := ((Below.refl _ _).alloc (Nat.le_refl _) _).alloc (by simp) _
  have htA : Two ((w.alloc (.cells #[.string B, .slice A es.length cap] 30)).alloc (.cells #[.string ⟨#[]⟩] 9)) w.heap.size B A es.length cap := ⟨by go_simp, by go_simp⟩
  have hoA : ((w.alloc (.cells #[.string B, .slice A es.length cap] 30)).alloc (.cells #[.string ⟨#[]⟩] 9)).ownsRow (w.heap.size + 1) 9 1 (.slice (some ⟨w.heap.size + 1, 0, none⟩) 1 1) 1 (txtsW [(a, [])]) := by
    have hh := World.alloc_heap_new (w.alloc (.cells #[.string B, .slice A es.length cap] 30)) (.cells #[.string ⟨#[]⟩] 9)
    rw [World.size_alloc] at hh
    exact ⟨rfl, .inr ⟨_, 1, _, rfl, Nat.le_refl _, hh, Nat.le_refl _, by unfold maxLen; omega, rfl, rfl⟩⟩
  have HSEA : Hid (SeaW w B A es.length cap (.slice (some ⟨w.heap.size + 1, 0, none⟩) 1 1) [(a, [])] ((w.alloc (.cells #[.string B, .slice A es.length cap] 30)).alloc (.cells #[.string ⟨#[]⟩] 9))) := Lib.hid ⟨hbA, htA, hoA, by simp⟩
  clear hi hi0 hi1 hi2 h8 hlb hou hou2 hf hU ha hc hUe hs hl hV hK hb6 hbA htA hoA hft htt
  go_enter Try.func128, Try.ntmps128
  go_wp2_with fail
  generalize hW1 : (w.alloc (.cells #[.string B, .slice A es.length cap] 30)).alloc (.cells #[.string ⟨#[]⟩] 9) = w1 at HSEA ⊢
  clear hW1
  go_loopw [9, 10, 11] (fun a' v c wr => ∃ (i : Nat) (sx : ByteArray) (D : MetW), a' = .string sx ∧ c = .int .i64 i ∧ i ≤ D.length ∧ sx.data.toList = keysW D ∧ MetP U a D ∧ Clo U D i ∧ (∀ j x, j < i → D[j]? = some x → x.1 ≠ t) ∧ SeaW w B A es.length cap v D wr) (fun _ _ c _ => 9 - (intOf c).toNat)
  case atStart => exact ⟨0, ft, [(a, [])], rfl, rfl, Nat.zero_le _, by rw [HFT.out]; rfl, metP_one U a, fun j x hj => absurd hj (by omega), fun j x hj => absurd hj (by omega), HSEA.out⟩
  case round =>
    clear HSEA
    obtain ⟨i, sx, D, rfl, rfl, hi, hsx, hmp, hclo, hnt, hsea⟩ := hrel
    have hD8 := HLEN8.out D hmp
    have hsz : sx.size = D.length := by
      have h := congrArg List.length hsx
      simpa [keysW] using h
    have HSX := Lib.hid hsx; have HNT := Lib.hid hnt; have HSEA := Lib.hid hsea; have HMP := Lib.hid hmp; have HCLO := Lib.hid hclo
    by_cases hlt : i < sx.size
    case neg =>
      exfalso
      have hid : i = D.length := by omega
      rw [hid] at hclo
      obtain ⟨p, hp⟩ := HCN.out
      have htk := clo_reach hclo p a hmp.start hp
      obtain ⟨x, hx, hxt⟩ := List.mem_map.1 htk
      obtain ⟨j, hj, he⟩ := List.mem_iff_getElem.1 hx
      exact hnt j x (by omega) (by rw [List.getElem?_eq_getElem hj, he]) hxt
    obtain ⟨c, p, hgi⟩ : ∃ c p, D[i]? = some (c, p) := by
      have h : i < D.length := by omega
      exact ⟨D[i].1, D[i].2, List.getElem?_eq_getElem h⟩
    have hmem := List.mem_of_getElem? hgi
    obtain ⟨hway, hstops⟩ := hmp.ways _ hmem
    have hpl := HSH.out p c hway
    have hxb : sx.extract i (i + 1) = ⟨#[c]⟩ := bytes_one (by
      rw [letter_at hlt, HSX.out]
      have : (keysW D)[i]? = some c := by simp [keysW, hgi]
      simp [List.getD, this])
    obtain ⟨ct, hct⟩ : ∃ ct, sx.extract i (i + 1) = ct := ⟨_, rfl⟩
    have hctc : ct = ⟨#[c]⟩ := by rw [← hct, hxb]
    have HGI := Lib.hid hgi; have HWAY := Lib.hid hway; have HCT := Lib.hid hctc; have HXC := Lib.hid hct; have HMEM := Lib.hid hmem
    have hiD0 : i < D.length := by omega
    have HSZ := Lib.hid hsz
    clear hsx hnt hsea hmp hclo hgi hway hstops hxb hctc hmem hsz
    have a1 : (0 : Int) ≤ (i : Int) := by omega
    have a2 : (i : Int) < (sx.size : Int) := by omega
    have a4 : (0 : Int) ≤ (i : Int) + 1 := by omega
    have a5 : ((i : Int) + 1).toNat = i + 1 := by omega
    have a6 : (i : Int) + 1 ≤ (sx.size : Int) := by omega
    have a7 : i + 1 ≤ sx.size := by omega
    have a8 : (i : Int) ≤ (i : Int) + 1 := by omega
    have a3 : IntKind.i64.wrap ((i : Int) + 1) = (i : Int) + 1 := IntWalk.i64_in _ (by omega)
    by_cases hct' : c = t
    · have hq : ct = tt := by rw [HCT.out, HTT.out, hct']
      have HQ : Hid (wayP U a t = p) := Lib.hid (wayP_eq HFR.out (by rw [← hct']; exact HWAY.out))
      have hbw := HSEA.out.below
      obtain ⟨vg, vc, rfl⟩ := Go.Joins.ownsRow_form HSEA.out.own (by omega)
      obtain ⟨pp, hpp⟩ : ∃ pp : ByteArray, (⟨(txtM p).toArray⟩ : ByteArray) = pp := ⟨_, rfl⟩
      have hcw := HSEA.out.own.cells (g := vg) rfl i (.string pp) (by simp [txtsW, HGI.out, hpp])
      rw [add_none] at hcw
      have hcw' : wr.cell? ⟨vg, i, none⟩ = some (.string pp) := by simpa using hcw
      have hiD : (i : Int) < (D.length : Int) := by omega
      have HPP := Lib.hid hpp
      subst hq
      clear hct' hcw a3 hpp
      go_wp2_with fail
      go_ret
      exact ⟨by rw [HQ.out, HPP.out]; rfl, hbw⟩
    have hqq : (ct.toList == tt.toList) = false := by
      rw [HCT.out, HTT.out]; simp [Lib.toList_data]; exact hct'
    have HNT2 : Hid (∀ j x, j < i + 1 → D[j]? = some x → x.1 ≠ t) := Lib.hid fun j x hj hx => by
      by_cases hji : j < i
      · exact HNT.out j x hji hx
      · have : j = i := by omega
        subst this
        rw [HGI.out] at hx
        injection hx with hx
        subst hx
        exact hct'
    have hS : ∀ W, Below wr.heap.size wr W → (W.cell? ⟨w.heap.size, 0, none⟩ = some (.string B) ∧ W.cell? ⟨w.heap.size, 1, none⟩ = some (.slice A es.length cap) ∧ Below wr.heap.size wr W) :=
      fun W h => ⟨(HSEA.out.go h).two.1, (HSEA.out.go h).two.2, h⟩
    have HSS := Lib.hid hS
    have HA : Hid (EdgesIn wr.drew wr.drew.heap.size A es) := Lib.hid ((hE.below HSEA.out.below.drew).more HSEA.out.below.drew.size)
    have HFS := Lib.hid (FST.out c ct HCT.out wr.drew HA.out)
    clear hS hct'
    go_wp2_with fail
    go_region_held3 (fun W => W.cell? ⟨w.heap.size, 0, none⟩ = some (.string B) ∧ W.cell? ⟨w.heap.size, 1, none⟩ = some (.slice A es.length cap) ∧ Below wr.heap.size wr W)
      (first
        | exact HSS.out _ (Below.refl _ _).drew
        | exact HSS.out _ ((Below.refl _ _).drew.trans hb2))
      (first
        | (go_at_call 119; (try rw [hct]); refine (HFS.out).mono ?_; rintro e w2 ⟨A1, c1, A2, c2, rfl, hT1, hT2, hO1, hO2, hb2⟩))
    rename_i hHeld
    have HSEA2 := Lib.hid (HSEA.out.go hHeld.2.2)
    have hvl : ∀ q, u10.ownBlock = some q → q < wr.drew.heap.size := fun q hq => (ownBlock_lt HSEA.out.own hq).2
    have HB1 : Hid (Beside u10 A1 ((outs c).map sgT) w2) := Lib.hid (beside_own hT1 hO1 hvl)
    have HB2 : Hid (Beside u10 A2 ((outs c).map tbT) w2) := Lib.hid (beside_own hT2 hO2 hvl)
    clear hHeld HSS HA hb2 HSEA hT1 hT2 hO1 hO2 hvl HFS hqq a1 a2 a3 a4 a5 a6 a7 a8
    have holn := HOL.out c
    obtain ⟨os, hos⟩ : ∃ os, outs c = os := ⟨_, rfl⟩
    have HOS := Lib.hid hos
    rw [hos] at HB1 HB2 holn ⊢
    have HOLN := Lib.hid holn
    clear hos holn
    go_wp2_with fail
    go_loopw [9, 10, 48] (fun a' v c' wi => ∃ (k : Nat) (s1 : ByteArray) (D1 : MetW), k ≤ os.length ∧ a' = .string s1 ∧ c' = .int .i64 k ∧ s1.data.toList = keysW D1 ∧ D <+: D1 ∧ MetP U a D1 ∧ (∀ j m, j < k → os[j]? = some m → m.tb ∈ keysW D1) ∧ SeaW w B A es.length cap v D1 wi ∧ Beside v A1 (os.map sgT) wi ∧ Beside v A2 (os.map tbT) wi) (fun _ _ c _ => os.length - (intOf c).toNat)
    case atStart => exact ⟨0, sx, D, Nat.zero_le _, rfl, rfl, HSX.out, List.prefix_refl _, HMP.out, fun j x hj => absurd hj (by omega), HSEA2.out, HB1.out, HB2.out⟩
    case round =>
      clear HSEA2 HB1 HB2
      obtain ⟨k, s1, D1, hk, rfl, rfl, hs1, hpre, hmp1, hin, hsea, hbs1, hbs2⟩ := hrel
      have hD18 := HLEN8.out D1 hmp1
      have hs1z : s1.size = D1.length := by
        have h := congrArg List.length hs1
        simpa [keysW] using h
      have HS1 := Lib.hid hs1; have HSEA := Lib.hid hsea; have HPRE := Lib.hid hpre; have HS1Z := Lib.hid hs1z; have HMP1 := Lib.hid hmp1; have HIN := Lib.hid hin; have HBS1 := Lib.hid hbs1; have HBS2 := Lib.hid hbs2
      clear hs1 hsea hpre hs1z hmp1 hin hbs1 hbs2
      by_cases hlk : k < os.length
      case neg =>
        have HNT3 : Hid (∀ j x, j < i + 1 → D1[j]? = some x → x.1 ≠ t) := Lib.hid fun j x hj hx => by
          obtain ⟨r, hr⟩ := HPRE.out
          rw [← hr, List.getElem?_append_left (by omega)] at hx
          exact HNT2.out j x hj hx
        have hlen : i + 1 ≤ D1.length := Nat.le_trans hiD0 HPRE.out.length_le
        have HCL : Hid (Clo U D1 (i + 1)) := Lib.hid (HCLO.out.next HPRE.out HGI.out (outs := os) (fun m hm hf => by rw [← HOS.out]; exact (HMO.out c m).2 ⟨hm, hf⟩) (fun m hm => by
          obtain ⟨j, hj, he⟩ := List.mem_iff_getElem.1 hm
          exact HIN.out j m (by omega) (by rw [List.getElem?_eq_getElem hj, he])))
        have hi8 : i ≤ 8 := by omega
        clear HNT HNT2
        go_wp2_with fail
        go_roundw
        case rel => exact ⟨i + 1, s1, D1, rfl, by go_num, hlen, HS1.out, HMP1.out, HCL.out, HNT3.out, HSEA.out⟩
        case measure => simp [intOf]; omega
      obtain ⟨m, hm⟩ : ∃ m, os[k] = m := ⟨_, rfl⟩
      have hmo : m ∈ os := by rw [← hm]; exact List.getElem_mem hlk
      obtain ⟨hmU, hmf⟩ := (HMO.out c m).1 (by rw [HOS.out]; exact hmo)
      obtain ⟨g2, hA2, hlow2, hcell2⟩ := HBS2.out.texts k (by simpa using hlk)
      obtain ⟨g1, hA1, hlow1, hcell1⟩ := HBS1.out.texts k (by simpa using hlk)
      simp only [List.getElem_map, hm] at hcell1 hcell2
      obtain ⟨y, hy⟩ : ∃ y, m.tb = y := ⟨_, rfl⟩
      have htb : tbT m = ⟨#[y]⟩ := by rw [← hy]; rfl
      obtain ⟨st, hst⟩ : ∃ st, sgT m = st := ⟨_, rfl⟩
      have hsts : st.size = 2 := by rw [← hst]; rfl
      rw [htb] at hcell2
      rw [hst] at hcell1
      subst hA1
      subst hA2
      have HHM := Lib.hid hm; have HMU := Lib.hid hmU; have HMF := Lib.hid hmf; have HY := Lib.hid hy; have HST := Lib.hid hst
      clear hm hmo hmU hmf htb hst
      obtain ⟨fi, hfi⟩ : ∃ fi, Lib.indexByte s1.data.toList y = fi := ⟨_, rfl⟩
      have hiff : 0 ≤ fi ↔ y ∈ keysW D1 := by rw [← hfi, HS1.out]; exact indexByte_nonneg
      have HFI := Lib.hid hfi; have HIFF := Lib.hid hiff
      clear hfi hiff hy
      have HS1M : Hid (s1.size ≤ maxLen) := Lib.hid (by have := HS1Z.out; unfold maxLen; omega)
      have hkk : (k : Int) < (os.length : Int) := by omega
      have hk0 : (0 : Int) ≤ (k : Int) := by omega
      by_cases hfl : fi < 0
      case neg =>
        have HIN2 : Hid (∀ j m, j < k + 1 → os[j]? = some m → m.tb ∈ keysW D1) := Lib.hid fun j m' hj hm' => by
          by_cases hjk : j < k
          · exact HIN.out j m' hjk hm'
          · have : j = k := by omega
            subst this
            rw [List.getElem?_eq_getElem hlk, HHM.out] at hm'
            injection hm' with hm'
            subst hm'
            rw [HY.out]
            exact HIFF.out.1 (by omega)
        have hk100 : k ≤ 100 := by have := HOLN.out; omega
        go_wp2_with (go_at_call 96; refine (find_any s1 y _ HS1M.out).mono ?_; rw [HFI.out]; rintro e wI ⟨rfl, rfl⟩)
        go_roundw
        case rel => exact ⟨k + 1, s1, D1, by omega, rfl, by go_num, HS1.out, HPRE.out, HMP1.out, HIN2.out, HSEA.out, HBS1.out, HBS2.out⟩
        case measure => simp [intOf]; omega
      have hadd : ¬ 9223372036854775807 < s1.size + (⟨#[y]⟩ : ByteArray).size := by
        have h1 : (⟨#[y]⟩ : ByteArray).size = 1 := rfl
        have := HS1Z.out
        omega
      have hadd2 : ¬ 9223372036854775807 < s1.size + 1 := by have := HS1Z.out; omega
      go_wp2_with (go_at_call 96; refine (find_any s1 y _ HS1M.out).mono ?_; rw [HFI.out]; rintro e wI ⟨rfl, rfl⟩)
      have hyn : y ∉ keysW D1 := fun h => by have := HIFF.out.2 h; omega
      clear hadd hadd2
      have hplen := HPRE.out.length_le
      have hz4 := HSEA.out.size
      obtain ⟨vg, vc, rfl⟩ := Go.Joins.ownsRow_form HSEA.out.own (by omega)
      obtain ⟨pp, hpp⟩ : ∃ pp : ByteArray, (⟨(txtM p).toArray⟩ : ByteArray) = pp := ⟨_, rfl⟩
      have hD1i : D1[i]? = some (c, p) := by
        obtain ⟨r, hr⟩ := HPRE.out
        rw [← hr, List.getElem?_append_left hiD0]
        exact HGI.out
      have HMP2 : Hid (MetP U a (D1 ++ [(y, p ++ [m])])) := Lib.hid (by
        rw [← HY.out]
        exact HMP1.out.push (List.mem_of_getElem? hD1i) HMU.out HMF.out (by rw [HY.out]; exact hyn))
      have HCI : Hid ((txtsW D1)[i]? = some (.string pp)) := Lib.hid (by simp [txtsW, hD1i, hpp])
      have hcw := HSEA.out.own.cells (g := vg) rfl i (.string pp) HCI.out
      rw [add_none, Nat.zero_add] at hcw
      have hpps : pp.size ≤ 14 := by
        rw [← hpp]; show (txtM p).toArray.size ≤ 14
        have := txtM_len p
        simp; omega
      have HNP : Hid ((pp ++ st : ByteArray) = ⟨(txtM (p ++ [m])).toArray⟩) := Lib.hid (by
        apply bytes_ext
        rw [Go.Joins.data_append, ← hpp, ← HST.out]
        simp [txtM, sgT])
      have hadd : ¬ 9223372036854775807 < pp.size + st.size := by omega
      have hadd1 : ¬ 9223372036854775807 < pp.size + 2 := by omega
      have hba : Below wr.heap.size wr (wr.alloc (.cells #[.string (pp ++ st)] 9)).drew := ((Below.refl _ _).alloc (Nat.le_refl _) _).drew
      have HSEA5 := Lib.hid (HSEA.out.go hba)
      have HBS15 := Lib.hid (HBS1.out.go hba)
      have HBS25 := Lib.hid (HBS2.out.go hba)
      have HNEWS : Hid (∀ j u, [Value.string (pp ++ st)][j]? = some u → (wr.alloc (.cells #[.string (pp ++ st)] 9)).drew.cell? ((⟨wr.heap.size, 0, none⟩ : Addr).add j) = some u) := Lib.hid (cell_one_new wr (.string (pp ++ st)) 9)
      have hz5 : w.heap.size + 1 ≤ (wr.alloc (.cells #[.string (pp ++ st)] 9)).drew.heap.size := by simp; omega
      have HZ5 := Lib.hid hz5
      have hcw5 := HSEA5.out.own.cells (g := vg) rfl i (.string pp) HCI.out
      rw [add_none, Nat.zero_add] at hcw5
      have hcell5 : (wr.alloc (.cells #[.string (pp ++ st)] 9)).drew.cell? ⟨g1, k, none⟩ = some (.string st) := (hba.cell hlow1).trans hcell1
      have hiD1 : (i : Int) < (D1.length : Int) := by omega
      have hii : (0 : Int) ≤ (i : Int) := by omega
      have hvg1 : some g1 ≠ (Value.slice (some ⟨vg, 0, none⟩) D1.length vc).ownBlock := (HBS15.out.apart ⟨g1, 0, none⟩ rfl).2
      have hvl1 : g1 < (wr.alloc (.cells #[.string (pp ++ st)] 9)).drew.heap.size := (HBS15.out.apart ⟨g1, 0, none⟩ rfl).1
      have HVG := Lib.hid hvg1; have HVL := Lib.hid hvl1
      have HSZ1 : Hid (D1.length + 1 ≤ maxLen ∧ (D1.length + 1) * 16 ≤ 140737488355328) := Lib.hid (sz_ok (by omega))
      clear hpp hD1i hba hz5 hyn hvg1 hvl1 hz4 hcell2
      go_region_held3 (fun W => W.cell? ⟨vg, i, none⟩ = some (.string pp) ∧ W.cell? ⟨g1, k, none⟩ = some (.string st))
        (first
          | exact ⟨hcw, hcell1⟩
          | exact ⟨hcw5, hcell5⟩
          | exact ⟨hcw6, hcell6⟩)
        (first
          | (refine step_append_keptW rfl (.tmp 61) (.tmp 71) 154 rfl (w.heap.size + 1) 9 i0 (.string ⟨#[]⟩) 1 16 Try.underlying154 HI.out HI0.out HI1.out HI2.out rfl (by decide) vg vc D1.length (txtsW D1) rfl HSEA5.out.own ⟨wr.heap.size, 0, none⟩ 1 1 [.string (pp ++ st)] rfl rfl HNEWS.out (one_cell (pp ++ st)) HSZ1.out.1 HSZ1.out.2 HZ5.out ?_
             intro v6 w6 hown6 hgr6 hcs6 hat6
             go_must (
             have hcw6 : w6.cell? ⟨vg, i, none⟩ = some (.string pp) := by
               have := hcs6 i (.string pp) HCI.out
               rwa [add_none, Nat.zero_add] at this
             have hcell6 : w6.cell? ⟨g1, k, none⟩ = some (.string st) := (World.cell?_of_block (hgr6.block g1 HVL.out HVG.out)).trans hcell5
             have hw6 : txtsW D1 ++ [Value.string (pp ++ st)] = txtsW (D1 ++ [(y, p ++ [m])]) := by
               rw [HNP.out]
               simp [txtsW]
             rw [hw6] at hown6
             have HSEA6 : Hid (SeaW w B A es.length cap v6 (D1 ++ [(y, p ++ [m])]) w6) := Lib.hid (HSEA5.out.push hgr6 (by simpa using hown6))
             have HBS16 := Lib.hid (HBS15.out.push hgr6 hat6)
             have HBS26 := Lib.hid (HBS25.out.push hgr6 hat6)
             clear hw6 hown6 hgr6 hcs6 hat6)))
      rename_i hHeld
      clear hHeld hadd hadd1 hcw hcw5 hcw6 hcell1 hcell5 hcell6
      have HS2 : Hid ((s1 ++ ⟨#[y]⟩ : ByteArray).data.toList = keysW (D1 ++ [(y, p ++ [m])])) := Lib.hid (by rw [Go.Joins.data_append, HS1.out]; simp [keysW])
      have HIN2 : Hid (∀ j m', j < k + 1 → os[j]? = some m' → m'.tb ∈ keysW (D1 ++ [(y, p ++ [m])])) := Lib.hid fun j m' hj hm' => by
        rw [keysW_append]
        by_cases hjk : j < k
        · exact List.mem_append_left _ (HIN.out j m' hjk hm')
        · have : j = k := by omega
          subst this
          rw [List.getElem?_eq_getElem hlk, HHM.out] at hm'
          injection hm' with hm'
          subst hm'
          rw [HY.out]
          exact List.mem_append_right _ (List.mem_singleton.2 rfl)
      have HPR2 : Hid (D <+: D1 ++ [(y, p ++ [m])]) := Lib.hid (HPRE.out.trans (List.prefix_append _ _))
      have hk100 : k ≤ 100 := by have := HOLN.out; omega
      go_wp2_with fail
      go_roundw
      case rel => exact ⟨k + 1, s1 ++ ⟨#[y]⟩, _, by omega, rfl, by go_num, HS2.out, HPR2.out, HMP2.out, HIN2.out, HSEA6.out, HBS16.out, HBS26.out⟩
      case measure => simp [intOf]; omega

end Go.Proofs.Ytjfdkhaepmmlfaa

namespace Go.Proofs.Ytjfdkhaepmmlfaa
open Go.RowKit

set_option maxRecDepth 100000 in
set_option maxHeartbeats 1000000 in
/-- spec.l6Height -/
theorem l6Height_any (B : ByteArray) (A : Option Addr) (cap : Nat) (es : List (ByteArray × ByteArray)) (t s : ByteArray) (x : UInt8) (hsx : s = ⟨#[x]⟩) (w : World) (hs : B.size ≤ maxLen) (hE : EdgesIn w w.heap.size A es) (hl : es.length ≤ 1099511627776) (ha : acycV B es = true) (ht : treeV B es t = true) (hx : x ∈ B.data.toList) :
    Calls Try.prog 115 #[.agg #[.string B, .slice A es.length cap], .string t, .string s] w (IntPost (hgtB B es t (valE (ebs es) (exit_ B.data.toList)) x) w) := by
  obtain ⟨hV, hK, h6, hf, hU, hcn, _⟩ := tree_pack ht
  have h2 : 2 ≤ B.data.toList.length := hV.1.1.1
  obtain ⟨m1, m2, m3, m4⟩ := entry_exit h2 hV.1.1.2.2.2
  obtain ⟨q1, q2⟩ := way_pack ht hx
  have hlb : B.data.toList.length = B.size := by simp
  have hen : B.extract 0 1 = ⟨#[entry B.data.toList]⟩ := bytes_one (by
    have := letter_at (p := B) (i := 0) (by omega)
    rw [Nat.zero_add] at this
    rw [this, List.getD_eq_getElem?_getD, ← m3, idxL_get m1]; rfl)
  have FEN : Hid (∀ W : World, Calls Try.prog 81 #[.agg #[.string B, .slice A es.length cap]] W fun e w' => e = .returned (.string ⟨#[entry B.data.toList]⟩) ∧ Below W.heap.size W w') := Lib.hid fun W => by
    rw [← hen]; exact l1Entry_any B _ W (by omega) hs
  obtain ⟨y, hye⟩ : ∃ y : ByteArray, (⟨(txtM (wayP (edsOf B es t) (entry B.data.toList) x)).toArray⟩ : ByteArray) = y := ⟨_, rfl⟩
  obtain ⟨eb, heb⟩ : ∃ eb : ByteArray, (⟨#[entry B.data.toList]⟩ : ByteArray) = eb := ⟨_, rfl⟩
  have FWY : Hid (∀ W : World, EdgesIn W W.heap.size A es → Calls Try.prog 128 #[.agg #[.string B, .slice A es.length cap], .string t, .string eb, .string s] W fun e w' => e = .returned (.string y) ∧ Below W.heap.size W w') := Lib.hid fun W h => by
    rw [← hye]
    exact l5Way_any B A cap es t (entry B.data.toList) x (edsOf B es t) eb s heb.symm hsx rfl W hs h hl hV hK h6 hf hU m1 (hcn _ m1 _ hx)
  have FSM : Hid (∀ W : World, EdgesIn W W.heap.size A es → Calls Try.prog 127 #[.agg #[.string B, .slice A es.length cap], .string y] W fun e w' => e = .returned (.int .i64 (hgtB B es t (valE (ebs es) (exit_ B.data.toList)) x)) ∧ Below W.heap.size W w') := Lib.hid fun W h =>
    l6Sum_any B A cap es y _ W hs h ha (by rw [← hye]) q1 (by omega)
  obtain ⟨v, hv⟩ : ∃ v, hgtB B es t (valE (ebs es) (exit_ B.data.toList)) x = v := ⟨_, rfl⟩
  rw [hv] at FSM ⊢
  rw [heb] at FEN
  have hb1 : Below w.heap.size w (w.alloc (.cells #[.string B, .slice A es.length cap] 30)) := (Below.refl _ _).alloc (Nat.le_refl _) _
  have t1 := Two.made w B A es.length cap 30
  have hz1 : (w.alloc (.cells #[.string B, .slice A es.length cap] 30)).heap.size = w.heap.size + 1 := by simp
  clear hsx hl ha ht hx hV hK h6 hf hU hcn h2 m1 m2 m3 m4 q1 q2 hlb hen hye heb hv hs
  go_enter Try.func115, Try.ntmps115
  go_wp2_with fail
  obtain ⟨w1, hw1⟩ : ∃ w1, w.alloc (.cells #[.string B, .slice A es.length cap] 30) = w1 := ⟨_, rfl⟩
  rw [hw1] at hb1 t1 hz1 ⊢
  clear hw1
  have y0 : ∀ x : After w1, x.W.cell? ⟨w.heap.size, 0, none⟩ = some (.string B) := fun x => x.cell (by simp only; omega) t1.1
  have y1 : ∀ x : After w1, x.W.cell? ⟨w.heap.size, 1, none⟩ = some (.slice A es.length cap) := fun x => x.cell (by simp only; omega) t1.2
  have yE : ∀ x : After w1, EdgesIn x.W x.W.heap.size A es := fun x => ((hE.below hb1).below (x.h.mono hb1.size)).more (Nat.le_trans hb1.size x.h.size)
  have XE := Lib.hid yE; clear yE
  refine wp_region_below (by kernel_rfl) (by kernel_rfl) ?_
  repeat (go_big_quiet_step ((first
    | (go_at_call 81; exact After.call (FEN.out _))
    | (go_at_call 128; exact After.call (FWY.out _ (XE.out _)))
    | (go_at_call 127; exact After.call (FSM.out _ (XE.out _))))))
  refine wpQuiet_nil ?_
  rintro _ ⟨xw, rfl⟩
  clear y0 y1
  go_wp2_with fail
  go_ret
  exact ⟨rfl, hb1.trans (xw.h.mono hb1.size)⟩

end Go.Proofs.Ytjfdkhaepmmlfaa

namespace Go.Proofs.Ytjfdkhaepmmlfaa
open Go.RowKit

theorem valE_allS {B : ByteArray} {es : List (ByteArray × ByteArray)} {O : List UInt8} (h : Acy B es O) (k : Nat) : valE (ebs es) (exit_ B.data.toList) k ≤ 4294967296 := by
  by_cases hk : k < es.length
  · exact valE_few' h hk
  · have h0 : valE (ebs es) (exit_ B.data.toList) k = 0 := by unfold valE; rw [List.getElem?_eq_none (by rw [ebs_len]; omega)]
    rw [h0]; omega

set_option maxRecDepth 100000 in
set_option maxHeartbeats 1000000 in
/-- spec.l6Step -/
theorem l6Step_any (B : ByteArray) (A : Option Addr) (cap : Nat) (es : List (ByteArray × ByteArray)) (t s : ByteArray) (k : Nat) (hsk : s = ⟨#[nameOf k]⟩) (w : World) (hs : B.size ≤ maxLen) (hE : EdgesIn w w.heap.size A es) (hl : es.length ≤ 1099511627776) (ha : acycV B es = true) (ht : treeV B es t = true) (hk : k < es.length) :
    Calls Try.prog 94 #[.agg #[.string B, .slice A es.length cap], .string t, .string s] w (IntPost (stpE (valE (ebs es) (exit_ B.data.toList)) (hgtB B es t (valE (ebs es) (exit_ B.data.toList))) es k) w) := by
  subst hsk
  have hA := acy_v ha
  obtain ⟨hV, _⟩ := tree_pack ht
  have h16 := hA.F.few
  obtain ⟨e1, e2, hma, hmb, _⟩ := edK_at hV.1.2 hk
  have hT := tame_of ht (valE_allS hA)
  have h1 := hT.hgt _ hma; have h2 := hT.hgt _ hmb; have h3 := hT.val k
  have FE : Hid (∀ W : World, EdgesIn W W.heap.size A es → Calls Try.prog 98 #[.agg #[.string B, .slice A es.length cap], .string ⟨#[nameOf k]⟩] W fun e w' => e = .returned (.agg #[.string ⟨#[(edK es k).a]⟩, .string ⟨#[(edK es k).b]⟩]) ∧ Below W.heap.size W w') := Lib.hid fun W h => by
    have := l2Edge_any B A cap es ⟨#[nameOf k]⟩ k W h (by omega) hk (eIdx_name hk (by omega))
    rwa [e1, e2] at this
  have FV : Hid (∀ W : World, EdgesIn W W.heap.size A es → Calls Try.prog 63 #[.agg #[.string B, .slice A es.length cap], .string ⟨#[nameOf k]⟩] W fun e w' => e = .returned (.int .i64 ((valE (ebs es) (exit_ B.data.toList) k : Nat) : Int)) ∧ Below W.heap.size W w') := Lib.hid fun W h => l4Value_any B A cap es k W h hA hs hk
  have FG : ∀ x, x ∈ B.data.toList → ∀ W : World, EdgesIn W W.heap.size A es → Calls Try.prog 115 #[.agg #[.string B, .slice A es.length cap], .string t, .string ⟨#[x]⟩] W fun e w' => e = .returned (.int .i64 (hgtB B es t (valE (ebs es) (exit_ B.data.toList)) x)) ∧ Below W.heap.size W w' := fun x hx W h => l6Height_any B A cap es t _ x rfl W hs h hl ha ht hx
  have FGA := Lib.hid (FG _ hma); have FGB := Lib.hid (FG _ hmb)
  have HV : Hid (stpE (valE (ebs es) (exit_ B.data.toList)) (hgtB B es t (valE (ebs es) (exit_ B.data.toList))) es k = ((valE (ebs es) (exit_ B.data.toList) k : Nat) : Int) + hgtB B es t (valE (ebs es) (exit_ B.data.toList)) (edK es k).a - hgtB B es t (valE (ebs es) (exit_ B.data.toList)) (edK es k).b) := Lib.hid rfl
  obtain ⟨F, hFe⟩ : ∃ F, valE (ebs es) (exit_ B.data.toList) = F := ⟨_, rfl⟩
  rw [hFe] at FV FGA FGB HV h1 h2 h3 ⊢
  obtain ⟨G, hGe⟩ : ∃ G, hgtB B es t F = G := ⟨_, rfl⟩
  rw [hGe] at FGA FGB HV h1 h2 ⊢
  obtain ⟨ba, hba⟩ : ∃ ba : ByteArray, (⟨#[(edK es k).a]⟩ : ByteArray) = ba := ⟨_, rfl⟩
  obtain ⟨bb, hbb⟩ : ∃ bb : ByteArray, (⟨#[(edK es k).b]⟩ : ByteArray) = bb := ⟨_, rfl⟩
  obtain ⟨nm, hnm⟩ : ∃ nm : ByteArray, (⟨#[nameOf k]⟩ : ByteArray) = nm := ⟨_, rfl⟩
  obtain ⟨ga, hga'⟩ : ∃ ga, G (edK es k).a = ga := ⟨_, rfl⟩
  obtain ⟨gb, hgb'⟩ : ∃ gb, G (edK es k).b = gb := ⟨_, rfl⟩
  obtain ⟨fk, hfk'⟩ : ∃ fk : Int, ((F k : Nat) : Int) = fk := ⟨_, rfl⟩
  rw [hba, hbb] at FE
  rw [hnm] at FE FV ⊢
  rw [hba, hga'] at FGA
  rw [hbb, hgb'] at FGB
  rw [hfk'] at FV HV
  rw [hga', hgb'] at HV
  rw [hga'] at h1
  rw [hgb'] at h2
  have f0 : 0 ≤ fk := by omega
  have f1 : fk ≤ 4294967296 := by omega
  have z1 : IntKind.i64.wrap (fk + ga) = fk + ga := IntWalk.i64_in _ (by omega)
  have z2 : IntKind.i64.wrap (fk + ga - gb) = fk + ga - gb := IntWalk.i64_in _ (by omega)
  have Z1 := Lib.hid z1; have Z2 := Lib.hid z2
  have hb1 : Below w.heap.size w (w.alloc (.cells #[.string B, .slice A es.length cap] 30)) := (Below.refl _ _).alloc (Nat.le_refl _) _
  have t1 := Two.made w B A es.length cap 30
  have hz1 : (w.alloc (.cells #[.string B, .slice A es.length cap] 30)).heap.size = w.heap.size + 1 := by simp
  clear hs hl ha ht hk hA hV h16 e1 e2 hma hmb hT h3 FG hFe hGe hba hbb hnm hga' hgb' hfk' h1 h2 f0 f1 z1 z2
  go_enter Try.func94, Try.ntmps94
  go_wp2_with fail
  refine (FE.out _ ((hE.below hb1).more hb1.size)).mono ?_
  rintro e w2 ⟨rfl, hb2⟩
  have hb2' := hb1.trans (hb2.mono hb1.size)
  have t2 := t1.below hb2 (by omega)
  have hz2 : w.heap.size + 1 ≤ w2.heap.size := by have := hb2.size; omega
  clear hb2 t1 hz1
  go_wp2_with fail
  have b0 : (w2.alloc (.cells #[.string ba, .string bb] 104)).cell? ⟨w2.heap.size, 0, none⟩ = some (.string ba) := by go_simp
  have b1 : (w2.alloc (.cells #[.string ba, .string bb] 104)).cell? ⟨w2.heap.size, 1, none⟩ = some (.string bb) := by go_simp
  obtain ⟨w1, hw1⟩ : ∃ w1, w2.alloc (.cells #[.string ba, .string bb] 104) = w1 := ⟨_, rfl⟩
  have hb3 : Below w2.heap.size w2 w1 := by rw [← hw1]; exact (Below.refl _ _).alloc (Nat.le_refl _) _
  have hz3 : w1.heap.size = w2.heap.size + 1 := by rw [← hw1]; simp
  rw [hw1] at b0 b1 ⊢
  have hb3' := hb2'.trans (hb3.mono hb2'.size)
  have y0 : ∀ x : After w1, x.W.cell? ⟨w.heap.size, 0, none⟩ = some (.string B) := fun x => x.cell (by simp only; omega) ((hb3.cell (by simp only; omega)).trans t2.1)
  have y1 : ∀ x : After w1, x.W.cell? ⟨w.heap.size, 1, none⟩ = some (.slice A es.length cap) := fun x => x.cell (by simp only; omega) ((hb3.cell (by simp only; omega)).trans t2.2)
  have y2 : ∀ x : After w1, x.W.cell? ⟨w2.heap.size, 0, none⟩ = some (.string ba) := fun x => x.cell (by simp only; omega) b0
  have y3 : ∀ x : After w1, x.W.cell? ⟨w2.heap.size, 1, none⟩ = some (.string bb) := fun x => x.cell (by simp only; omega) b1
  have yE : ∀ x : After w1, EdgesIn x.W x.W.heap.size A es := fun x => ((hE.below hb3').below (x.h.mono hb3'.size)).more (Nat.le_trans hb3'.size x.h.size)
  have XE := Lib.hid yE; clear yE
  have z1 := Z1.out; have z2 := Z2.out
  clear hw1 hb3 b0 b1 t2 hz2 hz3 hb2'
  refine wp_region_below (by kernel_rfl) (by kernel_rfl) ?_
  repeat (go_big_quiet_step ((first
    | (go_at_call 63; (with_reducible exact After.call (FV.out _ (XE.out _))))
    | (go_at_call 115; (with_reducible exact After.call (FGA.out _ (XE.out _))))
    | (go_at_call 115; (with_reducible exact After.call (FGB.out _ (XE.out _)))))))
  refine wpQuiet_nil ?_
  rintro _ ⟨xw, rfl⟩
  have HFIN := Lib.hid (hb3'.trans (xw.h.mono hb3'.size))
  clear y0 y1 y2 y3 z1 z2
  go_wp2_with fail
  go_ret
  exact ⟨ret_int HV.out.symm, HFIN.out⟩

end Go.Proofs.Ytjfdkhaepmmlfaa
