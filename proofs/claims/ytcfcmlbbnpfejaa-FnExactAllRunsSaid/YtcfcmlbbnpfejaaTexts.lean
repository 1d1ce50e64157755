/- A slice of texts: the same texts, marks written over them, marks read. -/
import Derived.Test.YtcfcmlbbnpfejaaMarkNet
import Derived.Test.YtcfcmlbbnpfejaaNetRes
import Derived.Test.YtcfcmlbbnpfejaaGraph
import Derived.Deep.RegionHeld3
import Derived.Laws.OwnMore
namespace Go.Proofs.Ytcfcmlbbnpfejaa
open Go.RowKit

/-- texts that lie below a block, whatever their number -/
def TextsIn (w : World) (B : Nat) (A : Option Addr) (ts : List ByteArray) : Prop :=
  ∀ k, (h : k < ts.length) → ∃ b, A = some ⟨b, 0, none⟩ ∧ b < B ∧ w.cell? ⟨b, k, none⟩ = some (.string ts[k])

theorem TextsIn.below {w w' : World} {B : Nat} {A : Option Addr} {ts : List ByteArray} (h : TextsIn w B A ts) (hb : Below B w w') : TextsIn w' B A ts := by
  intro k hk
  obtain ⟨b, e, hl, h1⟩ := h k hk
  exact ⟨b, e, hl, (hb.cell hl).trans h1⟩
theorem TextsIn.more {w : World} {B B' : Nat} {A : Option Addr} {ts : List ByteArray} (h : TextsIn w B A ts) (hb : B ≤ B') : TextsIn w B' A ts := by
  intro k hk
  obtain ⟨b, e, hl, h1⟩ := h k hk
  exact ⟨b, e, by omega, h1⟩
theorem TextsIn.grown_low {W W' : World} {B : Nat} {row : Option Nat} {A : Option Addr} {ts : List ByteArray} (h : TextsIn W B A ts) (k : W.grownBy W' row) (hB : B ≤ W.heap.size) (hr : ∀ a, A = some a → some a.block ≠ row) : TextsIn W' B A ts := by
  intro i hi
  obtain ⟨b, e, hl, h1⟩ := h i hi
  exact ⟨b, e, hl, (World.cell?_of_block (k.block b (by omega) (hr _ e))).trans h1⟩

/-- texts that are a call's own: none, or a row from a block on -/
def OwnTexts (W : World) (base : Nat) (A : Option Addr) (n : Nat) : Prop :=
  (n = 0 ∧ A = none) ∨ ∃ g r f, A = some ⟨g, 0, none⟩ ∧ base ≤ g ∧ g < W.heap.size ∧ n ≤ r ∧ W.rowIs g 9 r f

theorem OwnTexts.grown {W W' : World} {base n : Nat} {row : Option Nat} {A : Option Addr} (h : OwnTexts W base A n) (k : W.grownBy W' row) (hr : ∀ a, A = some a → some a.block ≠ row) : OwnTexts W' base A n := by
  rcases h with h | ⟨g, r, f, rfl, hb, hg, hn, hrow⟩
  · exact .inl h
  · exact .inr ⟨g, r, f, rfl, hb, Nat.lt_of_lt_of_le hg k.size, hn, hrow.of_block (k.block g hg (hr _ rfl))⟩
theorem OwnTexts.below {W W' : World} {base n : Nat} {A : Option Addr} (h : OwnTexts W base A n) (k : Below W.heap.size W W') : OwnTexts W' base A n := by
  rcases h with h | ⟨g, r, f, rfl, hb, hg, hn, hrow⟩
  · exact .inl h
  · exact .inr ⟨g, r, f, rfl, hb, Nat.lt_of_lt_of_le hg k.size, hn, hrow.of_block (k.block g hg)⟩
theorem OwnTexts.ne {W : World} {base n : Nat} {A : Option Addr} (h : OwnTexts W base A n) {c : Nat} (hc : c < base) : ∀ a, A = some a → some a.block ≠ some c := by
  rintro a rfl e
  rcases h with ⟨_, h⟩ | ⟨g, r, f, h, hb, _⟩
  · simp at h
  · injection h with h
    subst h
    injection e with e
    simp only at e
    omega

theorem OwnTexts.mono {W : World} {base base' n : Nat} {A : Option Addr} (h : OwnTexts W base A n) (hb : base' ≤ base) : OwnTexts W base' A n := by
  rcases h with h | ⟨g, r, f, e, hg, rest⟩
  · exact .inl h
  · exact .inr ⟨g, r, f, e, by omega, rest⟩

theorem OwnTexts.row {W : World} {base n : Nat} {A : Option Addr} (h : OwnTexts W base A n) {c : Nat} (hc : c < base) : rowOf A ≠ some c := by
  rcases h with ⟨_, rfl⟩ | ⟨g, r, f, rfl, hb, _⟩
  · intro e; cases e
  · intro e; simp [rowOf] at e; omega
theorem below_after_texts {w W W' : World} {base n : Nat} {A : Option Addr} (h : Below w.heap.size w W) (ho : OwnTexts W base A n) (hb : w.heap.size ≤ base) (k : W.grownBy W' (rowOf A)) : Below w.heap.size w W' := by
  refine ⟨k.os.trans h.os, k.tape.trans h.tape, k.output.trans h.output, Nat.le_trans h.size k.size, fun i hi => (k.block i (Nat.lt_of_lt_of_le hi h.size) ?_).trans (h.block i hi)⟩
  exact fun e => ho.row (c := i) (by omega) e.symm
/-- texts below a block, behind a write to a row that lies higher -/
theorem TextsIn.low {W W' : World} {B : Nat} {row : Option Nat} {A : Option Addr} {ts : List ByteArray} (h : TextsIn W B A ts) (k : W.grownBy W' row) (hB : B ≤ W.heap.size) (hr : ∀ c, c < B → some c ≠ row) : TextsIn W' B A ts := by
  intro i hi
  obtain ⟨b, e, hl, h1⟩ := h i hi
  exact ⟨b, e, hl, (World.cell?_of_block (k.block b (by omega) (hr b hl))).trans h1⟩

/-- a row of the call's own, as texts -/
theorem own_texts {w : World} {base : Nat} {v : Value} {ts : List ByteArray} (h : w.ownsRow base 9 1 v ts.length (ts.map Value.string)) :
    ∃ A cap, v = .slice A ts.length cap ∧ TextsIn w w.heap.size A ts ∧ OwnTexts w base A ts.length := by
  rcases h.2 with ⟨rfl, h0⟩ | ⟨g, cap, cur, rfl, hb, hg, hn, hc, hs, htake⟩
  · exact ⟨none, 0, by rw [h0], fun k hk => absurd hk (by omega), .inl ⟨h0, rfl⟩⟩
  · have hlt : g < w.heap.size := (Array.getElem?_eq_some_iff.1 hg).1
    refine ⟨_, cap, rfl, fun k hk => ⟨g, rfl, hlt, ?_⟩, .inr ⟨g, cur.size, fun i => cur.getD i (.bool true), rfl, hb, hlt, by omega, cur, hg, rfl, fun i hi => by simp [hi]⟩⟩
    have := h.cells (g := g) rfl k (.string ts[k]) (by simp [hk])
    have e : ((⟨g, 0, none⟩ : Addr).add k) = ⟨g, k, none⟩ := by unfold Addr.add; split <;> simp_all
    rwa [e] at this

set_option maxRecDepth 100000 in
set_option maxHeartbeats 2000000 in
/-- laws.eqStringS, at the same texts -/
theorem eqStringS_t (A A' : Option Addr) (cap cap' : Nat) (ts : List ByteArray) (w : World) (hE : TextsIn w w.heap.size A ts) (hE' : TextsIn w w.heap.size A' ts) (hl : ts.length ≤ 1099511627776) :
    Calls Try.prog 53 #[.slice A ts.length cap, .slice A' ts.length cap'] w fun e w' => e = .returned (.bool true) ∧ Below w.heap.size w w' := by
  have q0 : ((ts.length : Int) != ts.length) = false := by simp
  go_enter Try.func53, Try.ntmps53
  go_wp2_with fail
  go_loopw [5] (fun i wr => ∃ k : Nat, k ≤ ts.length ∧ i = .int .i64 k ∧ Below w.heap.size w wr) (fun i _ => ts.length - (intOf i).toNat)
  case atStart => exact ⟨0, Nat.zero_le _, rfl, Below.refl _ _⟩
  case round =>
    obtain ⟨k, hk, rfl, hb⟩ := hrel
    by_cases hlt : k < ts.length
    · obtain ⟨b1, rfl, hlow1, h1⟩ := (hE.below hb) k hlt
      obtain ⟨b2, rfl, hlow2, h2⟩ := (hE'.below hb) k hlt
      have q1 : (ts[k].toList != ts[k].toList) = false := by simp
      go_wp2_with fail
      go_region_held3 (fun W => W.cell? ⟨b1, k, none⟩ = some (.string ts[k]) ∧ W.cell? ⟨b2, k, none⟩ = some (.string ts[k]))
        (exact ⟨h1, h2⟩)
        (fail)
      go_wp2_with fail
      go_roundw
      case rel => exact ⟨k + 1, by omega, by go_num, hb.drew⟩
      case measure => simp [intOf]; omega
    · go_wp2_with fail
      go_ret
      exact ⟨rfl, hb⟩

/-- the texts as they are marked from a number on -/
def markedT (m : Nat) : Nat → List ByteArray
  | 0 => []
  | n + 1 => markedT m n ++ [mark (m + n)]
theorem markedT_length (m n : Nat) : (markedT m n).length = n := by
  induction n with
  | zero => rfl
  | succ n ih => simp [markedT, ih]
theorem markedT_at (m : Nat) {n i : Nat} (h : i < n) : (markedT m n)[i]'(by rw [markedT_length]; exact h) = mark (m + i) := by
  induction n with
  | zero => omega
  | succ n ih =>
    by_cases hi : i < n
    · simp only [markedT]
      rw [List.getElem_append_left (by rw [markedT_length]; exact hi)]
      exact ih hi
    · have : i = n := by omega
      subst this
      simp [markedT, List.getElem_append_right, markedT_length]

set_option maxRecDepth 100000 in
set_option maxHeartbeats 2000000 in
/-- laws.markStringS, over a row of texts of its own -/
theorem markStringS_row (g n cap m r : Nat) (f : Nat → Value) (w : World) (hr : w.rowIs g 9 r f) (hnr : n ≤ r) (hn : n ≤ 2097152) (h1 : 1 ≤ m) (h2 : m ≤ 1048576) (hg : g < w.heap.size) :
    Calls Try.prog 56 #[.slice (some ⟨g, 0, none⟩) n cap, .int .i64 m] w fun e w' => e = .returned (.int .i64 (m + n : Nat)) ∧ TextsIn w' w'.heap.size (some ⟨g, 0, none⟩) (markedT m n) ∧ w.grownBy w' (some g) := by
  have HG := Lib.hid hg
  go_enter Try.func56, Try.ntmps56
  go_wp2_with fail
  go_loopw [1, 5] (fun a i wr => ∃ k q : Nat, k ≤ n ∧ q = m + k ∧ a = .int .i64 q ∧ i = .int .i64 k ∧ w.grownBy wr (some g) ∧ (∃ f, wr.rowIs g 9 r f) ∧
    ∀ i, i < k → wr.cell? ⟨g, i, none⟩ = some (.string (mark (m + i)))) (fun _ i _ => n - (intOf i).toNat)
  case atStart => exact ⟨0, m, Nat.zero_le _, rfl, rfl, rfl, World.grownBy.refl w _, ⟨f, hr⟩, fun i hi => absurd hi (by omega)⟩
  case round =>
    obtain ⟨k, q, hk, hq, rfl, rfl, hgb, ⟨f1, hrow⟩, hcs⟩ := hrel
    have HR := Lib.hid hrow; have HCS := Lib.hid hcs; have HQ := Lib.hid hq; have HGB := Lib.hid hgb
    have hqb : q ≤ 1099511627770 := by omega
    have hq1 : 1 ≤ q := by omega
    have hz := hgb.size
    clear hrow hcs hq hgb
    by_cases hlt : k < n
    · go_wp2_with fail
      refine (markText_any q hq1 (by omega) _).mono ?_
      rintro e w3 ⟨rfl, hb3⟩
      have hr3 := HR.out.of_block (hb3.block g (by omega))
      have hst1 := hr3.cell (i := k) (by omega); have hsf1 := hr3.frozen k
      have HR3 := Lib.hid hr3; clear hr3
      have hz3 := hb3.size
      go_wp2_with fail
      have hgb3 := only_setCell_at (i := k) (u := .string (mark q)) (grown_below HGB.out hb3)
      have HGB3 := Lib.hid hgb3
      have HO3 : Hid (∀ i, i < k + 1 → (w3.setCell ⟨g, k, none⟩ (.string (mark q))).cell? ⟨g, i, none⟩ = some (.string (mark (m + i)))) := Lib.hid fun i hi => by
        by_cases hik : i < k
        · exact (World.cell?_setCell_other _ _ _ _ (by intro e; injection e with _ e; omega)).trans ((hb3.cell (by simp only; omega)).trans (HCS.out i hik))
        · have hik' : i = k := by omega
          subst hik'
          rw [← HQ.out]
          exact World.cell?_setCell_same' _ _ _ (by rw [hst1]; rfl)
      clear hst1 hsf1 hgb3
      go_roundw
      case rel => exact ⟨k + 1, q + 1, by omega, by have := HQ.out; omega, by go_num, by go_num, HGB3.out, ⟨_, HR3.out.set _ _⟩, HO3.out⟩
      case measure => simp [intOf]; omega
    · go_wp2_with fail
      go_ret
      have hkn : k = n := by omega
      subst hkn
      refine ⟨ret_int (by rw [← HQ.out]), fun i hi => ?_, HGB.out⟩
      have hi' : i < k := by rw [markedT_length] at hi; exact hi
      have hz' := HGB.out.size
      rw [markedT_at m hi']
      exact ⟨g, rfl, by omega, HCS.out i hi'⟩

/-- laws.markStringS, over no text -/
theorem markStringS_none (A : Option Addr) (cap m : Nat) (w : World) (_ : 1 ≤ m) (_ : m ≤ 1048576) :
    Calls Try.prog 56 #[.slice A 0 cap, .int .i64 m] w fun e w' => e = .returned (.int .i64 m) ∧ Below w.heap.size w w' := by
  go_enter Try.func56, Try.ntmps56
  go_wp2_with fail
  go_loopw [1, 5] (fun a i wr => a = .int .i64 m ∧ i = .int .i64 0 ∧ Below w.heap.size w wr) (fun _ _ _ => 0)
  case atStart => exact ⟨rfl, rfl, Below.refl _ _⟩
  case round =>
    obtain ⟨rfl, rfl, hb⟩ := hrel
    go_wp2_with fail
    go_ret
    exact ⟨rfl, hb⟩

/-- laws.markStringS, of a call's own texts -/
theorem markStringS_own (A : Option Addr) (n cap m base : Nat) (w : World) (ho : OwnTexts w base A n) (hn : n ≤ 2097152) (h1 : 1 ≤ m) (h2 : m ≤ 1048576) :
    Calls Try.prog 56 #[.slice A n cap, .int .i64 m] w fun e w' => e = .returned (.int .i64 (m + n : Nat)) ∧ TextsIn w' w'.heap.size A (markedT m n) ∧ w.grownBy w' (rowOf A) := by
  rcases ho with ⟨rfl, rfl⟩ | ⟨g, r, f, rfl, hb, hg, hnr, hrow⟩
  · refine (markStringS_none none cap m w h1 h2).mono ?_
    rintro e w' ⟨rfl, hb⟩
    exact ⟨rfl, fun i hi => absurd hi (by simp [markedT]), ⟨hb.os, hb.tape, hb.output, hb.size, fun i hi _ => hb.block i hi⟩⟩
  · exact markStringS_row g n cap m r f w hrow hnr hn h1 h2 hg

set_option maxRecDepth 100000 in
set_option maxHeartbeats 2000000 in
/-- laws.heldStringS, over texts that are marked -/
theorem heldStringS_any (A : Option Addr) (n cap m : Nat) (w : World) (hE : TextsIn w w.heap.size A (markedT m n)) (hn : n ≤ 2097152) (h1 : 1 ≤ m) (h2 : m ≤ 1048576) :
    Calls Try.prog 57 #[.slice A n cap, .int .i64 m] w fun e w' => e = .returned (.int .i64 (m + n : Nat)) ∧ Below w.heap.size w w' := by
  go_enter Try.func57, Try.ntmps57
  go_wp2_with fail
  go_loopw [1, 5] (fun a i wr => ∃ k q : Nat, k ≤ n ∧ q = m + k ∧ a = .int .i64 q ∧ i = .int .i64 k ∧ Below w.heap.size w wr) (fun _ i _ => n - (intOf i).toNat)
  case atStart => exact ⟨0, m, Nat.zero_le _, rfl, rfl, rfl, Below.refl _ _⟩
  case round =>
    obtain ⟨k, q, hk, hq, rfl, rfl, hb⟩ := hrel
    have HQ := Lib.hid hq; have HB := Lib.hid hb
    have hqb : q ≤ 1099511627770 := by omega
    have hq1 : 1 ≤ q := by omega
    have hz := hb.size
    by_cases hlt : k < n
    · obtain ⟨eb, rfl, hlow, c1⟩ := (hE.below hb) k (by rw [markedT_length]; exact hlt)
      rw [markedT_at m hlt] at c1
      simp only [← hq] at c1
      clear hq hb
      have t1 : ((mark q).toList != (mark q).toList) = false := by simp
      have hS : ∀ W, Below wr.heap.size wr W → (W.cell? ⟨eb, k, none⟩ = some (.string (mark q)) ∧ Below wr.heap.size wr W) :=
        fun W h => ⟨(h.cell (by simp only; omega)).trans c1, h⟩
      have HSS := Lib.hid hS
      clear hS
      go_wp2_with fail
      go_region_held3 (fun W => W.cell? ⟨eb, k, none⟩ = some (.string (mark q)) ∧ Below wr.heap.size wr W)
        (first | exact HSS.out _ (Below.refl _ _).drew | exact HSS.out _ ((Below.refl _ _).drew.trans hb3))
        (first | (go_at_call 114; refine (markText_any q hq1 (by omega) _).mono ?_; rintro e w3 ⟨rfl, hb3⟩))
      rename_i hHeld
      have HB3 := Lib.hid (HB.out.trans (hHeld.2.mono hz))
      clear hHeld hb3 c1 HSS
      go_wp2_with fail
      go_roundw
      case rel => exact ⟨k + 1, q + 1, by omega, by have := HQ.out; omega, by go_num, by go_num, HB3.out⟩
      case measure => simp [intOf]; omega
    · go_wp2_with fail
      go_ret
      have hkn : k = n := by omega
      subst hkn
      exact ⟨ret_int (by rw [← HQ.out]), HB.out⟩

theorem textCell : (Try.prog.info? 9).map (fun i => (i.zero, i.size, i.bytes)) = some (some (.string ⟨#[]⟩), 1, 16) := by kernel_rfl

/-- what holds while texts are gathered -/
structure SeaV (w : World) (B : ByteArray) (A : Option Addr) (n cap : Nat) (v : Value) (xs : List Value) (wr : World) : Prop where
  below : Below w.heap.size w wr
  two : Two wr w.heap.size B A n cap
  own : wr.ownsRow (w.heap.size + 1) 9 1 v xs.length xs
  size : w.heap.size + 1 ≤ wr.heap.size
theorem SeaV.go {w wr W : World} {B : ByteArray} {A : Option Addr} {n cap : Nat} {v : Value} {xs : List Value} (h : SeaV w B A n cap v xs wr) (k : Below wr.heap.size wr W) : SeaV w B A n cap v xs W :=
  ⟨h.below.trans (k.mono h.below.size), h.two.below k (by have := h.size; omega), ownsRow_of_block h.own fun b hb => k.block b (ownBlock_lt h.own hb).2, Nat.le_trans h.size k.size⟩
theorem ownV_ne {W : World} {base n : Nat} {T : TypeId} {z : Nat} {v : Value} {xs : List Value} (h : W.ownsRow base T z v n xs) {c : Nat} (hc : c < base) : some c ≠ v.ownBlock := by
  rcases h.2 with ⟨rfl, _⟩ | ⟨g, cap, cur, rfl, hb, _⟩
  · intro e; cases e
  · intro e
    have e' : some c = some g := e
    injection e' with e'; omega
theorem SeaV.push {w wr W : World} {B : ByteArray} {A : Option Addr} {n cap : Nat} {v v' : Value} {xs xs' : List Value} (h : SeaV w B A n cap v xs wr) (k : wr.grownBy W v.ownBlock) (hq : W.ownsRow (w.heap.size + 1) 9 1 v' xs'.length xs') : SeaV w B A n cap v' xs' W := by
  have hn : ∀ c, c < w.heap.size + 1 → some c ≠ v.ownBlock := fun c hc => ownV_ne h.own hc
  exact ⟨h.below.grown k h.below.size (fun q e => Nat.le_of_not_lt fun hq => hn q (by omega) e.symm), h.two.grown k (by have := h.size; omega) (hn _ (by omega)), hq, Nat.le_trans h.size k.size⟩

/-- what is handed back: a row of texts of the call's own -/
def RowPost (ts : List ByteArray) (w : World) (e : Ending) (w' : World) : Prop :=
  ∃ A cap, e = .returned (.slice A ts.length cap) ∧ TextsIn w' w'.heap.size A ts ∧ Below w.heap.size w w' ∧ OwnTexts w' w.heap.size A ts.length

theorem one_new (w : World) (u : Value) : ∀ j x, [u][j]? = some x → (w.alloc (.cells #[u] 9)).cell? ((⟨w.heap.size, 0, none⟩ : Addr).add j) = some x := by
  intro j x hj
  match j, hj with
  | 0, hj => simp at hj; subst hj; simp [Addr.add]
  | j + 1, hj => simp at hj

/-- what is handed back -/
def CutPost (q : List ByteArray × Bool) (w : World) (e : Ending) (w' : World) : Prop :=
  ∃ A cap, e = .returned (.tuple #[.slice A q.1.length cap, .bool q.2]) ∧ TextsIn w' w'.heap.size A q.1 ∧ Below w.heap.size w w' ∧ OwnTexts w' w.heap.size A q.1.length
/-- no text, and a row of the call's own for it -/
theorem no_texts (w w2 : World) (hb : Below w.heap.size w w2) (e : Ending) (he : e = .returned (.tuple #[.slice (some ⟨w2.heap.size, 0, none⟩) 0 0, .bool false])) : CutPost ([], false) w e (w2.alloc (.cells #[] 9)) := by
  subst he
  have hb3 : Below w.heap.size w (w2.alloc (.cells #[] 9)) := hb.alloc hb.size _
  refine ⟨some ⟨w2.heap.size, 0, none⟩, 0, rfl, fun k hk => absurd hk (by simp), hb3, .inr ⟨w2.heap.size, 0, fun _ => .bool true, rfl, hb.size, by simp, Nat.le_refl _, ?_⟩⟩
  exact World.rowIs_alloc w2 #[] 9 _ (fun i hi => absurd hi (by simp))

end Go.Proofs.Ytcfcmlbbnpfejaa
