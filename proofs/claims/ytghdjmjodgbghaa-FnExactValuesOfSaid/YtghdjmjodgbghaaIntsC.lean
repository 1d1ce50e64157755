/- Numbers of a call's own: marked, and held. -/
import Derived.Test.YtghdjmjodgbghaaIntsB
namespace Go.Proofs.Ytghdjmjodgbghaa
open Go.RowKit

theorem IntsIn.low {W W' : World} {B : Nat} {row : Option Nat} {A : Option Addr} {ts : List Int} (h : IntsIn W B A ts) (k : W.grownBy W' row) (hB : B ≤ W.heap.size) (hr : ∀ c, c < B → some c ≠ row) : IntsIn W' B A ts := by
  intro i hi
  obtain ⟨b, o, e, hl, h1⟩ := h i hi
  exact ⟨b, o, e, hl, (World.cell?_of_block (k.block b (by omega) (hr b hl))).trans h1⟩
theorem IntsIn.grown_low {W W' : World} {B : Nat} {row : Option Nat} {A : Option Addr} {ts : List Int} (h : IntsIn W B A ts) (k : W.grownBy W' row) (hB : B ≤ W.heap.size) (hr : ∀ a, A = some a → some a.block ≠ row) : IntsIn W' B A ts := by
  intro i hi
  obtain ⟨b, o, e, hl, h1⟩ := h i hi
  exact ⟨b, o, e, hl, (World.cell?_of_block (k.block b (by omega) (hr _ e))).trans h1⟩

/-- numbers that are a call's own: none, or a row from a block on -/
def OwnInts (W : World) (base : Nat) (A : Option Addr) (n : Nat) : Prop :=
  (n = 0 ∧ A = none) ∨ ∃ g r f, A = some ⟨g, 0, none⟩ ∧ base ≤ g ∧ g < W.heap.size ∧ n ≤ r ∧ W.rowIs g 3 r f

theorem OwnInts.grown {W W' : World} {base n : Nat} {row : Option Nat} {A : Option Addr} (h : OwnInts W base A n) (k : W.grownBy W' row) (hr : ∀ a, A = some a → some a.block ≠ row) : OwnInts W' base A n := by
  rcases h with h | ⟨g, r, f, rfl, hb, hg, hn, hrow⟩
  · exact .inl h
  · exact .inr ⟨g, r, f, rfl, hb, Nat.lt_of_lt_of_le hg k.size, hn, hrow.of_block (k.block g hg (hr _ rfl))⟩
theorem OwnInts.below {W W' : World} {base n : Nat} {A : Option Addr} (h : OwnInts W base A n) (k : Below W.heap.size W W') : OwnInts W' base A n := by
  rcases h with h | ⟨g, r, f, rfl, hb, hg, hn, hrow⟩
  · exact .inl h
  · exact .inr ⟨g, r, f, rfl, hb, Nat.lt_of_lt_of_le hg k.size, hn, hrow.of_block (k.block g hg)⟩
theorem OwnInts.ne {W : World} {base n : Nat} {A : Option Addr} (h : OwnInts W base A n) {c : Nat} (hc : c < base) : ∀ a, A = some a → some a.block ≠ some c := by
  rintro a rfl e
  rcases h with ⟨_, h⟩ | ⟨g, r, f, h, hb, _⟩
  · simp at h
  · injection h with h
    subst h
    injection e with e
    simp only at e
    omega

theorem OwnInts.mono {W : World} {base base' n : Nat} {A : Option Addr} (h : OwnInts W base A n) (hb : base' ≤ base) : OwnInts W base' A n := by
  rcases h with h | ⟨g, r, f, e, hg, rest⟩
  · exact .inl h
  · exact .inr ⟨g, r, f, e, by omega, rest⟩

theorem OwnInts.row {W : World} {base n : Nat} {A : Option Addr} (h : OwnInts W base A n) {c : Nat} (hc : c < base) : rowOf A ≠ some c := by
  rcases h with ⟨_, rfl⟩ | ⟨g, r, f, rfl, hb, _⟩
  · intro e; cases e
  · intro e; simp [rowOf] at e; omega
theorem below_after_ints {w W W' : World} {base n : Nat} {A : Option Addr} (h : Below w.heap.size w W) (ho : OwnInts W base A n) (hb : w.heap.size ≤ base) (k : W.grownBy W' (rowOf A)) : Below w.heap.size w W' := by
  refine ⟨k.os.trans h.os, k.tape.trans h.tape, k.output.trans h.output, Nat.le_trans h.size k.size, fun i hi => (k.block i (Nat.lt_of_lt_of_le hi h.size) ?_).trans (h.block i hi)⟩
  exact fun e => ho.row (c := i) (by omega) e.symm

/-- the numbers as they are marked from a number on -/
def markedI (m : Nat) : Nat → List Int
  | 0 => []
  | n + 1 => markedI m n ++ [((m + n : Nat) : Int)]
theorem markedI_length (m n : Nat) : (markedI m n).length = n := by
  induction n with
  | zero => rfl
  | succ n ih => simp [markedI, ih]
theorem markedI_at (m : Nat) {n i : Nat} (h : i < n) : (markedI m n)[i]'(by rw [markedI_length]; exact h) = ((m + i : Nat) : Int) := by
  induction n with
  | zero => omega
  | succ n ih =>
    by_cases hi : i < n
    · simp only [markedI]
      rw [List.getElem_append_left (by rw [markedI_length]; exact hi)]
      exact ih hi
    · have : i = n := by omega
      subst this
      simp [markedI, List.getElem_append_right, markedI_length]

set_option maxRecDepth 100000 in
set_option maxHeartbeats 2000000 in
/-- laws.markIntS, over a row of numbers of its own -/
theorem markIntS_row (g n cap m r : Nat) (f : Nat → Value) (w : World) (hr : w.rowIs g 3 r f) (hnr : n ≤ r) (hn : n ≤ 2097152) (h2 : m ≤ 1048576) (hg : g < w.heap.size) :
    Calls Try.prog 24 #[.slice (some ⟨g, 0, none⟩) n cap, .int .i64 m] w fun e w' => e = .returned (.int .i64 (m + n : Nat)) ∧ IntsIn w' w'.heap.size (some ⟨g, 0, none⟩) (markedI m n) ∧ w.grownBy w' (some g) := by
  have HG := Lib.hid hg
  go_enter Try.func24, Try.ntmps24
  go_wp2_with fail
  go_loopw [1, 5] (fun a i wr => ∃ k q : Nat, k ≤ n ∧ q = m + k ∧ a = .int .i64 q ∧ i = .int .i64 k ∧ w.grownBy wr (some g) ∧ (∃ f, wr.rowIs g 3 r f) ∧
    ∀ i, i < k → wr.cell? ⟨g, i, none⟩ = some (.int .i64 ((m + i : Nat) : Int))) (fun _ i _ => n - (intOf i).toNat)
  case atStart => exact ⟨0, m, Nat.zero_le _, rfl, rfl, rfl, World.grownBy.refl w _, ⟨f, hr⟩, fun i hi => absurd hi (by omega)⟩
  case round =>
    obtain ⟨k, q, hk, hq, rfl, rfl, hgb, ⟨f1, hrow⟩, hcs⟩ := hrel
    have HR := Lib.hid hrow; have HCS := Lib.hid hcs; have HQ := Lib.hid hq; have HGB := Lib.hid hgb
    have hqb : q ≤ 1099511627770 := by omega
    have hz := hgb.size
    clear hrow hcs hq hgb
    by_cases hlt : k < n
    · have hst1 := HR.out.cell (i := k) (by omega); have hsf1 := HR.out.frozen k
      go_wp2_with fail
      have hgb3 := only_setCell_at (i := k) (u := .int .i64 (q : Int)) HGB.out
      have HGB3 := Lib.hid hgb3
      have HO3 : Hid (∀ i, i < k + 1 → (wr.setCell ⟨g, k, none⟩ (.int .i64 (q : Int))).cell? ⟨g, i, none⟩ = some (.int .i64 ((m + i : Nat) : Int))) := Lib.hid fun i hi => by
        by_cases hik : i < k
        · exact (World.cell?_setCell_other _ _ _ _ (by intro e; injection e with _ e; omega)).trans (HCS.out i hik)
        · have hik' : i = k := by omega
          subst hik'
          rw [← HQ.out]
          exact World.cell?_setCell_same' _ _ _ (by rw [hst1]; rfl)
      clear hst1 hsf1 hgb3
      go_roundw
      case rel => exact ⟨k + 1, q + 1, by omega, by have := HQ.out; omega, by go_num, by go_num, HGB3.out, ⟨_, HR.out.set _ _⟩, HO3.out⟩
      case measure => simp [intOf]; omega
    · go_wp2_with fail
      go_ret
      have hkn : k = n := by omega
      subst hkn
      refine ⟨ret_int (by rw [← HQ.out]), fun i hi => ?_, HGB.out⟩
      have hi' : i < k := by rw [markedI_length] at hi; exact hi
      have hz' := HGB.out.size
      rw [markedI_at m hi']
      exact ⟨g, 0, rfl, by omega, by rw [Nat.zero_add]; exact HCS.out i hi'⟩

/-- laws.markIntS, over no number -/
theorem markIntS_none (A : Option Addr) (cap m : Nat) (w : World) (_ : m ≤ 1048576) :
    Calls Try.prog 24 #[.slice A 0 cap, .int .i64 m] w fun e w' => e = .returned (.int .i64 m) ∧ Below w.heap.size w w' := by
  go_enter Try.func24, Try.ntmps24
  go_wp2_with fail
  go_loopw [1, 5] (fun a i wr => a = .int .i64 m ∧ i = .int .i64 0 ∧ Below w.heap.size w wr) (fun _ _ _ => 0)
  case atStart => exact ⟨rfl, rfl, Below.refl _ _⟩
  case round =>
    obtain ⟨rfl, rfl, hb⟩ := hrel
    go_wp2_with fail
    go_ret
    exact ⟨rfl, hb⟩

/-- laws.markIntS, of a call's own numbers -/
theorem markIntS_own (A : Option Addr) (n cap m base : Nat) (w : World) (ho : OwnInts w base A n) (hn : n ≤ 2097152) (_ : 1 ≤ m) (h2 : m ≤ 1048576) :
    Calls Try.prog 24 #[.slice A n cap, .int .i64 m] w fun e w' => e = .returned (.int .i64 (m + n : Nat)) ∧ IntsIn w' w'.heap.size A (markedI m n) ∧ w.grownBy w' (rowOf A) := by
  rcases ho with ⟨rfl, rfl⟩ | ⟨g, r, f, rfl, hb, hg, hnr, hrow⟩
  · refine (markIntS_none none cap m w h2).mono ?_
    rintro e w' ⟨rfl, hb⟩
    exact ⟨rfl, fun i hi => absurd hi (by simp [markedI]), ⟨hb.os, hb.tape, hb.output, hb.size, fun i hi _ => hb.block i hi⟩⟩
  · exact markIntS_row g n cap m r f w hrow hnr hn h2 hg

set_option maxRecDepth 100000 in
set_option maxHeartbeats 2000000 in
/-- laws.heldIntS, over numbers that are marked -/
theorem heldIntS_any (A : Option Addr) (n cap m : Nat) (w : World) (hE : IntsIn w w.heap.size A (markedI m n)) (hn : n ≤ 2097152) (_ : 1 ≤ m) (h2 : m ≤ 1048576) :
    Calls Try.prog 25 #[.slice A n cap, .int .i64 m] w fun e w' => e = .returned (.int .i64 (m + n : Nat)) ∧ Below w.heap.size w w' := by
  go_enter Try.func25, Try.ntmps25
  go_wp2_with fail
  go_loopw [1, 5] (fun a i wr => ∃ k q : Nat, k ≤ n ∧ q = m + k ∧ a = .int .i64 q ∧ i = .int .i64 k ∧ Below w.heap.size w wr) (fun _ i _ => n - (intOf i).toNat)
  case atStart => exact ⟨0, m, Nat.zero_le _, rfl, rfl, rfl, Below.refl _ _⟩
  case round =>
    obtain ⟨k, q, hk, hq, rfl, rfl, hb⟩ := hrel
    have HQ := Lib.hid hq; have HB := Lib.hid hb
    have hqb : q ≤ 1099511627770 := by omega
    by_cases hlt : k < n
    · obtain ⟨eb, eo, rfl, hlow, c1⟩ := (hE.below hb) k (by rw [markedI_length]; exact hlt)
      rw [markedI_at m hlt, ← hq] at c1
      have q1 : ((q : Int) != (q : Int)) = false := by simp
      clear hq hb
      go_wp2_with fail
      go_roundw
      case rel => exact ⟨k + 1, q + 1, by omega, by have := HQ.out; omega, by go_num, by go_num, HB.out⟩
      case measure => simp [intOf]; omega
    · go_wp2_with fail
      go_ret
      have hkn : k = n := by omega
      subst hkn
      exact ⟨ret_int (by rw [← HQ.out]), hb⟩

/-- a row of the call's own, as numbers -/
theorem own_ints {w : World} {base : Nat} {v : Value} {ts : List Int} (h : w.ownsRow base 3 1 v ts.length (ts.map (Value.int .i64))) :
    ∃ A cap, v = .slice A ts.length cap ∧ IntsIn w w.heap.size A ts ∧ OwnInts w base A ts.length := by
  rcases h.2 with ⟨rfl, h0⟩ | ⟨g, cap, cur, rfl, hb, hg, hn, hc, hs, htake⟩
  · exact ⟨none, 0, by rw [h0], fun k hk => absurd hk (by omega), .inl ⟨h0, rfl⟩⟩
  · have hlt : g < w.heap.size := (Array.getElem?_eq_some_iff.1 hg).1
    refine ⟨_, cap, rfl, fun k hk => ⟨g, 0, rfl, hlt, ?_⟩, .inr ⟨g, cur.size, fun i => cur.getD i (.bool true), rfl, hb, hlt, by omega, cur, hg, rfl, fun i hi => by simp [hi]⟩⟩
    have := h.cells (g := g) rfl k (.int .i64 ts[k]) (by simp [hk])
    have e : ((⟨g, 0, none⟩ : Addr).add k) = ⟨g, k, none⟩ := by unfold Addr.add; split <;> simp_all
    rw [e] at this
    rwa [Nat.zero_add]

theorem ownI_ne {W : World} {base n : Nat} {T : TypeId} {z : Nat} {v : Value} {xs : List Value} (h : W.ownsRow base T z v n xs) {c : Nat} (hc : c < base) : some c ≠ v.ownBlock := by
  rcases h.2 with ⟨rfl, _⟩ | ⟨g, cap, cur, rfl, hb, _⟩
  · intro e; cases e
  · intro e
    have e' : some c = some g := e
    injection e' with e'; omega

/-- what is handed back: numbers, and whether there are any -/
def ValsPost (q : List Int × Bool) (w : World) (e : Ending) (w' : World) : Prop :=
  ∃ A cap, e = .returned (.tuple #[.slice A q.1.length cap, .bool q.2]) ∧ IntsIn w' w'.heap.size A q.1 ∧ Below w.heap.size w w' ∧ OwnInts w' w.heap.size A q.1.length

end Go.Proofs.Ytghdjmjodgbghaa
