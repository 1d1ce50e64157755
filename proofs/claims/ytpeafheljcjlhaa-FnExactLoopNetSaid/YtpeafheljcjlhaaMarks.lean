/- Marks, written over a net of its own. -/
import Derived.Test.YtpeafheljcjlhaaEq
import Derived.Test.YtpeafheljcjlhaaTurn
import Derived.Lib.SmallJoins
import Derived.Deep.RegionHeld3
namespace Go.Proofs.Ytpeafheljcjlhaa
open Go.RowKit

/-- a text of one byte, out of a new row -/
theorem run_one (c : UInt8) (v : Int) (h : v = (c.toNat : Int)) (w : World) : (convert 51 9 (.slice (some ⟨w.heap.size, 0, none⟩) 1 1)).run Try.prog (w.alloc (.cells #[.int .u8 v] 5)) = .ok (.string ⟨#[c]⟩) (w.alloc (.cells #[.int .u8 v] 5)) := by
  have h := run_convert_bytes_back (P := Try.prog) (w.alloc (.cells #[.int .u8 v] 5)) 51 9 5 ⟨w.heap.size, 0, none⟩ 1 [c] Try.underlying51 Try.underlying5 Try.underlying9 (fun j hj => by
    have hj0 : j = 0 := by simpa using hj
    subst hj0
    simp [Addr.add, h])
  simpa using h

/-- the last digit of a number -/
def digitOf (k : Nat) : UInt8 := (48 + k % 10).toUInt8
theorem digitOf_toNat (k : Nat) : (digitOf k).toNat = 48 + k % 10 := by
  simp [digitOf, Nat.toUInt8]; omega

/-- the digits of a number ahead of what is there -/
def decs : Nat → Nat → List UInt8 → List UInt8
  | 0, _, acc => acc
  | f + 1, k, acc => if k = 0 then acc else decs f (k / 10) (digitOf k :: acc)
theorem decs_zero (f : Nat) (acc : List UInt8) : decs f 0 acc = acc := by cases f <;> simp [decs]
theorem decs_succ {f k : Nat} (h : 0 < k) (acc : List UInt8) : decs (f + 1) k acc = decs f (k / 10) (digitOf k :: acc) := by
  simp [decs]; omega

/-- the mark of a number -/
def mark (k : Nat) : ByteArray := ⟨#[109]⟩ ++ ⟨(decs k k []).toArray⟩

set_option maxRecDepth 100000 in
set_option maxHeartbeats 1000000 in
/-- laws.markText -/
theorem markText_any (k : Nat) (h1 : 1 ≤ k) (h2 : k ≤ 1099511627776) (w : World) :
    Calls Try.prog 44 #[.int .i64 k] w fun e w' => e = .returned (.string (mark k)) ∧ Below w.heap.size w w' := by
  have hk0 : ¬ ((k : Int) ≤ 0) := by omega
  go_enter Try.func44, Try.ntmps44
  go_wp2_with fail
  go_loopw [0, 3] (fun i out wr => ∃ (j f : Nat) (s : ByteArray), i = .int .i64 j ∧ out = .string s ∧ j ≤ f ∧ decs f j s.data.toList = decs k k [] ∧ s.size + f = k ∧ Below w.heap.size w wr) (fun i _ _ => (intOf i).toNat)
  case atStart => exact ⟨k, k, ⟨#[]⟩, rfl, rfl, Nat.le_refl _, rfl, by have : (⟨#[]⟩ : ByteArray).size = 0 := rfl; omega, Below.refl _ _⟩
  case round =>
    obtain ⟨j, f, s, rfl, rfl, hj, hd, hz, hb⟩ := hrel
    have HD := Lib.hid hd
    clear hd
    by_cases hj0 : 0 < j
    · obtain ⟨f', rfl⟩ : ∃ f', f = f' + 1 := ⟨f - 1, by omega⟩
      have HJ := Lib.hid (show j / 10 ≤ f' by omega)
      have hjb : (j : Int) ≤ 1099511627776 := by omega
      have hback := run_one (digitOf j) (48 + (j : Int) % 10) (by rw [digitOf_toNat]; omega) wr
      have hbn : Below w.heap.size w (wr.alloc (.cells #[.int .u8 (48 + (j : Int) % 10)] 5)) := hb.alloc hb.size _
      have hsz : ¬ 9223372036854775807 < (⟨#[digitOf j]⟩ : ByteArray).size + s.size := by
        have : (⟨#[digitOf j]⟩ : ByteArray).size = 1 := rfl
        omega
      have HZ := Lib.hid hz
      clear hz
      go_wp2_with fail
      go_roundw
      case rel =>
        refine ⟨j / 10, f', _, by simp, rfl, HJ.out, ?_, ?_, hbn⟩
        · rw [Go.Joins.data_append, ← HD.out, decs_succ hj0]; rfl
        · have := HZ.out; have : (⟨#[digitOf j]⟩ : ByteArray).size = 1 := rfl; simp; omega
      case measure => simp [intOf]; omega
    · have hj0' : j = 0 := by omega
      subst hj0'
      have hsz : ¬ 9223372036854775807 < (⟨#[109]⟩ : ByteArray).size + s.size := by
        have : (⟨#[109]⟩ : ByteArray).size = 1 := rfl
        omega
      go_wp2_with fail
      go_ret
      refine ⟨?_, hb⟩
      have := HD.out
      rw [decs_zero] at this
      rw [mark, ← str_ext this]
      rfl

/-- the edges as they are marked from a number on -/
def marked (m : Nat) : Nat → List (ByteArray × ByteArray)
  | 0 => []
  | n + 1 => marked m n ++ [(mark (m + 2 * n), mark (m + 2 * n + 1))]
theorem marked_length (m n : Nat) : (marked m n).length = n := by
  induction n with
  | zero => rfl
  | succ n ih => simp [marked, ih]
theorem marked_at (m : Nat) {n i : Nat} (h : i < n) : (marked m n)[i]'(by rw [marked_length]; exact h) = (mark (m + 2 * i), mark (m + 2 * i + 1)) := by
  induction n with
  | zero => omega
  | succ n ih =>
    by_cases hi : i < n
    · simp only [marked]
      rw [List.getElem_append_left (by rw [marked_length]; exact hi)]
      exact ih hi
    · have : i = n := by omega
      subst this
      simp [marked, List.getElem_append_right, marked_length]

set_option maxRecDepth 100000 in
set_option maxHeartbeats 2000000 in
/-- laws.markEdgeS, over a row of edges of its own -/
theorem markEdgeS_any (g n cap m r : Nat) (f : Nat → Value) (w : World) (hr : w.rowIs g 55 r f) (hnr : n * 2 ≤ r) (hn : n ≤ 1048576) (h1 : 1 ≤ m) (h2 : m ≤ 1048576) (hg : g < w.heap.size) :
    Calls Try.prog 22 #[.slice (some ⟨g, 0, none⟩) n cap, .int .i64 m] w fun e w' => e = .returned (.int .i64 (m + 2 * n : Nat)) ∧ EdgesIn w' w'.heap.size (some ⟨g, 0, none⟩) (marked m n) ∧ w.grownBy w' (some g) := by
  have HG := Lib.hid hg
  go_enter Try.func22, Try.ntmps22
  go_wp2_with fail
  go_loopw [1, 5] (fun a i wr => ∃ k q : Nat, k ≤ n ∧ q = m + 2 * k ∧ a = .int .i64 q ∧ i = .int .i64 k ∧ w.grownBy wr (some g) ∧ (∃ f, wr.rowIs g 55 r f) ∧
    ∀ i, i < k → wr.cell? ⟨g, i * 2, none⟩ = some (.string (mark (m + 2 * i))) ∧ wr.cell? ⟨g, i * 2 + 1, none⟩ = some (.string (mark (m + 2 * i + 1)))) (fun _ i _ => n - (intOf i).toNat)
  case atStart => exact ⟨0, m, Nat.zero_le _, rfl, rfl, rfl, World.grownBy.refl w _, ⟨f, hr⟩, fun i hi => absurd hi (by omega)⟩
  case round =>
    obtain ⟨k, q, hk, hq, rfl, rfl, hgb, ⟨f1, hrow⟩, hcs⟩ := hrel
    have HR := Lib.hid hrow; have HCS := Lib.hid hcs; have HQ := Lib.hid hq; have HGB := Lib.hid hgb
    have hqb : q ≤ 1099511627770 := by omega
    have hq1 : 1 ≤ q := by omega
    have hz := hgb.size
    clear hrow hcs hq hgb
    by_cases hlt : k < n
    · go_wp2_with fail
      refine (markText_any q hq1 (by omega) _).mono ?_
      rintro e w3 ⟨rfl, hb3⟩
      have hr3 := HR.out.of_block (hb3.block g (by omega))
      have hst1 := hr3.cell (i := k * 2) (by omega); have hsf1 := hr3.frozen (k * 2)
      have HR3 := Lib.hid hr3; clear hr3
      have hz3 := hb3.size
      go_wp2_with fail
      rw [show ((q : Int) + 1) = ((q + 1 : Nat) : Int) by simp]
      have hgb3 := only_setCell_at (i := k * 2) (u := .string (mark q)) (grown_below HGB.out hb3)
      have HR4 := Lib.hid (HR3.out.set (k * 2) (.string (mark q)))
      have hs4 : (w3.setCell ⟨g, k * 2, none⟩ (.string (mark q))).cell? ⟨g, k * 2, none⟩ = some (.string (mark q)) := World.cell?_setCell_same' _ _ _ (by rw [hst1]; rfl)
      have HO4 : Hid (∀ i, i < k → (w3.setCell ⟨g, k * 2, none⟩ (.string (mark q))).cell? ⟨g, i * 2, none⟩ = some (.string (mark (m + 2 * i))) ∧ (w3.setCell ⟨g, k * 2, none⟩ (.string (mark q))).cell? ⟨g, i * 2 + 1, none⟩ = some (.string (mark (m + 2 * i + 1)))) := Lib.hid fun i hi => by
        obtain ⟨c1, c2⟩ := HCS.out i hi
        exact ⟨(World.cell?_setCell_other _ _ _ _ (by intro e; injection e with _ e; omega)).trans ((hb3.cell (by simp only; omega)).trans c1), (World.cell?_setCell_other _ _ _ _ (by intro e; injection e with _ e; omega)).trans ((hb3.cell (by simp only; omega)).trans c2)⟩
      have hz4 : (w3.setCell ⟨g, k * 2, none⟩ (.string (mark q))).heap.size = w3.heap.size := by simp [World.setCell]
      generalize hW4 : w3.setCell ⟨g, k * 2, none⟩ (.string (mark q)) = w4 at hgb3 HR4 hs4 HO4 hz4 ⊢
      clear hW4 hst1 hsf1
      have HS4 := Lib.hid hs4; have HGB4 := Lib.hid hgb3
      clear hs4 hgb3
      refine (markText_any (q + 1) (by omega) (by omega) _).mono ?_
      rintro e w5 ⟨rfl, hb5⟩
      have hr5 := HR4.out.of_block (hb5.block g (by omega))
      have hst2 := hr5.cell (i := k * 2 + 1) (by omega); have hsf2 := hr5.frozen (k * 2 + 1)
      have HR5 := Lib.hid hr5; clear hr5
      have hz5 := hb5.size
      go_wp2_with fail
      have hgb5 := only_setCell_at (i := k * 2 + 1) (u := .string (mark (q + 1))) (grown_below HGB4.out hb5)
      have HGB5 := Lib.hid hgb5
      have HO5 : Hid (∀ i, i < k + 1 → (w5.setCell ⟨g, k * 2 + 1, none⟩ (.string (mark (q + 1)))).cell? ⟨g, i * 2, none⟩ = some (.string (mark (m + 2 * i))) ∧ (w5.setCell ⟨g, k * 2 + 1, none⟩ (.string (mark (q + 1)))).cell? ⟨g, i * 2 + 1, none⟩ = some (.string (mark (m + 2 * i + 1)))) := Lib.hid fun i hi => by
        by_cases hik : i < k
        · obtain ⟨c1, c2⟩ := HO4.out i hik
          exact ⟨(World.cell?_setCell_other _ _ _ _ (by intro e; injection e with _ e; omega)).trans ((hb5.cell (by simp only; omega)).trans c1), (World.cell?_setCell_other _ _ _ _ (by intro e; injection e with _ e; omega)).trans ((hb5.cell (by simp only; omega)).trans c2)⟩
        · have hik' : i = k := by omega
          subst hik'
          rw [← HQ.out]
          exact ⟨(World.cell?_setCell_other _ _ _ _ (by intro e; injection e with _ e; omega)).trans ((hb5.cell (by simp only; omega)).trans HS4.out), World.cell?_setCell_same' _ _ _ (by rw [hst2]; rfl)⟩
      clear hst2 hsf2 hgb5
      go_roundw
      case rel => exact ⟨k + 1, q + 2, by omega, by have := HQ.out; omega, by go_num, by go_num, HGB5.out, ⟨_, HR5.out.set _ _⟩, HO5.out⟩
      case measure => simp [intOf]; omega
    · go_wp2_with fail
      go_ret
      have hkn : k = n := by omega
      subst hkn
      refine ⟨ret_int (by rw [← HQ.out]), fun i hi => ?_, HGB.out⟩
      have hi' : i < k := by rw [marked_length] at hi; exact hi
      obtain ⟨c1, c2⟩ := HCS.out i hi'
      have hz' := HGB.out.size
      rw [marked_at m hi']
      exact ⟨g, 0, rfl, by omega, by rw [Nat.zero_add]; exact c1, by rw [Nat.zero_add]; exact c2⟩

end Go.Proofs.Ytpeafheljcjlhaa

namespace Go.Proofs.Ytpeafheljcjlhaa
open Go.RowKit

theorem below_grown {w a b : World} {row : Option Nat} (h : Below w.heap.size w a) (k : a.grownBy b row) (_ : ∀ g, row = some g → g < w.heap.size) : w.grownBy b row :=
  ⟨k.os.trans h.os, k.tape.trans h.tape, k.output.trans h.output, Nat.le_trans h.size k.size, fun i hi hn => (k.block i (Nat.lt_of_lt_of_le hi h.size) hn).trans (h.block i hi)⟩

set_option maxRecDepth 100000 in
set_option maxHeartbeats 1000000 in
/-- laws.markNet, over a row of edges of its own -/
theorem markNet_any (B : ByteArray) (g n cap m r : Nat) (f : Nat → Value) (w : World) (hr : w.rowIs g 55 r f) (hnr : n * 2 ≤ r) (hn : n ≤ 1048576) (h1 : 1 ≤ m) (h2 : m ≤ 1048576) (hg : g < w.heap.size) :
    Calls Try.prog 11 #[.agg #[.string B, .slice (some ⟨g, 0, none⟩) n cap], .int .i64 m] w fun e w' => e = .returned (.int .i64 (m + 2 * n : Nat)) ∧ EdgesIn w' w'.heap.size (some ⟨g, 0, none⟩) (marked m n) ∧ w.grownBy w' (some g) := by
  have hb1 : Below w.heap.size w (w.alloc (.cells #[.string B, .slice (some ⟨g, 0, none⟩) n cap] 28)) := (Below.refl _ _).alloc (Nat.le_refl _) _
  have HR := Lib.hid (hr.alloc (.cells #[.string B, .slice (some ⟨g, 0, none⟩) n cap] 28))
  obtain ⟨r', hrr⟩ : ∃ r', m + 2 * n = r' := ⟨_, rfl⟩
  rw [hrr]
  have HRR := Lib.hid hrr
  clear hr hrr
  go_enter Try.func11, Try.ntmps11
  go_wp2_with fail
  refine (markEdgeS_any g n cap m r f _ HR.out hnr hn h1 h2 (by simp; omega)).mono ?_
  rw [HRR.out]
  rintro e w2 ⟨rfl, hE2, hg2⟩
  have hg2' := below_grown hb1 hg2 (fun g' e => by injection e with e; omega)
  clear hg2
  have HE2 := Lib.hid hE2
  clear hE2
  go_wp2_with fail
  go_ret
  exact ⟨rfl, HE2.out, hg2'⟩

set_option maxRecDepth 100000 in
set_option maxHeartbeats 1000000 in
/-- laws.markNet, of a net without edges -/
theorem markNet_none (B : ByteArray) (A : Option Addr) (cap m : Nat) (w : World) (_ : 1 ≤ m) (_ : m ≤ 1048576) :
    Calls Try.prog 11 #[.agg #[.string B, .slice A 0 cap], .int .i64 m] w fun e w' => e = .returned (.int .i64 m) ∧ Below w.heap.size w w' := by
  have hb1 : Below w.heap.size w (w.alloc (.cells #[.string B, .slice A 0 cap] 28)) := (Below.refl _ _).alloc (Nat.le_refl _) _
  have hnone : ∀ W : World, Calls Try.prog 22 #[.slice A 0 cap, .int .i64 m] W fun e w' => e = .returned (.int .i64 m) ∧ Below W.heap.size W w' := by
    intro W
    go_enter Try.func22, Try.ntmps22
    go_wp2_with fail
    go_loopw [1, 5] (fun a i wr => a = .int .i64 m ∧ i = .int .i64 0 ∧ wr = W) (fun _ _ _ => 0)
    case atStart => exact ⟨rfl, rfl, rfl⟩
    case round =>
      obtain ⟨rfl, rfl, rfl⟩ := hrel
      go_wp2_with fail
      go_ret
      exact ⟨rfl, Below.refl _ _⟩
  have HNO := Lib.hid hnone
  clear hnone
  go_enter Try.func11, Try.ntmps11
  go_wp2_with fail
  refine (HNO.out _).mono ?_
  rintro e w2 ⟨rfl, hb2⟩
  have hb2' := hb1.trans (hb2.mono hb1.size)
  go_wp2_with fail
  go_ret
  exact ⟨rfl, hb2'⟩

end Go.Proofs.Ytpeafheljcjlhaa
