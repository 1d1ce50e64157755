/- The parts of a run: the statement. -/
import Derived.Test.YtpeafheljcjlhaaGreatEq
import Derived.Test.YtpeafheljcjlhaaGreatTurn
import Derived.Test.YtpeafheljcjlhaaGreatZ8L
import Derived.Test.YtpeafheljcjlhaaGreatNetQ
import Derived.Test.YtpeafheljcjlhaaGreatZ8P
import Derived.Test.YtpeafheljcjlhaaGreatLaw
import Derived.Test.YtpeafheljcjlhaaGreatRows
import Derived.Test.YtpeafheljcjlhaaGreatOpen
import Derived.Lib.SmallJoins
import Derived.Deep.RegionHeld3
import Derived.WalkKit
import Derived.ProofKit
import Derived.OpenShut
import Derived.ShutString
import Derived.ChangeOld
import Derived.Below
namespace Go.Proofs.YtpeafheljcjlhaaGreat
open Go.RowKit

/-- a text of one byte, out of a new row -/
theorem run_one (c : UInt8) (v : Int) (h : v = (c.toNat : Int)) (w : World) : (convert 93 9 (.slice (some ⟨w.heap.size, 0, none⟩) 1 1)).run Tryz.prog (w.alloc (.cells #[.int .u8 v] 5)) = .ok (.string ⟨#[c]⟩) (w.alloc (.cells #[.int .u8 v] 5)) := by
  have h := run_convert_bytes_back (P := Tryz.prog) (w.alloc (.cells #[.int .u8 v] 5)) 93 9 5 ⟨w.heap.size, 0, none⟩ 1 [c] Tryz.underlying93 Tryz.underlying5 Tryz.underlying9 (fun j hj => by
    have hj0 : j = 0 := by simpa using hj
    subst hj0
    simp [Addr.add, h])
  simpa using h

/-- the last digit of a number -/
def digitOf (k : Nat) : UInt8 := (48 + k % 10).toUInt8
theorem digitOf_toNat (k : Nat) : (digitOf k).toNat = 48 + k % 10 := by
  simp [digitOf, Nat.toUInt8]; omega

/-- the digits of a number ahead of what is there -/
def decs : Nat → Nat → List UInt8 → List UInt8
  | 0, _, acc => acc
  | f + 1, k, acc => if k = 0 then acc else decs f (k / 10) (digitOf k :: acc)
theorem decs_zero (f : Nat) (acc : List UInt8) : decs f 0 acc = acc := by cases f <;> simp [decs]
theorem decs_succ {f k : Nat} (h : 0 < k) (acc : List UInt8) : decs (f + 1) k acc = decs f (k / 10) (digitOf k :: acc) := by
  simp [decs]; omega

/-- the mark of a number -/
def mark (k : Nat) : ByteArray := ⟨#[109]⟩ ++ ⟨(decs k k []).toArray⟩

set_option maxRecDepth 100000 in
set_option maxHeartbeats 1000000 in
/-- laws.markText -/
theorem markText_any (k : Nat) (h1 : 1 ≤ k) (h2 : k ≤ 1099511627776) (w : World) :
    Calls Tryz.prog 36 #[.int .i64 k] w fun e w' => e = .returned (.string (mark k)) ∧ Below w.heap.size w w' := by
  have hk0 : ¬ ((k : Int) ≤ 0) := by omega
  go_enter Tryz.func36, Tryz.ntmps36
  go_wp2_with fail
  go_loopw [0, 3] (fun i out wr => ∃ (j f : Nat) (s : ByteArray), i = .int .i64 j ∧ out = .string s ∧ j ≤ f ∧ decs f j s.data.toList = decs k k [] ∧ s.size + f = k ∧ Below w.heap.size w wr) (fun i _ _ => (intOf i).toNat)
  case atStart => exact ⟨k, k, ⟨#[]⟩, rfl, rfl, Nat.le_refl _, rfl, by have : (⟨#[]⟩ : ByteArray).size = 0 := rfl; omega, Below.refl _ _⟩
  case round =>
    obtain ⟨j, f, s, rfl, rfl, hj, hd, hz, hb⟩ := hrel
    have HD := Lib.hid hd
    clear hd
    by_cases hj0 : 0 < j
    · obtain ⟨f', rfl⟩ : ∃ f', f = f' + 1 := ⟨f - 1, by omega⟩
      have HJ := Lib.hid (show j / 10 ≤ f' by omega)
      have hjb : (j : Int) ≤ 1099511627776 := by omega
      have hback := run_one (digitOf j) (48 + (j : Int) % 10) (by rw [digitOf_toNat]; omega) wr
      have hbn : Below w.heap.size w (wr.alloc (.cells #[.int .u8 (48 + (j : Int) % 10)] 5)) := hb.alloc hb.size _
      have hsz : ¬ 9223372036854775807 < (⟨#[digitOf j]⟩ : ByteArray).size + s.size := by
        have : (⟨#[digitOf j]⟩ : ByteArray).size = 1 := rfl
        omega
      have HZ := Lib.hid hz
      clear hz
      go_wp2_with fail
      go_roundw
      case rel =>
        refine ⟨j / 10, f', _, by simp, rfl, HJ.out, ?_, ?_, hbn⟩
        · rw [Go.Joins.data_append, ← HD.out, decs_succ hj0]; rfl
        · have := HZ.out; have : (⟨#[digitOf j]⟩ : ByteArray).size = 1 := rfl; simp; omega
      case measure => simp [intOf]; omega
    · have hj0' : j = 0 := by omega
      subst hj0'
      have hsz : ¬ 9223372036854775807 < (⟨#[109]⟩ : ByteArray).size + s.size := by
        have : (⟨#[109]⟩ : ByteArray).size = 1 := rfl
        omega
      go_wp2_with fail
      go_ret
      refine ⟨?_, hb⟩
      have := HD.out
      rw [decs_zero] at this
      rw [mark, ← str_ext this]
      rfl

/-- the edges as they are marked from a number on -/
def marked (m : Nat) : Nat → List (ByteArray × ByteArray)
  | 0 => []
  | n + 1 => marked m n ++ [(mark (m + 2 * n), mark (m + 2 * n + 1))]
theorem marked_length (m n : Nat) : (marked m n).length = n := by
  induction n with
  | zero => rfl
  | succ n ih => simp [marked, ih]
theorem marked_at (m : Nat) {n i : Nat} (h : i < n) : (marked m n)[i]'(by rw [marked_length]; exact h) = (mark (m + 2 * i), mark (m + 2 * i + 1)) := by
  induction n with
  | zero => omega
  | succ n ih =>
    by_cases hi : i < n
    · simp only [marked]
      rw [List.getElem_append_left (by rw [marked_length]; exact hi)]
      exact ih hi
    · have : i = n := by omega
      subst this
      simp [marked, List.getElem_append_right, marked_length]

set_option maxRecDepth 100000 in
set_option maxHeartbeats 2000000 in
/-- laws.markEdgeS, over a row of edges of its own -/
theorem markEdgeS_any (g n cap m r : Nat) (f : Nat → Value) (w : World) (hr : w.rowIs g 70 r f) (hnr : n * 2 ≤ r) (hn : n ≤ 1048576) (h1 : 1 ≤ m) (h2 : m ≤ 1048576) (hg : g < w.heap.size) :
    Calls Tryz.prog 35 #[.slice (some ⟨g, 0, none⟩) n cap, .int .i64 m] w fun e w' => e = .returned (.int .i64 (m + 2 * n : Nat)) ∧ EdgesIn w' w'.heap.size (some ⟨g, 0, none⟩) (marked m n) ∧ w.grownBy w' (some g) := by
  have HG := Lib.hid hg
  go_enter Tryz.func35, Tryz.ntmps35
  go_wp2_with fail
  go_loopw [1, 5] (fun a i wr => ∃ k q : Nat, k ≤ n ∧ q = m + 2 * k ∧ a = .int .i64 q ∧ i = .int .i64 k ∧ w.grownBy wr (some g) ∧ (∃ f, wr.rowIs g 70 r f) ∧
    ∀ i, i < k → wr.cell? ⟨g, i * 2, none⟩ = some (.string (mark (m + 2 * i))) ∧ wr.cell? ⟨g, i * 2 + 1, none⟩ = some (.string (mark (m + 2 * i + 1)))) (fun _ i _ => n - (intOf i).toNat)
  case atStart => exact ⟨0, m, Nat.zero_le _, rfl, rfl, rfl, World.grownBy.refl w _, ⟨f, hr⟩, fun i hi => absurd hi (by omega)⟩
  case round =>
    obtain ⟨k, q, hk, hq, rfl, rfl, hgb, ⟨f1, hrow⟩, hcs⟩ := hrel
    have HR := Lib.hid hrow; have HCS := Lib.hid hcs; have HQ := Lib.hid hq; have HGB := Lib.hid hgb
    have hqb : q ≤ 1099511627770 := by omega
    have hq1 : 1 ≤ q := by omega
    have hz := hgb.size
    clear hrow hcs hq hgb
    by_cases hlt : k < n
    · go_wp2_with fail
      refine (markText_any q hq1 (by omega) _).mono ?_
      rintro e w3 ⟨rfl, hb3⟩
      have hr3 := HR.out.of_block (hb3.block g (by omega))
      have hst1 := hr3.cell (i := k * 2) (by omega); have hsf1 := hr3.frozen (k * 2)
      have HR3 := Lib.hid hr3; clear hr3
      have hz3 := hb3.size
      go_wp2_with fail
      rw [show ((q : Int) + 1) = ((q + 1 : Nat) : Int) by simp]
      have hgb3 := only_setCell_at (i := k * 2) (u := .string (mark q)) (grown_below HGB.out hb3)
      have HR4 := Lib.hid (HR3.out.set (k * 2) (.string (mark q)))
      have hs4 : (w3.setCell ⟨g, k * 2, none⟩ (.string (mark q))).cell? ⟨g, k * 2, none⟩ = some (.string (mark q)) := World.cell?_setCell_same' _ _ _ (by rw [hst1]; rfl)
      have HO4 : Hid (∀ i, i < k → (w3.setCell ⟨g, k * 2, none⟩ (.string (mark q))).cell? ⟨g, i * 2, none⟩ = some (.string (mark (m + 2 * i))) ∧ (w3.setCell ⟨g, k * 2, none⟩ (.string (mark q))).cell? ⟨g, i * 2 + 1, none⟩ = some (.string (mark (m + 2 * i + 1)))) := Lib.hid fun i hi => by
        obtain ⟨c1, c2⟩ := HCS.out i hi
        exact ⟨(World.cell?_setCell_other _ _ _ _ (by intro e; injection e with _ e; omega)).trans ((hb3.cell (by simp only; omega)).trans c1), (World.cell?_setCell_other _ _ _ _ (by intro e; injection e with _ e; omega)).trans ((hb3.cell (by simp only; omega)).trans c2)⟩
      have hz4 : (w3.setCell ⟨g, k * 2, none⟩ (.string (mark q))).heap.size = w3.heap.size := by simp [World.setCell]
      generalize hW4 : w3.setCell ⟨g, k * 2, none⟩ (.string (mark q)) = w4 at hgb3 HR4 hs4 HO4 hz4 ⊢
      clear hW4 hst1 hsf1
      have HS4 := Lib.hid hs4; have HGB4 := Lib.hid hgb3
      clear hs4 hgb3
      refine (markText_any (q + 1) (by omega) (by omega) _).mono ?_
      rintro e w5 ⟨rfl, hb5⟩
      have hr5 := HR4.out.of_block (hb5.block g (by omega))
      have hst2 := hr5.cell (i := k * 2 + 1) (by omega); have hsf2 := hr5.frozen (k * 2 + 1)
      have HR5 := Lib.hid hr5; clear hr5
      have hz5 := hb5.size
      go_wp2_with fail
      have hgb5 := only_setCell_at (i := k * 2 + 1) (u := .string (mark (q + 1))) (grown_below HGB4.out hb5)
      have HGB5 := Lib.hid hgb5
      have HO5 : Hid (∀ i, i < k + 1 → (w5.setCell ⟨g, k * 2 + 1, none⟩ (.string (mark (q + 1)))).cell? ⟨g, i * 2, none⟩ = some (.string (mark (m + 2 * i))) ∧ (w5.setCell ⟨g, k * 2 + 1, none⟩ (.string (mark (q + 1)))).cell? ⟨g, i * 2 + 1, none⟩ = some (.string (mark (m + 2 * i + 1)))) := Lib.hid fun i hi => by
        by_cases hik : i < k
        · obtain ⟨c1, c2⟩ := HO4.out i hik
          exact ⟨(World.cell?_setCell_other _ _ _ _ (by intro e; injection e with _ e; omega)).trans ((hb5.cell (by simp only; omega)).trans c1), (World.cell?_setCell_other _ _ _ _ (by intro e; injection e with _ e; omega)).trans ((hb5.cell (by simp only; omega)).trans c2)⟩
        · have hik' : i = k := by omega
          subst hik'
          rw [← HQ.out]
          exact ⟨(World.cell?_setCell_other _ _ _ _ (by intro e; injection e with _ e; omega)).trans ((hb5.cell (by simp only; omega)).trans HS4.out), World.cell?_setCell_same' _ _ _ (by rw [hst2]; rfl)⟩
      clear hst2 hsf2 hgb5
      go_roundw
      case rel => exact ⟨k + 1, q + 2, by omega, by have := HQ.out; omega, by go_num, by go_num, HGB5.out, ⟨_, HR5.out.set _ _⟩, HO5.out⟩
      case measure => simp [intOf]; omega
    · go_wp2_with fail
      go_ret
      have hkn : k = n := by omega
      subst hkn
      refine ⟨ret_int (by rw [← HQ.out]), fun i hi => ?_, HGB.out⟩
      have hi' : i < k := by rw [marked_length] at hi; exact hi
      obtain ⟨c1, c2⟩ := HCS.out i hi'
      have hz' := HGB.out.size
      rw [marked_at m hi']
      exact ⟨g, 0, rfl, by omega, by rw [Nat.zero_add]; exact c1, by rw [Nat.zero_add]; exact c2⟩

end Go.Proofs.YtpeafheljcjlhaaGreat

namespace Go.Proofs.YtpeafheljcjlhaaGreat
open Go.RowKit

theorem below_grown {w a b : World} {row : Option Nat} (h : Below w.heap.size w a) (k : a.grownBy b row) (_ : ∀ g, row = some g → g < w.heap.size) : w.grownBy b row :=
  ⟨k.os.trans h.os, k.tape.trans h.tape, k.output.trans h.output, Nat.le_trans h.size k.size, fun i hi hn => (k.block i (Nat.lt_of_lt_of_le hi h.size) hn).trans (h.block i hi)⟩

set_option maxRecDepth 100000 in
set_option maxHeartbeats 1000000 in
/-- laws.markNet, over a row of edges of its own -/
theorem markNet_any (B : ByteArray) (g n cap m r : Nat) (f : Nat → Value) (w : World) (hr : w.rowIs g 70 r f) (hnr : n * 2 ≤ r) (hn : n ≤ 1048576) (h1 : 1 ≤ m) (h2 : m ≤ 1048576) (hg : g < w.heap.size) :
    Calls Tryz.prog 13 #[.agg #[.string B, .slice (some ⟨g, 0, none⟩) n cap], .int .i64 m] w fun e w' => e = .returned (.int .i64 (m + 2 * n : Nat)) ∧ EdgesIn w' w'.heap.size (some ⟨g, 0, none⟩) (marked m n) ∧ w.grownBy w' (some g) := by
  have hb1 : Below w.heap.size w (w.alloc (.cells #[.string B, .slice (some ⟨g, 0, none⟩) n cap] 31)) := (Below.refl _ _).alloc (Nat.le_refl _) _
  have HR := Lib.hid (hr.alloc (.cells #[.string B, .slice (some ⟨g, 0, none⟩) n cap] 31))
  obtain ⟨r', hrr⟩ : ∃ r', m + 2 * n = r' := ⟨_, rfl⟩
  rw [hrr]
  have HRR := Lib.hid hrr
  clear hr hrr
  go_enter Tryz.func13, Tryz.ntmps13
  go_wp2_with fail
  refine (markEdgeS_any g n cap m r f _ HR.out hnr hn h1 h2 (by simp; omega)).mono ?_
  rw [HRR.out]
  rintro e w2 ⟨rfl, hE2, hg2⟩
  have hg2' := below_grown hb1 hg2 (fun g' e => by injection e with e; omega)
  clear hg2
  have HE2 := Lib.hid hE2
  clear hE2
  go_wp2_with fail
  go_ret
  exact ⟨rfl, HE2.out, hg2'⟩

set_option maxRecDepth 100000 in
set_option maxHeartbeats 1000000 in
/-- laws.markNet, of a net without edges -/
theorem markNet_none (B : ByteArray) (A : Option Addr) (cap m : Nat) (w : World) (_ : 1 ≤ m) (_ : m ≤ 1048576) :
    Calls Tryz.prog 13 #[.agg #[.string B, .slice A 0 cap], .int .i64 m] w fun e w' => e = .returned (.int .i64 m) ∧ Below w.heap.size w w' := by
  have hb1 : Below w.heap.size w (w.alloc (.cells #[.string B, .slice A 0 cap] 31)) := (Below.refl _ _).alloc (Nat.le_refl _) _
  have hnone : ∀ W : World, Calls Tryz.prog 35 #[.slice A 0 cap, .int .i64 m] W fun e w' => e = .returned (.int .i64 m) ∧ Below W.heap.size W w' := by
    intro W
    go_enter Tryz.func35, Tryz.ntmps35
    go_wp2_with fail
    go_loopw [1, 5] (fun a i wr => a = .int .i64 m ∧ i = .int .i64 0 ∧ wr = W) (fun _ _ _ => 0)
    case atStart => exact ⟨rfl, rfl, rfl⟩
    case round =>
      obtain ⟨rfl, rfl, rfl⟩ := hrel
      go_wp2_with fail
      go_ret
      exact ⟨rfl, Below.refl _ _⟩
  have HNO := Lib.hid hnone
  clear hnone
  go_enter Tryz.func13, Tryz.ntmps13
  go_wp2_with fail
  refine (HNO.out _).mono ?_
  rintro e w2 ⟨rfl, hb2⟩
  have hb2' := hb1.trans (hb2.mono hb1.size)
  go_wp2_with fail
  go_ret
  exact ⟨rfl, hb2'⟩

end Go.Proofs.YtpeafheljcjlhaaGreat

namespace Go.Proofs.YtpeafheljcjlhaaGreat
open Go.RowKit

set_option maxRecDepth 100000 in
set_option maxHeartbeats 2000000 in
/-- laws.eqStringS, at the same texts -/
theorem eqStringS_t (A A' : Option Addr) (cap cap' : Nat) (ts : List ByteArray) (w : World) (hE : TextsIn w w.heap.size A ts) (hE' : TextsIn w w.heap.size A' ts) (hl : ts.length ≤ 1099511627776) :
    Calls Tryz.prog 11 #[.slice A ts.length cap, .slice A' ts.length cap'] w fun e w' => e = .returned (.bool true) ∧ Below w.heap.size w w' := by
  have q0 : ((ts.length : Int) != ts.length) = false := by simp
  go_enter Tryz.func11, Tryz.ntmps11
  go_wp2_with fail
  go_loopw [5] (fun i wr => ∃ k : Nat, k ≤ ts.length ∧ i = .int .i64 k ∧ Below w.heap.size w wr) (fun i _ => ts.length - (intOf i).toNat)
  case atStart => exact ⟨0, Nat.zero_le _, rfl, Below.refl _ _⟩
  case round =>
    obtain ⟨k, hk, rfl, hb⟩ := hrel
    by_cases hlt : k < ts.length
    · obtain ⟨b1, rfl, hlow1, h1⟩ := (hE.below hb) k hlt
      obtain ⟨b2, rfl, hlow2, h2⟩ := (hE'.below hb) k hlt
      have q1 : (ts[k].toList != ts[k].toList) = false := by simp
      go_wp2_with fail
      go_region_held3 (fun W => W.cell? ⟨b1, k, none⟩ = some (.string ts[k]) ∧ W.cell? ⟨b2, k, none⟩ = some (.string ts[k]))
        (exact ⟨h1, h2⟩)
        (fail)
      go_wp2_with fail
      go_roundw
      case rel => exact ⟨k + 1, by omega, by go_num, hb.drew⟩
      case measure => simp [intOf]; omega
    · go_wp2_with fail
      go_ret
      exact ⟨rfl, hb⟩

/-- the texts as they are marked from a number on -/
def markedT (m : Nat) : Nat → List ByteArray
  | 0 => []
  | n + 1 => markedT m n ++ [mark (m + n)]
theorem markedT_length (m n : Nat) : (markedT m n).length = n := by
  induction n with
  | zero => rfl
  | succ n ih => simp [markedT, ih]
theorem markedT_at (m : Nat) {n i : Nat} (h : i < n) : (markedT m n)[i]'(by rw [markedT_length]; exact h) = mark (m + i) := by
  induction n with
  | zero => omega
  | succ n ih =>
    by_cases hi : i < n
    · simp only [markedT]
      rw [List.getElem_append_left (by rw [markedT_length]; exact hi)]
      exact ih hi
    · have : i = n := by omega
      subst this
      simp [markedT, List.getElem_append_right, markedT_length]

set_option maxRecDepth 100000 in
set_option maxHeartbeats 2000000 in
/-- laws.markStringS, over a row of texts of its own -/
theorem markStringS_row (g n cap m r : Nat) (f : Nat → Value) (w : World) (hr : w.rowIs g 9 r f) (hnr : n ≤ r) (hn : n ≤ 2097152) (h1 : 1 ≤ m) (h2 : m ≤ 1048576) (hg : g < w.heap.size) :
    Calls Tryz.prog 14 #[.slice (some ⟨g, 0, none⟩) n cap, .int .i64 m] w fun e w' => e = .returned (.int .i64 (m + n : Nat)) ∧ TextsIn w' w'.heap.size (some ⟨g, 0, none⟩) (markedT m n) ∧ w.grownBy w' (some g) := by
  have HG := Lib.hid hg
  go_enter Tryz.func14, Tryz.ntmps14
  go_wp2_with fail
  go_loopw [1, 5] (fun a i wr => ∃ k q : Nat, k ≤ n ∧ q = m + k ∧ a = .int .i64 q ∧ i = .int .i64 k ∧ w.grownBy wr (some g) ∧ (∃ f, wr.rowIs g 9 r f) ∧
    ∀ i, i < k → wr.cell? ⟨g, i, none⟩ = some (.string (mark (m + i)))) (fun _ i _ => n - (intOf i).toNat)
  case atStart => exact ⟨0, m, Nat.zero_le _, rfl, rfl, rfl, World.grownBy.refl w _, ⟨f, hr⟩, fun i hi => absurd hi (by omega)⟩
  case round =>
    obtain ⟨k, q, hk, hq, rfl, rfl, hgb, ⟨f1, hrow⟩, hcs⟩ := hrel
    have HR := Lib.hid hrow; have HCS := Lib.hid hcs; have HQ := Lib.hid hq; have HGB := Lib.hid hgb
    have hqb : q ≤ 1099511627770 := by omega
    have hq1 : 1 ≤ q := by omega
    have hz := hgb.size
    clear hrow hcs hq hgb
    by_cases hlt : k < n
    · go_wp2_with fail
      refine (markText_any q hq1 (by omega) _).mono ?_
      rintro e w3 ⟨rfl, hb3⟩
      have hr3 := HR.out.of_block (hb3.block g (by omega))
      have hst1 := hr3.cell (i := k) (by omega); have hsf1 := hr3.frozen k
      have HR3 := Lib.hid hr3; clear hr3
      have hz3 := hb3.size
      go_wp2_with fail
      have hgb3 := only_setCell_at (i := k) (u := .string (mark q)) (grown_below HGB.out hb3)
      have HGB3 := Lib.hid hgb3
      have HO3 : Hid (∀ i, i < k + 1 → (w3.setCell ⟨g, k, none⟩ (.string (mark q))).cell? ⟨g, i, none⟩ = some (.string (mark (m + i)))) := Lib.hid fun i hi => by
        by_cases hik : i < k
        · exact (World.cell?_setCell_other _ _ _ _ (by intro e; injection e with _ e; omega)).trans ((hb3.cell (by simp only; omega)).trans (HCS.out i hik))
        · have hik' : i = k := by omega
          subst hik'
          rw [← HQ.out]
          exact World.cell?_setCell_same' _ _ _ (by rw [hst1]; rfl)
      clear hst1 hsf1 hgb3
      go_roundw
      case rel => exact ⟨k + 1, q + 1, by omega, by have := HQ.out; omega, by go_num, by go_num, HGB3.out, ⟨_, HR3.out.set _ _⟩, HO3.out⟩
      case measure => simp [intOf]; omega
    · go_wp2_with fail
      go_ret
      have hkn : k = n := by omega
      subst hkn
      refine ⟨ret_int (by rw [← HQ.out]), fun i hi => ?_, HGB.out⟩
      have hi' : i < k := by rw [markedT_length] at hi; exact hi
      have hz' := HGB.out.size
      rw [markedT_at m hi']
      exact ⟨g, rfl, by omega, HCS.out i hi'⟩

/-- laws.markStringS, over no text -/
theorem markStringS_none (A : Option Addr) (cap m : Nat) (w : World) (_ : 1 ≤ m) (_ : m ≤ 1048576) :
    Calls Tryz.prog 14 #[.slice A 0 cap, .int .i64 m] w fun e w' => e = .returned (.int .i64 m) ∧ Below w.heap.size w w' := by
  go_enter Tryz.func14, Tryz.ntmps14
  go_wp2_with fail
  go_loopw [1, 5] (fun a i wr => a = .int .i64 m ∧ i = .int .i64 0 ∧ Below w.heap.size w wr) (fun _ _ _ => 0)
  case atStart => exact ⟨rfl, rfl, Below.refl _ _⟩
  case round =>
    obtain ⟨rfl, rfl, hb⟩ := hrel
    go_wp2_with fail
    go_ret
    exact ⟨rfl, hb⟩

/-- laws.markStringS, of a call's own texts -/
theorem markStringS_own (A : Option Addr) (n cap m base : Nat) (w : World) (ho : OwnTexts w base A n) (hn : n ≤ 2097152) (h1 : 1 ≤ m) (h2 : m ≤ 1048576) :
    Calls Tryz.prog 14 #[.slice A n cap, .int .i64 m] w fun e w' => e = .returned (.int .i64 (m + n : Nat)) ∧ TextsIn w' w'.heap.size A (markedT m n) ∧ w.grownBy w' (rowOf A) := by
  rcases ho with ⟨rfl, rfl⟩ | ⟨g, r, f, rfl, hb, hg, hnr, hrow⟩
  · refine (markStringS_none none cap m w h1 h2).mono ?_
    rintro e w' ⟨rfl, hb⟩
    exact ⟨rfl, fun i hi => absurd hi (by simp [markedT]), ⟨hb.os, hb.tape, hb.output, hb.size, fun i hi _ => hb.block i hi⟩⟩
  · exact markStringS_row g n cap m r f w hrow hnr hn h1 h2 hg

set_option maxRecDepth 100000 in
set_option maxHeartbeats 2000000 in
/-- laws.heldStringS, over texts that are marked -/
theorem heldStringS_any (A : Option Addr) (n cap m : Nat) (w : World) (hE : TextsIn w w.heap.size A (markedT m n)) (hn : n ≤ 2097152) (h1 : 1 ≤ m) (h2 : m ≤ 1048576) :
    Calls Tryz.prog 15 #[.slice A n cap, .int .i64 m] w fun e w' => e = .returned (.int .i64 (m + n : Nat)) ∧ Below w.heap.size w w' := by
  go_enter Tryz.func15, Tryz.ntmps15
  go_wp2_with fail
  go_loopw [1, 5] (fun a i wr => ∃ k q : Nat, k ≤ n ∧ q = m + k ∧ a = .int .i64 q ∧ i = .int .i64 k ∧ Below w.heap.size w wr) (fun _ i _ => n - (intOf i).toNat)
  case atStart => exact ⟨0, m, Nat.zero_le _, rfl, rfl, rfl, Below.refl _ _⟩
  case round =>
    obtain ⟨k, q, hk, hq, rfl, rfl, hb⟩ := hrel
    have HQ := Lib.hid hq; have HB := Lib.hid hb
    have hqb : q ≤ 1099511627770 := by omega
    have hq1 : 1 ≤ q := by omega
    have hz := hb.size
    by_cases hlt : k < n
    · obtain ⟨eb, rfl, hlow, c1⟩ := (hE.below hb) k (by rw [markedT_length]; exact hlt)
      rw [markedT_at m hlt] at c1
      simp only [← hq] at c1
      clear hq hb
      have t1 : ((mark q).toList != (mark q).toList) = false := by simp
      have hS : ∀ W, Below wr.heap.size wr W → (W.cell? ⟨eb, k, none⟩ = some (.string (mark q)) ∧ Below wr.heap.size wr W) :=
        fun W h => ⟨(h.cell (by simp only; omega)).trans c1, h⟩
      have HSS := Lib.hid hS
      clear hS
      go_wp2_with fail
      go_region_held3 (fun W => W.cell? ⟨eb, k, none⟩ = some (.string (mark q)) ∧ Below wr.heap.size wr W)
        (first | exact HSS.out _ (Below.refl _ _).drew | exact HSS.out _ ((Below.refl _ _).drew.trans hb3))
        (first | (go_at_call 36; refine (markText_any q hq1 (by omega) _).mono ?_; rintro e w3 ⟨rfl, hb3⟩))
      rename_i hHeld
      have HB3 := Lib.hid (HB.out.trans (hHeld.2.mono hz))
      clear hHeld hb3 c1 HSS
      go_wp2_with fail
      go_roundw
      case rel => exact ⟨k + 1, q + 1, by omega, by have := HQ.out; omega, by go_num, by go_num, HB3.out⟩
      case measure => simp [intOf]; omega
    · go_wp2_with fail
      go_ret
      have hkn : k = n := by omega
      subst hkn
      exact ⟨ret_int (by rw [← HQ.out]), HB.out⟩

end Go.Proofs.YtpeafheljcjlhaaGreat

namespace Go.Proofs.YtpeafheljcjlhaaGreat
open Go.RowKit

set_option maxRecDepth 100000 in
/-- laws.markNet, of a call's own net -/
theorem markNet_own (B : ByteArray) (A : Option Addr) (n cap m base : Nat) (w : World) (ho : OwnEdges w base A n) (hn : n ≤ 1048576) (h1 : 1 ≤ m) (h2 : m ≤ 1048576) :
    Calls Tryz.prog 13 #[.agg #[.string B, .slice A n cap], .int .i64 m] w fun e w' => e = .returned (.int .i64 (m + 2 * n : Nat)) ∧ EdgesIn w' w'.heap.size A (marked m n) ∧ w.grownBy w' (rowOf A) := by
  rcases ho with ⟨rfl, rfl⟩ | ⟨g, r, f, rfl, hb, hg, hnr, hrow⟩
  · refine (markNet_none B none cap m w h1 h2).mono ?_
    rintro e w' ⟨rfl, hb⟩
    exact ⟨rfl, fun i hi => absurd hi (by simp [marked]), ⟨hb.os, hb.tape, hb.output, hb.size, fun i hi _ => hb.block i hi⟩⟩
  · exact markNet_any B g n cap m r f w hrow hnr hn h1 h2 hg

end Go.Proofs.YtpeafheljcjlhaaGreat

namespace Go.Proofs.YtpeafheljcjlhaaGreat
open Go.RowKit

set_option maxRecDepth 100000 in
set_option maxHeartbeats 4000000 in
/-- laws.FnExactPartRuns -/
theorem lawPartRuns (B : ByteArray) (A : Option Addr) (cap : Nat) (es : List (ByteArray × ByteArray)) (b : ByteArray) (w : World) (hs : B.size ≤ maxLen) (hE : EdgesIn w w.heap.size A es) (hl : es.length ≤ maxLen) (hS : ∀ e ∈ es, e.1.size ≤ maxLen ∧ e.2.size ≤ maxLen) :
    Calls Tryz.prog 3 #[.agg #[.string B, .slice A es.length cap], .string b] w fun e w' => e = .returned (.bool true) ∧ Below w.heap.size w w' := by
  have hb1 : Below w.heap.size w (w.alloc (.cells #[.string B, .slice A es.length cap] 24)) := (Below.refl _ _).alloc (Nat.le_refl _) _
  have t1 : Two (w.alloc (.cells #[.string B, .slice A es.length cap] 24)) w.heap.size B A es.length cap := Two.made _ _ _ _ _ _
  have hz1 : (w.alloc (.cells #[.string B, .slice A es.length cap] 24)).heap.size = w.heap.size + 1 := by simp
  by_cases hbs : (b.size : Int) > 1048576
  · clear t1 hz1
    go_enter Tryz.func3, Tryz.ntmps3
    go_wp2_with fail
    go_ret
    exact ⟨rfl, hb1⟩
  have hbs' : (b.size : Int) ≤ 1048576 := by omega
  have HBS : Hid (b.size ≤ 1048576) := Lib.hid (by omega)
  clear hbs
  have HS := Lib.hid hS; have HL := Lib.hid hl; have HM := Lib.hid hs
  clear hS hl hs
  obtain ⟨v, hv⟩ : ∃ v, szv (B.size + (es.length + letters es)) 1048576 = v := ⟨_, rfl⟩
  have HV := Lib.hid hv; clear hv
  go_enter Tryz.func3, Tryz.ntmps3
  go_wp2_with fail
  refine (szNet_any B A cap es 1048576 _ HM.out ((hE.below hb1).more hb1.size) HL.out HS.out (by omega) (by omega)).mono ?_
  rintro e w2 ⟨rfl, hb2⟩
  rw [HV.out]
  have t2 := t1.below hb2 (by omega)
  have hb2' := hb1.trans (hb2.mono hb1.size)
  have hz2 : w.heap.size + 1 ≤ w2.heap.size := by have := hb2.size; omega
  clear hb2 t1 hb1 hz1
  have hd0 := t2.1; have hd1 := t2.2
  by_cases h0 : v < 0
  · go_wp2_with fail
    go_ret
    exact ⟨rfl, hb2'⟩
  have hle : B.size + (es.length + letters es) ≤ 1048576 := by
    have := HV.out
    unfold szv at this
    split at this <;> omega
  have HL' : Hid (es.length ≤ 1048576) := Lib.hid (by omega)
  have HL2 : Hid (es.length ≤ 1099511627776) := Lib.hid (by omega)
  have HS2 : Hid (∀ e ∈ es, e.1.size ≤ 1099511627776 ∧ e.2.size ≤ 1099511627776) := Lib.hid fun e he => by
    have := letters_mem he
    omega
  clear hle
  obtain ⟨qt, qo, hq⟩ : ∃ qt qo, partsQ B es b = (qt, qo) := ⟨_, _, rfl⟩
  have HQL : Hid (qt.length ≤ 1048577) := Lib.hid (by
    have h := partsQ_len B es b
    rw [hq] at h
    simp only at h; omega)
  have HQL2 : Hid (qt.length ≤ 1099511627776) := Lib.hid (by have := HQL.out; omega)
  have HQL3 : Hid (qt.length ≤ 2097152) := Lib.hid (by have := HQL.out; omega)
  have HQ := Lib.hid hq; clear hq
  go_wp2_with fail
  refine (toNet_any B A cap es _ ((hE.below hb2').more hb2'.size) HL2.out).mono ?_
  rintro e w3 ⟨g3, rfl, hg3, hE3, hb3⟩
  have t3 := t2.below hb3 (by omega)
  have hb3' := hb2'.trans (hb3.mono hb2'.size)
  have hz3 : w.heap.size + 1 ≤ w3.heap.size := Nat.le_trans hz2 hb3.size
  clear hb3 hd0 hd1 t2
  go_wp2_with fail
  refine (specPartRuns_any B (some ⟨g3, 0, none⟩) es.length es b _ HM.out hE3 HL2.out HS2.out (by have := HBS.out; omega)).mono ?_
  rw [HQ.out]
  rintro e w4 ⟨Aw, cw, rfl, hEw, hb4, _⟩
  simp only at hEw
  have t4 := t3.below hb4 (by omega)
  have hb4' := hb3'.trans (hb4.mono hb3'.size)
  have hz4 : w.heap.size + 1 ≤ w4.heap.size := Nat.le_trans hz3 hb4.size
  clear hb4 t3 hE3 hb3'
  have hd0 := t4.1; have hd1 := t4.2
  go_wp2_with fail
  obtain ⟨pw, hpw⟩ : ∃ pw, w4.heap.size = pw := ⟨_, rfl⟩
  rw [hpw] at hEw hz4
  refine (toNet_row B A cap es _ ((hE.below hb4').more hb4'.size) HL2.out).mono ?_
  rintro e w6 ⟨gx, rfl, hgx, hEx, hb6, hgxl, fx, hrx⟩
  rw [hpw] at hgx
  have t6 := t4.below hb6 (by omega)
  have hEw6 := hEw.below (hb6.mono (by omega))
  have hb6' := hb4'.trans (hb6.mono hb4'.size)
  have hz6 : pw ≤ w6.heap.size := by have := hb6.size; omega
  clear hb6 t4 hEw hd0 hd1 hb4' hpw
  have hba : Below w6.heap.size w6 (w6.alloc (.cells #[.string B, .slice (some ⟨gx, 0, none⟩) es.length es.length] 31)) := (Below.refl _ _).alloc (Nat.le_refl _) _
  have tx := Two.made w6 B (some ⟨gx, 0, none⟩) es.length es.length 31
  have t7 := t6.below hba (by omega)
  have hEw7 := hEw6.below (hba.mono (by omega))
  have hEx7 := hEx.below hba
  have hrx7 := hrx.of_block (hba.block gx hgxl)
  have hz7 : (w6.alloc (.cells #[.string B, .slice (some ⟨gx, 0, none⟩) es.length es.length] 31)).heap.size = w6.heap.size + 1 := by simp
  have hba' := hb6'.trans (hba.mono hb6'.size)
  have hd0 := tx.1; have hd1 := tx.2
  have HRX := Lib.hid hrx7
  clear t6 hEw6 hEx hrx hrx7 hba
  go_wp2_with fail
  generalize hW7 : w6.alloc (.cells #[.string B, .slice (some ⟨gx, 0, none⟩) es.length es.length] 31) = w7 at t7 tx hEw7 hEx7 hz7 HRX hd0 hd1 hba' ⊢
  clear hW7
  obtain ⟨px, hpx⟩ : ∃ px, w6.heap.size = px := ⟨_, rfl⟩
  rw [hpx] at tx hEx7 hz7 hz6 hd0 hd1 hgxl ⊢
  clear hpx hb6' w6
  refine (implPartRuns_any B (some ⟨gx, 0, none⟩) es.length es b _ HM.out (hEx7.more (by omega)) HL2.out HS2.out (by have := HBS.out; omega)).mono ?_
  rw [HQ.out]
  rintro e w8 ⟨Ag, cg, rfl, hEg, hb8, hog⟩
  simp only at hEg hog
  have t8 := t7.below hb8 (by omega)
  have tx8 := tx.below hb8 (by omega)
  have hEw8 := hEw7.below (hb8.mono (by omega))
  have hEx8 := hEx7.below (hb8.mono (by omega))
  have HRX8 := Lib.hid (HRX.out.of_block (hb8.block gx (by omega)))
  have hb8' := hba'.trans (hb8.mono hba'.size)
  have hz8 : px + 1 ≤ w8.heap.size := by have := hb8.size; omega
  have hog8 : OwnTexts w8 (px + 1) Ag qt.length := by rw [← hz7]; exact hog
  clear hb8 t7 tx hEw7 hEx7 HRX hd0 hd1 hba' hog hz7
  go_wp2_with fail
  refine (eqStringS_t _ _ _ _ qt _ hEg (hEw8.more (by omega)) HQL2.out).mono ?_
  rintro e w10 ⟨rfl, hb10⟩
  have t10 := t8.below hb10 (by omega)
  have tx10 := tx8.below hb10 (by omega)
  have hEw10 := hEw8.below (hb10.mono (by omega))
  have hEx10 := hEx8.below (hb10.mono (by omega))
  have hEg10 := (hEg.below hb10).more hb10.size
  have hog10 := hog8.below hb10
  have HRX10 := Lib.hid (HRX8.out.of_block (hb10.block gx (by omega)))
  have hb10' := hb8'.trans (hb10.mono hb8'.size)
  have hz10 : px + 1 ≤ w10.heap.size := by have := hb10.size; omega
  clear hb10 t8 tx8 hEw8 hEx8 hEg hog8 HRX8 hb8' hz8
  have q2 : (qo != qo) = false := by simp
  have hA : EdgesIn w10 w10.heap.size A es := (hE.below hb10').more hb10'.size
  have hS : ∀ W, Below w10.heap.size w10 W → (W.cell? ⟨px, 0, none⟩ = some (.string B) ∧ W.cell? ⟨px, 1, none⟩ = some (.slice (some ⟨gx, 0, none⟩) es.length es.length) ∧ W.cell? ⟨w.heap.size, 0, none⟩ = some (.string B) ∧ W.cell? ⟨w.heap.size, 1, none⟩ = some (.slice A es.length cap) ∧ Below w10.heap.size w10 W) :=
    fun W h => ⟨(h.cell (by simp only; omega)).trans tx10.1, (h.cell (by simp only; omega)).trans tx10.2, (h.cell (by simp only; omega)).trans t10.1, (h.cell (by simp only; omega)).trans t10.2, h⟩
  have hAA : ∀ W, Below w10.heap.size w10 W → EdgesIn W W.heap.size A es := fun W h => (hA.below h).more h.size
  have hG : ∀ W, Below w10.heap.size w10 W → EdgesIn W W.heap.size (some ⟨gx, 0, none⟩) es := fun W h => (hEx10.below (h.mono (by omega))).more (by have := h.size; omega)
  have HSS := Lib.hid hS; have HA := Lib.hid hAA; have HG := Lib.hid hG
  have HT10 := Lib.hid t10; have HTX10 := Lib.hid tx10
  have HEW10 := Lib.hid hEw10; have HEX10 := Lib.hid hEx10; have HEG10 := Lib.hid hEg10; have HOG10 := Lib.hid hog10
  clear hS hAA hG hA t10 tx10 hEw10 hEx10 hEg10 hog10
  go_wp2_with fail
  go_region_held3 (fun W => W.cell? ⟨px, 0, none⟩ = some (.string B) ∧ W.cell? ⟨px, 1, none⟩ = some (.slice (some ⟨gx, 0, none⟩) es.length es.length) ∧ W.cell? ⟨w.heap.size, 0, none⟩ = some (.string B) ∧ W.cell? ⟨w.heap.size, 1, none⟩ = some (.slice A es.length cap) ∧ Below w10.heap.size w10 W)
    (first | exact HSS.out _ (Below.refl _ _).drew | exact HSS.out _ ((Below.refl _ _).drew.trans hb7) | exact HSS.out _ (((Below.refl _ _).drew.trans hb7).trans (hb8.mono hb7.size)))
    (first
      | (go_at_call 9; refine (toNet_any B A cap es _ (HA.out _ (Below.refl _ _).drew) HL2.out).mono ?_; rintro e w7 ⟨g7, rfl, hg7, hE7, hb7⟩)
      | (go_at_call 12; refine (eqNet_t B _ _ _ _ es _ (HG.out _ ((Below.refl _ _).drew.trans hb7)) hE7 HL2.out).mono ?_; rintro e w8 ⟨rfl, hb8⟩))
  rename_i hHeld
  have hx := hHeld.2.2.2.2
  clear hHeld HSS HA HG
  have t11 := HT10.out.below hx (by omega)
  have tx11 := HTX10.out.below hx (by omega)
  have hEw11 := HEW10.out.below (hx.mono (by omega))
  have hEg11 := (HEG10.out.below hx).more hx.size
  have hog11 := HOG10.out.below hx
  have hrx11 := HRX10.out.of_block (hx.block gx (by omega))
  have hb11' := hb10'.trans (hx.mono hb10'.size)
  have hz11 := Nat.le_trans hz10 hx.size
  clear HT10 HTX10 HEW10 HEX10 HEG10 HOG10 HRX10 hx hb10' hz10
  clear hg7 hE7 hb7 hb8
  have hox : OwnEdges w8 pw (some ⟨gx, 0, none⟩) es.length := .inr ⟨gx, _, fx, rfl, hgx, by omega, Nat.le_refl _, hrx11⟩
  clear hrx11
  have hd0 := tx11.1; have hd1 := tx11.2
  obtain ⟨kx, hkx⟩ : ∃ kx, 1 + 2 * es.length = kx := ⟨_, rfl⟩
  have hkx0 : ¬ ((kx : Int) < 0) := by omega
  have HKX := Lib.hid hkx; clear hkx
  go_wp2_with fail
  refine (markNet_own B (some ⟨gx, 0, none⟩) es.length es.length 1 pw _ hox HL'.out (by omega) (by omega)).mono ?_
  rw [HKX.out]
  rintro e w12 ⟨rfl, _, hgr⟩
  have hrow : rowOf (some ⟨gx, 0, none⟩) = some gx := rfl
  have t12 := t11.grown hgr (by omega) (by rw [hrow]; intro e; injection e with e; omega)
  have hEw12 := hEw11.low hgr (by omega) (fun c hc => by rw [hrow]; intro e; injection e with e; omega)
  have hEg12 := (hEg11.grown_low hgr (Nat.le_refl _) (hog11.ne (c := gx) (by omega))).more hgr.size
  have hog12 := hog11.grown hgr (hog11.ne (c := gx) (by omega))
  have hb12 := below_after_row hb11' hox (by omega) hgr
  have hz12 := Nat.le_trans hz11 hgr.size
  clear hgr hrow t11 tx11 hEw11 hEg11 hog11 hb11' hz11 hox hd0 hd1
  go_wp2_with fail
  refine (eqStringS_t _ _ _ _ qt _ hEg12 (hEw12.more (by omega)) HQL2.out).mono ?_
  rintro e w13 ⟨rfl, hb13⟩
  have t13 := t12.below hb13 (by omega)
  have hEw13 := hEw12.below (hb13.mono (by omega))
  have hog13 := hog12.below hb13
  have hb13' := hb12.trans (hb13.mono hb12.size)
  have hz13 := Nat.le_trans hz12 hb13.size
  clear hb13 t12 hEw12 hEg12 hog12 hb12 hz12
  obtain ⟨kg, hkg⟩ : ∃ kg, 1 + qt.length = kg := ⟨_, rfl⟩
  have hkg0 : ¬ ((kg : Int) < 0) := by omega
  have hkg1 : ((kg : Int) != (kg : Int)) = false := by simp
  have HKG := Lib.hid hkg; clear hkg
  go_wp2_with fail
  refine (markStringS_own Ag qt.length cg 1 (px + 1) _ hog13 HQL3.out (by omega) (by omega)).mono ?_
  rw [HKG.out]
  rintro e w14 ⟨rfl, hEm14, hgr⟩
  have t14 := t13.grown hgr (by omega) (fun e => hog13.row (c := w.heap.size) (by omega) e.symm)
  have hEw14 := hEw13.low hgr (by omega) (fun c hc e => hog13.row (c := c) (by omega) e.symm)
  have hb14 := below_after_texts hb13' hog13 (by omega) hgr
  have hz14 := Nat.le_trans hz13 hgr.size
  clear hgr t13 hEw13 hb13' hz13 hog13
  go_wp2_with fail
  refine (heldStringS_any Ag qt.length cg 1 _ hEm14 HQL3.out (by omega) (by omega)).mono ?_
  rw [HKG.out]
  rintro e w15 ⟨rfl, hb15⟩
  have t15 := t14.below hb15 (by omega)
  have hEw15 := hEw14.below (hb15.mono (by omega))
  have hEm15 := (hEm14.below hb15).more hb15.size
  have hb15' := hb14.trans (hb15.mono hb14.size)
  have hz15 := Nat.le_trans hz14 hb15.size
  clear hb15 t14 hEw14 hEm14 hb14 hz14
  have hd0 := t15.1; have hd1 := t15.2
  go_wp2_with fail
  refine (toNet_any B A cap es _ ((hE.below hb15').more hb15'.size) HL2.out).mono ?_
  rintro e w16 ⟨g16, rfl, hg16, hE16, hb16⟩
  have hEw16 := hEw15.below (hb16.mono (by omega))
  have hEm16 := (hEm15.below hb16).more hb16.size
  have hb16' := hb15'.trans (hb16.mono hb15'.size)
  have hz16 := Nat.le_trans hz15 hb16.size
  clear hb16 t15 hEw15 hEm15 hb15' hz15 hd0 hd1 hg16
  go_wp2_with fail
  refine (implPartRuns_any B (some ⟨g16, 0, none⟩) es.length es b _ HM.out hE16 HL2.out HS2.out (by have := HBS.out; omega)).mono ?_
  rw [HQ.out]
  rintro e w17 ⟨Ah, ch, rfl, hEh, hb17, _⟩
  simp only at hEh
  have hEw17 := hEw16.below (hb17.mono (by omega))
  have hEm17 := (hEm16.below hb17).more hb17.size
  have hb17' := hb16'.trans (hb17.mono hb16'.size)
  have hz17 := Nat.le_trans hz16 hb17.size
  clear hb17 hEw16 hEm16 hb16' hz16 hE16
  go_wp2_with fail
  refine (eqStringS_t _ _ _ _ qt _ hEh (hEw17.more (by omega)) HQL2.out).mono ?_
  rintro e w19 ⟨rfl, hb19⟩
  have hEm19 := (hEm17.below hb19).more hb19.size
  have hb19' := hb17'.trans (hb19.mono hb17'.size)
  clear hb19 hEw17 hEm17 hEh hb17' hz17
  go_wp2_with fail
  refine (heldStringS_any Ag qt.length cg 1 _ hEm19 HQL3.out (by omega) (by omega)).mono ?_
  rw [HKG.out]
  rintro e w20 ⟨rfl, hb20⟩
  have hb20' := hb19'.trans (hb20.mono hb19'.size)
  clear hb20 hEm19 hb19'
  go_wp2_with fail
  go_ret
  exact ⟨rfl, hb20'⟩

end Go.Proofs.YtpeafheljcjlhaaGreat

namespace Go.Proofs.YtpeafheljcjlhaaGreat
open Go.ChangeShapes Go.WideShapes Go.ChangeAt Go.RowKit
open Go.ChangeMaps (open_string shut_string)
set_option linter.unusedVariables false

theorem ownPartRuns : ownKnob Tryz.prog.godebug = none := by kernel_rfl
theorem laidPartRuns : laidOutB Tryz.prog = true := by kernel_rfl

set_option maxRecDepth 100000 in
theorem liftedPartRuns (os : Os) (started : os.Started) (H : Type) (enc : TypeId × Value → H) :
    ReturnsInHanded {} Tryz.checked os 3 .any (Rows.fnExactPartRunsSpec.pre6 enc Tryz.prog Tryz.f3 Rows.fnExactPartRunsRow.domain false) (Rows.fnExactPartRunsSpec.post enc Tryz.prog Tryz.f3 false true false false) := by
  refine returnsInHanded_of_change (C := Tryz.checked) ownPartRuns started (by kernel_rfl) Tryz.func3
    (ChangeSpec.witness6 (enc := enc) (C := Tryz.checked) false ⟨#[], #[.agg #[.string ⟨#[]⟩, .slice none 0 0], .string ⟨#[]⟩], []⟩ 8 (by kernel_rfl) (by kernel_rfl) (by kernel_rfl) (by kernel_rfl)) ?_
  intro W base args ds gs before hval0 hW hcnd _
  have hval : ∀ (j : Nat) t v, Tryz.f3.params[j]? = some t → args[j]? = some v → Value.okWide Tryz.prog W .any base t v := hval0
  have hW' := hW
  obtain ⟨p, q, hA0, hV, rfl, hfz, hnd⟩ := hW
  have hA : DataW.TrodAll enc Tryz.prog W 0 (fun _ => true) true Tryz.f3.params.toList args.toList ds p := hA0
  rw [Tryz.params3] at hA hval
  obtain ⟨v0, vs0, d0, ds0, p0, q0, hargs, rfl, rfl, h0, r0⟩ := trodAll_cons hA
  obtain ⟨v1, vs1, d1, ds1, p1, q1, rfl, rfl, rfl, h1, r1⟩ := trodAll_cons r0
  obtain ⟨rfl, rfl, rfl⟩ := trodAll_nil r1
  obtain rfl : args = #[v0, v1] := by cases args; simp_all
  obtain ⟨rfl, rfl⟩ := trodVars_none hV
  have k0 := h0
  have lt0 : ∀ x ∈ p0, x.block < W.heap.size := by obtain ⟨m, hm⟩ := k0; exact DataW.trod_lt m _ _ _ hm
  obtain ⟨B0, A0, cap0, es0, rfl, hs0, hE0, hl0, hS0⟩ := open_net (hval 0 24 v0 rfl rfl) h0
  obtain ⟨b1, rfl, rfl, rfl, hz1⟩ := open_string Tryz.underlying9 (hval 1 9 v1 rfl rfl) h1
  clear hA0 hval0
  refine (lawPartRuns B0 A0 cap0 es0 b1 W hs0 hE0 hl0 hS0).mono fun e W' ⟨he, bel⟩ => ?_
  subst he
  exact ⟨_, rfl, _, _, _, [], _, [], hW', trodAll_mk1 (shut_bool Tryz.underlying4 _), (trodAll_cons_mk (Below.trod laidPartRuns (by kernel_rfl) (of_decide_eq_true (by kernel_rfl)) k0 bel lt0) (trodAll_cons_mk (shut_string Tryz.underlying9 hz1) trodAll_mk0)), rfl, bel.frame _, fun h => by cases h⟩

theorem overPartRuns : Rows.fnExactPartRunsRow.holds Tryz.pinned (OpenSpec.ofChange Rows.fnExactPartRunsSpec) :=
  OpenClaim.holds_of_wide 3 Tryz.f3 rfl rfl rfl rfl rfl rfl rfl ⟨rfl, rfl, rfl, rfl, rfl⟩ rfl rfl rfl rfl rfl (by kernel_rfl) Tryz.func3 (by kernel_rfl)
    (of_decide_eq_true (by kernel_rfl)) (by unfold Func.isWrapper; first | (rw [if_pos (by decide +kernel)]; kernel_rfl) | (rw [if_neg (by decide +kernel)]; exact ⟨rfl, rfl⟩))
    (fun os started H enc _ => liftedPartRuns os started H enc)

/-- the statement -/
theorem provedPartRuns : Rows.FnExactPartRunsSaid := overPartRuns

end Go.Proofs.YtpeafheljcjlhaaGreat
