/- Marks read in nets. -/
import Derived.Test.YtpeafheljcjlhaaMarks
namespace Go.Proofs.Ytpeafheljcjlhaa
open Go.RowKit

set_option maxRecDepth 100000 in
set_option maxHeartbeats 2000000 in
/-- laws.heldEdgeS, over edges that are marked -/
theorem heldEdgeS_any (A : Option Addr) (n cap m : Nat) (w : World) (hE : EdgesIn w w.heap.size A (marked m n)) (hn : n ≤ 1048576) (h1 : 1 ≤ m) (h2 : m ≤ 1048576) :
    Calls Try.prog 23 #[.slice A n cap, .int .i64 m] w fun e w' => e = .returned (.int .i64 (m + 2 * n : Nat)) ∧ Below w.heap.size w w' := by
  go_enter Try.func23, Try.ntmps23
  go_wp2_with fail
  go_loopw [1, 5] (fun a i wr => ∃ k q : Nat, k ≤ n ∧ q = m + 2 * k ∧ a = .int .i64 q ∧ i = .int .i64 k ∧ Below w.heap.size w wr) (fun _ i _ => n - (intOf i).toNat)
  case atStart => exact ⟨0, m, Nat.zero_le _, rfl, rfl, rfl, Below.refl _ _⟩
  case round =>
    obtain ⟨k, q, hk, hq, rfl, rfl, hb⟩ := hrel
    have HQ := Lib.hid hq; have HB := Lib.hid hb
    have hqb : q ≤ 1099511627770 := by omega
    have hq1 : 1 ≤ q := by omega
    have hz := hb.size
    by_cases hlt : k < n
    · obtain ⟨eb, eo, rfl, hlow, c1, c2⟩ := (hE.below hb) k (by rw [marked_length]; exact hlt)
      rw [marked_at m hlt] at c1 c2
      simp only [← hq] at c1 c2
      clear hq hb
      have t1 : ((mark q).toList != (mark q).toList) = false := by simp
      have t2 : ((mark (q + 1)).toList != (mark (q + 1)).toList) = false := by simp
      have hS : ∀ W, Below wr.heap.size wr W → (W.cell? ⟨eb, eo + k * 2, none⟩ = some (.string (mark q)) ∧ Below wr.heap.size wr W) :=
        fun W h => ⟨(h.cell (by simp only; omega)).trans c1, h⟩
      have HSS := Lib.hid hS
      clear hS
      go_wp2_with fail
      go_region_held3 (fun W => W.cell? ⟨eb, eo + k * 2, none⟩ = some (.string (mark q)) ∧ Below wr.heap.size wr W)
        (first | exact HSS.out _ (Below.refl _ _).drew | exact HSS.out _ ((Below.refl _ _).drew.trans hb3))
        (first | (go_at_call 44; refine (markText_any q hq1 (by omega) _).mono ?_; rintro e w3 ⟨rfl, hb3⟩))
      rename_i hHeld
      have hb3' : Below wr.heap.size wr w3 := hHeld.2
      have d2 := (hb3'.cell (p := ⟨eb, eo + k * 2 + 1, none⟩) (by simp only; omega)).trans c2
      have hz3 := hb3'.size
      have HB3 := Lib.hid (HB.out.trans (hb3'.mono hz))
      have hS2 : ∀ W, Below w3.heap.size w3 W → (W.cell? ⟨eb, eo + k * 2 + 1, none⟩ = some (.string (mark (q + 1))) ∧ Below w3.heap.size w3 W) :=
        fun W h => ⟨(h.cell (by simp only; omega)).trans d2, h⟩
      have HSS2 := Lib.hid hS2
      clear hS2 hHeld hb3 hb3' c1 c2 HSS
      go_wp2_with fail
      go_region_held3 (fun W => W.cell? ⟨eb, eo + k * 2 + 1, none⟩ = some (.string (mark (q + 1))) ∧ Below w3.heap.size w3 W)
        (first | exact HSS2.out _ (Below.refl _ _).drew | exact HSS2.out _ ((Below.refl _ _).drew.trans hb5))
        (first | (go_at_call 44; rw [show ((q : Int) + 1) = ((q + 1 : Nat) : Int) by simp]; refine (markText_any (q + 1) (by omega) (by omega) _).mono ?_; rintro e w5 ⟨rfl, hb5⟩))
      rename_i hHeld
      have HB5 := Lib.hid (HB3.out.trans (hHeld.2.mono HB3.out.size))
      clear hHeld d2
      go_wp2_with fail
      go_roundw
      case rel => exact ⟨k + 1, q + 2, by omega, by have := HQ.out; omega, by go_num, by go_num, HB5.out⟩
      case measure => simp [intOf]; omega
    · go_wp2_with fail
      go_ret
      have hkn : k = n := by omega
      subst hkn
      exact ⟨ret_int (by rw [← HQ.out]), HB.out⟩

set_option maxRecDepth 100000 in
set_option maxHeartbeats 1000000 in
/-- laws.heldNet, of a net that is marked -/
theorem heldNet_any (B : ByteArray) (A : Option Addr) (n cap m : Nat) (w : World) (hE : EdgesIn w w.heap.size A (marked m n)) (hn : n ≤ 1048576) (h1 : 1 ≤ m) (h2 : m ≤ 1048576) :
    Calls Try.prog 12 #[.agg #[.string B, .slice A n cap], .int .i64 m] w fun e w' => e = .returned (.int .i64 (m + 2 * n : Nat)) ∧ Below w.heap.size w w' := by
  have hb1 : Below w.heap.size w (w.alloc (.cells #[.string B, .slice A n cap] 28)) := (Below.refl _ _).alloc (Nat.le_refl _) _
  obtain ⟨r, hrr⟩ : ∃ r, m + 2 * n = r := ⟨_, rfl⟩
  rw [hrr]
  have HRR := Lib.hid hrr
  have hr0 : ¬ ((r : Int) < 0) := by omega
  clear hrr
  go_enter Try.func12, Try.ntmps12
  go_wp2_with fail
  refine (heldEdgeS_any A n cap m _ ((hE.below hb1).more hb1.size) hn h1 h2).mono ?_
  rw [HRR.out]
  rintro e w2 ⟨rfl, hb2⟩
  have hb2' := hb1.trans (hb2.mono hb1.size)
  go_wp2_with fail
  go_ret
  exact ⟨rfl, hb2'⟩

end Go.Proofs.Ytpeafheljcjlhaa
