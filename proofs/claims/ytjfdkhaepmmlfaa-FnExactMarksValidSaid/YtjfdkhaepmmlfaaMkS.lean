/- CountMarks, by the model. -/
import Derived.Test.YtjfdkhaepmmlfaaMkC
namespace Go.Proofs.Ytjfdkhaepmmlfaa
open Go.RowKit

theorem all_take_no {ms : List Mk} {k : Nat} (h : k < ms.length) (hn : mkOk ms[k] = false) : ms.all mkOk = false := by
  cases ha : ms.all mkOk with
  | false => rfl
  | true => have := List.all_eq_true.1 ha _ (List.getElem_mem h); rw [hn] at this; exact absurd this (by simp)
theorem all_take_yes {ms : List Mk} {k : Nat} (h : k < ms.length) (ha : (ms.take k).all mkOk = true) (hn : mkOk ms[k] = true) : (ms.take (k + 1)).all mkOk = true := by
  rw [List.take_succ_eq_append_getElem h, List.all_append, ha]
  simp [hn]

set_option maxRecDepth 100000 in
set_option maxHeartbeats 4000000 in
/-- spec.CountMarks -/
theorem specCountMarks_any (A : Option Addr) (cap : Nat) (ms : List Mk) (w : World) (hE : MarksIn w w.heap.size A ms) (hl : ms.length ≤ 1099511627776) :
    Calls Try.prog 25 #[.slice A ms.length cap] w fun e w' => e = .returned (.int .i64 (cntM ms)) ∧ Below w.heap.size w w' := by
  go_enter Try.func25, Try.ntmps25
  go_wp2_with fail
  go_loopw [3, 8] (fun v c wr => ∃ (k q : Nat), k ≤ ms.length ∧ c = .int .i64 k ∧ v = .int .i64 q ∧ q = mksN (ms.take k) ∧ (ms.take k).all mkOk = true ∧ Below w.heap.size w wr) (fun _ c _ => ms.length - (intOf c).toNat)
  case atStart => exact ⟨0, 0, Nat.zero_le _, rfl, rfl, by simp [mksN], by simp, Below.refl _ _⟩
  case round =>
    obtain ⟨k, q, hk, rfl, rfl, hq, hall, hb⟩ := hrel
    have HQ := Lib.hid hq; have HALL := Lib.hid hall
    have hqb : q ≤ 2 * 1099511627776 := by have := mksN_take_le ms k; omega
    clear hq hall
    by_cases hlt : k < ms.length
    · obtain ⟨eb, eo, rfl, hlow, h1, h2, h3⟩ := (hE.below hb) k hlt
      have HT := Lib.hid (mksN_take hlt)
      have HNO := Lib.hid (all_take_no hlt)
      have HYES := Lib.hid (all_take_yes hlt HALL.out)
      obtain ⟨⟨a, n, c⟩, hm⟩ : ∃ m, ms[k] = m := ⟨_, rfl⟩
      rw [hm] at h1 h2 h3 HT HNO HYES
      simp only at h1 h2 h3
      clear hm
      have hba : Below wr.heap.size wr (wr.alloc (.cells #[.string a, .int .i64 n, .bool c] 78)) := (Below.refl _ _).alloc (Nat.le_refl _) _
      have HB : Hid (Below w.heap.size w (wr.alloc (.cells #[.string a, .int .i64 n, .bool c] 78))) := Lib.hid (hb.trans (hba.mono hb.size))
      have hz : (wr.alloc (.cells #[.string a, .int .i64 n, .bool c] 78)).heap.size = wr.heap.size + 1 := by simp
      have hcc : (wr.alloc (.cells #[.string a, .int .i64 n, .bool c] 78)).cell? ⟨wr.heap.size, 2, none⟩ = some (.bool c) := by go_simp
      have hca : (wr.alloc (.cells #[.string a, .int .i64 n, .bool c] 78)).cell? ⟨wr.heap.size, 0, none⟩ = some (.string a) := by go_simp
      have HC := Lib.hid hcc; have HA := Lib.hid hca
      clear hba hcc hca
      obtain ⟨ok, hok⟩ : ∃ ok, mkOk (a, n, c) = ok := ⟨_, rfl⟩
      have FM : Hid (∀ W : World, Calls Try.prog 44 #[.agg #[.string a, .int .i64 n, .bool c]] W fun e w' => e = .returned (.bool ok) ∧ Below W.heap.size W w') := Lib.hid fun W => by rw [← hok]; exact l7Mark_any a n c W
      rw [hok] at HNO HYES
      have HMN : Hid (mkN (a, n, c) = (if (a.toList == [115, 101, 116] || a.toList == [97, 100, 100]) then 1 else 0) + (if c then 1 else 0)) := Lib.hid rfl
      clear hok
      go_wp2_with fail
      refine (FM.out _).mono ?_
      rintro e w3 ⟨rfl, hb3⟩
      have HB3 : Hid (Below w.heap.size w w3) := Lib.hid (HB.out.trans (hb3.mono HB.out.size))
      have hc3 : w3.cell? ⟨wr.heap.size, 2, none⟩ = some (.bool c) := (hb3.cell (by simp only; omega)).trans HC.out
      have ha3 : w3.cell? ⟨wr.heap.size, 0, none⟩ = some (.string a) := (hb3.cell (by simp only; omega)).trans HA.out
      clear hb3 FM HC HA h1 h2 h3
      cases ok with
      | false =>
        have HF : Hid (cntM ms = -1) := Lib.hid (by unfold cntM; rw [HNO.out rfl]; rfl)
        go_wp2_with fail
        go_ret
        exact ⟨rtI HF.out.symm, HB3.out⟩
      | true =>
        rcases op_cases a with ⟨h3, h4, h5, h6⟩ | ⟨h3, h4, h5, h6⟩ | ⟨h3, h4, h5, h6⟩ | ⟨h3, h4, h5, h6⟩ | ⟨h3, h4, h5, h6⟩
        all_goals
          rw [h3, h4] at HMN
          cases c
        all_goals
          have HQ2 := Lib.hid (HT.out.trans (by rw [HMN.out]))
          simp only [Bool.false_eq_true, Bool.or_true, Bool.or_false, Bool.true_or, Bool.false_or, if_true, if_false] at HQ2
          clear HT HMN
          go_wp2_with fail
          go_roundw
          case rel => exact ⟨k + 1, mksN (ms.take (k + 1)), by omega, by go_num, by have := HQ2.out; have := HQ.out; first | (rw [this]; go_num; done) | (congr 1; omega) | (rw [HQ2.out, ← HQ.out]; go_num), rfl, HYES.out (by first | rfl | trivial), HB3.out⟩
          case measure => simp [intOf]; omega
    · have HF : Hid (cntM ms = (mksN ms : Nat)) := Lib.hid (by
        have := HALL.out
        rw [List.take_of_length_le (by omega)] at this
        unfold cntM; rw [this]; rfl)
      go_wp2_with fail
      go_ret
      exact ⟨rtI (by rw [HF.out, HQ.out, List.take_of_length_le (by omega)]), hb⟩

end Go.Proofs.Ytjfdkhaepmmlfaa
