/- FormatMarks, by the model. -/
import Derived.Test.YtgenhkmlnflnfaaDoorFmD
namespace Go.Proofs.YtgenhkmlnflnfaaDoor
open Go.RowKit

theorem fsz1 (b : UInt8) : (⟨#[b]⟩ : ByteArray).size = 1 := rfl
theorem fsz2 (b c : UInt8) : (⟨#[b, c]⟩ : ByteArray).size = 2 := rfl

set_option maxRecDepth 100000 in
set_option maxHeartbeats 4000000 in
/-- spec.FormatMarks -/
theorem specFormatMarks_any (A : Option Addr) (cap : Nat) (ms : List Mk) (w : World) (hE : MarksIn w w.heap.size A ms) (hl : ms.length ≤ 1099511627776) (hw : MksWf ms) :
    Calls Tryd.prog 5 #[.slice A ms.length cap] w fun e w' => e = .returned (.string ⟨(formatV ms).toArray⟩) ∧ Below w.heap.size w w' := by
  have HW := Lib.hid hw
  clear hw
  go_enter Tryd.func5, Tryd.ntmps5
  go_wp2_with fail
  go_loopw [3, 8] (fun v c wr => ∃ (k : Nat) (s : ByteArray), k ≤ ms.length ∧ c = .int .i64 k ∧ v = .string s ∧ s.data.toList = fmTo ms k ∧ Below w.heap.size w wr) (fun _ c _ => ms.length - (intOf c).toNat)
  case atStart => exact ⟨0, ⟨#[]⟩, Nat.zero_le _, rfl, rfl, by simp [fmTo], Below.refl _ _⟩
  case round =>
    obtain ⟨k, s, hk, rfl, rfl, hs, hb⟩ := hrel
    have hfl := fmTo_len HW.out k hk
    have hsz : s.size = (fmTo ms k).length := by rw [← hs]; simp
    have hs1 : k ≤ s.size := by omega
    have hs2 : s.size ≤ 25 * 1099511627776 := by omega
    have HS := Lib.hid hs; have HB := Lib.hid hb
    clear hs hfl hsz
    by_cases hlt : k < ms.length
    · obtain ⟨eb, eo, rfl, hlow, h1, h2, h3⟩ := (hE.below hb) k hlt
      have hwf := HW.out ms[k] (List.getElem_mem hlt)
      have HT : Hid (fmTo ms (k + 1) = fmTo ms k ++ ((if 0 < k then [32] else []) ++ fmL ms[k])) := Lib.hid (by
        rw [fmTo_succ]; unfold fmAt
        rw [List.getD_eq_getElem?_getD, List.getElem?_eq_getElem hlt]; rfl)
      obtain ⟨⟨a, n, c⟩, hm⟩ : ∃ m, ms[k] = m := ⟨_, rfl⟩
      rw [hm] at h1 h2 h3 HT hwf
      simp only at h1 h2 h3 hwf
      clear hm
      have hba : Below wr.heap.size wr (wr.alloc (.cells #[.string a, .int .i64 n, .bool c] 32)) := (Below.refl _ _).alloc (Nat.le_refl _) _
      have HBA : Hid (Below w.heap.size w (wr.alloc (.cells #[.string a, .int .i64 n, .bool c] 32))) := Lib.hid (hb.trans (hba.mono hb.size))
      have hz : (wr.alloc (.cells #[.string a, .int .i64 n, .bool c] 32)).heap.size = wr.heap.size + 1 := by simp
      have hcc : (wr.alloc (.cells #[.string a, .int .i64 n, .bool c] 32)).cell? ⟨wr.heap.size, 2, none⟩ = some (.bool c) := by go_simp
      have HC := Lib.hid hcc
      have FD : Hid (∀ W : World, Calls Tryd.prog 10 #[.int .i64 n] W fun e w' => e = .returned (.string ⟨(Lib.itoa n).toArray⟩) ∧ Below W.heap.size W w') := Lib.hid fun W => dec_any n hwf.1 hwf.2 W
      have hil := itoa_len hwf.1 hwf.2
      obtain ⟨ib, hib⟩ : ∃ ib : ByteArray, (⟨(Lib.itoa n).toArray⟩ : ByteArray) = ib := ⟨_, rfl⟩
      have hibs : ib.size ≤ 21 := by rw [← hib]; show (Lib.itoa n).toArray.size ≤ 21; simpa using hil
      have hibl : ib.data.toList = Lib.itoa n := by rw [← hib]
      rw [hib] at FD
      have HIB := Lib.hid hibl
      clear hba hcc hb hil hib hibl hwf
      have q0 : ¬ 9223372036854775807 < s.size + (⟨#[32]⟩ : ByteArray).size := by first | omega | (simp only [ByteArray.size_append, fsz1, fsz2]; omega)
      have q1 : ¬ 9223372036854775807 < s.size + (⟨#[114, 61]⟩ : ByteArray).size := by first | omega | (simp only [ByteArray.size_append, fsz1, fsz2]; omega)
      have q2 : ¬ 9223372036854775807 < (s ++ (⟨#[114, 61]⟩ : ByteArray)).size + ib.size := by first | omega | (simp only [ByteArray.size_append, fsz1, fsz2]; omega)
      have q3 : ¬ 9223372036854775807 < (s ++ (⟨#[114, 61]⟩ : ByteArray) ++ ib).size + (⟨#[99]⟩ : ByteArray).size := by first | omega | (simp only [ByteArray.size_append, fsz1, fsz2]; omega)
      have q4 : ¬ 9223372036854775807 < s.size + (⟨#[114, 43]⟩ : ByteArray).size := by first | omega | (simp only [ByteArray.size_append, fsz1, fsz2]; omega)
      have q5 : ¬ 9223372036854775807 < (s ++ (⟨#[114, 43]⟩ : ByteArray)).size + ib.size := by first | omega | (simp only [ByteArray.size_append, fsz1, fsz2]; omega)
      have q6 : ¬ 9223372036854775807 < (s ++ (⟨#[114, 43]⟩ : ByteArray) ++ ib).size + (⟨#[99]⟩ : ByteArray).size := by first | omega | (simp only [ByteArray.size_append, fsz1, fsz2]; omega)
      have q7 : ¬ 9223372036854775807 < s.size + (⟨#[102]⟩ : ByteArray).size := by first | omega | (simp only [ByteArray.size_append, fsz1, fsz2]; omega)
      have q8 : ¬ 9223372036854775807 < (s ++ (⟨#[102]⟩ : ByteArray)).size + ib.size := by first | omega | (simp only [ByteArray.size_append, fsz1, fsz2]; omega)
      have q9 : ¬ 9223372036854775807 < (s ++ (⟨#[102]⟩ : ByteArray) ++ ib).size + (⟨#[99]⟩ : ByteArray).size := by first | omega | (simp only [ByteArray.size_append, fsz1, fsz2]; omega)
      have q10 : ¬ 9223372036854775807 < s.size + (⟨#[45]⟩ : ByteArray).size := by first | omega | (simp only [ByteArray.size_append, fsz1, fsz2]; omega)
      have q11 : ¬ 9223372036854775807 < (s ++ (⟨#[45]⟩ : ByteArray)).size + (⟨#[99]⟩ : ByteArray).size := by first | omega | (simp only [ByteArray.size_append, fsz1, fsz2]; omega)
      have q12 : ¬ 9223372036854775807 < (s ++ (⟨#[32]⟩ : ByteArray)).size + (⟨#[114, 61]⟩ : ByteArray).size := by first | omega | (simp only [ByteArray.size_append, fsz1, fsz2]; omega)
      have q13 : ¬ 9223372036854775807 < ((s ++ (⟨#[32]⟩ : ByteArray)) ++ (⟨#[114, 61]⟩ : ByteArray)).size + ib.size := by first | omega | (simp only [ByteArray.size_append, fsz1, fsz2]; omega)
      have q14 : ¬ 9223372036854775807 < ((s ++ (⟨#[32]⟩ : ByteArray)) ++ (⟨#[114, 61]⟩ : ByteArray) ++ ib).size + (⟨#[99]⟩ : ByteArray).size := by first | omega | (simp only [ByteArray.size_append, fsz1, fsz2]; omega)
      have q15 : ¬ 9223372036854775807 < (s ++ (⟨#[32]⟩ : ByteArray)).size + (⟨#[114, 43]⟩ : ByteArray).size := by first | omega | (simp only [ByteArray.size_append, fsz1, fsz2]; omega)
      have q16 : ¬ 9223372036854775807 < ((s ++ (⟨#[32]⟩ : ByteArray)) ++ (⟨#[114, 43]⟩ : ByteArray)).size + ib.size := by first | omega | (simp only [ByteArray.size_append, fsz1, fsz2]; omega)
      have q17 : ¬ 9223372036854775807 < ((s ++ (⟨#[32]⟩ : ByteArray)) ++ (⟨#[114, 43]⟩ : ByteArray) ++ ib).size + (⟨#[99]⟩ : ByteArray).size := by first | omega | (simp only [ByteArray.size_append, fsz1, fsz2]; omega)
      have q18 : ¬ 9223372036854775807 < (s ++ (⟨#[32]⟩ : ByteArray)).size + (⟨#[102]⟩ : ByteArray).size := by first | omega | (simp only [ByteArray.size_append, fsz1, fsz2]; omega)
      have q19 : ¬ 9223372036854775807 < ((s ++ (⟨#[32]⟩ : ByteArray)) ++ (⟨#[102]⟩ : ByteArray)).size + ib.size := by first | omega | (simp only [ByteArray.size_append, fsz1, fsz2]; omega)
      have q20 : ¬ 9223372036854775807 < ((s ++ (⟨#[32]⟩ : ByteArray)) ++ (⟨#[102]⟩ : ByteArray) ++ ib).size + (⟨#[99]⟩ : ByteArray).size := by first | omega | (simp only [ByteArray.size_append, fsz1, fsz2]; omega)
      have q21 : ¬ 9223372036854775807 < (s ++ (⟨#[32]⟩ : ByteArray)).size + (⟨#[45]⟩ : ByteArray).size := by first | omega | (simp only [ByteArray.size_append, fsz1, fsz2]; omega)
      have q22 : ¬ 9223372036854775807 < ((s ++ (⟨#[32]⟩ : ByteArray)) ++ (⟨#[45]⟩ : ByteArray)).size + (⟨#[99]⟩ : ByteArray).size := by first | omega | (simp only [ByteArray.size_append, fsz1, fsz2]; omega)
      by_cases hk0 : (0 : Int) < k
      all_goals
        rcases op_cases a with ⟨h4, h5, h6, h7⟩ | ⟨h4, h5, h6, h7⟩ | ⟨h4, h5, h6, h7⟩ | ⟨h4, h5, h6, h7⟩ | ⟨h4, h5, h6, h7⟩
      all_goals
        have HT2 : Hid (fmTo ms (k + 1) = fmTo ms k ++ ((if 0 < k then [32] else []) ++ (_ ++ (if c = true then [99] else [])))) := Lib.hid (HT.out.trans (by unfold fmL deedT; rw [h4, h5, h6]))
        clear HT
        cases c
      all_goals
        go_wp2_with (go_at_call 10
                     refine (FD.out _).mono ?_
                     rintro e w3 ⟨rfl, hb3⟩
                     have hcc3 := (hb3.cell (p := ⟨wr.heap.size, 2, none⟩) (by simp only; omega)).trans HC.out)
        go_roundw
        case rel =>
          refine ⟨k + 1, _, by omega, by congr 1, rfl, ?_, by first | exact HBA.out.trans (hb3.mono (HBA.out).size) | exact HBA.out⟩
          rw [HT2.out]
          simp only [Go.Joins.data_append, HS.out, HIB.out, List.append_assoc]
          first
            | rw [if_pos (by omega)]
            | rw [if_neg (by omega)]
          first
            | rfl
            | simp
        case measure => simp [intOf]; omega
    · have hke : k = ms.length := by omega
      by_cases h0 : ms.length = 0
      · have HR : Hid (formatV ms = [45]) := Lib.hid (if_pos h0)
        have hse : (s.toList == []) = true := by
          have h := HS.out
          rw [hke, h0] at h
          have e : s.toList = s.data.toList := Lib.toList_data s
          rw [e, h]; simp [fmTo]
        go_wp2_with fail
        go_ret
        exact ⟨by rw [HR.out]; try rfl, HB.out⟩
      · have HR : Hid ((⟨(formatV ms).toArray⟩ : ByteArray) = s) := Lib.hid (str_same (by rw [HS.out, hke]; exact if_neg h0))
        have hse : (s.toList == []) = false := by
          rw [beq_eq_false_iff_ne]
          intro e
          have h := congrArg List.length (Lib.toList_data s)
          rw [e] at h
          simp at h
          omega
        go_wp2_with fail
        go_ret
        exact ⟨by rw [HR.out]; try rfl, HB.out⟩

end Go.Proofs.YtgenhkmlnflnfaaDoor
