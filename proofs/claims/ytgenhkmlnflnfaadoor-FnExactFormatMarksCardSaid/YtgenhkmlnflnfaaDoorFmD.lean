/- Decimal numbers by the model: spec.l16Dec. -/
import Derived.Test.YtgenhkmlnflnfaaDoorFmP
import Derived.Test.YtgenhkmlnflnfaaDoorOneB
namespace Go.Proofs.YtgenhkmlnflnfaaDoor
open Go.RowKit

theorem str_same {a b : ByteArray} (h : a.data.toList = b.data.toList) : a = b := by
  obtain ⟨⟨a⟩⟩ := a
  obtain ⟨⟨b⟩⟩ := b
  simp at h; rw [h]
theorem dec_step {m : Nat} (h : ¬ m < 10) : Lib.decDigits m = Lib.decDigits (m / 10) ++ [UInt8.ofNat (48 + m % 10)] := by rw [Lib.decDigits, dif_neg h]
theorem dec_last {m : Nat} (h : m < 10) : Lib.decDigits m = [UInt8.ofNat (48 + m)] := by rw [Lib.decDigits, dif_pos h]

set_option maxRecDepth 100000 in
set_option maxHeartbeats 2000000 in
/-- spec.l16Dec, of a number that is not negative -/
theorem dec_pos (n : Nat) (hn : n ≤ 9223372036854775807) (w : World) : Calls Tryd.prog 10 #[.int .i64 (n : Int)] w fun e w' => e = .returned (.string ⟨(Lib.decDigits n).toArray⟩) ∧ Below w.heap.size w w' := by
  have g1 : ¬ ((n : Int) < -9223372036854775807) := by omega
  have g2 : ¬ ((n : Int) < 0) := by omega
  have hd := nDigits_20 (u := n) (by omega)
  go_enter Tryd.func10, Tryd.ntmps10
  go_wp2_with fail
  go_loopw [0, 3] (fun i out wr => ∃ (m : Nat) (s : ByteArray), i = .int .i64 m ∧ out = .string s ∧ m ≤ n ∧ Lib.decDigits n = Lib.decDigits m ++ s.data.toList ∧ Lib.nDigits m + s.size ≤ 20 ∧ Below w.heap.size w wr) (fun i _ _ => (intOf i).toNat)
  case atStart => exact ⟨n, ⟨#[]⟩, rfl, rfl, Nat.le_refl _, by simp, by show Lib.nDigits n + 0 ≤ 20; omega, Below.refl _ _⟩
  case round =>
    obtain ⟨m, s, rfl, rfl, hm, he, hz, hb⟩ := hrel
    have HE := Lib.hid he; have HZ := Lib.hid hz; have HB := Lib.hid hb
    have hmb : (m : Int) ≤ 9223372036854775807 := by omega
    clear he
    by_cases h9 : (9 : Int) < m
    · have h10 : ¬ m < 10 := by omega
      obtain ⟨c, hc⟩ : ∃ c, UInt8.ofNat (48 + m % 10) = c := ⟨_, rfl⟩
      have hback := run_oneB c (48 + (m : Int) % 10) (by rw [← hc]; simp [UInt8.toNat_ofNat]; omega) wr
      have HC := Lib.hid hc
      clear hc
      have hbn : Below w.heap.size w (wr.alloc (.cells #[.int .u8 (48 + (m : Int) % 10)] 5)) := hb.alloc hb.size _
      have hsz : ¬ 9223372036854775807 < (⟨#[c]⟩ : ByteArray).size + s.size := by
        have : (⟨#[c]⟩ : ByteArray).size = 1 := rfl
        omega
      clear hz hb
      go_wp2_with fail
      go_roundw
      case rel =>
        refine ⟨m / 10, _, by simp, rfl, by omega, ?_, ?_, hbn⟩
        · rw [Go.Joins.data_append, HE.out, dec_step h10, List.append_assoc, HC.out]
        · have h1 : Lib.nDigits m = Lib.nDigits (m / 10) + 1 := by rw [Lib.nDigits, dif_neg h10]
          have := HZ.out
          have e : (⟨#[c]⟩ : ByteArray).size = 1 := rfl
          rw [ByteArray.size_append, e]; omega
      case measure => simp [intOf]; omega
    · have h10 : m < 10 := by omega
      obtain ⟨c, hc⟩ : ∃ c, UInt8.ofNat (48 + m) = c := ⟨_, rfl⟩
      have hback := run_oneB c (48 + (m : Int)) (by rw [← hc]; simp [UInt8.toNat_ofNat]; omega) wr
      have HC := Lib.hid hc
      clear hc
      have hbn : Below w.heap.size w (wr.alloc (.cells #[.int .u8 (48 + (m : Int))] 5)) := hb.alloc hb.size _
      have hsz : ¬ 9223372036854775807 < (⟨#[c]⟩ : ByteArray).size + s.size := by
        have : (⟨#[c]⟩ : ByteArray).size = 1 := rfl
        omega
      have hmb2 : (m : Int) < 10 := by omega
      clear hz hb
      go_wp2_with fail
      go_ret
      refine ⟨?_, hbn⟩
      have h := HE.out
      rw [dec_last h10, HC.out] at h
      rw [h]
      exact congrArg (fun q => Ending.returned (.string q)) (str_same (by rw [Go.Joins.data_append]))

/-- spec.l16Dec -/
theorem dec_any (n : Int) (h0 : -9223372036854775808 ≤ n) (h1 : n ≤ 9223372036854775807) (w : World) : Calls Tryd.prog 10 #[.int .i64 n] w fun e w' => e = .returned (.string ⟨(Lib.itoa n).toArray⟩) ∧ Below w.heap.size w w' := by
  by_cases hn : 0 ≤ n
  · obtain ⟨u, rfl⟩ : ∃ u : Nat, n = (u : Int) := ⟨n.toNat, by omega⟩
    have e : Lib.itoa (u : Int) = Lib.decDigits u := by unfold Lib.itoa; rw [if_neg (by omega)]; simp
    rw [e]
    exact dec_pos u (by omega) w
  by_cases hmin : n < -9223372036854775807
  · have e : n = -9223372036854775808 := by omega
    subst e
    have e : Lib.itoa (-9223372036854775808) = [45, 57, 50, 50, 51, 51, 55, 50, 48, 51, 54, 56, 53, 52, 55, 55, 53, 56, 48, 56] := by
      unfold Lib.itoa
      rw [if_pos (by decide)]
      simp [Lib.decDigits]
    rw [e]
    go_enter Tryd.func10, Tryd.ntmps10
    go_wp2_with fail
    go_ret
    exact ⟨rfl, Below.refl _ _⟩
  · obtain ⟨u, hu⟩ : ∃ u : Nat, -n = (u : Int) := ⟨(-n).toNat, by omega⟩
    have e : Lib.itoa n = 45 :: Lib.decDigits u := by unfold Lib.itoa; rw [if_pos (by omega), show n.natAbs = u by omega]
    have FP := Lib.hid (fun W => dec_pos u (by omega) W)
    have g1 : n < 0 := by omega
    have z1 : IntKind.i64.wrap (-n) = (u : Int) := by rw [IntWalk.i64_in _ (by omega)]; exact hu
    have hd : (Lib.decDigits u).length ≤ 20 := by rw [Lib.decDigits_length]; exact nDigits_20 (by omega)
    obtain ⟨ub, hub⟩ : ∃ ub : ByteArray, (⟨(Lib.decDigits u).toArray⟩ : ByteArray) = ub := ⟨_, rfl⟩
    have hsz : ¬ 9223372036854775807 < (⟨#[45]⟩ : ByteArray).size + ub.size := by
      have e1 : (⟨#[45]⟩ : ByteArray).size = 1 := rfl
      have e2 : ub.size = (Lib.decDigits u).length := by rw [← hub]; show (Lib.decDigits u).toArray.size = _; simp
      omega
    have HR : Hid ((⟨(Lib.itoa n).toArray⟩ : ByteArray) = ⟨#[45]⟩ ++ ub) := Lib.hid (by rw [e, ← hub]; exact str_same (by rw [Go.Joins.data_append]; rfl))
    rw [hub] at FP
    clear e hub hd hu
    go_enter Tryd.func10, Tryd.ntmps10
    go_wp2_with fail
    refine (FP.out _).mono ?_
    rintro e w2 ⟨rfl, hb2⟩
    go_wp2_with fail
    go_ret
    exact ⟨by rw [HR.out]; rfl, hb2⟩

end Go.Proofs.YtgenhkmlnflnfaaDoor
