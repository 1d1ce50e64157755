/- Trees by the model: IsTree. -/
import Derived.Test.YtadngnajenedpaaTreeS
namespace Go.Proofs.Ytadngnajenedpaa
open Go.RowKit

set_option maxRecDepth 100000 in
set_option maxHeartbeats 4000000 in
/-- spec.l5Known -/
theorem l5Known_any (B : ByteArray) (A : Option Addr) (n cap : Nat) (b : ByteArray) (w : World) (hn : n ≤ 1099511627776) (hbz : b.size ≤ 1099511627776) :
    Calls Try.prog 40 #[.agg #[.string B, .slice A n cap], .string b] w (BoolPost (decB (Known n b.data.toList)) w) := by
  have hlen : b.data.toList.length = b.size := by simp
  have HLEN := Lib.hid hlen; have HN := Lib.hid hn
  clear hlen hn
  have hb1 : Below w.heap.size w (w.alloc (.cells #[.string B, .slice A n cap] 30)) := (Below.refl _ _).alloc (Nat.le_refl _) _
  have t1 := Two.made w B A n cap 30
  have hz1 : (w.alloc (.cells #[.string B, .slice A n cap] 30)).heap.size = w.heap.size + 1 := by simp
  go_enter Try.func40, Try.ntmps40
  go_wp2_with fail
  generalize hW1 : w.alloc (.cells #[.string B, .slice A n cap] 30) = w1 at hb1 t1 hz1 ⊢
  clear hW1
  go_loopw [8] (fun c wr => ∃ i : Nat, i ≤ b.size ∧ c = .int .i64 i ∧ Below w1.heap.size w1 wr ∧ Hid (∀ j, j < i → 0 ≤ eIdx n [b.data.toList.getD j 0] ∧ (0 < j → (b.data.toList.getD (j - 1) 0).toNat < (b.data.toList.getD j 0).toNat))) (fun c _ => b.size - (intOf c).toNat)
  case atStart => exact ⟨0, Nat.zero_le _, rfl, Below.refl _ _, Lib.hid fun j h => absurd h (by omega)⟩
  case round =>
    obtain ⟨i, hi, rfl, hb, HR⟩ := hrel
    have hbw := hb1.trans (hb.mono hb1.size)
    by_cases hlt : i < b.size
    case neg =>
      have HD : Hid (true = decB (Known n b.data.toList)) := Lib.hid (by
        symm; refine decB_t fun j hj => HR.out j (by have := HLEN.out; omega))
      go_wp2_with fail
      go_ret
      exact ⟨ret_bool HD.out, hbw⟩
    have hex := letter_at (p := b) hlt
    have FX : Hid (∀ W : World, Calls Try.prog 59 #[.agg #[.string B, .slice A n cap], .string (b.extract i (i + 1))] W fun e w' => e = .returned (.int .i64 (eIdx n [b.data.toList.getD i 0])) ∧ Below W.heap.size W w') := Lib.hid fun W => by
      have := l1Index_any (.string B) A n cap (b.extract i (i + 1)) W HN.out
      rwa [hex] at this
    have HC : Hid (b[i] = b.data.toList.getD i 0) := Lib.hid (by
      have h : b.data.toList[i]? = some b[i] := List.getElem?_eq_getElem (by simpa using hlt)
      rw [List.getD_eq_getElem?_getD, h]; rfl)
    obtain ⟨c, hc⟩ : ∃ c, b.data.toList.getD i 0 = c := ⟨_, rfl⟩
    have HCC := Lib.hid hc
    obtain ⟨r, hr⟩ : ∃ r, eIdx n [c] = r := ⟨_, rfl⟩
    rw [hc] at FX HC
    rw [hr] at FX
    have HRR := Lib.hid hr
    have a1 : (0 : Int) ≤ (i : Int) := by omega
    have a4 : (0 : Int) ≤ (i : Int) + 1 := by omega
    have a5 : ((i : Int) + 1).toNat = i + 1 := by omega
    have a6 : (i : Int) + 1 ≤ (b.size : Int) := by omega
    have a7 : i + 1 ≤ b.size := by omega
    have a8 : (i : Int) ≤ (i : Int) + 1 := by omega
    have a9 : IntKind.i64.wrap ((i : Int) + 1) = (i : Int) + 1 := IntWalk.i64_in _ (by omega)
    have x0 : ∀ x : After wr, x.W.cell? ⟨w.heap.size, 0, none⟩ = some (.string B) := fun x => x.cell (by have := hb.size; simp only; omega) ((hb.cell (by simp only; omega)).trans t1.1)
    have x1 : ∀ x : After wr, x.W.cell? ⟨w.heap.size, 1, none⟩ = some (.slice A n cap) := fun x => x.cell (by have := hb.size; simp only; omega) ((hb.cell (by simp only; omega)).trans t1.2)
    clear hex hc hr t1
    by_cases hr0 : r < 0
    · have HD : Hid (false = decB (Known n b.data.toList)) := Lib.hid (by
        symm; refine decB_f fun h => ?_
        have := (h i (by have := HLEN.out; omega)).1
        rw [HCC.out, HRR.out] at this
        omega)
      go_wp2_with fail
      refine wp_region_below (by kernel_rfl) (by kernel_rfl) ?_
      repeat (go_big_quiet_step ((go_at_call 59; exact After.call (FX.out _))))
      refine wpQuiet_nil ?_
      rintro _ ⟨xw, rfl⟩
      clear x0 x1
      go_wp2_with fail
      go_ret
      exact ⟨ret_bool HD.out, hbw.trans (xw.h.mono hbw.size)⟩
    have q0 : decide (r < 0) = false := by simp; omega
    cases i with
    | zero =>
      have a2 : ¬ (0 : Int) < ((0 : Nat) : Int) := by omega
      have HNX : Hid (∀ j, j < 0 + 1 → 0 ≤ eIdx n [b.data.toList.getD j 0] ∧ (0 < j → (b.data.toList.getD (j - 1) 0).toNat < (b.data.toList.getD j 0).toNat)) := Lib.hid fun j hj => by
        obtain rfl : j = 0 := by omega
        rw [HCC.out, HRR.out]
        exact ⟨by omega, fun h => absurd h (by omega)⟩
      go_wp2_with fail
      refine wp_region_below (by kernel_rfl) (by kernel_rfl) ?_
      repeat (go_big_quiet_step ((go_at_call 59; exact After.call (FX.out _))))
      refine wpQuiet_nil ?_
      rintro _ ⟨xw, rfl⟩
      clear x0 x1
      go_wp2_with fail
      go_roundw
      case rel => exact ⟨0 + 1, by omega, by go_num, hb.trans (xw.h.mono hb.size), HNX⟩
      case measure => simp [intOf]; omega
    | succ p =>
      have hp : p < b.size := by omega
      have HC2 : Hid (b[p] = b.data.toList.getD p 0) := Lib.hid (by
        have h : b.data.toList[p]? = some b[p] := List.getElem?_eq_getElem (by simpa using hp)
        rw [List.getD_eq_getElem?_getD, h]; rfl)
      obtain ⟨c2, hc2⟩ : ∃ c2, b.data.toList.getD p 0 = c2 := ⟨_, rfl⟩
      rw [hc2] at HC2
      have HCP := Lib.hid hc2
      have b1 : IntKind.i64.wrap (((p + 1 : Nat) : Int) - 1) = (p : Int) := by rw [IntWalk.i64_in _ (by omega)]; omega
      have b2 : (0 : Int) ≤ (p : Int) := by omega
      have b3 : (p : Int) < (b.size : Int) := by omega
      have b4 : (0 : Int) < ((p + 1 : Nat) : Int) := by omega
      have b5 : ((p + 1 : Nat) : Int) < (b.size : Int) := by omega
      have g1 : b[p] = c2 := HC2.out
      have g2 : b[p + 1] = c := HC.out
      clear hc2
      obtain ⟨v1, hv1⟩ : ∃ v1 : Nat, c.toNat = v1 := ⟨_, rfl⟩
      obtain ⟨v2, hv2⟩ : ∃ v2 : Nat, c2.toNat = v2 := ⟨_, rfl⟩
      have g3 : ((b[p].toNat : Nat) : Int) = (v2 : Int) := by rw [g1, hv2]
      have g4 : ((b[p + 1].toNat : Nat) : Int) = (v1 : Int) := by rw [g2, hv1]
      have HV1 := Lib.hid hv1; have HV2 := Lib.hid hv2
      clear g1 g2 hv1 hv2
      by_cases hge : v1 ≤ v2
      · have HD : Hid (false = decB (Known n b.data.toList)) := Lib.hid (by
          symm; refine decB_f fun h => ?_
          have := (h (p + 1) (by have := HLEN.out; omega)).2 (by omega)
          rw [Nat.add_sub_cancel, HCC.out, HCP.out, HV1.out, HV2.out] at this
          omega)
        have q : (v1 : Int) ≤ (v2 : Int) := by omega
        go_wp2_with fail
        refine wp_region_below (by kernel_rfl) (by kernel_rfl) ?_
        repeat (go_big_quiet_step ((go_at_call 59; exact After.call (FX.out _))))
        refine wpQuiet_nil ?_
        rintro _ ⟨xw, rfl⟩
        clear x0 x1 g3 g4
        go_wp2_with fail
        go_ret
        exact ⟨ret_bool HD.out, hbw.trans (xw.h.mono hbw.size)⟩
      · have HNX : Hid (∀ j, j < p + 1 + 1 → 0 ≤ eIdx n [b.data.toList.getD j 0] ∧ (0 < j → (b.data.toList.getD (j - 1) 0).toNat < (b.data.toList.getD j 0).toNat)) := Lib.hid fun j hj => by
          by_cases hjp : j < p + 1
          · exact HR.out j hjp
          · obtain rfl : j = p + 1 := by omega
            rw [HCC.out, HRR.out, Nat.add_sub_cancel, HCP.out, HV1.out, HV2.out]
            exact ⟨by omega, fun _ => by omega⟩
        have q : ¬ (v1 : Int) ≤ (v2 : Int) := by omega
        go_wp2_with fail
        refine wp_region_below (by kernel_rfl) (by kernel_rfl) ?_
        repeat (go_big_quiet_step ((go_at_call 59; exact After.call (FX.out _))))
        refine wpQuiet_nil ?_
        rintro _ ⟨xw, rfl⟩
        clear x0 x1 g3 g4
        go_wp2_with fail
        go_roundw
        case rel => exact ⟨p + 1 + 1, by omega, by go_num, hb.trans (xw.h.mono hb.size), HNX⟩
        case measure => simp [intOf]; omega

end Go.Proofs.Ytadngnajenedpaa
