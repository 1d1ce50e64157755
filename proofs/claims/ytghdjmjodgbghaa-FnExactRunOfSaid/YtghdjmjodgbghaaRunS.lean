/- The run of a number, by the model. -/
import Derived.Test.YtghdjmjodgbghaaRunP
namespace Go.Proofs.Ytghdjmjodgbghaa
open Go.RowKit

/-- the name of an edge, or none -/
def lastT : Option Nat → ByteArray
  | none => ⟨#[]⟩
  | some k => ⟨#[nameOf k]⟩
/-- how long a text is -/
def valZ : Value → Nat
  | .string s => s.size
  | _ => 0

set_option maxRecDepth 100000 in
set_option maxHeartbeats 8000000 in
/-- spec.l4Run -/
theorem l4Run_any (B : ByteArray) (A : Option Addr) (cap m0 : Nat) (es : List (ByteArray × ByteArray)) (w : World) (hE : EdgesIn w w.heap.size A es) (hA : Acy B es (orderE B.data.toList (ebs es))) (hBm : B.size ≤ maxLen) (hm0 : m0 ≤ 4294967296) :
    Calls Try.prog 56 #[.agg #[.string B, .slice A es.length cap], .string ⟨#[entry B.data.toList]⟩, .int .i64 (m0 : Int)] w
      fun e w' => e = .returned (.string ⟨(runE es (exit_ B.data.toList) 8 (entry B.data.toList) m0).toArray⟩) ∧ Below w.heap.size w w' := by
  have h16 := hA.F.few
  obtain ⟨t, ht⟩ : ∃ t, exit_ B.data.toList = t := ⟨_, rfl⟩
  obtain ⟨b0, hb0⟩ : ∃ b0, entry B.data.toList = b0 := ⟨_, rfl⟩
  obtain ⟨tot, htot⟩ : ∃ tot, runE es t 8 b0 m0 = tot := ⟨_, rfl⟩
  have HST : Hid (RunAt B es t tot ⟨#[]⟩ b0 m0) := Lib.hid (by
    have := RunAt.start hA m0
    rwa [ht, hb0, htot] at this)
  have HLE : Hid (∀ b, b ∈ B.data.toList → b ≠ t → ∀ m, ∃ k, lastE es t b m = some k ∧ k < es.length ∧ valE (ebs es) t k ≤ m ∧ (ebs es)[k]? = some ([b], [toE es k]) ∧ toE es k ∈ B.data.toList ∧ es.getD k (⟨#[]⟩, ⟨#[]⟩) = (⟨#[b]⟩, ⟨#[toE es k]⟩)) := Lib.hid fun b hb hbt m => by
    have := lastE_some hA hb (by rw [ht]; exact hbt) m
    rwa [ht] at this
  have HVF : Hid (∀ k, k < es.length → valE (ebs es) t k ≤ 4294967296) := Lib.hid fun k h => by rw [← ht]; exact valE_small hA h
  have HOL : Hid (∀ b ix, ix ∈ outsOf es b → ix < es.length) := Lib.hid fun b ix h => (outsOf_mem hA.F.lets h).1
  have FL : Hid (∀ (i : Nat), i < es.length → ∀ W : World, EdgesIn W W.heap.size A es → Calls Try.prog 58 #[.agg #[.string B, .slice A es.length cap], .string ⟨#[nameOf i]⟩] W fun e w' => e = .returned (.agg #[.string (es.getD i (⟨#[]⟩, ⟨#[]⟩)).1, .string (es.getD i (⟨#[]⟩, ⟨#[]⟩)).2]) ∧ Below W.heap.size W w') := Lib.hid fun i hi W h => by
    have := l2Edge_any B A cap es ⟨#[nameOf i]⟩ i W h (by omega) hi (eIdx_name hi (by omega))
    simpa [List.getD, hi] using this
  have FO : Hid (∀ x, ∀ W : World, EdgesIn W W.heap.size A es → Calls Try.prog 74 #[.agg #[.string B, .slice A es.length cap], .string ⟨#[x]⟩] W fun e w' => e = .returned (.string ⟨(names (outB es ⟨#[x]⟩) es.length).toArray⟩) ∧ Below W.heap.size W w') := Lib.hid fun x W h => outList_any B A cap es ⟨#[x]⟩ W h (by omega)
  have FV : Hid (∀ k, k < es.length → ∀ W : World, EdgesIn W W.heap.size A es → Calls Try.prog 46 #[.agg #[.string B, .slice A es.length cap], .string ⟨#[nameOf k]⟩] W fun e w' => e = .returned (.int .i64 ((valE (ebs es) t k : Nat) : Int)) ∧ Below W.heap.size W w') := Lib.hid fun k hk W h => by
    rw [← ht]; exact l4Value_any B A cap es k W h hA hBm hk
  have FX : Hid (∀ W : World, Calls Try.prog 77 #[.agg #[.string B, .slice A es.length cap]] W fun e w' => e = .returned (.string ⟨#[t]⟩) ∧ Below W.heap.size W w') := Lib.hid fun W => by
    rw [← ht, ← hA.F.last]; exact l1Exit_any B _ W hA.F.one hBm
  rw [ht, hb0, htot]
  have hb1 : Below w.heap.size w (w.alloc (.cells #[.string B, .slice A es.length cap] 29)) := (Below.refl _ _).alloc (Nat.le_refl _) _
  have t1 := Two.made w B A es.length cap 29
  have hz1 : (w.alloc (.cells #[.string B, .slice A es.length cap] 29)).heap.size = w.heap.size + 1 := by simp
  have e1 := edge_from; have e2 := edge_to
  clear hA hBm ht hb0 htot
  go_enter Try.func56, Try.ntmps56
  go_wp2_with fail
  obtain ⟨w1, hw1⟩ : ∃ w1, w.alloc (.cells #[.string B, .slice A es.length cap] 29) = w1 := ⟨_, rfl⟩
  rw [hw1] at hb1 t1 hz1 ⊢
  clear hw1
  have HT1 := Lib.hid t1; have HB1 := Lib.hid hb1
  clear t1 hb1
  go_loopw [1, 2, 7] (fun bv a pv wr => ∃ (p : ByteArray) (b : UInt8) (m : Nat), bv = .string ⟨#[b]⟩ ∧ a = .int .i64 (m : Int) ∧ pv = .string p ∧ RunAt B es t tot p b m ∧ m ≤ 4294967296 ∧ Below w1.heap.size w1 wr) (fun _ _ pv _ => 8 - valZ pv)
  case atStart => exact ⟨⟨#[]⟩, b0, m0, rfl, rfl, rfl, HST.out, hm0, Below.refl _ _⟩
  case round =>
    clear HST
    obtain ⟨p, b, m, rfl, rfl, rfl, hra, hm, hb⟩ := hrel
    have HRA := Lib.hid hra; have HB := Lib.hid hb
    have hzr := hb.size
    have hbw := HB1.out.trans (hb.mono HB1.out.size)
    have tr := HT1.out.below hb (by omega)
    have hd0 := tr.1; have hd1 := tr.2
    have HTR := Lib.hid tr
    have HBW := Lib.hid hbw
    clear hra hb hbw tr
    by_cases hbt : b = t
    · subst hbt
      go_wp2_with fail
      refine (FX.out _).mono ?_
      rintro e w2 ⟨rfl, hb2⟩
      have HB2 := Lib.hid (HBW.out.trans (hb2.mono HBW.out.size))
      clear hb2
      go_wp2_with fail
      go_ret
      exact ⟨by rw [← HRA.out.done]; rfl, HB2.out⟩
    · have hq : (b == t) = false := by simp [hbt]
      obtain ⟨k, hk, hkl, hvk, hek, hto, hes⟩ := HLE.out b HRA.out.mem hbt m
      obtain ⟨hra2, hp6⟩ := HRA.out.step hbt hk hek hto
      have HRA2 := Lib.hid hra2
      obtain ⟨ot, hot⟩ : ∃ ot : ByteArray, (⟨(names (outB es ⟨#[b]⟩) es.length).toArray⟩ : ByteArray) = ot := ⟨_, rfl⟩
      have hod : ot.data.toList = (outsOf es b).map nameOf := by rw [← hot]; rfl
      have hos : ot.size = (outsOf es b).length := by rw [str_size hod]; simp
      have hol : (outsOf es b).length ≤ 16 := by
        have h1 := names_length (outB es ⟨#[b]⟩) es.length
        have h2 : (names (outB es ⟨#[b]⟩) es.length).length = (outsOf es b).length := by simp [names, outsOf]
        omega
      have FOb := FO.out b
      rw [hot] at FOb
      have HFO := Lib.hid FOb
      have FLk := FL.out k hkl
      rw [hes] at FLk
      obtain ⟨c, hc⟩ : ∃ c, toE es k = c := ⟨_, rfl⟩
      rw [hc] at FLk HRA2
      have HFLK := Lib.hid FLk
      obtain ⟨v, hv⟩ : ∃ v, valE (ebs es) t k = v := ⟨_, rfl⟩
      have FVk := FV.out k hkl
      rw [hv] at FVk hvk
      have HFVK := Lib.hid FVk
      obtain ⟨m2, hm2⟩ : ∃ m2, m - v = m2 := ⟨_, rfl⟩
      rw [hv, hm2] at HRA2
      have hm2z : m2 ≤ 4294967296 := by omega
      have hvb : v ≤ 4294967296 := by rw [← hv]; exact HVF.out k hkl
      have z1 : IntKind.i64.wrap ((m : Int) - (v : Int)) = (m2 : Int) := by rw [IntWalk.i64_in _ (by omega)]; omega
      have HOD := Lib.hid hod; have HOS := Lib.hid hos; have HHK := Lib.hid hk; have HP6 := Lib.hid hp6
      have HM2 := Lib.hid hm2z
      clear hot hod hos FOb FLk FVk hc hv hm2 hk hek hto hes hra2 hp6 hbt hm2z hvk
      go_wp2_with fail
      refine (FX.out _).mono ?_
      rintro e w2 ⟨rfl, hb2⟩
      have hb2' := HBW.out.trans (hb2.mono HBW.out.size)
      have hz2 : w.heap.size + 1 ≤ w2.heap.size := by have := hb2.size; omega
      have t2 := HTR.out.below hb2 (by omega)
      clear hd0 hd1
      have hd0 := t2.1; have hd1 := t2.2
      have HB1w2 := Lib.hid (HB.out.trans (hb2.mono HB.out.size))
      clear hb2
      go_wp2_with fail
      refine (HFO.out _ ((hE.below hb2').more hb2'.size)).mono ?_
      rintro e w3 ⟨rfl, hb3⟩
      have hb3' := hb2'.trans (hb3.mono hb2'.size)
      have hz3 : w.heap.size + 1 ≤ w3.heap.size := by have := hb3.size; omega
      have t3 := t2.below hb3 (by omega)
      have HT3 := Lib.hid t3; have HB3 := Lib.hid hb3'
      have HB1w3 := Lib.hid (HB1w2.out.trans (hb3.mono HB1w2.out.size))
      clear hb3 t2 hb2' hd0 hd1 t3 hb3'
      go_wp2_with fail
      go_loopw [8, 20] (fun bt a wi => ∃ j : Nat, j ≤ ot.size ∧ a = .int .i64 j ∧ bt = .string (lastT (lastO (fun k => decide (valE (ebs es) t k ≤ m)) ((outsOf es b).take j))) ∧ Below w3.heap.size w3 wi) (fun _ a _ => ot.size - (intOf a).toNat)
      case atStart => exact ⟨0, Nat.zero_le _, rfl, rfl, Below.refl _ _⟩
      case round =>
        obtain ⟨j, hj, rfl, rfl, hbi⟩ := hrel
        have HBI := Lib.hid hbi
        have hzi := hbi.size
        have ti := HT3.out.below hbi (by omega)
        clear hbi
        by_cases hlt : j < ot.size
        case neg =>
          have HEND : Hid (lastT (lastO (fun k => decide (valE (ebs es) t k ≤ m)) ((outsOf es b).take j)) = ⟨#[nameOf k]⟩) := Lib.hid (by
            rw [List.take_of_length_le (by have := HOS.out; omega)]
            show lastT (lastE es t b m) = _
            rw [HHK.out]; rfl)
          rw [HEND.out]
          have hbw := HB3.out.trans (HBI.out.mono (by omega))
          have h0 : ¬ ((j : Int) < (ot.size : Int)) := by omega
          have hd0 := ti.1; have hd1 := ti.2
          clear hlt
          go_wp2_with fail
          refine (HFVK.out _ ((hE.below hbw).more hbw.size)).mono ?_
          rintro e w5 ⟨rfl, hb5⟩
          have hb5' := hbw.trans (hb5.mono hbw.size)
          have t5 := ti.below hb5 (by omega)
          have HB1w5 := Lib.hid (HB1w3.out.trans ((HBI.out.mono (by have := HB1w3.out.size; omega)).trans (hb5.mono (by have := HB1w3.out.size; omega))))
          have hz5 := hb5.size
          clear hb5 hd0 hd1
          have hd0 := t5.1; have hd1 := t5.2
          obtain ⟨p2, hp2⟩ : ∃ p2 : ByteArray, p ++ ⟨#[nameOf k]⟩ = p2 := ⟨_, rfl⟩
          have HZ2 : Hid (p2.size = p.size + 1) := Lib.hid (by rw [← hp2, ByteArray.size_append]; rfl)
          have hsz : ¬ 9223372036854775807 < p.size + 1 := by have := HP6.out; omega
          have HP2 := Lib.hid hp2
          go_wp2_with fail
          refine (HFLK.out _ ((hE.below hb5').more hb5'.size)).mono ?_
          rintro e w6 ⟨rfl, hb6⟩
          have HB1w6 := Lib.hid (HB1w5.out.trans (hb6.mono HB1w5.out.size))
          clear hb6 hd0 hd1
          go_wp2_with fail
          go_roundw
          case rel => exact ⟨p2, c, m2, rfl, rfl, by rw [← HP2.out], by rw [← HP2.out]; exact HRA2.out, HM2.out, HB1w6.out⟩
          case measure =>
            simp only [valZ]
            have := HZ2.out; have := HP6.out
            try rw [hp2]
            omega
        have hjo : j < (outsOf es b).length := by have := HOS.out; omega
        obtain ⟨ix, hix⟩ : ∃ ix, (outsOf es b)[j] = ix := ⟨_, rfl⟩
        have hil : ix < es.length := HOL.out b ix (hix ▸ List.getElem_mem hjo)
        have hex : ot.extract j (j + 1) = ⟨#[nameOf ix]⟩ := by
          have := letter_at (p := ot) hlt
          rw [HOD.out] at this
          have e : ((outsOf es b).map nameOf).getD j 0 = nameOf ix := by simp [List.getD, hjo, hix]
          rw [e] at this
          exact one_byte this
        have HTK : Hid ((outsOf es b).take (j + 1) = (outsOf es b).take j ++ [ix]) := Lib.hid (by rw [List.take_succ_eq_append_getElem hjo, hix])
        have a1 : (0 : Int) ≤ (j : Int) := by omega
        have a2 : (j : Int) < (ot.size : Int) := by omega
        have a4 : (0 : Int) ≤ (j : Int) + 1 := by omega
        have a5 : ((j : Int) + 1).toNat = j + 1 := by omega
        have a6 : (j : Int) + 1 ≤ (ot.size : Int) := by omega
        have a7 : j + 1 ≤ ot.size := by omega
        have a8 : (j : Int) ≤ (j : Int) + 1 := by omega
        have a9 : IntKind.i64.wrap ((j : Int) + 1) = (j : Int) + 1 := IntWalk.i64_in _ (by have := HOS.out; omega)
        obtain ⟨vx, hvx⟩ : ∃ vx, valE (ebs es) t ix = vx := ⟨_, rfl⟩
        have FV2 := FV.out ix hil
        rw [hvx] at FV2
        have HFV2 := Lib.hid FV2
        have HVX := Lib.hid hvx
        have hbw := HB3.out.trans (HBI.out.mono (by omega))
        clear hix hil FV2 hvx
        go_wp2_with fail
        have x0 : ∀ x : After wr, x.W.cell? ⟨w.heap.size, 0, none⟩ = some (.string B) := fun x => x.cell (by simp only; omega) ti.1
        have x1 : ∀ x : After wr, x.W.cell? ⟨w.heap.size, 1, none⟩ = some (.slice A es.length cap) := fun x => x.cell (by simp only; omega) ti.2
        have xE : ∀ x : After wr, EdgesIn x.W x.W.heap.size A es := fun x => ((hE.below hbw).below (x.h.mono hbw.size)).more (Nat.le_trans hbw.size x.h.size)
        have XE := Lib.hid xE; clear xE
        refine wp_region_below (by kernel_rfl) (by kernel_rfl) ?_
        repeat (go_big_quiet_step ((go_at_call 46; exact After.call (HFV2.out _ (XE.out _)))))
        refine wpQuiet_nil ?_
        rintro _ ⟨xw, rfl⟩
        clear x0 x1 XE
        by_cases hle : vx ≤ m
        · have HL2 : Hid (lastO (fun k => decide (valE (ebs es) t k ≤ m)) ((outsOf es b).take (j + 1)) = some ix) := Lib.hid (by rw [HTK.out]; exact lastO_yes (by simp [HVX.out, hle]))
          have hle2 : (vx : Int) ≤ (m : Int) := by omega
          clear hle
          go_wp2_with fail
          go_roundw
          case rel => exact ⟨j + 1, by omega, by go_num, by rw [HL2.out]; rfl, HBI.out.trans (xw.h.mono (by omega))⟩
          case measure => simp [intOf]; omega
        · have HL2 : Hid (lastO (fun k => decide (valE (ebs es) t k ≤ m)) ((outsOf es b).take (j + 1)) = lastO (fun k => decide (valE (ebs es) t k ≤ m)) ((outsOf es b).take j)) := Lib.hid (by rw [HTK.out]; exact lastO_no (by simp [HVX.out]; omega))
          have hle2 : ¬ ((vx : Int) ≤ (m : Int)) := by omega
          clear hle
          go_wp2_with fail
          go_roundw
          case rel => exact ⟨j + 1, by omega, by go_num, by rw [HL2.out], HBI.out.trans (xw.h.mono (by omega))⟩
          case measure => simp [intOf]; omega

end Go.Proofs.Ytghdjmjodgbghaa
