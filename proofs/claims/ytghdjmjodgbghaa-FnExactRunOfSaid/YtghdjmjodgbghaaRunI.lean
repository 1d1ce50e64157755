/- The run of a number, by the program. -/
import Derived.Test.YtghdjmjodgbghaaLastU
import Derived.Test.YtghdjmjodgbghaaAlong
import Derived.Test.YtghdjmjodgbghaaVofI
namespace Go.Proofs.Ytghdjmjodgbghaa
open Go.RowKit

set_option maxRecDepth 100000 in
/-- impl.runAt$1 -/
theorem runKeep_any (A : Option Addr) (cap : Nat) (es : List (ByteArray × ByteArray)) (b : ByteArray) (k g1 g2 M : Nat) (w : World) (hk : k < es.length) (hE : EdgesIn w M A es)
    (h1 : w.cell? ⟨g1, 1, none⟩ = some (.slice A es.length cap)) (h2 : w.cell? ⟨g2, 0, none⟩ = some (.string b)) :
    Calls Try.prog 82 (#[.int .i64 k] ++ #[.pointer (some ⟨g1, 0, none⟩), .pointer (some ⟨g2, 0, none⟩)]) w fun e w' => e = .returned (.bool (outB es b k)) ∧ Below w.heap.size w w' := by
  obtain ⟨eb, eo, rfl, hlow, q1, q2⟩ := hE k hk
  have hp := Lib.hid (outB_at (b := b) hk)
  clear hlow q2
  go_enter Try.func82, Try.ntmps82
  go_wp2_with fail
  go_quiet (fail)
  go_wp2_with fail
  go_ret
  exact ⟨ret_bool hp.out.symm, below_drewN (Below.refl _ _) _⟩

/-- how long the text in a cell is -/
def textZ : Option Value → Nat
  | some (.string s) => s.size
  | _ => 0

set_option maxRecDepth 100000 in
set_option maxHeartbeats 4000000 in
/-- impl.runAt -/
theorem runAt_any (B : ByteArray) (A : Option Addr) (cap m0 : Nat) (es : List (ByteArray × ByteArray)) (w : World) (hs : B.size ≤ maxLen) (hE : EdgesIn w w.heap.size A es) (hv : acycV B es = true) (hm0 : m0 ≤ 4294967296) :
    Calls Try.prog 57 #[.agg #[.string B, .slice A es.length cap], .int .i64 (m0 : Int)] w
      fun e w' => e = .returned (.string ⟨(runE es (exit_ B.data.toList) 8 (entry B.data.toList) m0).toArray⟩) ∧ Below w.heap.size w w' := by
  have hA := acy_v hv
  have h16 := hA.F.few
  have HA := Lib.hid hA
  obtain ⟨t, ht⟩ : ∃ t, exit_ B.data.toList = t := ⟨_, rfl⟩
  obtain ⟨b0, hb0⟩ : ∃ b0, entry B.data.toList = b0 := ⟨_, rfl⟩
  obtain ⟨tot, htot⟩ : ∃ tot, runE es t 8 b0 m0 = tot := ⟨_, rfl⟩
  have HST : Hid (RunAt B es t tot ⟨#[]⟩ b0 m0) := Lib.hid (by
    have := RunAt.start hA m0
    rwa [ht, hb0, htot] at this)
  have HLE : Hid (∀ b, b ∈ B.data.toList → b ≠ t → ∀ m, ∃ k, lastE es t b m = some k ∧ k < es.length ∧ valE (ebs es) t k ≤ m ∧ (ebs es)[k]? = some ([b], [toE es k]) ∧ toE es k ∈ B.data.toList ∧ es.getD k (⟨#[]⟩, ⟨#[]⟩) = (⟨#[b]⟩, ⟨#[toE es k]⟩)) := Lib.hid fun b hb hbt m => by
    have := lastE_some hA hb (by rw [ht]; exact hbt) m
    rwa [ht] at this
  have HVF : Hid (∀ k, valE (ebs es) t k ≤ 4294967296) := Lib.hid fun k => by
    rcases Nat.lt_or_ge k es.length with h | h
    · rw [← ht]; exact valE_small hA h
    · rw [valE_out (by rw [ebs_len]; exact h)]; omega
  have FV : Hid (∀ W : World, EdgesIn W W.heap.size A es → Calls Try.prog 48 #[.agg #[.string B, .slice A es.length cap]] W fun e w' => e = .returned (arr16 (valE (ebs es) t)) ∧ Below W.heap.size W w') := Lib.hid fun W h => by
    rw [← ht]; exact values_acy hv hs W h
  have FE : Hid (∀ W : World, Calls Try.prog 41 #[.agg #[.string B, .slice A es.length cap]] W fun e w' => e = .returned (.string ⟨#[b0]⟩) ∧ Below W.heap.size W w') := Lib.hid fun W => by
    rw [← hb0, ← hA.F.first]; exact entryOf_any B _ W hA.F.one hs
  have FX : Hid (∀ W : World, Calls Try.prog 70 #[.agg #[.string B, .slice A es.length cap]] W fun e w' => e = .returned (.string ⟨#[t]⟩) ∧ Below W.heap.size W w') := Lib.hid fun W => by
    rw [← ht, ← hA.F.last]; exact exitOf_any B _ W hA.F.one hs
  rw [ht, hb0, htot]
  have hb1 : Below w.heap.size w (w.alloc (.cells #[.string B, .slice A es.length cap] 29)) := (Below.refl _ _).alloc (Nat.le_refl _) _
  have t1 := Two.made w B A es.length cap 29
  have hz1 : (w.alloc (.cells #[.string B, .slice A es.length cap] 29)).heap.size = w.heap.size + 1 := by simp
  clear hA hv ht hb0 htot
  go_enter Try.func57, Try.ntmps57
  go_wp2_with fail
  refine (FV.out _ ((hE.below hb1).more hb1.size)).mono ?_
  rintro e w2 ⟨rfl, hb2⟩
  have hb2' := hb1.trans (hb2.mono hb1.size)
  have t2 := t1.below hb2 (by omega)
  have hz2 : w.heap.size + 1 ≤ w2.heap.size := by have := hb2.size; omega
  clear hb2 t1 hz1 hb1 FV
  obtain ⟨F, hF⟩ : ∃ F, valE (ebs es) t = F := ⟨_, rfl⟩
  rw [hF]
  have HF := Lib.hid hF
  have hrow := arr16_row w2 F
  have hb3 : Below w2.heap.size w2 (w2.alloc (.cells #[.int .i64 ((F 0 : Nat) : Int), .int .i64 ((F 1 : Nat) : Int), .int .i64 ((F 2 : Nat) : Int), .int .i64 ((F 3 : Nat) : Int), .int .i64 ((F 4 : Nat) : Int), .int .i64 ((F 5 : Nat) : Int), .int .i64 ((F 6 : Nat) : Int), .int .i64 ((F 7 : Nat) : Int), .int .i64 ((F 8 : Nat) : Int), .int .i64 ((F 9 : Nat) : Int), .int .i64 ((F 10 : Nat) : Int), .int .i64 ((F 11 : Nat) : Int), .int .i64 ((F 12 : Nat) : Int), .int .i64 ((F 13 : Nat) : Int), .int .i64 ((F 14 : Nat) : Int), .int .i64 ((F 15 : Nat) : Int)] 53)) := (Below.refl _ _).alloc (Nat.le_refl _) _
  have hz3 : (w2.alloc (.cells #[.int .i64 ((F 0 : Nat) : Int), .int .i64 ((F 1 : Nat) : Int), .int .i64 ((F 2 : Nat) : Int), .int .i64 ((F 3 : Nat) : Int), .int .i64 ((F 4 : Nat) : Int), .int .i64 ((F 5 : Nat) : Int), .int .i64 ((F 6 : Nat) : Int), .int .i64 ((F 7 : Nat) : Int), .int .i64 ((F 8 : Nat) : Int), .int .i64 ((F 9 : Nat) : Int), .int .i64 ((F 10 : Nat) : Int), .int .i64 ((F 11 : Nat) : Int), .int .i64 ((F 12 : Nat) : Int), .int .i64 ((F 13 : Nat) : Int), .int .i64 ((F 14 : Nat) : Int), .int .i64 ((F 15 : Nat) : Int)] 53)).heap.size = w2.heap.size + 1 := by simp
  have HROW := Lib.hid hrow; have HB3 := Lib.hid hb3; have HZ3 := Lib.hid hz3
  have t3 := t2.below hb3 (by omega)
  have hd0 := t3.1; have hd1 := t3.2
  have HT3 := Lib.hid t3
  clear hF hrow hb3 hz3 t2 t3
  unfold arr16
  go_wp2_with fail
  generalize hW3 : w2.alloc (.cells #[.int .i64 ((F 0 : Nat) : Int), .int .i64 ((F 1 : Nat) : Int), .int .i64 ((F 2 : Nat) : Int), .int .i64 ((F 3 : Nat) : Int), .int .i64 ((F 4 : Nat) : Int), .int .i64 ((F 5 : Nat) : Int), .int .i64 ((F 6 : Nat) : Int), .int .i64 ((F 7 : Nat) : Int), .int .i64 ((F 8 : Nat) : Int), .int .i64 ((F 9 : Nat) : Int), .int .i64 ((F 10 : Nat) : Int), .int .i64 ((F 11 : Nat) : Int), .int .i64 ((F 12 : Nat) : Int), .int .i64 ((F 13 : Nat) : Int), .int .i64 ((F 14 : Nat) : Int), .int .i64 ((F 15 : Nat) : Int)] 53) = w3 at HROW HB3 HZ3 HT3 hd0 hd1 ⊢
  clear hW3
  refine (FE.out _).mono ?_
  rintro e w4 ⟨rfl, hb4⟩
  have hb3' := hb2'.trans (HB3.out.mono hb2'.size)
  have hb4' := hb3'.trans (hb4.mono hb3'.size)
  have hz4 : w2.heap.size + 1 ≤ w4.heap.size := by have := hb4.size; have := HZ3.out; omega
  have t4 := HT3.out.below hb4 (by have := HZ3.out; omega)
  have hrow4 := HROW.out.of_block (hb4.block w2.heap.size (by have := HZ3.out; omega))
  have hba : Below w4.heap.size w4 (w4.alloc (.cells #[.string ⟨#[b0]⟩, .string ⟨#[]⟩] 83)) := (Below.refl _ _).alloc (Nat.le_refl _) _
  have hwr : (w4.alloc (.cells #[.string ⟨#[b0]⟩, .string ⟨#[]⟩] 83)).rowIs w4.heap.size 83 2 (fun i => if i = 0 then .string ⟨#[b0]⟩ else .string ⟨#[]⟩) :=
    World.rowIs_alloc w4 #[.string ⟨#[b0]⟩, .string ⟨#[]⟩] 83 _ (fun i hi => by
      match i, hi with
      | 0, _ => rfl
      | 1, _ => rfl)
  have hz5 : (w4.alloc (.cells #[.string ⟨#[b0]⟩, .string ⟨#[]⟩] 83)).heap.size = w4.heap.size + 1 := by simp
  have HT5 := Lib.hid (t4.below hba (by omega)); have HROW5 := Lib.hid (hrow4.of_block (hba.block w2.heap.size (by omega))); have HB5 := Lib.hid (hb4'.trans (hba.mono hb4'.size))
  have HWR := Lib.hid hwr
  clear hd0 hd1 HROW HB3 HZ3 HT3 hb4 hb3' t4 hrow4 hba hwr hb2' hb4' FE
  go_wp2_with fail
  generalize hW5 : w4.alloc (.cells #[.string ⟨#[b0]⟩, .string ⟨#[]⟩] 83) = w5 at HT5 HROW5 HB5 HWR hz5 ⊢
  clear hW5
  obtain ⟨X, hX⟩ : ∃ X, w2.heap.size = X := ⟨_, rfl⟩
  obtain ⟨R, hR⟩ : ∃ R, w4.heap.size = R := ⟨_, rfl⟩
  rw [hX] at HROW5 hz4 ⊢
  rw [hR] at HWR hz5 hz4 ⊢
  go_loopw [1] (fun a wr => ∃ (p : ByteArray) (b : UInt8) (m : Nat), a = .int .i64 (m : Int) ∧ RunAt B es t tot p b m ∧ m ≤ 4294967296 ∧ Below w.heap.size w wr ∧ R + 1 ≤ wr.heap.size ∧ Two wr w.heap.size B A es.length cap ∧
    wr.rowIs X 53 16 (fun i => .int .i64 ((F i : Nat) : Int)) ∧ wr.rowIs R 83 2 (fun i => if i = 0 then .string ⟨#[b]⟩ else .string p)) (fun _ wk => 8 - textZ (wk.cell? ⟨R, 1, none⟩))
  case atStart => exact ⟨⟨#[]⟩, b0, m0, rfl, HST.out, hm0, HB5.out, by omega, HT5.out, HROW5.out, HWR.out⟩
  case round =>
    clear HST HT5 HROW5 HB5 HWR
    obtain ⟨p, b, m, rfl, hra, hm, hbw, hz, t6, hr6, hw6⟩ := hrel
    have hzz := hbw.size
    have HRA := Lib.hid hra; have HBW := Lib.hid hbw; have HT6 := Lib.hid t6; have HR6 := Lib.hid hr6; have HW6 := Lib.hid hw6; have HW0 := Lib.hid hw6
    have x0 : ∀ x : After wr, x.W.cell? ⟨w.heap.size, 0, none⟩ = some (.string B) := fun x => x.cell (by simp only; omega) t6.1
    have x1 : ∀ x : After wr, x.W.cell? ⟨w.heap.size, 1, none⟩ = some (.slice A es.length cap) := fun x => x.cell (by simp only; omega) t6.2
    have hwc0 := hw6.cell (i := 0) (by omega)
    simp only [if_true] at hwc0
    have x2 : ∀ x : After wr, x.W.cell? ⟨R, 0, none⟩ = some (.string ⟨#[b]⟩) := fun x => x.cell (by simp only; omega) hwc0
    clear hra hbw t6 hr6 hw6 hwc0
    by_cases hbt : b = t
    · subst hbt
      go_wp2_with fail
      refine wp_region_below (by kernel_rfl) (by kernel_rfl) ?_
      repeat (go_big_quiet_step ((go_at_call 70; exact After.call (FX.out _))))
      refine wpQuiet_nil ?_
      rintro _ ⟨xw, rfl⟩
      clear x0 x1 x2
      have hw7 := (HW6.out.of_block (xw.h.block R (by omega)))
      have c1 := hw7.cell (i := 1) (by omega)
      have e10 : (1 : Nat) = 0 ↔ False := by simp
      simp only [e10, if_false] at c1
      clear hw7 e10
      go_wp2_with fail
      go_ret
      exact ⟨by rw [← HRA.out.done]; rfl, HBW.out.trans (xw.h.mono HBW.out.size)⟩
    · have hq : (b == t) = false := by simp [hbt]
      obtain ⟨k, hk, hkl, hvk, hek, hto, hes⟩ := HLE.out b HRA.out.mem hbt m
      obtain ⟨hra2, hp6⟩ := HRA.out.step hbt hk hek hto
      have HRA2 := Lib.hid hra2
      have HLV : Hid (lastV (lastO (fun k => decide (F k ≤ m)) ((List.range es.length).filter (outB es ⟨#[b]⟩))) = (k : Int)) := Lib.hid (by
        rw [← HF.out]
        show lastV (lastE es t b m) = _
        rw [hk]; rfl)
      obtain ⟨c, hc⟩ : ∃ c, toE es k = c := ⟨_, rfl⟩
      rw [hc] at hes HRA2
      have hes2 : es[k].2 = ⟨#[c]⟩ := by
        have := congrArg Prod.snd hes
        rwa [List.getD_eq_getElem?_getD, List.getElem?_eq_getElem hkl, Option.getD_some] at this
      have HES := Lib.hid hes2
      have HKL := Lib.hid hkl
      obtain ⟨v, hv⟩ : ∃ v, F k = v := ⟨_, rfl⟩
      have hvm : v ≤ m := by rw [← hv, ← HF.out]; exact hvk
      have HV := Lib.hid hv
      have HM2 : Hid (m - valE (ebs es) t k = m - v) := Lib.hid (by rw [HF.out, hv])
      obtain ⟨m2, hm2⟩ : ∃ m2, m - v = m2 := ⟨_, rfl⟩
      rw [HM2.out, hm2] at HRA2
      have a1 : IntKind.i64.wrap ((m : Int) - (v : Int)) = (m2 : Int) := by rw [IntWalk.i64_in _ (by omega)]; omega
      have a2 : (es.length : Int) ≤ 16 := by omega
      have a3 : es.length ≤ 16 := h16
      have HM4 : Hid (m2 ≤ 4294967296) := Lib.hid (by omega)
      have a4 : (k : Int) < 16 := by omega
      have a5 : k < 16 := by omega
      have HP6 := Lib.hid hp6
      clear hbt hk hvk hek hto hes hes2 hra2 hc hv hm2 hp6
      go_wp2_with fail
      refine wp_region_below (by kernel_rfl) (by kernel_rfl) ?_
      repeat (go_big_quiet_step ((go_at_call 70; exact After.call (FX.out _))))
      refine wpQuiet_nil ?_
      rintro _ ⟨xw, rfl⟩
      clear x0 x1 x2
      obtain ⟨w7, hw7⟩ : ∃ w7, xw.W = w7 := ⟨_, rfl⟩
      have hb7 := xw.h
      rw [hw7] at hb7 ⊢
      clear hw7 xw
      have hz7 := hb7.size
      have t7 := HT6.out.below hb7 (by omega)
      have HR7 := Lib.hid (HR6.out.of_block (hb7.block X (by omega)))
      have HW7 := Lib.hid (HW6.out.of_block (hb7.block R (by omega)))
      have HB7 := Lib.hid (HBW.out.trans (hb7.mono HBW.out.size))
      have HT7 := Lib.hid t7
      have hd1 := t7.2
      have hx7 : X < w7.heap.size := by omega
      clear hb7 t7 HT6 HR6 HW6
      go_wp2_with fail
      refine (lastUpTo_any X es.length 16 m F _ _ (outB es ⟨#[b]⟩) w7 h16 hx7 (fun i => by rw [← HF.out]; exact HVF.out i) (fun i hi => HR7.out.cell (i := i) (by omega)) (enters_of Try.func82 (by kernel_rfl) rfl)
        (fun i W hi hbW => runKeep_any A cap es ⟨#[b]⟩ i w.heap.size R W.heap.size W hi (((hE.below HB7.out).below (hbW.mono HB7.out.size)).more (Nat.le_trans HB7.out.size hbW.size)) ((hbW.cell (by simp only; omega)).trans HT7.out.2) ((hbW.cell (by simp only; omega)).trans (HW7.out.cell (i := 0) (by omega))))).mono ?_
      rw [HLV.out]
      rintro e w8 ⟨rfl, hb8⟩
      have hz8 := hb8.size
      have t8 := HT7.out.below hb8 (by omega)
      have hr8 := HR7.out.of_block (hb8.block X (by omega))
      have hw8 := HW7.out.of_block (hb8.block R (by omega))
      have HB8 := Lib.hid (HB7.out.trans (hb8.mono HB7.out.size))
      have d0 := t8.1; have d1 := t8.2
      have dk := hr8.cell (i := k) (by omega)
      rw [HV.out] at dk
      have dw0 := hw8.cell (i := 0) (by omega); have dw1 := hw8.cell (i := 1) (by omega)
      simp only [if_true] at dw0
      have e10 : (1 : Nat) = 0 ↔ False := by simp
      simp only [e10, if_false] at dw1
      have HT8 := Lib.hid t8; have HR8 := Lib.hid hr8; have HW8 := Lib.hid hw8
      clear hb8 hd1 hx7 HT7 HR7 HW7 HB7 e10 t8 hr8 hw8
      go_wp2_with fail
      refine (along_any ⟨#[b]⟩ p B A cap es k _ ((hE.below HB8.out).more HB8.out.size) (by omega) HKL.out (by have := HP6.out; omega)).mono ?_
      rw [HES.out]
      rintro e w9 ⟨rfl, hb9⟩
      have hz9 := hb9.size
      have hw9 := HW8.out.of_block (hb9.block R (by omega))
      have HW9 := Lib.hid hw9
      have HT9 := Lib.hid (HT8.out.below hb9 (by omega)); have HR9 := Lib.hid (HR8.out.of_block (hb9.block X (by omega))); have HB9 := Lib.hid (HB8.out.trans (hb9.mono HB8.out.size))
      have f0 := hw9.frozen 0; have f1 := hw9.frozen 1
      have g0 := hw9.cell (i := 0) (by omega); have g1 := hw9.cell (i := 1) (by omega)
      simp only [if_true] at g0
      have e10 : (1 : Nat) = 0 ↔ False := by simp
      simp only [e10, if_false] at g1
      clear hw9 hb9 e10 d0 d1 dk dw0 dw1 HT8 HR8 HW8 HB8
      obtain ⟨p2, hp2⟩ : ∃ p2 : ByteArray, p ++ ⟨#[nameOf k]⟩ = p2 := ⟨_, rfl⟩
      rw [hp2] at HRA2 ⊢
      have HZ2 : Hid (p2.size = p.size + 1) := Lib.hid (by rw [← hp2, ByteArray.size_append]; rfl)
      clear hp2
      go_wp2_with fail
      have hw10 : ((w9.setCell ⟨R, 0, none⟩ (.string ⟨#[c]⟩)).setCell ⟨R, 1, none⟩ (.string p2)).rowIs R 83 2 (fun i => if i = 0 then .string ⟨#[c]⟩ else .string p2) := ((HW9.out.set 0 _).set 1 _).congr fun i hi => by
        match i, hi with
        | 0, _ => rfl
        | 1, _ => rfl
      have hg10 : w9.grownBy ((w9.setCell ⟨R, 0, none⟩ (.string ⟨#[c]⟩)).setCell ⟨R, 1, none⟩ (.string p2)) (some R) := only_setCell_at (only_setCell_at (World.grownBy.refl w9 _))
      have hz10 : ((w9.setCell ⟨R, 0, none⟩ (.string ⟨#[c]⟩)).setCell ⟨R, 1, none⟩ (.string p2)).heap.size = w9.heap.size := by simp [World.setCell]
      have HT10 := Lib.hid (HT9.out.grown hg10 (by omega) (by intro e; injection e with e; omega))
      have HR10 := Lib.hid (HR9.out.of_block (hg10.block X (by omega) (by intro e; injection e with e; omega)))
      have HB10 := Lib.hid ((HB9.out.setCell (p := ⟨R, 0, none⟩) (by simp only; omega) (.string ⟨#[c]⟩)).setCell (p := ⟨R, 1, none⟩) (by simp only; omega) (.string p2))
      have HW10 := Lib.hid hw10
      clear hw10 hg10 f0 f1 g0 g1
      generalize hW10 : (w9.setCell ⟨R, 0, none⟩ (.string ⟨#[c]⟩)).setCell ⟨R, 1, none⟩ (.string p2) = w10 at HT10 HR10 HB10 HW10 hz10 ⊢
      clear hW10
      go_roundw
      case rel => exact ⟨p2, c, m2, rfl, HRA2.out, HM4.out, HB10.out, by omega, HT10.out, HR10.out, HW10.out⟩
      case measure =>
        have q1 : w10.cell? ⟨R, 1, none⟩ = some (.string p2) := HW10.out.cell (i := 1) (by omega)
        have q2 : wr.cell? ⟨R, 1, none⟩ = some (.string p) := HW0.out.cell (i := 1) (by omega)
        rw [q1, q2]
        simp only [textZ]
        have := HZ2.out; have := HP6.out
        omega

end Go.Proofs.Ytghdjmjodgbghaa
