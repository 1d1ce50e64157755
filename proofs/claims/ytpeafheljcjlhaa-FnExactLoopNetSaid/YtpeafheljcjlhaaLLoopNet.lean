/- The law on LoopNet, walked. -/
import Derived.Test.YtpeafheljcjlhaaLaw
import Derived.Test.YtpeafheljcjlhaaHeld
import Derived.Test.YtpeafheljcjlhaaNetRes
import Derived.Test.YtpeafheljcjlhaaZ8I
import Derived.Deep.RegionHeld3
namespace Go.Proofs.Ytpeafheljcjlhaa
open Go.RowKit
set_option linter.unusedVariables false
set_option linter.unusedSimpArgs false

set_option maxRecDepth 100000 in
set_option maxHeartbeats 4000000 in
/-- laws.FnExactLoopNet -/
theorem lawLoopNet (B : ByteArray) (A : Option Addr) (cap : Nat) (es : List (ByteArray × ByteArray)) (w : World) (hs : B.size ≤ maxLen) (hE : EdgesIn w w.heap.size A es) (hl : es.length ≤ maxLen) (hS : ∀ e ∈ es, e.1.size ≤ maxLen ∧ e.2.size ≤ maxLen) :
    Calls Try.prog 3 #[.agg #[.string B, .slice A es.length cap]] w fun e w' => e = .returned (.bool true) ∧ Below w.heap.size w w' := by
  have hb1 : Below w.heap.size w (w.alloc (.cells #[.string B, .slice A es.length cap] 24)) := (Below.refl _ _).alloc (Nat.le_refl _) _
  have t1 : Two (w.alloc (.cells #[.string B, .slice A es.length cap] 24)) w.heap.size B A es.length cap := Two.made _ _ _ _ _ _
  have hz1 : (w.alloc (.cells #[.string B, .slice A es.length cap] 24)).heap.size = w.heap.size + 1 := by simp
  have HS := Lib.hid hS; have HL := Lib.hid hl; have HM := Lib.hid hs
  clear hS hl hs
  obtain ⟨v, hv⟩ : ∃ v, szv (B.size + (es.length + letters es)) 1048576 = v := ⟨_, rfl⟩
  have HV := Lib.hid hv; clear hv
  go_enter Try.func3, Try.ntmps3
  go_wp2_with fail
  refine (szNet_any B A cap es 1048576 _ HM.out ((hE.below hb1).more hb1.size) HL.out HS.out (by omega) (by omega)).mono ?_
  rintro e w2 ⟨rfl, hb2⟩
  rw [HV.out]
  have t2 := t1.below hb2 (by omega)
  have hb2' := hb1.trans (hb2.mono hb1.size)
  have hz2 : w.heap.size + 1 ≤ w2.heap.size := by have := hb2.size; omega
  clear hb2 t1 hb1 hz1
  have hd0 := t2.1; have hd1 := t2.2
  by_cases h0 : v < 0
  · go_wp2_with fail
    go_ret
    exact ⟨rfl, hb2'⟩
  have hle : B.size + (es.length + letters es) ≤ 1048576 := by
    have := HV.out
    unfold szv at this
    split at this <;> omega
  have HL' : Hid (es.length ≤ 1048576) := Lib.hid (by omega)
  have HL2 : Hid (es.length ≤ 1099511627776) := Lib.hid (by omega)
  have HS' : Hid (∀ e ∈ es, e.1.size ≤ 1099511627776 ∧ e.2.size ≤ 1099511627776) := Lib.hid (fun e he => by have := letters_mem he; omega)
  clear hle
  -- what is handed back, under names
  obtain ⟨qb, qe, qo, hq⟩ : ∃ qb qe qo, cutQ B es = (qb, qe, qo) := ⟨_, _, _, rfl⟩
  have HQL : Hid (qe.length ≤ 1048576) := Lib.hid (by have := cutQ_len B es; rw [hq] at this; simp only at *; omega)
  have HQL2 : Hid (qe.length ≤ 1099511627776) := Lib.hid (by have := HQL.out; omega)
  have HQ := Lib.hid hq; clear hq
  go_wp2_with fail
  refine (toNet_any B A cap es _ ((hE.below hb2').more hb2'.size) HL2.out).mono ?_
  rintro e w3 ⟨g3, rfl, hg3, hE3, hb3⟩
  have t3 := t2.below hb3 (by omega)
  have hb3' := hb2'.trans (hb3.mono hb2'.size)
  have hz3 : w.heap.size + 1 ≤ w3.heap.size := Nat.le_trans hz2 hb3.size
  clear hb3 hd0 hd1 t2
  go_wp2_with fail
  refine (specLoopNet_q B (some ⟨g3, 0, none⟩) es.length es _ HM.out hE3 HL2.out HS'.out).mono ?_
  rw [HQ.out]
  rintro e w4 ⟨Aw, cw, rfl, hEw, hb4⟩
  simp only at hEw
  have t4 := t3.below hb4 (by omega)
  have hb4' := hb3'.trans (hb4.mono hb3'.size)
  have hz4 : w.heap.size + 1 ≤ w4.heap.size := Nat.le_trans hz3 hb4.size
  clear hb4 t3 hE3 hb3'
  have hba : Below w4.heap.size w4 (w4.alloc (.cells #[.string qb, .slice Aw qe.length cw] 28)) := (Below.refl _ _).alloc (Nat.le_refl _) _
  have tw := Two.made w4 qb Aw qe.length cw 28
  have t4a := t4.below hba (by omega)
  have hEwa := hEw.below hba
  have hz4a : (w4.alloc (.cells #[.string qb, .slice Aw qe.length cw] 28)).heap.size = w4.heap.size + 1 := by simp
  have hd0 := t4a.1; have hd1 := t4a.2
  have hba' := hb4'.trans (hba.mono hb4'.size)
  clear t4 hEw hba
  go_wp2_with fail
  generalize hW5 : w4.alloc (.cells #[.string qb, .slice Aw qe.length cw] 28) = w5 at tw t4a hEwa hz4a hd0 hd1 hba' ⊢
  clear hW5
  obtain ⟨pw, hpw⟩ : ∃ pw, w4.heap.size = pw := ⟨_, rfl⟩
  rw [hpw] at tw hEwa hz4a hz4 ⊢
  clear hpw hb4' w4
  refine (toNet_row B A cap es _ ((hE.below hba').more hba'.size) HL2.out).mono ?_
  rintro e w6 ⟨gx, rfl, hgx, hEx, hb6, hgxl, fx, hrx⟩
  have t6 := t4a.below hb6 (by omega)
  have tw6 := tw.below hb6 (by omega)
  have hEw6 := hEwa.below (hb6.mono (by omega))
  have hb6' := hba'.trans (hb6.mono hba'.size)
  have hz6 : pw + 1 ≤ w6.heap.size := by have := hb6.size; omega
  have hgx' : pw + 1 ≤ gx := by omega
  clear hb6 t4a tw hEwa hd0 hd1 hba' hgx
  have hba : Below w6.heap.size w6 (w6.alloc (.cells #[.string B, .slice (some ⟨gx, 0, none⟩) es.length es.length] 28)) := (Below.refl _ _).alloc (Nat.le_refl _) _
  have tx := Two.made w6 B (some ⟨gx, 0, none⟩) es.length es.length 28
  have t7 := t6.below hba (by omega)
  have tw7 := tw6.below hba (by omega)
  have hEw7 := hEw6.below (hba.mono (by omega))
  have hEx7 := hEx.below hba
  have hrx7 := hrx.of_block (hba.block gx hgxl)
  have hz7 : (w6.alloc (.cells #[.string B, .slice (some ⟨gx, 0, none⟩) es.length es.length] 28)).heap.size = w6.heap.size + 1 := by simp
  have hba' := hb6'.trans (hba.mono hb6'.size)
  have hd0 := tx.1; have hd1 := tx.2
  have HRX := Lib.hid hrx7
  clear t6 tw6 hEw6 hEx hrx hrx7 hba
  go_wp2_with fail
  generalize hW7 : w6.alloc (.cells #[.string B, .slice (some ⟨gx, 0, none⟩) es.length es.length] 28) = w7 at t7 tx tw7 hEw7 hEx7 hz7 HRX hd0 hd1 hba' ⊢
  clear hW7
  obtain ⟨px, hpx⟩ : ∃ px, w6.heap.size = px := ⟨_, rfl⟩
  rw [hpx] at tx hEx7 hz7 hz6 hd0 hd1 hgxl ⊢
  clear hpx hb6' w6
  refine (implLoopNet_q B (some ⟨gx, 0, none⟩) es.length es _ HM.out (hEx7.more (by omega)) HL2.out HS'.out).mono ?_
  rw [HQ.out]
  rintro e w8 ⟨Ag, cg, rfl, hEg, hb8, hog⟩
  simp only at hEg hog
  have t8 := t7.below hb8 (by omega)
  have tw8 := tw7.below hb8 (by omega)
  have tx8 := tx.below hb8 (by omega)
  have hEw8 := hEw7.below (hb8.mono (by omega))
  have hEx8 := hEx7.below (hb8.mono (by omega))
  have HRX8 := Lib.hid (HRX.out.of_block (hb8.block gx (by omega)))
  have hb8' := hba'.trans (hb8.mono hba'.size)
  have hz8 : px + 1 ≤ w8.heap.size := by have := hb8.size; omega
  have hog8 : OwnEdges w8 (px + 1) Ag qe.length := by rw [← hz7]; exact hog
  clear hb8 t7 tw7 tx hEw7 hEx7 HRX hd0 hd1 hba' hog hz7
  have hba : Below w8.heap.size w8 (w8.alloc (.cells #[.string qb, .slice Ag qe.length cg] 28)) := (Below.refl _ _).alloc (Nat.le_refl _) _
  have tg := Two.made w8 qb Ag qe.length cg 28
  have t9 := t8.below hba (by omega)
  have tw9 := tw8.below hba (by omega)
  have tx9 := tx8.below hba (by omega)
  have hEw9 := hEw8.below (hba.mono (by omega))
  have hEx9 := hEx8.below (hba.mono (by omega))
  have hEg9 := hEg.below hba
  have hog9 := hog8.below hba
  have HRX9 := Lib.hid (HRX8.out.of_block (hba.block gx (by omega)))
  have hz9 : (w8.alloc (.cells #[.string qb, .slice Ag qe.length cg] 28)).heap.size = w8.heap.size + 1 := by simp
  have hba' := hb8'.trans (hba.mono hb8'.size)
  have hrg : Hid (some w8.heap.size ≠ rowOf Ag) := Lib.hid (hog8.row_hi (Nat.le_refl _))
  clear hba t8 tw8 tx8 hEw8 hEx8 hEg hog8 HRX8
  have hd0 := tg.1; have hd1 := tg.2
  have hd2 := tw9.1; have hd3 := tw9.2
  go_wp2_with fail
  generalize hW9 : w8.alloc (.cells #[.string qb, .slice Ag qe.length cg] 28) = w9 at tg t9 tw9 tx9 hEw9 hEx9 hEg9 hog9 HRX9 hz9 hba' hd0 hd1 hd2 hd3 ⊢
  clear hW9
  obtain ⟨pg, hpg⟩ : ∃ pg, w8.heap.size = pg := ⟨_, rfl⟩
  rw [hpg] at tg hEg9 hz9 hz8 hd0 hd1 hrg ⊢
  clear hpg hb8' w8
  refine (eqNet_t qb _ _ _ _ qe _ (hEg9.more (by omega)) (hEw9.more (by omega)) HQL2.out).mono ?_
  rintro e w10 ⟨rfl, hb10⟩
  have t10 := t9.below hb10 (by omega)
  have tw10 := tw9.below hb10 (by omega)
  have tx10 := tx9.below hb10 (by omega)
  have tg10 := tg.below hb10 (by omega)
  have hEw10 := hEw9.below (hb10.mono (by omega))
  have hEx10 := hEx9.below (hb10.mono (by omega))
  have hEg10 := hEg9.below (hb10.mono (by omega))
  have hog10 := hog9.below hb10
  have HRX10 := Lib.hid (HRX9.out.of_block (hb10.block gx (by omega)))
  have hb10' := hba'.trans (hb10.mono hba'.size)
  have hz10 : pg + 1 ≤ w10.heap.size := by have := hb10.size; omega
  clear hb10 t9 tw9 tx9 tg hEw9 hEx9 hEg9 hog9 HRX9 hd0 hd1 hd2 hd3 hba' hz9 w9
  have q2 : (qo != qo) = false := by simp
  have hA : EdgesIn w10 w10.heap.size A es := (hE.below hb10').more hb10'.size
  have hS : ∀ W, Below w10.heap.size w10 W → (W.cell? ⟨px, 0, none⟩ = some (.string B) ∧ W.cell? ⟨px, 1, none⟩ = some (.slice (some ⟨gx, 0, none⟩) es.length es.length) ∧ W.cell? ⟨w.heap.size, 0, none⟩ = some (.string B) ∧ W.cell? ⟨w.heap.size, 1, none⟩ = some (.slice A es.length cap) ∧ Below w10.heap.size w10 W) :=
    fun W h => ⟨(h.cell (by simp only; omega)).trans tx10.1, (h.cell (by simp only; omega)).trans tx10.2, (h.cell (by simp only; omega)).trans t10.1, (h.cell (by simp only; omega)).trans t10.2, h⟩
  have hAA : ∀ W, Below w10.heap.size w10 W → EdgesIn W W.heap.size A es := fun W h => (hA.below h).more h.size
  have hG : ∀ W, Below w10.heap.size w10 W → EdgesIn W W.heap.size (some ⟨gx, 0, none⟩) es := fun W h => (hEx10.below (h.mono (by omega))).more (by have := h.size; omega)
  have HSS := Lib.hid hS; have HA := Lib.hid hAA; have HG := Lib.hid hG
  have HT10 := Lib.hid t10; have HTW10 := Lib.hid tw10; have HTX10 := Lib.hid tx10; have HTG10 := Lib.hid tg10
  have HEW10 := Lib.hid hEw10; have HEX10 := Lib.hid hEx10; have HEG10 := Lib.hid hEg10; have HOG10 := Lib.hid hog10
  clear hS hAA hG hA t10 tw10 tx10 tg10 hEw10 hEx10 hEg10 hog10
  go_wp2_with fail
  go_region_held3 (fun W => W.cell? ⟨px, 0, none⟩ = some (.string B) ∧ W.cell? ⟨px, 1, none⟩ = some (.slice (some ⟨gx, 0, none⟩) es.length es.length) ∧ W.cell? ⟨w.heap.size, 0, none⟩ = some (.string B) ∧ W.cell? ⟨w.heap.size, 1, none⟩ = some (.slice A es.length cap) ∧ Below w10.heap.size w10 W)
    (first | exact HSS.out _ (Below.refl _ _).drew | exact HSS.out _ ((Below.refl _ _).drew.trans hb7) | exact HSS.out _ (((Below.refl _ _).drew.trans hb7).trans (hb8.mono hb7.size)))
    (first
      | (go_at_call 8; refine (toNet_any B A cap es _ (HA.out _ (Below.refl _ _).drew) HL2.out).mono ?_; rintro e w7 ⟨g7, rfl, hg7, hE7, hb7⟩)
      | (go_at_call 10; refine (eqNet_t B _ _ _ _ es _ (HG.out _ ((Below.refl _ _).drew.trans hb7)) hE7 HL2.out).mono ?_; rintro e w8 ⟨rfl, hb8⟩))
  rename_i hHeld
  have hx := hHeld.2.2.2.2
  clear hHeld HSS HA HG
  have t11 := HT10.out.below hx (by omega)
  have tw11 := HTW10.out.below hx (by omega)
  have tx11 := HTX10.out.below hx (by omega)
  have tg11 := HTG10.out.below hx (by omega)
  have hEw11 := HEW10.out.below (hx.mono (by omega))
  have hEg11 := HEG10.out.below (hx.mono (by omega))
  have hog11 := HOG10.out.below hx
  have hrx11 := HRX10.out.of_block (hx.block gx (by omega))
  have hb11' := hb10'.trans (hx.mono hb10'.size)
  have hz11 := Nat.le_trans hz10 hx.size
  clear HT10 HTW10 HTX10 HTG10 HEW10 HEX10 HEG10 HOG10 HRX10 hx hb10' hz10
  clear hg7 hE7 hb7 hb8
  have hox : OwnEdges w8 (pw + 1) (some ⟨gx, 0, none⟩) es.length := .inr ⟨gx, _, fx, rfl, hgx', by omega, Nat.le_refl _, hrx11⟩
  clear hrx11
  have hd0 := tx11.1; have hd1 := tx11.2
  obtain ⟨kx, hkx⟩ : ∃ kx, 1 + 2 * es.length = kx := ⟨_, rfl⟩
  have hkx0 : ¬ ((kx : Int) < 0) := by omega
  have HKX := Lib.hid hkx; clear hkx
  go_wp2_with fail
  refine (markNet_own B (some ⟨gx, 0, none⟩) es.length es.length 1 (pw + 1) _ hox HL'.out (by omega) (by omega)).mono ?_
  rw [HKX.out]
  rintro e w12 ⟨rfl, _, hgr⟩
  have hrow : rowOf (some ⟨gx, 0, none⟩) = some gx := rfl
  have t12 := t11.grown hgr (by omega) (by rw [hrow]; intro e; injection e with e; omega)
  have tw12 := tw11.grown hgr (by omega) (by rw [hrow]; intro e; injection e with e; omega)
  have tg12 := tg11.grown hgr (by omega) (by rw [hrow]; intro e; injection e with e; omega)
  have hEw12 := hEw11.grown_low hgr (by omega) (fun c hc => by rw [hrow]; intro e; injection e with e; omega)
  have hEg12 := hEg11.grown hgr (by omega) (hog11.ne (c := gx) (by omega))
  have hog12 := hog11.grown hgr (hog11.ne (c := gx) (by omega))
  have hb12 := below_after_row hb11' hox (by omega) hgr
  have hz12 := Nat.le_trans hz11 hgr.size
  clear hgr hrow t11 tw11 tg11 tx11 hEw11 hEg11 hog11 hb11' hz11 hox hd0 hd1
  have hd0 := tg12.1; have hd1 := tg12.2
  have hd2 := tw12.1; have hd3 := tw12.2
  go_wp2_with fail
  refine (eqNet_t qb _ _ _ _ qe _ (hEg12.more (by omega)) (hEw12.more (by omega)) HQL2.out).mono ?_
  rintro e w13 ⟨rfl, hb13⟩
  have t13 := t12.below hb13 (by omega)
  have tw13 := tw12.below hb13 (by omega)
  have tg13 := tg12.below hb13 (by omega)
  have hEw13 := hEw12.below (hb13.mono (by omega))
  have hog13 := hog12.below hb13
  have hb13' := hb12.trans (hb13.mono hb12.size)
  have hz13 := Nat.le_trans hz12 hb13.size
  clear hb13 t12 tw12 tg12 hEw12 hEg12 hog12 hb12 hz12 hd0 hd1 hd2 hd3
  have hd0 := tg13.1; have hd1 := tg13.2
  obtain ⟨kg, hkg⟩ : ∃ kg, 1 + 2 * qe.length = kg := ⟨_, rfl⟩
  have hkg0 : ¬ ((kg : Int) < 0) := by omega
  have hkg1 : ((kg : Int) != (kg : Int)) = false := by simp
  have HKG := Lib.hid hkg; clear hkg
  go_wp2_with fail
  refine (markNet_own qb Ag qe.length cg 1 (px + 1) _ hog13 HQL.out (by omega) (by omega)).mono ?_
  rw [HKG.out]
  rintro e w14 ⟨rfl, hEm14, hgr⟩
  have t14 := t13.grown hgr (by omega) (fun e => hog13.row (c := w.heap.size) (by omega) e.symm)
  have tw14 := tw13.grown hgr (by omega) (fun e => hog13.row (c := pw) (by omega) e.symm)
  have tg14 := tg13.grown hgr (by omega) hrg.out
  have hEw14 := hEw13.grown_low hgr (by omega) (fun c hc e => hog13.row (c := c) (by omega) e.symm)
  have hb14 := below_after_row hb13' hog13 (by omega) hgr
  have hz14 := Nat.le_trans hz13 hgr.size
  clear hgr t13 tw13 tg13 hEw13 hb13' hz13 hog13 hd0 hd1
  have hd0 := tg14.1; have hd1 := tg14.2
  go_wp2_with fail
  refine (heldNet_any qb Ag qe.length cg 1 _ hEm14 HQL.out (by omega) (by omega)).mono ?_
  rw [HKG.out]
  rintro e w15 ⟨rfl, hb15⟩
  have t15 := t14.below hb15 (by omega)
  have tw15 := tw14.below hb15 (by omega)
  have tg15 := tg14.below hb15 (by omega)
  have hEw15 := hEw14.below (hb15.mono (by omega))
  have hEm15 := (hEm14.below hb15).more hb15.size
  have hb15' := hb14.trans (hb15.mono hb14.size)
  have hz15 := Nat.le_trans hz14 hb15.size
  clear hb15 t14 tw14 tg14 hEw14 hEm14 hb14 hz14 hd0 hd1
  have hd0 := t15.1; have hd1 := t15.2
  go_wp2_with fail
  refine (toNet_any B A cap es _ ((hE.below hb15').more hb15'.size) HL2.out).mono ?_
  rintro e w16 ⟨g16, rfl, hg16, hE16, hb16⟩
  have tw16 := tw15.below hb16 (by omega)
  have tg16 := tg15.below hb16 (by omega)
  have hEw16 := hEw15.below (hb16.mono (by omega))
  have hEm16 := (hEm15.below hb16).more hb16.size
  have hb16' := hb15'.trans (hb16.mono hb15'.size)
  have hz16 := Nat.le_trans hz15 hb16.size
  clear hb16 t15 tw15 tg15 hEw15 hEm15 hb15' hz15 hd0 hd1 hg16
  go_wp2_with fail
  refine (implLoopNet_q B (some ⟨g16, 0, none⟩) es.length es _ HM.out hE16 HL2.out HS'.out).mono ?_
  rw [HQ.out]
  rintro e w17 ⟨Ah, ch, rfl, hEh, hb17, _⟩
  simp only at hEh
  have tw17 := tw16.below hb17 (by omega)
  have tg17 := tg16.below hb17 (by omega)
  have hEw17 := hEw16.below (hb17.mono (by omega))
  have hEm17 := (hEm16.below hb17).more hb17.size
  have hb17' := hb16'.trans (hb17.mono hb16'.size)
  have hz17 := Nat.le_trans hz16 hb17.size
  clear hb17 tw16 tg16 hEw16 hEm16 hb16' hz16 hE16
  have hba : Below w17.heap.size w17 (w17.alloc (.cells #[.string qb, .slice Ah qe.length ch] 28)) := (Below.refl _ _).alloc (Nat.le_refl _) _
  have th := Two.made w17 qb Ah qe.length ch 28
  have tw18 := tw17.below hba (by omega)
  have tg18 := tg17.below hba (by omega)
  have hEw18 := (hEw17.below (hba.mono (by omega))).more (show pw ≤ (w17.alloc (.cells #[.string qb, .slice Ah qe.length ch] 28)).heap.size by simp; omega)
  have hEm18 := (hEm17.below hba).more hba.size
  have hEh18 := (hEh.below hba).more hba.size
  have hba' := hb17'.trans (hba.mono hb17'.size)
  have hz18 := Nat.le_trans hz17 hba.size
  have hd0 := th.1; have hd1 := th.2
  have hd2 := tw18.1; have hd3 := tw18.2
  clear hba tw17 tg17 hEw17 hEm17 hEh hb17' hz17
  go_wp2_with fail
  generalize hW18 : w17.alloc (.cells #[.string qb, .slice Ah qe.length ch] 28) = w18 at th tg18 tw18 hEw18 hEm18 hEh18 hz18 hba' hd0 hd1 hd2 hd3 ⊢
  clear hW18
  refine (eqNet_t qb _ _ _ _ qe _ hEh18 hEw18 HQL2.out).mono ?_
  rintro e w19 ⟨rfl, hb19⟩
  have tg19 := tg18.below hb19 (by omega)
  have hEm19 := (hEm18.below hb19).more hb19.size
  have hb19' := hba'.trans (hb19.mono hba'.size)
  clear hb19 tw18 tg18 th hEw18 hEm18 hEh18 hba' hz18 hd0 hd1 hd2 hd3
  have hd0 := tg19.1; have hd1 := tg19.2
  go_wp2_with fail
  refine (heldNet_any qb Ag qe.length cg 1 _ hEm19 HQL.out (by omega) (by omega)).mono ?_
  rw [HKG.out]
  rintro e w20 ⟨rfl, hb20⟩
  have hb20' := hb19'.trans (hb20.mono hb19'.size)
  clear hb20 tg19 hEm19 hb19' hd0 hd1
  go_wp2_with fail
  go_ret
  exact ⟨rfl, hb20'⟩

end Go.Proofs.Ytpeafheljcjlhaa
