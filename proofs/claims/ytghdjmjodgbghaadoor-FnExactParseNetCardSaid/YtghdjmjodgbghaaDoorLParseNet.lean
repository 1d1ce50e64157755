/- The law on ParseNet, walked. -/
import Derived.Test.YtghdjmjodgbghaaDoorHeld
import Derived.Test.YtghdjmjodgbghaaDoorNetRes
import Derived.Test.YtghdjmjodgbghaaDoorParseW
import Derived.Test.YtghdjmjodgbghaaDoorReadV
namespace Go.Proofs.YtghdjmjodgbghaaDoor
open Go.RowKit

set_option maxRecDepth 100000 in
set_option maxHeartbeats 4000000 in
/-- laws.FnExactParseNet -/
theorem lawParseNet (t : ByteArray) (w : World) (hs : t.size ≤ maxLen) (hE : Errs w) :
    Calls Tryd.prog 3 #[.string t] w fun e w' => e = .returned (.bool true) ∧ Below w.heap.size w w' := by
  by_cases hbig : 1048576 < t.size
  · have h1 : (t.size : Int) > 1048576 := by omega
    clear hbig
    go_enter Tryd.func3, Tryd.ntmps3
    go_wp2_with fail
    go_ret
    exact ⟨rfl, Below.refl _ _⟩
  have HTZ : Hid (t.size ≤ 1048576) := Lib.hid (by omega)
  have h1 : ¬ ((t.size : Int) > 1048576) := by omega
  have HEE : Hid (∀ W, Below w.heap.size w W → Errs W) := Lib.hid fun W h => hE.below h
  clear hbig hs hE
  -- what is handed back, under names
  have hlen := parseQ_len t
  obtain ⟨qb, qe, qo, hq⟩ : ∃ qb qe qo, parseQ t = (qb, qe, qo) := ⟨_, _, _, rfl⟩
  rw [hq] at hlen
  have HQL : Hid (qe.length ≤ 1048576) := Lib.hid (by simp only at hlen; omega)
  have HQL2 : Hid (qe.length ≤ 1099511627776) := Lib.hid (by have := HQL.out; omega)
  have HQ := Lib.hid hq
  clear hq hlen
  go_enter Tryd.func3, Tryd.ntmps3
  go_wp2_with fail
  refine (specParseNet_any t _ HTZ.out).mono ?_
  rw [HQ.out]
  rintro e w4 ⟨Aw, cw, rfl, hEw, hb4⟩
  simp only at hEw
  have hba : Below w4.heap.size w4 (w4.alloc (.cells #[.string qb, .slice Aw qe.length cw] 24)) := (Below.refl _ _).alloc (Nat.le_refl _) _
  have tw := Two.made w4 qb Aw qe.length cw 24
  have hEwa := hEw.below hba
  have hz4a : (w4.alloc (.cells #[.string qb, .slice Aw qe.length cw] 24)).heap.size = w4.heap.size + 1 := by simp
  have hba' := hb4.trans (hba.mono hb4.size)
  have hz4 := hb4.size
  clear hEw hba h1
  go_wp2_with fail
  generalize hW5 : w4.alloc (.cells #[.string qb, .slice Aw qe.length cw] 24) = w5 at tw hEwa hz4a hba' ⊢
  clear hW5
  obtain ⟨pw, hpw⟩ : ∃ pw, w4.heap.size = pw := ⟨_, rfl⟩
  rw [hpw] at tw hEwa hz4a hz4 ⊢
  clear hpw hb4 w4
  refine (implParse_any t _ HTZ.out (HEE.out _ hba')).mono ?_
  rw [HQ.out]
  rintro e w8 ⟨Ag, cg, rfl, hEg, hb8, hog⟩
  simp only at hEg hog
  have tw8 := tw.below hb8 (by omega)
  have hEw8 := hEwa.below (hb8.mono (by omega))
  have hb8' := hba'.trans (hb8.mono hba'.size)
  have hz8 : pw + 1 ≤ w8.heap.size := by have := hb8.size; omega
  have hog8 : OwnEdges w8 (pw + 1) Ag qe.length := by rw [← hz4a]; exact hog
  clear hb8 tw hEwa hba' hog hz4a
  have hba : Below w8.heap.size w8 (w8.alloc (.cells #[.string qb, .slice Ag qe.length cg] 24)) := (Below.refl _ _).alloc (Nat.le_refl _) _
  have tg := Two.made w8 qb Ag qe.length cg 24
  have tw9 := tw8.below hba (by omega)
  have hEw9 := hEw8.below (hba.mono (by omega))
  have hEg9 := hEg.below hba
  have hog9 := hog8.below hba
  have hz9 : (w8.alloc (.cells #[.string qb, .slice Ag qe.length cg] 24)).heap.size = w8.heap.size + 1 := by simp
  have hba' := hb8'.trans (hba.mono hb8'.size)
  have hrg : Hid (some w8.heap.size ≠ rowOf Ag) := Lib.hid (hog8.row_hi (Nat.le_refl _))
  clear hba tw8 hEw8 hEg hog8
  have hd0 := tg.1; have hd1 := tg.2
  have hd2 := tw9.1; have hd3 := tw9.2
  have q2 : (qo != qo) = false := by simp
  go_wp2_with fail
  generalize hW9 : w8.alloc (.cells #[.string qb, .slice Ag qe.length cg] 24) = w9 at tg tw9 hEw9 hEg9 hog9 hz9 hba' hd0 hd1 hd2 hd3 ⊢
  clear hW9
  obtain ⟨pg, hpg⟩ : ∃ pg, w8.heap.size = pg := ⟨_, rfl⟩
  rw [hpg] at tg hEg9 hz9 hz8 hd0 hd1 hrg ⊢
  clear hpg hb8' w8
  refine (eqNet_t qb _ _ _ _ qe _ (hEg9.more (by omega)) (hEw9.more (by omega)) HQL2.out).mono ?_
  rintro e w13 ⟨rfl, hb13⟩
  have tw13 := tw9.below hb13 (by omega)
  have tg13 := tg.below hb13 (by omega)
  have hEw13 := hEw9.below (hb13.mono (by omega))
  have hog13 := hog9.below hb13
  have hb13' := hba'.trans (hb13.mono hba'.size)
  have hz13 : pg + 1 ≤ w13.heap.size := by have := hb13.size; omega
  clear hb13 tw9 tg hEw9 hEg9 hog9 hba' hz9 hd0 hd1 hd2 hd3
  have hd0 := tg13.1; have hd1 := tg13.2
  obtain ⟨kg, hkg⟩ : ∃ kg, 1 + 2 * qe.length = kg := ⟨_, rfl⟩
  have hkg0 : ¬ ((kg : Int) < 0) := by omega
  have hkg1 : ((kg : Int) != (kg : Int)) = false := by simp
  have HKG := Lib.hid hkg; clear hkg
  go_wp2_with fail
  refine (markNet_own qb Ag qe.length cg 1 (pw + 1) _ hog13 HQL.out (by omega) (by omega)).mono ?_
  rw [HKG.out]
  rintro e w14 ⟨rfl, hEm14, hgr⟩
  have tw14 := tw13.grown hgr (by omega) (fun e => hog13.row (c := pw) (by omega) e.symm)
  have tg14 := tg13.grown hgr (by omega) hrg.out
  have hEw14 := hEw13.grown_low hgr (by omega) (fun c hc e => hog13.row (c := c) (by omega) e.symm)
  have hb14 := below_after_row hb13' hog13 (by omega) hgr
  have hz14 := Nat.le_trans hz13 hgr.size
  clear hgr tw13 tg13 hEw13 hb13' hz13 hog13 hd0 hd1
  have hd0 := tg14.1; have hd1 := tg14.2
  go_wp2_with fail
  refine (heldNet_any qb Ag qe.length cg 1 _ hEm14 HQL.out (by omega) (by omega)).mono ?_
  rw [HKG.out]
  rintro e w15 ⟨rfl, hb15⟩
  have tw15 := tw14.below hb15 (by omega)
  have tg15 := tg14.below hb15 (by omega)
  have hEw15 := hEw14.below (hb15.mono (by omega))
  have hEm15 := (hEm14.below hb15).more hb15.size
  have hb15' := hb14.trans (hb15.mono hb14.size)
  have hz15 := Nat.le_trans hz14 hb15.size
  clear hb15 tw14 tg14 hEw14 hEm14 hb14 hz14 hd0 hd1
  go_wp2_with fail
  refine (implParse_any t _ HTZ.out (HEE.out _ hb15')).mono ?_
  rw [HQ.out]
  rintro e w17 ⟨Ah, ch, rfl, hEh, hb17, _⟩
  simp only at hEh
  have tw17 := tw15.below hb17 (by omega)
  have tg17 := tg15.below hb17 (by omega)
  have hEw17 := hEw15.below (hb17.mono (by omega))
  have hEm17 := (hEm15.below hb17).more hb17.size
  have hb17' := hb15'.trans (hb17.mono hb15'.size)
  have hz17 := Nat.le_trans hz15 hb17.size
  clear hb17 tw15 tg15 hEw15 hEm15 hb15' hz15
  have hba : Below w17.heap.size w17 (w17.alloc (.cells #[.string qb, .slice Ah qe.length ch] 24)) := (Below.refl _ _).alloc (Nat.le_refl _) _
  have th := Two.made w17 qb Ah qe.length ch 24
  have tw18 := tw17.below hba (by omega)
  have tg18 := tg17.below hba (by omega)
  have hEw18 := (hEw17.below (hba.mono (by omega))).more (show pw ≤ (w17.alloc (.cells #[.string qb, .slice Ah qe.length ch] 24)).heap.size by simp; omega)
  have hEm18 := (hEm17.below hba).more hba.size
  have hEh18 := (hEh.below hba).more hba.size
  have hba' := hb17'.trans (hba.mono hb17'.size)
  have hz18 := Nat.le_trans hz17 hba.size
  have hd0 := th.1; have hd1 := th.2
  have hd2 := tw18.1; have hd3 := tw18.2
  clear hba tw17 tg17 hEw17 hEm17 hEh hb17' hz17
  go_wp2_with fail
  generalize hW18 : w17.alloc (.cells #[.string qb, .slice Ah qe.length ch] 24) = w18 at th tg18 tw18 hEw18 hEm18 hEh18 hz18 hba' hd0 hd1 hd2 hd3 ⊢
  clear hW18
  refine (eqNet_t qb _ _ _ _ qe _ hEh18 hEw18 HQL2.out).mono ?_
  rintro e w19 ⟨rfl, hb19⟩
  have tg19 := tg18.below hb19 (by omega)
  have hEm19 := (hEm18.below hb19).more hb19.size
  have hb19' := hba'.trans (hb19.mono hba'.size)
  clear hb19 tw18 tg18 th hEw18 hEm18 hEh18 hba' hz18 hd0 hd1 hd2 hd3
  have hd0 := tg19.1; have hd1 := tg19.2
  go_wp2_with fail
  refine (heldNet_any qb Ag qe.length cg 1 _ hEm19 HQL.out (by omega) (by omega)).mono ?_
  rw [HKG.out]
  rintro e w20 ⟨rfl, hb20⟩
  have hb20' := hb19'.trans (hb20.mono hb19'.size)
  clear hb20 tg19 hEm19 hb19' hd0 hd1
  go_wp2_with fail
  go_ret
  exact ⟨rfl, hb20'⟩

end Go.Proofs.YtghdjmjodgbghaaDoor
