/- How many runs have an edge: CountThrough by the program. -/
import Derived.Test.YtghdjmjodgbghaaThrS
import Derived.Test.YtghdjmjodgbghaaRunsI
import Derived.Deep.RegionHeld3
namespace Go.Proofs.Ytghdjmjodgbghaa
open Go.RowKit

set_option maxRecDepth 100000 in
set_option maxHeartbeats 4000000 in
/-- impl.CountThrough -/
theorem implCountThrough_any (B : ByteArray) (A : Option Addr) (cap : Nat) (es : List (ByteArray × ByteArray)) (b : ByteArray) (w : World) (hs : B.size ≤ maxLen) (hE : EdgesIn w w.heap.size A es) (hl : es.length ≤ 1099511627776) (hS : ∀ e ∈ es, e.1.size ≤ 1099511627776 ∧ e.2.size ≤ 1099511627776) :
    Calls Try.prog 31 #[.agg #[.string B, .slice A es.length cap], .string b] w (IntPost (throughV B es b) w) := by
  have HL := Lib.hid hl; have HM := Lib.hid hs; have HS := Lib.hid hS
  clear hl hs hS
  have hb1 : Below w.heap.size w (w.alloc (.cells #[.string B, .slice A es.length cap] 29)) := (Below.refl _ _).alloc (Nat.le_refl _) _
  have t1 := Two.made w B A es.length cap 29
  have hz1 : (w.alloc (.cells #[.string B, .slice A es.length cap] 29)).heap.size = w.heap.size + 1 := by simp
  have FB : Hid (∀ W : World, Calls Try.prog 47 #[.agg #[.string B, .slice A es.length cap], .string b] W fun e w' => e = .returned (.int .i64 (eIdx es.length b.data.toList)) ∧ Below W.heap.size W w') := Lib.hid fun W => edgeIndex_any (.string B) A es.length cap b W HL.out
  obtain ⟨bi, hbe⟩ : ∃ bi, eIdx es.length b.data.toList = bi := ⟨_, rfl⟩
  rw [hbe] at FB
  obtain ⟨v, hv⟩ : ∃ v, acycV B es = v := ⟨_, rfl⟩
  have FA : Hid (∀ W : World, EdgesIn W W.heap.size A es → Calls Try.prog 39 #[.agg #[.string B, .slice A es.length cap]] W fun e w' => e = .returned (.bool v) ∧ Below W.heap.size W w') := Lib.hid fun W h => by
    have := implIsAcyclic_any B A cap es W HM.out h HL.out HS.out
    rwa [hv] at this
  cases v with
  | false =>
    have HN : Hid (throughV B es b = -1) := Lib.hid (if_neg (by rw [hv]; simp))
    clear hv hbe
    go_enter Try.func31, Try.ntmps31
    go_wp2_with fail
    refine (FB.out _).mono ?_
    rintro e w2 ⟨rfl, hb2⟩
    have hb2' := hb1.trans (hb2.mono hb1.size)
    have t2 := t1.below hb2 (by omega)
    have hz2 : w.heap.size + 1 ≤ w2.heap.size := by have := hb2.size; omega
    have hd0 := t2.1; have hd1 := t2.2
    clear hb2 t1 hz1 hb1
    go_wp2_with fail
    refine (FA.out _ ((hE.below hb2').more hb2'.size)).mono ?_
    rintro e w3 ⟨rfl, hb3⟩
    have hb3' := hb2'.trans (hb3.mono hb2'.size)
    clear hb3 hd0 hd1 t2
    go_wp2_with fail
    go_ret
    exact ⟨ret_int HN.out.symm, hb3'⟩
  | true =>
    by_cases hbi : bi < 0
    case pos =>
      have HN : Hid (throughV B es b = -1) := Lib.hid (if_neg fun h => by have := h.2; omega)
      clear hv hbe
      go_enter Try.func31, Try.ntmps31
      go_wp2_with fail
      refine (FB.out _).mono ?_
      rintro e w2 ⟨rfl, hb2⟩
      have hb2' := hb1.trans (hb2.mono hb1.size)
      have t2 := t1.below hb2 (by omega)
      have hd0 := t2.1; have hd1 := t2.2
      clear hb2 t1 hz1 hb1
      go_wp2_with fail
      refine (FA.out _ ((hE.below hb2').more hb2'.size)).mono ?_
      rintro e w3 ⟨rfl, hb3⟩
      have hb3' := hb2'.trans (hb3.mono hb2'.size)
      clear hb3 hd0 hd1 t2
      go_wp2_with fail
      go_ret
      exact ⟨ret_int HN.out.symm, hb3'⟩
    obtain ⟨k, hk, hke⟩ := eIdx_some (n := es.length) (b := b.data.toList) (by omega)
    have hbk : bi = (k : Int) := by omega
    subst hbk
    obtain ⟨eb, eo, rfl, hlow, q1, q2⟩ := hE k hk
    have HQ1 := Lib.hid q1; have HQ2 := Lib.hid q2
    clear q1 q2
    have hA := acy_v hv
    have hval := (decB_iff.1 hv).1
    have h16 := hA.F.few
    obtain ⟨x, y, he, h1, h2, hxl, hyl⟩ := edge_letters hA.F.lets hk
    obtain ⟨r1, ht1, hr1⟩ := hA.flip_at hxl
    obtain ⟨r2, ht2, hr2⟩ := hA.at_ hyl
    obtain ⟨c1, hc1⟩ : ∃ c1 : Nat, cntE (ebs (turnE es)) (entry B.data.toList) x = c1 := ⟨_, rfl⟩
    obtain ⟨c2, hc2⟩ : ∃ c2 : Nat, cntE (ebs es) (exit_ B.data.toList) y = c2 := ⟨_, rfl⟩
    have hm : c1 * c2 ≤ 268435456 * 268435456 := by
      rw [← hc1, ← hc2]
      exact Nat.mul_le_mul (cntE_few (by rw [ebs_len, turnE_len]; exact h16) ht1 hr1) (cntE_few (by rw [ebs_len]; exact h16) ht2 hr2)
    have HN : Hid (throughV B es b = (c1 : Int) * (c2 : Int)) := Lib.hid (by rw [throughV_at hv hke he, hc1, hc2]; exact Int.natCast_mul _ _)
    have z1 : IntKind.i64.wrap ((c1 : Int) * (c2 : Int)) = (c1 : Int) * (c2 : Int) := by
      have : (c1 : Int) * (c2 : Int) = ((c1 * c2 : Nat) : Int) := (Int.natCast_mul _ _).symm
      rw [this]
      exact IntWalk.i64_in _ (by omega)
    have hBz : B.size ≤ 1099511627776 := by have := hA.F.eight; omega
    have FT : Hid (∀ W : World, EdgesIn W W.heap.size (some ⟨eb, eo, none⟩) es → Calls Try.prog 60 #[.agg #[.string B, .slice (some ⟨eb, eo, none⟩) es.length cap]] W (TurnPost B es W)) := Lib.hid fun W h => turned_any B _ cap es W hBz h HL.out
    have FM1 : Hid (∀ (rb : ByteArray) (g : Nat) (W : World), rb.data.toList = B.data.toList.reverse → EdgesIn W W.heap.size (some ⟨g, 0, none⟩) (turnE es) → Calls Try.prog 40 #[.agg #[.string rb, .slice (some ⟨g, 0, none⟩) es.length es.length]] W (MapPost (ebs (turnE es)) (exit_ B.data.toList) (entry B.data.toList) W)) := Lib.hid fun rb g W hr h => by
      have hlf := lead_flip hA (no_in hval) hr
      have := countsToExit_any rb (some ⟨g, 0, none⟩) es.length (turnE es) _ _ _ W h hlf (by have := hlf.small; unfold maxLen; omega)
      rwa [turnE_len] at this
    have FM2 : Hid (∀ W : World, EdgesIn W W.heap.size (some ⟨eb, eo, none⟩) es → Calls Try.prog 40 #[.agg #[.string B, .slice (some ⟨eb, eo, none⟩) es.length cap]] W (MapPost (ebs es) (entry B.data.toList) (exit_ B.data.toList) W)) := Lib.hid fun W h => countsToExit_any B _ cap es _ _ _ W h (lead_of hA) HM.out
    have HLK1 : Hid (∀ (W : World) (M : Nat) (f : UInt8 → Option Int), NumsIs W M f → (∀ b, Way (ebs (turnE es)) (exit_ B.data.toList) b → f b = some ((cntE (ebs (turnE es)) (entry B.data.toList) b : Nat) : Int)) → (Instr.lookup 49 (.map (some M)) (.string ⟨#[x]⟩) false).run Try.prog W = .ok (.int .i64 (c1 : Int)) W) := Lib.hid fun W M f hn hf => by
      have := hn.lookup (P := Try.prog) (kt := 9) (t := 49) (e := 3) Try.underlying9 Try.underlying49 (by kernel_rfl) x
      rw [hf x (by rw [ebs_turnE]; exact hval.2.2 x hxl), Option.getD_some, hc1] at this
      exact this
    have HLK2 : Hid (∀ (W : World) (M : Nat) (f : UInt8 → Option Int), NumsIs W M f → (∀ b, Way (ebs es) (entry B.data.toList) b → f b = some ((cntE (ebs es) (exit_ B.data.toList) b : Nat) : Int)) → (Instr.lookup 49 (.map (some M)) (.string ⟨#[y]⟩) false).run Try.prog W = .ok (.int .i64 (c2 : Int)) W) := Lib.hid fun W M f hn hf => by
      have := hn.lookup (P := Try.prog) (kt := 9) (t := 49) (e := 3) Try.underlying9 Try.underlying49 (by kernel_rfl) y
      rw [hf y (hval.2.1 y hyl), Option.getD_some, hc2] at this
      exact this
    have HK1 := Lib.hid h1; have HK2 := Lib.hid h2
    clear hv hbe hke he h1 h2 hxl hyl ht1 ht2 hc1 hc2 hm h16 hA hval hBz
    go_enter Try.func31, Try.ntmps31
    go_wp2_with fail
    refine (FB.out _).mono ?_
    rintro e w2 ⟨rfl, hb2⟩
    have hb2' := hb1.trans (hb2.mono hb1.size)
    have t2 := t1.below hb2 (by omega)
    have hz2 : w.heap.size + 1 ≤ w2.heap.size := by have := hb2.size; omega
    have hd0 := t2.1; have hd1 := t2.2
    clear hb2 t1 hz1 hb1
    go_wp2_with fail
    refine (FA.out _ ((hE.below hb2').more hb2'.size)).mono ?_
    rintro e w3 ⟨rfl, hb3⟩
    have hb3' := hb2'.trans (hb3.mono hb2'.size)
    have t3 := t2.below hb3 (by omega)
    have hz3 := hb3.size
    clear hb3 hd0 hd1 t2 FA FB
    go_wp2_with fail
    have hS : ∀ W, Below w3.heap.size w3 W → (W.cell? ⟨w.heap.size, 0, none⟩ = some (.string B) ∧ W.cell? ⟨w.heap.size, 1, none⟩ = some (.slice (some ⟨eb, eo, none⟩) es.length cap) ∧ Below w3.heap.size w3 W) :=
      fun W h => ⟨(h.cell (by simp only; omega)).trans t3.1, (h.cell (by simp only; omega)).trans t3.2, h⟩
    have HSS := Lib.hid hS
    have HA : Hid (∀ W, Below w3.heap.size w3 W → EdgesIn W W.heap.size (some ⟨eb, eo, none⟩) es) := Lib.hid fun W h => (hE.below (hb3'.trans (h.mono hb3'.size))).more (hb3'.trans (h.mono hb3'.size)).size
    have HT3 := Lib.hid t3
    clear hS t3
    go_region_held3 (fun W => W.cell? ⟨w.heap.size, 0, none⟩ = some (.string B) ∧ W.cell? ⟨w.heap.size, 1, none⟩ = some (.slice (some ⟨eb, eo, none⟩) es.length cap) ∧ Below w3.heap.size w3 W)
      (first
        | exact HSS.out _ (Below.refl _ _).drew
        | exact HSS.out _ HBT.out
        | exact HSS.out _ HBC.out
        | exact HSS.out _ HBD.out)
      (first
        | (go_at_call 60
           first
             | (have q := HMD; clear q
                refine (FT.out _ (HA.out _ HBD.out)).mono ?_
                rintro e wt ⟨rb, g, rfl, hrb, hg, hEt, hbt⟩
                have HMD2 : Hid (NumsIs wt M2 f2) := Lib.hid (HMD.out.below hbt HMD.out.lt)
                have HBT : Hid (Below w3.heap.size w3 wt) := Lib.hid (HBD.out.trans (hbt.mono HBD.out.size))
                have HET := Lib.hid hEt; have HRB := Lib.hid hrb
                clear hbt hEt hrb hg)
             | (refine (FT.out _ (HA.out _ (Below.refl _ _).drew)).mono ?_
                rintro e wt ⟨rb, g, rfl, hrb, hg, hEt, hbt⟩
                have HBT : Hid (Below w3.heap.size w3 wt) := Lib.hid ((Below.refl _ _).drew.trans hbt)
                have HET := Lib.hid hEt; have HRB := Lib.hid hrb
                clear hbt hEt hrb hg))
        | (go_at_call_of 40 (Value.agg #[Value.string B, Value.slice (some ⟨eb, eo, none⟩) es.length cap])
           first
             | (have q := HMC; clear q
                refine (FM2.out _ (HA.out _ HBC.out)).mono ?_
                rintro e wd ⟨M2, f2, rfl, hM2, hn2, hbd, hall2⟩
                have HFIN : Hid (NumsIs wd M1 f1 ∧ NumsIs wd M2 f2) := Lib.hid ⟨HMC.out.below hbd HMC.out.lt, hn2⟩
                have HBD : Hid (Below w3.heap.size w3 wd) := Lib.hid (HBC.out.trans (hbd.mono HBC.out.size))
                have HALL2 := Lib.hid hall2
                clear hM2 hn2 hbd hall2)
             | (have q := HET; clear q
                refine (FM2.out _ (HA.out _ HBT.out)).mono ?_
                rintro e wd ⟨M2, f2, rfl, hM2, hn2, hbd, hall2⟩
                have HMD3 : Hid (NumsIs wd M2 f2) := Lib.hid hn2
                have HETD := Lib.hid ((HET.out.below hbd).more hbd.size)
                have HBD : Hid (Below w3.heap.size w3 wd) := Lib.hid (HBT.out.trans (hbd.mono HBT.out.size))
                have HALL2 := Lib.hid hall2
                clear hM2 hn2 hbd hall2)
             | (refine (FM2.out _ (HA.out _ (Below.refl _ _).drew)).mono ?_
                rintro e wd ⟨M2, f2, rfl, hM2, hn2, hbd, hall2⟩
                have HMD : Hid (NumsIs wd M2 f2) := Lib.hid hn2
                have HBD : Hid (Below w3.heap.size w3 wd) := Lib.hid ((Below.refl _ _).drew.trans hbd)
                have HALL2 := Lib.hid hall2
                clear hM2 hn2 hbd hall2))
        | (go_at_call_of 40 (Value.agg #[Value.string rb, Value.slice (some ⟨g, 0, none⟩) es.length es.length])
           first
             | (have q := HMD3; clear q
                refine (FM1.out rb g _ HRB.out HETD.out).mono ?_
                rintro e wc ⟨M1, f1, rfl, hM1, hn1, hbc, hall1⟩
                have HFIN : Hid (NumsIs wc M1 f1 ∧ NumsIs wc M2 f2) := Lib.hid ⟨hn1, HMD3.out.below hbc HMD3.out.lt⟩
                have HBC : Hid (Below w3.heap.size w3 wc) := Lib.hid (HBD.out.trans (hbc.mono HBD.out.size))
                have HALL1 := Lib.hid hall1
                clear hM1 hn1 hbc hall1)
             | (have q := HMD2; clear q
                refine (FM1.out rb g _ HRB.out HET.out).mono ?_
                rintro e wc ⟨M1, f1, rfl, hM1, hn1, hbc, hall1⟩
                have HFIN : Hid (NumsIs wc M1 f1 ∧ NumsIs wc M2 f2) := Lib.hid ⟨hn1, HMD2.out.below hbc HMD2.out.lt⟩
                have HBC : Hid (Below w3.heap.size w3 wc) := Lib.hid (HBT.out.trans (hbc.mono HBT.out.size))
                have HALL1 := Lib.hid hall1
                clear hM1 hn1 hbc hall1)
             | (refine (FM1.out rb g _ HRB.out HET.out).mono ?_
                rintro e wc ⟨M1, f1, rfl, hM1, hn1, hbc, hall1⟩
                have HMC : Hid (NumsIs wc M1 f1) := Lib.hid hn1
                have HBC : Hid (Below w3.heap.size w3 wc) := Lib.hid (HBT.out.trans (hbc.mono HBT.out.size))
                have HALL1 := Lib.hid hall1
                clear hM1 hn1 hbc hall1)))
    all_goals
      rename_i hHeld
      have hbx := hb3'.trans (hHeld.2.2.mono hb3'.size)
      have xl1 := fun n : Nat => HLK1.out _ _ _ (HFIN.out.1.of_block (w' := World.drewN _ n) rfl) HALL1.out
      have xl2 := fun n : Nat => HLK2.out _ _ _ (HFIN.out.2.of_block (w' := World.drewN _ n) rfl) HALL2.out
      have g1 := (hbx.cell (p := ⟨eb, eo + k * 2, none⟩) hlow).trans (HQ1.out.trans (by rw [HK1.out]))
      have g2 := (hbx.cell (p := ⟨eb, eo + k * 2 + 1, none⟩) hlow).trans (HQ2.out.trans (by rw [HK2.out]))
      have g0 := hHeld.2.1
      have HBX := Lib.hid hbx
      have hki : (k : Int) < (es.length : Int) := by omega
      clear hHeld hbx
      go_wp2_with fail
      go_quiet (fail)
      go_wp2_with fail
      go_ret
      exact ⟨ret_int HN.out.symm, below_drewN HBX.out nq⟩

end Go.Proofs.Ytghdjmjodgbghaa
