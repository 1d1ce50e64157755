/- The way from a block to a block, by the model: spec.l5Way. -/
import Derived.Test.YtadngnajenedpaaWayL
namespace Go.Proofs.Ytadngnajenedpaa
open Go.RowKit

set_option maxRecDepth 100000 in
set_option maxHeartbeats 1000000 in
/-- spec.l5Way -/
theorem l5Way_any (B : ByteArray) (A : Option Addr) (cap : Nat) (es : List (ByteArray × ByteArray)) (b : ByteArray) (a t : UInt8) (U : List Ed) (ft tt : ByteArray) (hft : ft = ⟨#[a]⟩) (htt : tt = ⟨#[t]⟩) (hUe : U = edsT B.data.toList es (ksOf b.data.toList)) (w : World) (hs : B.size ≤ maxLen) (hE : EdgesIn w w.heap.size A es) (hl : es.length ≤ 1099511627776) (hV : Valid B.data.toList (ebs es)) (hK : Known es.length b.data.toList) (hb6 : b.size ≤ 6)
    (hf : Fr U) (hU : ∀ e ∈ U, e.a ∈ B.data.toList ∧ e.b ∈ B.data.toList) (ha : a ∈ B.data.toList) (hc : Cn U a t) :
    Calls Try.prog 55 #[.agg #[.string B, .slice A es.length cap], .string b, .string ft, .string tt] w fun e w' => e = .returned (.string ⟨(txtM (wayP U a t)).toArray⟩) ∧ Below w.heap.size w w' := by
  obtain ⟨i0, hi, hi0, hi1, hi2⟩ := info_parts textCell
  have HI := Lib.hid hi; have HI0 := Lib.hid hi0; have HI1 := Lib.hid hi1; have HI2 := Lib.hid hi2
  have h8 := (valid_sizes hV).1
  have hlb : B.data.toList.length = B.size := by simp
  have FST : Hid (∀ (c : UInt8) (ct : ByteArray), ct = ⟨#[c]⟩ → ∀ W : World, EdgesIn W W.heap.size A es → Calls Try.prog 91 #[.agg #[.string B, .slice A es.length cap], .string b, .string ct] W (StepsPost (outM ((ksOf b.data.toList).map (edK es) ++ [edZ B.data.toList]) c) W)) := Lib.hid fun c ct h W hW => l5Steps_any B A cap es b c ct h W hs hW hl hV hK hb6
  have HMO : Hid (∀ (c : UInt8) (m : Mv), m ∈ outM ((ksOf b.data.toList).map (edK es) ++ [edZ B.data.toList]) c ↔ m ∈ mvs U ∧ m.fr = c) := Lib.hid fun c m => by rw [hUe]; exact mem_outT
  have HOL : Hid (∀ c : UInt8, (outM ((ksOf b.data.toList).map (edK es) ++ [edZ B.data.toList]) c).length ≤ 100) := Lib.hid fun c => by
    refine Nat.le_trans (outM_len _ _) ?_
    rw [List.length_append, List.length_map]
    simp [ksOf]; omega
  obtain ⟨outs, hou⟩ : ∃ outs : UInt8 → List Mv, (fun c => outM ((ksOf b.data.toList).map (edK es) ++ [edZ B.data.toList]) c) = outs := ⟨_, rfl⟩
  have hou2 : ∀ c, outM ((ksOf b.data.toList).map (edK es) ++ [edZ B.data.toList]) c = outs c := fun c => by rw [← hou]
  simp only [hou2] at FST HMO HOL
  have HLEN8 : Hid (∀ D : MetW, MetP U a D → D.length ≤ 8) := Lib.hid fun D h => Nat.le_trans (h.len hU ha) (by omega)
  have HSH : Hid (∀ (p : List Mv) (c : UInt8), NbWay U a c p → p.length ≤ 7) := Lib.hid fun p c h => nb_short hf hU (by omega) ha h
  have HFR := Lib.hid hf; have HCN := Lib.hid hc
  have HFT := Lib.hid hft; have HTT := Lib.hid htt
  have hbA : Below w.heap.size w ((w.alloc (.cells #[.string B, .slice A es.length cap] 30)).alloc (.cells #[.string ⟨#[]⟩] 9)) := ((Below.refl _ _).alloc (Nat.le_refl _) _).alloc (by simp) _
  have htA : Two ((w.alloc (.cells #[.string B, .slice A es.length cap] 30)).alloc (.cells #[.string ⟨#[]⟩] 9)) w.heap.size B A es.length cap := ⟨by go_simp, by go_simp⟩
  have hoA : ((w.alloc (.cells #[.string B, .slice A es.length cap] 30)).alloc (.cells #[.string ⟨#[]⟩] 9)).ownsRow (w.heap.size + 1) 9 1 (.slice (some ⟨w.heap.size + 1, 0, none⟩) 1 1) 1 (txtsW [(a, [])]) := by
    have hh := World.alloc_heap_new (w.alloc (.cells #[.string B, .slice A es.length cap] 30)) (.cells #[.string ⟨#[]⟩] 9)
    rw [World.size_alloc] at hh
    exact ⟨rfl, .inr ⟨_, 1, _, rfl, Nat.le_refl _, hh, Nat.le_refl _, by unfold maxLen; omega, rfl, rfl⟩⟩
  have HSEA : Hid (SeaW w B A es.length cap (.slice (some ⟨w.heap.size + 1, 0, none⟩) 1 1) [(a, [])] ((w.alloc (.cells #[.string B, .slice A es.length cap] 30)).alloc (.cells #[.string ⟨#[]⟩] 9))) := Lib.hid ⟨hbA, htA, hoA, by simp⟩
  clear hi hi0 hi1 hi2 h8 hlb hou hou2 hf hU ha hc hUe hs hl hV hK hb6 hbA htA hoA hft htt
  go_enter Try.func55, Try.ntmps55
  go_wp2_with fail
  generalize hW1 : (w.alloc (.cells #[.string B, .slice A es.length cap] 30)).alloc (.cells #[.string ⟨#[]⟩] 9) = w1 at HSEA ⊢
  clear hW1
  go_loopw [9, 10, 11] (fun a' v c wr => ∃ (i : Nat) (sx : ByteArray) (D : MetW), a' = .string sx ∧ c = .int .i64 i ∧ i ≤ D.length ∧ sx.data.toList = keysW D ∧ MetP U a D ∧ Clo U D i ∧ (∀ j x, j < i → D[j]? = some x → x.1 ≠ t) ∧ SeaW w B A es.length cap v D wr) (fun _ _ c _ => 9 - (intOf c).toNat)
  case atStart => exact ⟨0, ft, [(a, [])], rfl, rfl, Nat.zero_le _, by rw [HFT.out]; rfl, metP_one U a, fun j x hj => absurd hj (by omega), fun j x hj => absurd hj (by omega), HSEA.out⟩
  case round =>
    clear HSEA
    obtain ⟨i, sx, D, rfl, rfl, hi, hsx, hmp, hclo, hnt, hsea⟩ := hrel
    have hD8 := HLEN8.out D hmp
    have hsz : sx.size = D.length := by
      have h := congrArg List.length hsx
      simpa [keysW] using h
    have HSX := Lib.hid hsx; have HNT := Lib.hid hnt; have HSEA := Lib.hid hsea; have HMP := Lib.hid hmp; have HCLO := Lib.hid hclo
    by_cases hlt : i < sx.size
    case neg =>
      exfalso
      have hid : i = D.length := by omega
      rw [hid] at hclo
      obtain ⟨p, hp⟩ := HCN.out
      have htk := clo_reach hclo p a hmp.start hp
      obtain ⟨x, hx, hxt⟩ := List.mem_map.1 htk
      obtain ⟨j, hj, he⟩ := List.mem_iff_getElem.1 hx
      exact hnt j x (by omega) (by rw [List.getElem?_eq_getElem hj, he]) hxt
    obtain ⟨c, p, hgi⟩ : ∃ c p, D[i]? = some (c, p) := by
      have h : i < D.length := by omega
      exact ⟨D[i].1, D[i].2, List.getElem?_eq_getElem h⟩
    have hmem := List.mem_of_getElem? hgi
    obtain ⟨hway, hstops⟩ := hmp.ways _ hmem
    have hpl := HSH.out p c hway
    have hxb : sx.extract i (i + 1) = ⟨#[c]⟩ := bytes_one (by
      rw [letter_at hlt, HSX.out]
      have : (keysW D)[i]? = some c := by simp [keysW, hgi]
      simp [List.getD, this])
    obtain ⟨ct, hct⟩ : ∃ ct, sx.extract i (i + 1) = ct := ⟨_, rfl⟩
    have hctc : ct = ⟨#[c]⟩ := by rw [← hct, hxb]
    have HGI := Lib.hid hgi; have HWAY := Lib.hid hway; have HCT := Lib.hid hctc; have HXC := Lib.hid hct; have HMEM := Lib.hid hmem
    have hiD0 : i < D.length := by omega
    have HSZ := Lib.hid hsz
    clear hsx hnt hsea hmp hclo hgi hway hstops hxb hctc hmem hsz
    have a1 : (0 : Int) ≤ (i : Int) := by omega
    have a2 : (i : Int) < (sx.size : Int) := by omega
    have a4 : (0 : Int) ≤ (i : Int) + 1 := by omega
    have a5 : ((i : Int) + 1).toNat = i + 1 := by omega
    have a6 : (i : Int) + 1 ≤ (sx.size : Int) := by omega
    have a7 : i + 1 ≤ sx.size := by omega
    have a8 : (i : Int) ≤ (i : Int) + 1 := by omega
    have a3 : IntKind.i64.wrap ((i : Int) + 1) = (i : Int) + 1 := IntWalk.i64_in _ (by omega)
    by_cases hct' : c = t
    · have hq : ct = tt := by rw [HCT.out, HTT.out, hct']
      have HQ : Hid (wayP U a t = p) := Lib.hid (wayP_eq HFR.out (by rw [← hct']; exact HWAY.out))
      have hbw := HSEA.out.below
      obtain ⟨vg, vc, rfl⟩ := Go.Joins.ownsRow_form HSEA.out.own (by omega)
      obtain ⟨pp, hpp⟩ : ∃ pp : ByteArray, (⟨(txtM p).toArray⟩ : ByteArray) = pp := ⟨_, rfl⟩
      have hcw := HSEA.out.own.cells (g := vg) rfl i (.string pp) (by simp [txtsW, HGI.out, hpp])
      rw [add_none] at hcw
      have hcw' : wr.cell? ⟨vg, i, none⟩ = some (.string pp) := by simpa using hcw
      have hiD : (i : Int) < (D.length : Int) := by omega
      have HPP := Lib.hid hpp
      subst hq
      clear hct' hcw a3 hpp
      go_wp2_with fail
      go_ret
      exact ⟨by rw [HQ.out, HPP.out]; rfl, hbw⟩
    have hqq : (ct.toList == tt.toList) = false := by
      rw [HCT.out, HTT.out]; simp [Lib.toList_data]; exact hct'
    have HNT2 : Hid (∀ j x, j < i + 1 → D[j]? = some x → x.1 ≠ t) := Lib.hid fun j x hj hx => by
      by_cases hji : j < i
      · exact HNT.out j x hji hx
      · have : j = i := by omega
        subst this
        rw [HGI.out] at hx
        injection hx with hx
        subst hx
        exact hct'
    have hS : ∀ W, Below wr.heap.size wr W → (W.cell? ⟨w.heap.size, 0, none⟩ = some (.string B) ∧ W.cell? ⟨w.heap.size, 1, none⟩ = some (.slice A es.length cap) ∧ Below wr.heap.size wr W) :=
      fun W h => ⟨(HSEA.out.go h).two.1, (HSEA.out.go h).two.2, h⟩
    have HSS := Lib.hid hS
    have HA : Hid (EdgesIn wr.drew wr.drew.heap.size A es) := Lib.hid ((hE.below HSEA.out.below.drew).more HSEA.out.below.drew.size)
    have HFS := Lib.hid (FST.out c ct HCT.out wr.drew HA.out)
    clear hS hct'
    go_wp2_with fail
    go_region_held3 (fun W => W.cell? ⟨w.heap.size, 0, none⟩ = some (.string B) ∧ W.cell? ⟨w.heap.size, 1, none⟩ = some (.slice A es.length cap) ∧ Below wr.heap.size wr W)
      (first
        | exact HSS.out _ (Below.refl _ _).drew
        | exact HSS.out _ ((Below.refl _ _).drew.trans hb2))
      (first
        | (go_at_call 91; (try rw [hct]); refine (HFS.out).mono ?_; rintro e w2 ⟨A1, c1, A2, c2, rfl, hT1, hT2, hO1, hO2, hb2⟩))
    rename_i hHeld
    have HSEA2 := Lib.hid (HSEA.out.go hHeld.2.2)
    have hvl : ∀ q, u10.ownBlock = some q → q < wr.drew.heap.size := fun q hq => (ownBlock_lt HSEA.out.own hq).2
    have HB1 : Hid (Beside u10 A1 ((outs c).map sgT) w2) := Lib.hid (beside_own hT1 hO1 hvl)
    have HB2 : Hid (Beside u10 A2 ((outs c).map tbT) w2) := Lib.hid (beside_own hT2 hO2 hvl)
    clear hHeld HSS HA hb2 HSEA hT1 hT2 hO1 hO2 hvl HFS hqq a1 a2 a3 a4 a5 a6 a7 a8
    have holn := HOL.out c
    obtain ⟨os, hos⟩ : ∃ os, outs c = os := ⟨_, rfl⟩
    have HOS := Lib.hid hos
    rw [hos] at HB1 HB2 holn ⊢
    have HOLN := Lib.hid holn
    clear hos holn
    go_wp2_with fail
    go_loopw [9, 10, 48] (fun a' v c' wi => ∃ (k : Nat) (s1 : ByteArray) (D1 : MetW), k ≤ os.length ∧ a' = .string s1 ∧ c' = .int .i64 k ∧ s1.data.toList = keysW D1 ∧ D <+: D1 ∧ MetP U a D1 ∧ (∀ j m, j < k → os[j]? = some m → m.tb ∈ keysW D1) ∧ SeaW w B A es.length cap v D1 wi ∧ Beside v A1 (os.map sgT) wi ∧ Beside v A2 (os.map tbT) wi) (fun _ _ c _ => os.length - (intOf c).toNat)
    case atStart => exact ⟨0, sx, D, Nat.zero_le _, rfl, rfl, HSX.out, List.prefix_refl _, HMP.out, fun j x hj => absurd hj (by omega), HSEA2.out, HB1.out, HB2.out⟩
    case round =>
      clear HSEA2 HB1 HB2
      obtain ⟨k, s1, D1, hk, rfl, rfl, hs1, hpre, hmp1, hin, hsea, hbs1, hbs2⟩ := hrel
      have hD18 := HLEN8.out D1 hmp1
      have hs1z : s1.size = D1.length := by
        have h := congrArg List.length hs1
        simpa [keysW] using h
      have HS1 := Lib.hid hs1; have HSEA := Lib.hid hsea; have HPRE := Lib.hid hpre; have HS1Z := Lib.hid hs1z; have HMP1 := Lib.hid hmp1; have HIN := Lib.hid hin; have HBS1 := Lib.hid hbs1; have HBS2 := Lib.hid hbs2
      clear hs1 hsea hpre hs1z hmp1 hin hbs1 hbs2
      by_cases hlk : k < os.length
      case neg =>
        have HNT3 : Hid (∀ j x, j < i + 1 → D1[j]? = some x → x.1 ≠ t) := Lib.hid fun j x hj hx => by
          obtain ⟨r, hr⟩ := HPRE.out
          rw [← hr, List.getElem?_append_left (by omega)] at hx
          exact HNT2.out j x hj hx
        have hlen : i + 1 ≤ D1.length := Nat.le_trans hiD0 HPRE.out.length_le
        have HCL : Hid (Clo U D1 (i + 1)) := Lib.hid (HCLO.out.next HPRE.out HGI.out (outs := os) (fun m hm hf => by rw [← HOS.out]; exact (HMO.out c m).2 ⟨hm, hf⟩) (fun m hm => by
          obtain ⟨j, hj, he⟩ := List.mem_iff_getElem.1 hm
          exact HIN.out j m (by omega) (by rw [List.getElem?_eq_getElem hj, he])))
        have hi8 : i ≤ 8 := by omega
        clear HNT HNT2
        go_wp2_with fail
        go_roundw
        case rel => exact ⟨i + 1, s1, D1, rfl, by go_num, hlen, HS1.out, HMP1.out, HCL.out, HNT3.out, HSEA.out⟩
        case measure => simp [intOf]; omega
      obtain ⟨m, hm⟩ : ∃ m, os[k] = m := ⟨_, rfl⟩
      have hmo : m ∈ os := by rw [← hm]; exact List.getElem_mem hlk
      obtain ⟨hmU, hmf⟩ := (HMO.out c m).1 (by rw [HOS.out]; exact hmo)
      obtain ⟨g2, hA2, hlow2, hcell2⟩ := HBS2.out.texts k (by simpa using hlk)
      obtain ⟨g1, hA1, hlow1, hcell1⟩ := HBS1.out.texts k (by simpa using hlk)
      simp only [List.getElem_map, hm] at hcell1 hcell2
      obtain ⟨y, hy⟩ : ∃ y, m.tb = y := ⟨_, rfl⟩
      have htb : tbT m = ⟨#[y]⟩ := by rw [← hy]; rfl
      obtain ⟨st, hst⟩ : ∃ st, sgT m = st := ⟨_, rfl⟩
      have hsts : st.size = 2 := by rw [← hst]; rfl
      rw [htb] at hcell2
      rw [hst] at hcell1
      subst hA1
      subst hA2
      have HHM := Lib.hid hm; have HMU := Lib.hid hmU; have HMF := Lib.hid hmf; have HY := Lib.hid hy; have HST := Lib.hid hst
      clear hm hmo hmU hmf htb hst
      obtain ⟨fi, hfi⟩ : ∃ fi, Lib.indexByte s1.data.toList y = fi := ⟨_, rfl⟩
      have hiff : 0 ≤ fi ↔ y ∈ keysW D1 := by rw [← hfi, HS1.out]; exact indexByte_nonneg
      have HFI := Lib.hid hfi; have HIFF := Lib.hid hiff
      clear hfi hiff hy
      have HS1M : Hid (s1.size ≤ maxLen) := Lib.hid (by have := HS1Z.out; unfold maxLen; omega)
      have hkk : (k : Int) < (os.length : Int) := by omega
      have hk0 : (0 : Int) ≤ (k : Int) := by omega
      by_cases hfl : fi < 0
      case neg =>
        have HIN2 : Hid (∀ j m, j < k + 1 → os[j]? = some m → m.tb ∈ keysW D1) := Lib.hid fun j m' hj hm' => by
          by_cases hjk : j < k
          · exact HIN.out j m' hjk hm'
          · have : j = k := by omega
            subst this
            rw [List.getElem?_eq_getElem hlk, HHM.out] at hm'
            injection hm' with hm'
            subst hm'
            rw [HY.out]
            exact HIFF.out.1 (by omega)
        have hk100 : k ≤ 100 := by have := HOLN.out; omega
        go_wp2_with (go_at_call 60; refine (find_any s1 y _ HS1M.out).mono ?_; rw [HFI.out]; rintro e wI ⟨rfl, rfl⟩)
        go_roundw
        case rel => exact ⟨k + 1, s1, D1, by omega, rfl, by go_num, HS1.out, HPRE.out, HMP1.out, HIN2.out, HSEA.out, HBS1.out, HBS2.out⟩
        case measure => simp [intOf]; omega
      have hadd : ¬ 9223372036854775807 < s1.size + (⟨#[y]⟩ : ByteArray).size := by
        have h1 : (⟨#[y]⟩ : ByteArray).size = 1 := rfl
        have := HS1Z.out
        omega
      have hadd2 : ¬ 9223372036854775807 < s1.size + 1 := by have := HS1Z.out; omega
      go_wp2_with (go_at_call 60; refine (find_any s1 y _ HS1M.out).mono ?_; rw [HFI.out]; rintro e wI ⟨rfl, rfl⟩)
      have hyn : y ∉ keysW D1 := fun h => by have := HIFF.out.2 h; omega
      clear hadd hadd2
      have hplen := HPRE.out.length_le
      have hz4 := HSEA.out.size
      obtain ⟨vg, vc, rfl⟩ := Go.Joins.ownsRow_form HSEA.out.own (by omega)
      obtain ⟨pp, hpp⟩ : ∃ pp : ByteArray, (⟨(txtM p).toArray⟩ : ByteArray) = pp := ⟨_, rfl⟩
      have hD1i : D1[i]? = some (c, p) := by
        obtain ⟨r, hr⟩ := HPRE.out
        rw [← hr, List.getElem?_append_left hiD0]
        exact HGI.out
      have HMP2 : Hid (MetP U a (D1 ++ [(y, p ++ [m])])) := Lib.hid (by
        rw [← HY.out]
        exact HMP1.out.push (List.mem_of_getElem? hD1i) HMU.out HMF.out (by rw [HY.out]; exact hyn))
      have HCI : Hid ((txtsW D1)[i]? = some (.string pp)) := Lib.hid (by simp [txtsW, hD1i, hpp])
      have hcw := HSEA.out.own.cells (g := vg) rfl i (.string pp) HCI.out
      rw [add_none, Nat.zero_add] at hcw
      have hpps : pp.size ≤ 14 := by
        rw [← hpp]; show (txtM p).toArray.size ≤ 14
        have := txtM_len p
        simp; omega
      have HNP : Hid ((pp ++ st : ByteArray) = ⟨(txtM (p ++ [m])).toArray⟩) := Lib.hid (by
        apply bytes_ext
        rw [Go.Joins.data_append, ← hpp, ← HST.out]
        simp [txtM, sgT])
      have hadd : ¬ 9223372036854775807 < pp.size + st.size := by omega
      have hadd1 : ¬ 9223372036854775807 < pp.size + 2 := by omega
      have hba : Below wr.heap.size wr (wr.alloc (.cells #[.string (pp ++ st)] 9)).drew := ((Below.refl _ _).alloc (Nat.le_refl _) _).drew
      have HSEA5 := Lib.hid (HSEA.out.go hba)
      have HBS15 := Lib.hid (HBS1.out.go hba)
      have HBS25 := Lib.hid (HBS2.out.go hba)
      have HNEWS : Hid (∀ j u, [Value.string (pp ++ st)][j]? = some u → (wr.alloc (.cells #[.string (pp ++ st)] 9)).drew.cell? ((⟨wr.heap.size, 0, none⟩ : Addr).add j) = some u) := Lib.hid (cell_one_new wr (.string (pp ++ st)) 9)
      have hz5 : w.heap.size + 1 ≤ (wr.alloc (.cells #[.string (pp ++ st)] 9)).drew.heap.size := by simp; omega
      have HZ5 := Lib.hid hz5
      have hcw5 := HSEA5.out.own.cells (g := vg) rfl i (.string pp) HCI.out
      rw [add_none, Nat.zero_add] at hcw5
      have hcell5 : (wr.alloc (.cells #[.string (pp ++ st)] 9)).drew.cell? ⟨g1, k, none⟩ = some (.string st) := (hba.cell hlow1).trans hcell1
      have hiD1 : (i : Int) < (D1.length : Int) := by omega
      have hii : (0 : Int) ≤ (i : Int) := by omega
      have hvg1 : some g1 ≠ (Value.slice (some ⟨vg, 0, none⟩) D1.length vc).ownBlock := (HBS15.out.apart ⟨g1, 0, none⟩ rfl).2
      have hvl1 : g1 < (wr.alloc (.cells #[.string (pp ++ st)] 9)).drew.heap.size := (HBS15.out.apart ⟨g1, 0, none⟩ rfl).1
      have HVG := Lib.hid hvg1; have HVL := Lib.hid hvl1
      have HSZ1 : Hid (D1.length + 1 ≤ maxLen ∧ (D1.length + 1) * 16 ≤ 140737488355328) := Lib.hid (sz_ok (by omega))
      clear hpp hD1i hba hz5 hyn hvg1 hvl1 hz4 hcell2
      go_region_held3 (fun W => W.cell? ⟨vg, i, none⟩ = some (.string pp) ∧ W.cell? ⟨g1, k, none⟩ = some (.string st))
        (first
          | exact ⟨hcw, hcell1⟩
          | exact ⟨hcw5, hcell5⟩
          | exact ⟨hcw6, hcell6⟩)
        (first
          | (refine step_append_keptW rfl (.tmp 61) (.tmp 71) 111 rfl (w.heap.size + 1) 9 i0 (.string ⟨#[]⟩) 1 16 Try.underlying111 HI.out HI0.out HI1.out HI2.out rfl (by decide) vg vc D1.length (txtsW D1) rfl HSEA5.out.own ⟨wr.heap.size, 0, none⟩ 1 1 [.string (pp ++ st)] rfl rfl HNEWS.out (one_cell (pp ++ st)) HSZ1.out.1 HSZ1.out.2 HZ5.out ?_
             intro v6 w6 hown6 hgr6 hcs6 hat6
             go_must (
             have hcw6 : w6.cell? ⟨vg, i, none⟩ = some (.string pp) := by
               have := hcs6 i (.string pp) HCI.out
               rwa [add_none, Nat.zero_add] at this
             have hcell6 : w6.cell? ⟨g1, k, none⟩ = some (.string st) := (World.cell?_of_block (hgr6.block g1 HVL.out HVG.out)).trans hcell5
             have hw6 : txtsW D1 ++ [Value.string (pp ++ st)] = txtsW (D1 ++ [(y, p ++ [m])]) := by
               rw [HNP.out]
               simp [txtsW]
             rw [hw6] at hown6
             have HSEA6 : Hid (SeaW w B A es.length cap v6 (D1 ++ [(y, p ++ [m])]) w6) := Lib.hid (HSEA5.out.push hgr6 (by simpa using hown6))
             have HBS16 := Lib.hid (HBS15.out.push hgr6 hat6)
             have HBS26 := Lib.hid (HBS25.out.push hgr6 hat6)
             clear hw6 hown6 hgr6 hcs6 hat6)))
      rename_i hHeld
      clear hHeld hadd hadd1 hcw hcw5 hcw6 hcell1 hcell5 hcell6
      have HS2 : Hid ((s1 ++ ⟨#[y]⟩ : ByteArray).data.toList = keysW (D1 ++ [(y, p ++ [m])])) := Lib.hid (by rw [Go.Joins.data_append, HS1.out]; simp [keysW])
      have HIN2 : Hid (∀ j m', j < k + 1 → os[j]? = some m' → m'.tb ∈ keysW (D1 ++ [(y, p ++ [m])])) := Lib.hid fun j m' hj hm' => by
        rw [keysW_append]
        by_cases hjk : j < k
        · exact List.mem_append_left _ (HIN.out j m' hjk hm')
        · have : j = k := by omega
          subst this
          rw [List.getElem?_eq_getElem hlk, HHM.out] at hm'
          injection hm' with hm'
          subst hm'
          rw [HY.out]
          exact List.mem_append_right _ (List.mem_singleton.2 rfl)
      have HPR2 : Hid (D <+: D1 ++ [(y, p ++ [m])]) := Lib.hid (HPRE.out.trans (List.prefix_append _ _))
      have hk100 : k ≤ 100 := by have := HOLN.out; omega
      go_wp2_with fail
      go_roundw
      case rel => exact ⟨k + 1, s1 ++ ⟨#[y]⟩, _, by omega, rfl, by go_num, HS2.out, HPR2.out, HMP2.out, HIN2.out, HSEA6.out, HBS16.out, HBS26.out⟩
      case measure => simp [intOf]; omega

end Go.Proofs.Ytadngnajenedpaa
