/- Runs that have all edges, by the model. -/
import Derived.Test.YthnpilkchfmfgaaCover
import Derived.Test.YthnpilkchfmfgaaNameL
import Derived.Test.YthnpilkchfmfgaaShortS
import Derived.Deep.RegionHeld3
namespace Go.Proofs.Ythnpilkchfmfgaa
open Go.RowKit

theorem edge_madeC (w : World) : ∀ w' : World, Below (w.drew.alloc (.cells #[.string ⟨#[]⟩, .string ⟨#[]⟩] 55)).heap.size (w.drew.alloc (.cells #[.string ⟨#[]⟩, .string ⟨#[]⟩] 55)) w' →
    w'.cell? ⟨w.heap.size, 0, none⟩ = some (.string ⟨#[]⟩) ∧ w'.cell? ⟨w.heap.size, 1, none⟩ = some (.string ⟨#[]⟩) ∧ w'.frozen? ⟨w.heap.size, 0, none⟩ = false ∧ w'.frozen? ⟨w.heap.size, 1, none⟩ = false := fun w' h =>
  ⟨(h.cell (by simp)).trans (by go_simp), (h.cell (by simp)).trans (by go_simp), (h.frozen (by simp)).trans (by go_simp), (h.frozen (by simp)).trans (by go_simp)⟩

set_option maxRecDepth 100000 in
set_option maxHeartbeats 8000000 in
/-- spec.CoverRuns -/
theorem specCoverRuns_any (B : ByteArray) (A : Option Addr) (cap : Nat) (es : List (ByteArray × ByteArray)) (w : World) (hs : B.size ≤ maxLen) (hE : EdgesIn w w.heap.size A es) (hl : es.length ≤ maxLen) :
    Calls Try.prog 43 #[.agg #[.string B, .slice A es.length cap]] w (TextsPost (coverQ B es) w) := by
  have HL2 := Lib.hid hl; have HM := Lib.hid hs
  clear hl hs
  have hbA : Below w.heap.size w ((w.alloc (.cells #[.string B, .slice A es.length cap] 28)).alloc (.cells #[] 9)) := ((Below.refl _ _).alloc (Nat.le_refl _) _).alloc (by simp) _
  have htA : Two ((w.alloc (.cells #[.string B, .slice A es.length cap] 28)).alloc (.cells #[] 9)) w.heap.size B A es.length cap := ⟨by go_simp, by go_simp⟩
  have hoA : ((w.alloc (.cells #[.string B, .slice A es.length cap] 28)).alloc (.cells #[] 9)).ownsRow (w.heap.size + 1) 9 1 (.slice (some ⟨w.heap.size + 1, 0, none⟩) 0 0) (metR []).length (waysV (metR [])) := by
    have hh := World.alloc_heap_new (w.alloc (.cells #[.string B, .slice A es.length cap] 28)) (.cells #[] 9)
    rw [World.size_alloc] at hh
    exact ⟨rfl, .inr ⟨_, 0, _, rfl, Nat.le_refl _, hh, Nat.le_refl _, by unfold maxLen; omega, rfl, rfl⟩⟩
  have HSEA : Hid (Sea2 w B A es.length cap (.slice (some ⟨w.heap.size + 1, 0, none⟩) 0 0) (metR []) ((w.alloc (.cells #[.string B, .slice A es.length cap] 28)).alloc (.cells #[] 9))) := Lib.hid ⟨hbA, htA, hoA, by simp⟩
  have HEA : Hid (EdgesIn ((w.alloc (.cells #[.string B, .slice A es.length cap] 28)).alloc (.cells #[] 9)) ((w.alloc (.cells #[.string B, .slice A es.length cap] 28)).alloc (.cells #[] 9)).heap.size A es) := Lib.hid ((hE.below hbA).more hbA.size)
  have hd0 := htA.1; have hd1 := htA.2
  clear hbA htA hoA
  by_cases hv : Valid B.data.toList (ebs es)
  case neg =>
    have HD : Hid (decB (Valid B.data.toList (ebs es)) = false) := Lib.hid (decB_f hv)
    have HN : Hid (coverQ B es = ([], false)) := Lib.hid (if_neg hv)
    clear hv
    go_enter Try.func43, Try.ntmps43
    go_wp2_with fail
    refine (specValid_any B A cap es _ HM.out HEA.out HL2.out).mono ?_
    rw [HD.out]
    rintro e w2 ⟨rfl, hb2⟩
    have HSEA2 := Lib.hid (HSEA.out.go hb2)
    clear hb2 hd0 hd1 HEA HSEA
    go_wp2_with fail
    go_ret2
    have hx := own_texts (ts := []) (by simpa [metR, waysV] using HSEA2.out.own)
    rw [HN.out]
    obtain ⟨A', cap', hv, h1, h2⟩ := hx
    exact ⟨A', cap', by rw [← hv]; rfl, h1, HSEA2.out.below, OwnTexts.mono h2 (by omega)⟩
  have HD : Hid (decB (Valid B.data.toList (ebs es)) = true) := Lib.hid (decB_t hv)
  obtain ⟨s, hse⟩ : ∃ s, entry B.data.toList = s := ⟨_, rfl⟩
  obtain ⟨t, hte⟩ : ∃ t, exit_ B.data.toList = t := ⟨_, rfl⟩
  have HN : Hid (coverQ B es = (txts (cov (ebs es) s t es.length), true)) := Lib.hid (by rw [← hse, ← hte]; exact if_pos hv)
  have h16 : es.length ≤ 16 := by have := (valid_sizes hv).2; omega
  have h28 : B.data.toList.length ≤ 8 := hv.1.1.2.1
  have hB1 : 1 ≤ B.size := by have h := hv.1.1.1; have e : B.data.toList.length = B.size := (by simp); omega
  have hLE := lets_of hv.1.2
  obtain ⟨e1, e2⟩ := entry_bytes (B := B) hB1
  obtain ⟨f1, f2⟩ := exit_bytes (B := B) hB1
  rw [hse] at e1 e2
  rw [hte] at f1 f2
  have FT : Hid (∀ (W : World) (c : UInt8), EdgesIn W W.heap.size A es → Calls Try.prog 86 #[.agg #[.string B, .slice A es.length cap], .string ⟨#[c]⟩] W fun e w' => e = .returned (.string ⟨(pathE (ebs es) s c).toArray⟩) ∧ Below W.heap.size W w') :=
    Lib.hid fun W c h => l2To_any B A cap es B.data.toList _ s c W h h16 hLE e2 h28 e1 hB1 HM.out rfl
  have FS : Hid (∀ (W : World) (c : UInt8), c ∈ B.data.toList → EdgesIn W W.heap.size A es → Calls Try.prog 83 #[.agg #[.string B, .slice A es.length cap], .string ⟨#[c]⟩] W fun e w' => e = .returned (.string ⟨(pathE (ebs es) c t).toArray⟩) ∧ Below W.heap.size W w') :=
    Lib.hid fun W c hc h => l2Short_any B A cap es B.data.toList _ c t W h h16 hLE hc h28 rfl hB1 HM.out (bytes_one f1)
  have HLE := Lib.hid hLE; have H16 := Lib.hid h16
  obtain ⟨nt, hnt⟩ : ∃ nt : ByteArray, (⟨(names (fun _ => true) es.length).toArray⟩ : ByteArray) = nt := ⟨_, rfl⟩
  have hntd : nt.data.toList = (List.range es.length).map nameOf := by rw [← hnt]; show names _ _ = _; unfold names; rw [List.filter_eq_self.2 (fun _ _ => rfl)]
  have hnts : nt.size = es.length := by
    have h := congrArg List.length hntd
    simpa using h
  have HNT := Lib.hid hnt; have HNTD := Lib.hid hntd; have HNTS := Lib.hid hnts
  clear hv hLE e1 e2 f1 f2 h16 h28 hB1 hse hte hnt hntd hnts
  go_enter Try.func43, Try.ntmps43
  go_wp2_with fail
  refine (specValid_any B A cap es _ HM.out HEA.out HL2.out).mono ?_
  rw [HD.out]
  rintro e w2 ⟨rfl, hb2⟩
  have HSEA2 := Lib.hid (HSEA.out.go hb2)
  clear hb2 hd0 hd1 HEA HSEA
  have hd0 := HSEA2.out.two.1; have hd1 := HSEA2.out.two.2
  go_wp2_with fail
  refine (l1Names_any B A es.length cap _ (by have := H16.out; omega)).mono ?_
  rw [HNT.out]
  rintro e w3 ⟨rfl, hb3⟩
  have HSEA3 := Lib.hid (HSEA2.out.go hb3)
  clear hb3 hd0 hd1 HSEA2
  go_wp2_with fail
  go_loopw [4, 5, 19] (fun v a c wr => ∃ (i : Nat) (sn : ByteArray), i ≤ es.length ∧ a = .string sn ∧ c = .int .i64 i ∧ sn.data.toList = (cov (ebs es) s t i).flatten ∧ Sea2 w B A es.length cap v (metR (cov (ebs es) s t i)) wr) (fun _ _ c _ => es.length - (intOf c).toNat)
  case atStart => exact ⟨0, ⟨#[]⟩, Nat.zero_le _, rfl, rfl, rfl, HSEA3.out⟩
  case round =>
    clear HSEA3
    obtain ⟨i, sn, hi, rfl, rfl, hsn, hsea⟩ := hrel
    obtain ⟨R, hR⟩ : ∃ R, cov (ebs es) s t i = R := ⟨_, rfl⟩
    have hrl := cov_len (ebs es) s t i
    rw [hR] at hsn hsea hrl
    have hsnz : sn.size ≤ 300 := by
      have h := congrArg List.length hsn
      have e : sn.data.toList.length = sn.size := by simp
      have := H16.out
      omega
    have hR16 : R.length ≤ 16 := by have := H16.out; omega
    have HR := Lib.hid hR; have HSN := Lib.hid hsn; have HSEA := Lib.hid hsea
    clear hR hsn hsea hrl
    have hns := HNTS.out
    by_cases hlt : i < es.length
    case neg =>
      have hie : i = es.length := by omega
      subst hie
      clear hns
      have hlt' : ¬ ((es.length : Int) < (nt.size : Int)) := by have := HNTS.out; omega
      go_wp2_with fail
      go_ret2
      have hx := own_texts (ts := txts R) (by
        have := HSEA.out.own
        rw [waysV_metR, metR_length, ← txts_length] at this
        exact this)
      rw [HN.out, HR.out]
      obtain ⟨A', cap', hv, h1, h2⟩ := hx
      exact ⟨A', cap', by rw [← hv]; rfl, h1, HSEA.out.below, OwnTexts.mono h2 (by omega)⟩
    have hin : i < nt.size := by omega
    have hnb : nt[i] = nameL i := by
      have h : nt.data.toList[i]? = some (nameOf i) := by rw [HNTD.out]; simp [hlt]
      have h2 : nt.data.toList[i]? = some nt[i] := by
        rw [List.getElem?_eq_getElem (by simpa using hin)]; rfl
      rw [h2] at h
      injection h
    have hel : (nt.extract i (i + 1)).data.toList = [nameOf i] := by
      rw [letter_at hin, HNTD.out]
      simp [List.getD, hlt]
    obtain ⟨x, y, hx, hy, hxl, hyl⟩ := HLE.out es[i] (List.getElem_mem hlt)
    have hek : (ebs es)[i]? = some ([x], [y]) := by simp only [ebs, List.getElem?_map, List.getElem?_eq_getElem hlt, Option.map_some, hx, hy]
    obtain ⟨fi, hfi⟩ : ∃ fi, Lib.indexByte sn.data.toList (nameL i) = fi := ⟨_, rfl⟩
    have hiff : 0 ≤ fi ↔ nameL i ∈ R.flatten := by rw [← hfi, HSN.out]; exact indexByte_nonneg
    have HFI := Lib.hid hfi; have HIFF := Lib.hid hiff; have HEK := Lib.hid hek; have HEL := Lib.hid hel; have HNB := Lib.hid hnb
    have HX := Lib.hid (bytes_one hx); have HY := Lib.hid (bytes_one hy)
    have HSM : Hid (sn.size ≤ maxLen) := Lib.hid (by unfold maxLen; omega)
    have HIX : Hid (eIdx es.length (nt.extract i (i + 1)).data.toList = i) := Lib.hid (by rw [hel]; exact eIdx_name hlt (by have := H16.out; omega))
    clear hfi hiff hek hel hnb hx hy hns
    have hin2 : (i : Int) < (nt.size : Int) := by omega
    have hi16 : i ≤ 16 := by have := H16.out; omega
    have hi17 : (i : Int) ≤ 16 := by omega
    have hi0 : (0 : Int) ≤ (i : Int) := by omega
    by_cases hf : 0 ≤ fi
    · have HST : Hid (cov (ebs es) s t (i + 1) = R) := Lib.hid (by rw [cov_succ, HR.out, stepC_no (HIFF.out.1 hf)])
      go_wp2_with (go_at_call 61; refine (find_any sn _ _ HSM.out).mono ?_; rw [HNB.out, HFI.out]; rintro e wI ⟨rfl, rfl⟩)
      go_roundw
      case rel => exact ⟨i + 1, sn, by omega, rfl, by go_num, by rw [HST.out]; exact HSN.out, by rw [HST.out]; exact HSEA.out⟩
      case measure => simp [intOf]; omega
    have hxn : nameL i ∉ R.flatten := fun h => hf (HIFF.out.2 h)
    obtain ⟨run, hrun⟩ : ∃ run, runE (ebs es) s t x y i = run := ⟨_, rfl⟩
    have HRUN := Lib.hid hrun
    have hr17 : run.length ≤ 17 := by rw [← hrun]; exact runE_len _ _ _ _ _ _
    have HST : Hid (cov (ebs es) s t (i + 1) = R ++ [run]) := Lib.hid (by rw [cov_succ, HR.out, stepC_yes hxn HEK.out, hrun])
    clear hxn hrun
    go_wp2_with (go_at_call 61; refine (find_any sn _ _ HSM.out).mono ?_; rw [HNB.out, HFI.out]; rintro e wI ⟨rfl, rfl⟩)
    have hS : ∀ W, Below wr.heap.size wr W → (W.cell? ⟨w.heap.size, 0, none⟩ = some (.string B) ∧ W.cell? ⟨w.heap.size, 1, none⟩ = some (.slice A es.length cap) ∧ Below wr.heap.size wr W) :=
      fun W h => ⟨(HSEA.out.go h).two.1, (HSEA.out.go h).two.2, h⟩
    have HSS := Lib.hid hS
    have HA : Hid (∀ W, Below wr.heap.size wr W → EdgesIn W W.heap.size A es) := Lib.hid fun W h => (hE.below (HSEA.out.go h).below).more (HSEA.out.go h).below.size
    clear hS
    have a4 : (0 : Int) ≤ (i : Int) + 1 := by omega
    have a5 : ((i : Int) + 1).toNat = i + 1 := by omega
    have a6 : (i : Int) + 1 ≤ (nt.size : Int) := by omega
    have a7 : i + 1 ≤ nt.size := by omega
    have a8 : (i : Int) ≤ (i : Int) + 1 := by omega
    have a3 : IntKind.i64.wrap ((i : Int) + 1) = (i : Int) + 1 := IntWalk.i64_in _ (by omega)
    have HF := Lib.hid (edge_madeC wr)
    go_region_held3 (fun W => W.cell? ⟨w.heap.size, 0, none⟩ = some (.string B) ∧ W.cell? ⟨w.heap.size, 1, none⟩ = some (.slice A es.length cap) ∧ Below wr.heap.size wr W)
      (first
        | exact HSS.out _ (Below.refl _ _).drew
        | exact HSS.out _ ((Below.refl _ _).drew.trans hb4)
        | exact HSS.out _ ((Below.refl _ _).drew.alloc (by simp) _)
        | exact HSS.out _ (((Below.refl _ _).drew.alloc (by simp) _).trans (hb4.mono (by simp)))
        | exact HSS.out _ (((Below.refl _ _).drew.trans hb4).alloc (by first | exact hb4.size | (have := hb4.size; simpa using this)) _)
        | exact HSS.out _ (((((Below.refl _ _).drew.alloc (by simp) _).trans (hb4.mono (by simp))).setCell (by simp) _).setCell (by simp) _)
        | exact HSS.out _ (((((Below.refl _ _).drew.trans hb4).alloc (by first | exact hb4.size | (have := hb4.size; simpa using this)) _).setCell (by first | exact hb4.size | (have := hb4.size; simpa using this)) _).setCell (by first | exact hb4.size | (have := hb4.size; simpa using this)) _))
      (first
        | (go_at_call 70; refine (l2Edge_any B A cap es _ i _ (HA.out _ (by first | exact (Below.refl _ _).drew | exact (Below.refl _ _).drew.alloc (by simp) _)) (by have := H16.out; omega) hlt HIX.out).mono ?_; rw [HX.out, HY.out]; rintro e w4 ⟨rfl, hb4⟩
           first | (have hp := HF.out w4 hb4; obtain ⟨hp0, hp1, hp2, hp3⟩ := hp) | (clear HF)))
    all_goals
      rename_i hHeld
      obtain ⟨pa, hpa⟩ : ∃ pa : ByteArray, (⟨(pathE (ebs es) s x).toArray⟩ : ByteArray) = pa := ⟨_, rfl⟩
      obtain ⟨pb, hpb⟩ : ∃ pb : ByteArray, (⟨(pathE (ebs es) y t).toArray⟩ : ByteArray) = pb := ⟨_, rfl⟩
      have hpa8 : pa.size ≤ 8 := by rw [← hpa]; have := pathE_len (ebs es) s x; show (pathE (ebs es) s x).toArray.size ≤ 8; simpa using this
      have hpb8 : pb.size ≤ 8 := by rw [← hpb]; have := pathE_len (ebs es) y t; show (pathE (ebs es) y t).toArray.size ≤ 8; simpa using this
      have hn1 : (nt.extract i (i + 1)).size = 1 := by simp; omega
      obtain ⟨rt, hrt⟩ : ∃ rt : ByteArray, pa ++ nt.extract i (i + 1) ++ pb = rt := ⟨_, rfl⟩
      have HRTD : Hid (rt.data.toList = run) := Lib.hid (by
        rw [← hrt, ← HRUN.out, Go.Joins.data_append, Go.Joins.data_append, HEL.out, ← hpa, ← hpb]
        simp [runE, nameOf, nameL])
      have hrt17 : rt.size ≤ 17 := by
        have h := congrArg List.length HRTD.out
        have e : rt.data.toList.length = rt.size := by simp
        omega
      have HPA := Lib.hid hpa; have HPB := Lib.hid hpb; have HRT := Lib.hid hrt
      have hj1 : ¬ 9223372036854775807 < pa.size + (nt.extract i (i + 1)).size := by omega
      have hj2 : ¬ 9223372036854775807 < pa.size + 1 := by omega
      have hj3 : ¬ 9223372036854775807 < (pa ++ nt.extract i (i + 1)).size + pb.size := by simp only [ByteArray.size_append]; omega
      have hj4 : ¬ 9223372036854775807 < pa.size + 1 + pb.size := by omega
      have hj5 : ¬ 9223372036854775807 < sn.size + rt.size := by omega
      clear hpa hpb hrt hn1
      first
        | (have hc0 : ((w4.setCell ⟨wr.heap.size, 0, none⟩ (.string ⟨#[x]⟩)).setCell ⟨wr.heap.size, 1, none⟩ (.string ⟨#[y]⟩)).cell? ⟨wr.heap.size, 0, none⟩ = some (.string ⟨#[x]⟩) := (World.cell?_setCell_other _ _ _ _ (by intro e; injection e with _ e; omega)).trans (World.cell?_setCell_same' _ _ _ (by rw [hp0]; rfl))
           have hc1 : ((w4.setCell ⟨wr.heap.size, 0, none⟩ (.string ⟨#[x]⟩)).setCell ⟨wr.heap.size, 1, none⟩ (.string ⟨#[y]⟩)).cell? ⟨wr.heap.size, 1, none⟩ = some (.string ⟨#[y]⟩) := World.cell?_setCell_same' _ _ _ (by rw [World.cell?_setCell_other _ _ _ _ (by intro e; injection e with _ e; omega), hp1]; rfl)
           have hg2 : wr.heap.size < ((w4.setCell ⟨wr.heap.size, 0, none⟩ (.string ⟨#[x]⟩)).setCell ⟨wr.heap.size, 1, none⟩ (.string ⟨#[y]⟩)).heap.size := by
             have := hb4.size
             simp at this
             simp [World.setCell]; omega
           have hx5 := hHeld.2.2
           generalize (w4.setCell ⟨wr.heap.size, 0, none⟩ (.string ⟨#[x]⟩)).setCell ⟨wr.heap.size, 1, none⟩ (.string ⟨#[y]⟩) = W5 at hc0 hc1 hg2 hx5 ⊢
           clear hHeld hb4 hp0 hp1 hp2 hp3
           obtain ⟨g, hge⟩ : ∃ g, wr.heap.size = g := ⟨_, rfl⟩
           rw [hge] at hc0 hc1 hg2 ⊢
           have hg1 : wr.heap.size ≤ g := by omega
           clear hge)
        | (have hc0 : (w4.alloc (.cells #[.string ⟨#[x]⟩, .string ⟨#[y]⟩] 55)).cell? ⟨w4.heap.size, 0, none⟩ = some (.string ⟨#[x]⟩) := by go_simp
           have hc1 : (w4.alloc (.cells #[.string ⟨#[x]⟩, .string ⟨#[y]⟩] 55)).cell? ⟨w4.heap.size, 1, none⟩ = some (.string ⟨#[y]⟩) := by go_simp
           have hg2 : w4.heap.size < (w4.alloc (.cells #[.string ⟨#[x]⟩, .string ⟨#[y]⟩] 55)).heap.size := by simp
           have hg1 : wr.heap.size ≤ w4.heap.size := by have := hb4.size; simpa using this
           have hx5 := hHeld.2.2
           generalize w4.alloc (.cells #[.string ⟨#[x]⟩, .string ⟨#[y]⟩] 55) = W5 at hc0 hc1 hg2 hx5 ⊢
           clear hHeld hb4
           obtain ⟨g, hge⟩ : ∃ g, w4.heap.size = g := ⟨_, rfl⟩
           rw [hge] at hc0 hc1 hg2 hg1 ⊢
           clear hge)
      have HSEA5 := Lib.hid (HSEA.out.go hx5)
      have HC5 : Hid (∀ W, Below W5.heap.size W5 W → (W.cell? ⟨g, 0, none⟩ = some (.string ⟨#[x]⟩) ∧ W.cell? ⟨g, 1, none⟩ = some (.string ⟨#[y]⟩))) := Lib.hid fun W h => ⟨(h.cell (by simp only; omega)).trans hc0, (h.cell (by simp only; omega)).trans hc1⟩
      have HS5 : Hid (∀ W, Below W5.heap.size W5 W → (W.cell? ⟨w.heap.size, 0, none⟩ = some (.string B) ∧ W.cell? ⟨w.heap.size, 1, none⟩ = some (.slice A es.length cap) ∧ W.cell? ⟨g, 0, none⟩ = some (.string ⟨#[x]⟩) ∧ W.cell? ⟨g, 1, none⟩ = some (.string ⟨#[y]⟩) ∧ Below W5.heap.size W5 W)) :=
        Lib.hid fun W h => ⟨(HSEA5.out.go h).two.1, (HSEA5.out.go h).two.2, (HC5.out W h).1, (HC5.out W h).2, h⟩
      have HA5 : Hid (∀ W, Below W5.heap.size W5 W → EdgesIn W W.heap.size A es) := Lib.hid fun W h => (hE.below (HSEA5.out.go h).below).more (HSEA5.out.go h).below.size
      clear hx5 hc0 hc1 hg1 hg2 HC5 HSS HA
      go_wp2_with fail
      go_region_held3 (fun W => W.cell? ⟨w.heap.size, 0, none⟩ = some (.string B) ∧ W.cell? ⟨w.heap.size, 1, none⟩ = some (.slice A es.length cap) ∧ W.cell? ⟨g, 0, none⟩ = some (.string ⟨#[x]⟩) ∧ W.cell? ⟨g, 1, none⟩ = some (.string ⟨#[y]⟩) ∧ Below W5.heap.size W5 W)
        (first
          | exact HS5.out _ (Below.refl _ _).drew
          | exact HS5.out _ ((Below.refl _ _).drew.trans hb6)
          | exact HS5.out _ (((Below.refl _ _).drew.trans hb6).trans (hb7.mono hb6.size)))
        (first
          | (go_at_call 86; refine (FT.out _ x (HA5.out _ (Below.refl _ _).drew)).mono ?_; rw [HPA.out]; rintro e w6 ⟨rfl, hb6⟩)
          | (go_at_call 83; refine (FS.out _ y hyl (HA5.out _ ((Below.refl _ _).drew.trans hb6))).mono ?_; rw [HPB.out]; rintro e w7 ⟨rfl, hb7⟩))
      rename_i hHeld
      have HSEA7 := Lib.hid (HSEA5.out.go hHeld.2.2.2.2)
      clear hHeld HS5 HA5 hb6 hb7 HSEA5 hj1 hj2 hj3 hj4
      rw [HRT.out]
      obtain ⟨i0, hi0, hi1, hi2, hi3⟩ := info_parts textInfo
      have HI0 := Lib.hid hi0; have HI1 := Lib.hid hi1; have HI2 := Lib.hid hi2; have HI3 := Lib.hid hi3
      clear hi0 hi1 hi2 hi3
      have hba : Below w7.heap.size w7 (w7.alloc (.cells #[.string rt] 9)) := (Below.refl _ _).alloc (Nat.le_refl _) _
      have HSEA8 := Lib.hid (HSEA7.out.go hba)
      have hnews : ∀ j u, [Value.string rt][j]? = some u → (w7.alloc (.cells #[.string rt] 9)).cell? ((⟨w7.heap.size, 0, none⟩ : Addr).add j) = some u := by
        intro j u hj
        match j, hj with
        | 0, hj => simp at hj; subst hj; simp [Addr.add]
        | j + 1, hj => simp at hj
      have HNEWS := Lib.hid hnews
      have hone : ∀ u ∈ [Value.string rt], u.oneCell' = true := by intro u hu; simp at hu; subst hu; rfl
      have HONE := Lib.hid hone
      have HZ8 : Hid (w.heap.size + 1 ≤ (w7.alloc (.cells #[.string rt] 9)).heap.size) := Lib.hid HSEA8.out.size
      have hml : (metR R).length ≤ 16 := by rw [metR_length]; exact hR16
      clear hba hnews hone a3 a4 a5 a6 a7 a8
      go_wp2_with
        (at_builtin
         refine wpList_append_own _ rfl (.tmp 50) (.tmp 52) 42 rfl (w.heap.size + 1) 9 i0 (.string ⟨#[]⟩) 1 16 Try.underlying42 HI0.out HI1.out HI2.out HI3.out rfl (by decide) _ (metR R).length (waysV (metR R)) rfl HSEA8.out.own ⟨w7.heap.size, 0, none⟩ 1 1 [.string rt] rfl rfl HNEWS.out HONE.out (by unfold maxLen; omega) (by omega) (by have := HZ8.out; omega) ?_
         intro v9 w9 hown9 hgr9 _
         go_must (
         have hw9 : waysV (metR R) ++ [Value.string rt] = waysV (metR (R ++ [run])) := by
           rw [metR_snoc, str_ext HRTD.out]
           simp [waysV]
         rw [hw9] at hown9
         have HSEA9 : Hid (Sea2 w B A es.length cap v9 (metR (R ++ [run])) w9) := Lib.hid (HSEA8.out.push hgr9 (by simpa [metR] using hown9))
         clear hw9 hown9 hgr9))
      have HSN2 : Hid ((sn ++ rt).data.toList = (R ++ [run]).flatten) := Lib.hid (by rw [Go.Joins.data_append, HSN.out, HRTD.out]; simp)
      go_roundw
      case rel => exact ⟨i + 1, sn ++ rt, by omega, rfl, by go_num, by rw [HST.out]; exact HSN2.out, by rw [HST.out]; exact HSEA9.out⟩
      case measure => simp [intOf]; omega

end Go.Proofs.Ythnpilkchfmfgaa
