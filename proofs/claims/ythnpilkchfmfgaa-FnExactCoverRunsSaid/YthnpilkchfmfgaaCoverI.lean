/- Runs that have all edges, by the program. -/
import Derived.Test.YthnpilkchfmfgaaCover
import Derived.Test.YthnpilkchfmfgaaAlong
import Derived.Test.YthnpilkchfmfgaaIsRun
import Derived.Test.YthnpilkchfmfgaaShort
import Derived.Deep.RegionHeld3
namespace Go.Proofs.Ythnpilkchfmfgaa
open Go.RowKit

set_option maxRecDepth 100000 in
set_option maxHeartbeats 2000000 in
/-- impl.CoverRuns -/
theorem implCoverRuns_any (B : ByteArray) (A : Option Addr) (cap : Nat) (es : List (ByteArray × ByteArray)) (w : World) (hs : B.size ≤ maxLen) (hE : EdgesIn w w.heap.size A es) (hl : es.length ≤ maxLen) :
    Calls Try.prog 44 #[.agg #[.string B, .slice A es.length cap]] w (TextsPost (coverQ B es) w) := by
  have HL2 := Lib.hid hl; have HM := Lib.hid hs
  clear hl hs
  have hbA : Below w.heap.size w (w.alloc (.cells #[.string B, .slice A es.length cap] 28)) := (Below.refl _ _).alloc (Nat.le_refl _) _
  have htA := Two.made w B A es.length cap 28
  have hoA : (w.alloc (.cells #[.string B, .slice A es.length cap] 28)).ownsRow (w.heap.size + 1) 9 1 (.slice none 0 0) (metR []).length (waysV (metR [])) := World.ownsRow_nil _ _ _ _
  have HSEA : Hid (Sea2 w B A es.length cap (.slice none 0 0) (metR []) (w.alloc (.cells #[.string B, .slice A es.length cap] 28))) := Lib.hid ⟨hbA, htA, hoA, by simp⟩
  have HEA : Hid (EdgesIn (w.alloc (.cells #[.string B, .slice A es.length cap] 28)) (w.alloc (.cells #[.string B, .slice A es.length cap] 28)).heap.size A es) := Lib.hid ((hE.below hbA).more hbA.size)
  have hd0 := htA.1; have hd1 := htA.2
  clear hbA htA hoA
  by_cases hv : Valid B.data.toList (ebs es)
  case neg =>
    have HD : Hid (decB (Valid B.data.toList (ebs es)) = false) := Lib.hid (decB_f hv)
    have HN : Hid (coverQ B es = ([], false)) := Lib.hid (if_neg hv)
    clear hv
    go_enter Try.func44, Try.ntmps44
    go_wp2_with fail
    refine (valid_any B A cap es _ HM.out HEA.out HL2.out).mono ?_
    rw [HD.out]
    rintro e w2 ⟨rfl, hb2⟩
    have HSEA2 := Lib.hid (HSEA.out.go hb2)
    clear hb2 hd0 hd1 HEA HSEA
    go_wp2_with fail
    go_ret2
    rw [HN.out]
    exact ⟨none, 0, rfl, fun k hk => absurd hk (by simp), HSEA2.out.below, .inl ⟨rfl, rfl⟩⟩
  have HD : Hid (decB (Valid B.data.toList (ebs es)) = true) := Lib.hid (decB_t hv)
  obtain ⟨s, hse⟩ : ∃ s, entry B.data.toList = s := ⟨_, rfl⟩
  obtain ⟨t, hte⟩ : ∃ t, exit_ B.data.toList = t := ⟨_, rfl⟩
  have HN : Hid (coverQ B es = (txts (cov (ebs es) s t es.length), true)) := Lib.hid (by rw [← hse, ← hte]; exact if_pos hv)
  have h16 : es.length ≤ 16 := by have := (valid_sizes hv).2; omega
  have h28 : B.data.toList.length ≤ 8 := hv.1.1.2.1
  have hB1 : 1 ≤ B.size := by have h := hv.1.1.1; have e : B.data.toList.length = B.size := (by simp); omega
  have hLE := lets_of hv.1.2
  obtain ⟨e1, e2⟩ := entry_bytes (B := B) hB1
  obtain ⟨f1, f2⟩ := exit_bytes (B := B) hB1
  rw [hse] at e1 e2
  rw [hte] at f1 f2
  have FP : Hid (∀ (W : World) (a b : UInt8), a ∈ B.data.toList → EdgesIn W W.heap.size A es → Calls Try.prog 84 #[.agg #[.string B, .slice A es.length cap], .string ⟨#[a]⟩, .string ⟨#[b]⟩] W fun e w' => e = .returned (.string ⟨(pathE (ebs es) a b).toArray⟩) ∧ Below W.heap.size W w') :=
    Lib.hid fun W a b ha h => shortestPath_any B A cap es B.data.toList _ _ a b W h h16 hLE ha h28 rfl rfl
  have FE : Hid (∀ W : World, Calls Try.prog 72 #[.agg #[.string B, .slice A es.length cap]] W fun e w' => e = .returned (.string ⟨#[s]⟩) ∧ Below W.heap.size W w') :=
    Lib.hid fun W => by have := entryOf_any B (.slice A es.length cap) W hB1 HM.out; rwa [bytes_one e1] at this
  have FX : Hid (∀ W : World, Calls Try.prog 74 #[.agg #[.string B, .slice A es.length cap]] W fun e w' => e = .returned (.string ⟨#[t]⟩) ∧ Below W.heap.size W w') :=
    Lib.hid fun W => by have := exitOf_any B (.slice A es.length cap) W hB1 HM.out; rwa [bytes_one f1] at this
  have HLE := Lib.hid hLE; have H16 := Lib.hid h16; have HSIN := Lib.hid e2
  clear hv hLE e1 e2 f1 f2 h16 h28 hB1 hse hte
  go_enter Try.func44, Try.ntmps44
  go_wp2_with fail
  refine (valid_any B A cap es _ HM.out HEA.out HL2.out).mono ?_
  rw [HD.out]
  rintro e w2 ⟨rfl, hb2⟩
  have HSEA2 := Lib.hid (HSEA.out.go hb2)
  clear hb2 hd0 hd1 HEA HSEA
  have hd0 := HSEA2.out.two.1; have hd1 := HSEA2.out.two.2
  go_wp2_with fail
  clear hd0 hd1
  go_loopw [4, 5, 15] (fun v a c wr => ∃ (i : Nat) (sn : ByteArray), i ≤ es.length ∧ a = .string sn ∧ c = .int .i64 i ∧ sn.data.toList = (cov (ebs es) s t i).flatten ∧ Sea2 w B A es.length cap v (metR (cov (ebs es) s t i)) wr) (fun _ _ c _ => es.length - (intOf c).toNat)
  case atStart => exact ⟨0, ⟨#[]⟩, Nat.zero_le _, rfl, rfl, rfl, HSEA2.out⟩
  case round =>
    clear HSEA2
    obtain ⟨i, sn, hi, rfl, rfl, hsn, hsea⟩ := hrel
    obtain ⟨R, hR⟩ : ∃ R, cov (ebs es) s t i = R := ⟨_, rfl⟩
    have hrl := cov_len (ebs es) s t i
    rw [hR] at hsn hsea hrl
    have hsnz : sn.size ≤ 300 := by
      have h := congrArg List.length hsn
      have e : sn.data.toList.length = sn.size := by simp
      have := H16.out
      omega
    have hR16 : R.length ≤ 16 := by have := H16.out; omega
    have HR := Lib.hid hR; have HSN := Lib.hid hsn; have HSEA := Lib.hid hsea
    clear hR hsn hsea hrl
    by_cases hlt : i < es.length
    case neg =>
      have hie : i = es.length := by omega
      subst hie
      go_wp2_with fail
      go_ret2
      have hx := own_texts (ts := txts R) (by
        have := HSEA.out.own
        rw [waysV_metR, metR_length, ← txts_length] at this
        exact this)
      rw [HN.out, HR.out]
      obtain ⟨A', cap', hv, h1, h2⟩ := hx
      exact ⟨A', cap', by rw [← hv]; rfl, h1, HSEA.out.below, OwnTexts.mono h2 (by omega)⟩
    obtain ⟨x, y, hx, hy, hxl, hyl⟩ := HLE.out es[i] (List.getElem_mem hlt)
    have hek : (ebs es)[i]? = some ([x], [y]) := by simp only [ebs, List.getElem?_map, List.getElem?_eq_getElem hlt, Option.map_some, hx, hy]
    obtain ⟨fi, hfi⟩ : ∃ fi, Lib.indexByte sn.data.toList (nameOf i) = fi := ⟨_, rfl⟩
    have hiff : 0 ≤ fi ↔ nameL i ∈ R.flatten := by rw [← hfi, HSN.out]; exact indexByte_nonneg
    have HFI := Lib.hid hfi; have HIFF := Lib.hid hiff; have HEK := Lib.hid hek
    have hEw : EdgesIn wr wr.heap.size A es := (hE.below HSEA.out.below).more HSEA.out.below.size
    have HEW := Lib.hid hEw
    obtain ⟨eb, eo, rfl, hlow, h1, h2⟩ := hEw i hlt
    rw [bytes_one hx] at h1
    rw [bytes_one hy] at h2
    have HSM : Hid (sn.size ≤ maxLen) := Lib.hid (by unfold maxLen; omega)
    have hi16 : i ≤ 16 := by have := H16.out; omega
    have hi17 : (i : Int) ≤ 16 := by omega
    have hi0 : (0 : Int) ≤ (i : Int) := by omega
    have hi20 : i ≤ 20 := by omega
    have hba : Below wr.heap.size wr (wr.alloc (.cells #[.string ⟨#[x]⟩, .string ⟨#[y]⟩] 55)) := (Below.refl _ _).alloc (Nat.le_refl _) _
    have HSEA3 := Lib.hid (HSEA.out.go hba)
    have HC0 : Hid ((wr.alloc (.cells #[.string ⟨#[x]⟩, .string ⟨#[y]⟩] 55)).cell? ⟨wr.heap.size, 0, none⟩ = some (.string ⟨#[x]⟩)) := Lib.hid (by go_simp)
    have HC1 : Hid ((wr.alloc (.cells #[.string ⟨#[x]⟩, .string ⟨#[y]⟩] 55)).cell? ⟨wr.heap.size, 1, none⟩ = some (.string ⟨#[y]⟩)) := Lib.hid (by go_simp)
    have HG2 : Hid (wr.heap.size < (wr.alloc (.cells #[.string ⟨#[x]⟩, .string ⟨#[y]⟩] 55)).heap.size) := Lib.hid (by simp)
    clear hfi hiff hek hx hy hba
    by_cases hf : 0 ≤ fi
    · have HST : Hid (cov (ebs es) s t (i + 1) = R) := Lib.hid (by rw [cov_succ, HR.out, stepC_no (HIFF.out.1 hf)])
      have hdf : decide (0 ≤ fi) = true := by simpa using hf
      go_wp2_with (first
        | (go_at_call 88; refine (edgeName_any i hi20 _).mono ?_; rintro e wI ⟨rfl, rfl⟩)
        | (go_at_call 87; refine (contains_any sn _ _ HSM.out).mono ?_; rw [HFI.out]; rintro e wI ⟨rfl, rfl⟩))
      go_roundw
      case rel => exact ⟨i + 1, sn, by omega, rfl, by go_num, by rw [HST.out]; exact HSN.out, by rw [HST.out]; exact HSEA3.out⟩
      case measure => simp [intOf]; omega
    have hxn : nameL i ∉ R.flatten := fun h => hf (HIFF.out.2 h)
    have hdf : decide (0 ≤ fi) = false := by simpa using hf
    obtain ⟨run, hrun⟩ : ∃ run, runE (ebs es) s t x y i = run := ⟨_, rfl⟩
    have HRUN := Lib.hid hrun
    have hr17 : run.length ≤ 17 := by rw [← hrun]; exact runE_len _ _ _ _ _ _
    have HST : Hid (cov (ebs es) s t (i + 1) = R ++ [run]) := Lib.hid (by rw [cov_succ, HR.out, stepC_yes hxn HEK.out, hrun])
    clear hxn hrun
    go_wp2_with (first
      | (go_at_call 88; refine (edgeName_any i hi20 _).mono ?_; rintro e wI ⟨rfl, rfl⟩)
      | (go_at_call 87; refine (contains_any sn _ _ HSM.out).mono ?_; rw [HFI.out]; rintro e wI ⟨rfl, rfl⟩))
    generalize hW5 : wr.alloc (.cells #[.string ⟨#[x]⟩, .string ⟨#[y]⟩] 55) = W5 at HSEA3 HC0 HC1 HG2 ⊢
    clear hW5
    obtain ⟨pa, hpa⟩ : ∃ pa : ByteArray, (⟨(pathE (ebs es) s x).toArray⟩ : ByteArray) = pa := ⟨_, rfl⟩
    obtain ⟨pb, hpb⟩ : ∃ pb : ByteArray, (⟨(pathE (ebs es) y t).toArray⟩ : ByteArray) = pb := ⟨_, rfl⟩
    have hpa8 : pa.size ≤ 8 := by rw [← hpa]; have := pathE_len (ebs es) s x; show (pathE (ebs es) s x).toArray.size ≤ 8; simpa using this
    have hpb8 : pb.size ≤ 8 := by rw [← hpb]; have := pathE_len (ebs es) y t; show (pathE (ebs es) y t).toArray.size ≤ 8; simpa using this
    have hn1 : (⟨#[nameOf i]⟩ : ByteArray).size = 1 := rfl
    obtain ⟨rt, hrt⟩ : ∃ rt : ByteArray, pa ++ ⟨#[nameOf i]⟩ ++ pb = rt := ⟨_, rfl⟩
    have HRTD : Hid (rt.data.toList = run) := Lib.hid (by
      rw [← hrt, ← HRUN.out, Go.Joins.data_append, Go.Joins.data_append, ← hpa, ← hpb]
      simp [runE, nameOf, nameL])
    have hrt17 : rt.size ≤ 17 := by
      have h := congrArg List.length HRTD.out
      have e : rt.data.toList.length = rt.size := by simp
      omega
    have HPA := Lib.hid hpa; have HPB := Lib.hid hpb; have HRT := Lib.hid hrt
    have hj1 : ¬ 9223372036854775807 < pa.size + (⟨#[nameOf i]⟩ : ByteArray).size := by omega
    have hj2 : ¬ 9223372036854775807 < pa.size + 1 := by omega
    have hj3 : ¬ 9223372036854775807 < (pa ++ ⟨#[nameOf i]⟩).size + pb.size := by simp only [ByteArray.size_append]; omega
    have hj4 : ¬ 9223372036854775807 < pa.size + 1 + pb.size := by omega
    have hj5 : ¬ 9223372036854775807 < sn.size + rt.size := by omega
    clear hpa hpb hrt hn1
    obtain ⟨g, hge⟩ : ∃ g, wr.heap.size = g := ⟨_, rfl⟩
    rw [hge] at HC0 HC1 HG2 ⊢
    have HC5 : Hid (∀ W, Below W5.heap.size W5 W → (W.cell? ⟨g, 0, none⟩ = some (.string ⟨#[x]⟩) ∧ W.cell? ⟨g, 1, none⟩ = some (.string ⟨#[y]⟩))) := Lib.hid fun W h => ⟨(h.cell (by have := HG2.out; simp only; omega)).trans HC0.out, (h.cell (by have := HG2.out; simp only; omega)).trans HC1.out⟩
    have HS5 : Hid (∀ W, Below W5.heap.size W5 W → (W.cell? ⟨w.heap.size, 0, none⟩ = some (.string B) ∧ W.cell? ⟨w.heap.size, 1, none⟩ = some (.slice (some ⟨eb, eo, none⟩) es.length cap) ∧ W.cell? ⟨g, 0, none⟩ = some (.string ⟨#[x]⟩) ∧ W.cell? ⟨g, 1, none⟩ = some (.string ⟨#[y]⟩) ∧ Below W5.heap.size W5 W)) :=
      Lib.hid fun W h => ⟨(HSEA3.out.go h).two.1, (HSEA3.out.go h).two.2, (HC5.out W h).1, (HC5.out W h).2, h⟩
    have HA5 : Hid (∀ W, Below W5.heap.size W5 W → EdgesIn W W.heap.size (some ⟨eb, eo, none⟩) es) := Lib.hid fun W h => (hE.below (HSEA3.out.go h).below).more (HSEA3.out.go h).below.size
    clear HC0 HC1 HG2 HC5 hge HSEA h1 h2 hlow HEW
    go_region_held3 (fun W => W.cell? ⟨w.heap.size, 0, none⟩ = some (.string B) ∧ W.cell? ⟨w.heap.size, 1, none⟩ = some (.slice (some ⟨eb, eo, none⟩) es.length cap) ∧ W.cell? ⟨g, 0, none⟩ = some (.string ⟨#[x]⟩) ∧ W.cell? ⟨g, 1, none⟩ = some (.string ⟨#[y]⟩) ∧ Below W5.heap.size W5 W)
      (first
        | exact HS5.out _ (Below.refl _ _).drew
        | exact HS5.out _ c6
        | exact HS5.out _ c7
        | exact HS5.out _ c9
        | exact HS5.out _ c10)
      (first
        | (go_at_call 72; refine (FE.out _).mono ?_; rintro e w6 ⟨rfl, hb6⟩; have c6 := (Below.refl W5.heap.size W5).drew.trans hb6)
        | (go_at_call 88; refine (edgeName_any i hi20 _).mono ?_; rintro e w8 ⟨rfl, rfl⟩)
        | (go_at_call 74; refine (FX.out _).mono ?_; rintro e w9 ⟨rfl, hb9⟩; have c9 := c7.trans (hb9.mono c7.size))
        | (have hq := c9; clear hq; go_at_call 84; refine (FP.out _ y t hyl (HA5.out _ c9)).mono ?_; rw [HPB.out]; rintro e w10 ⟨rfl, hb10⟩; have c10 := c9.trans (hb10.mono c9.size))
        | (go_at_call 84; refine (FP.out _ s x HSIN.out (HA5.out _ c6)).mono ?_; rw [HPA.out]; rintro e w7 ⟨rfl, hb7⟩; have c7 := c6.trans (hb7.mono c6.size)))
    rename_i hHeld
    have HSEA7 := Lib.hid (HSEA3.out.go hHeld.2.2.2.2)
    clear hHeld HS5 HA5 hb6 hb7 hb9 hb10 c6 c7 c9 c10 HSEA3 hj1 hj2 hj3 hj4
    rw [HRT.out]
    obtain ⟨i0, hi0, hi1, hi2, hi3⟩ := info_parts textInfo
    have HI0 := Lib.hid hi0; have HI1 := Lib.hid hi1; have HI2 := Lib.hid hi2; have HI3 := Lib.hid hi3
    clear hi0 hi1 hi2 hi3
    have hba : Below w10.heap.size w10 (w10.alloc (.cells #[.string rt] 9)) := (Below.refl _ _).alloc (Nat.le_refl _) _
    have HSEA8 := Lib.hid (HSEA7.out.go hba)
    have hnews : ∀ j u, [Value.string rt][j]? = some u → (w10.alloc (.cells #[.string rt] 9)).cell? ((⟨w10.heap.size, 0, none⟩ : Addr).add j) = some u := by
      intro j u hj
      match j, hj with
      | 0, hj => simp at hj; subst hj; simp [Addr.add]
      | j + 1, hj => simp at hj
    have HNEWS := Lib.hid hnews
    have hone : ∀ u ∈ [Value.string rt], u.oneCell' = true := by intro u hu; simp at hu; subst hu; rfl
    have HONE := Lib.hid hone
    have HZ8 : Hid (w.heap.size + 1 ≤ (w10.alloc (.cells #[.string rt] 9)).heap.size) := Lib.hid HSEA8.out.size
    have hml : (metR R).length ≤ 16 := by rw [metR_length]; exact hR16
    clear hba hnews hone
    go_wp2_with
      (at_builtin
       refine wpList_append_own _ rfl (.tmp 40) (.tmp 42) 42 rfl (w.heap.size + 1) 9 i0 (.string ⟨#[]⟩) 1 16 Try.underlying42 HI0.out HI1.out HI2.out HI3.out rfl (by decide) _ (metR R).length (waysV (metR R)) rfl HSEA8.out.own ⟨w10.heap.size, 0, none⟩ 1 1 [.string rt] rfl rfl HNEWS.out HONE.out (by unfold maxLen; omega) (by omega) (by have := HZ8.out; omega) ?_
       intro v9 w9 hown9 hgr9 _
       go_must (
       have hw9 : waysV (metR R) ++ [Value.string rt] = waysV (metR (R ++ [run])) := by
         rw [metR_snoc, str_ext HRTD.out]
         simp [waysV]
       rw [hw9] at hown9
       have HSEA9 : Hid (Sea2 w B (some ⟨eb, eo, none⟩) es.length cap v9 (metR (R ++ [run])) w9) := Lib.hid (HSEA8.out.push hgr9 (by simpa [metR] using hown9))
       clear hw9 hown9 hgr9))
    have HSN2 : Hid ((sn ++ rt).data.toList = (R ++ [run]).flatten) := Lib.hid (by rw [Go.Joins.data_append, HSN.out, HRTD.out]; simp)
    go_roundw
    case rel => exact ⟨i + 1, sn ++ rt, by omega, rfl, by go_num, by rw [HST.out]; exact HSN2.out, by rw [HST.out]; exact HSEA9.out⟩
    case measure => simp [intOf]; omega

end Go.Proofs.Ythnpilkchfmfgaa
