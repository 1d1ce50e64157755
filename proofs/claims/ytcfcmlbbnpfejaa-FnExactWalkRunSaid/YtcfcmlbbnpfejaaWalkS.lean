/- A walk that numbers pick, by the model. -/
import Derived.Test.YtcfcmlbbnpfejaaWalkE
import Derived.Test.YtcfcmlbbnpfejaaShortS
import Derived.Deep.RegionHeld3
namespace Go.Proofs.Ytcfcmlbbnpfejaa
open Go.RowKit

set_option maxRecDepth 100000 in
set_option maxHeartbeats 8000000 in
/-- spec.WalkRun -/
theorem specWalkRun_any (B : ByteArray) (A : Option Addr) (cap : Nat) (es : List (ByteArray × ByteArray)) (P : Option Addr) (pcap : Nat) (xs : List Int) (w : World) (hs : B.size ≤ maxLen) (hE : EdgesIn w w.heap.size A es) (hl : es.length ≤ 1099511627776) (_ : ∀ e ∈ es, e.1.size ≤ 1099511627776 ∧ e.2.size ≤ 1099511627776)
    (hX : IntsIn w w.heap.size P xs) (hxl : xs.length ≤ 1099511627776) :
    Calls Try.prog 60 #[.agg #[.string B, .slice A es.length cap], .slice P xs.length pcap] w (TextPost (walkV B es xs) w) := by
  have hl2 : es.length ≤ maxLen := by unfold maxLen; omega
  have HL2 := Lib.hid hl2; have HM := Lib.hid hs
  clear hl hl2 hs
  have hb1 : Below w.heap.size w (w.alloc (.cells #[.string B, .slice A es.length cap] 25)) := (Below.refl _ _).alloc (Nat.le_refl _) _
  have t1 := Two.made w B A es.length cap 25
  have hz1 : (w.alloc (.cells #[.string B, .slice A es.length cap] 25)).heap.size = w.heap.size + 1 := by simp
  by_cases hv : Valid B.data.toList (ebs es)
  case neg =>
    have HD : Hid (decB (Valid B.data.toList (ebs es)) = false) := Lib.hid (decB_f hv)
    have HN : Hid (walkV B es xs = (⟨#[]⟩, false)) := Lib.hid (walkV_no hv)
    clear hv
    go_enter Try.func60, Try.ntmps60
    go_wp2_with fail
    refine (specValid_any B A cap es _ HM.out ((hE.below hb1).more hb1.size) HL2.out).mono ?_
    rw [HD.out]
    rintro e w2 ⟨rfl, hb2⟩
    have hb2' := hb1.trans (hb2.mono hb1.size)
    clear hb2
    go_wp2_with fail
    go_ret2
    exact ⟨by rw [HN.out]; rfl, hb2'⟩
  have HD : Hid (decB (Valid B.data.toList (ebs es)) = true) := Lib.hid (decB_t hv)
  have HV := Lib.hid hv
  have hF := facts_of hv
  have h16 := hF.few
  have hB1 := hF.one
  have h8 := hF.small
  obtain ⟨t, ht⟩ : ∃ t, exit_ B.data.toList = t := ⟨_, rfl⟩
  obtain ⟨s0, hs0⟩ : ∃ s0, entry B.data.toList = s0 := ⟨_, rfl⟩
  have hlast := hF.last
  rw [ht] at hlast
  have hfirst := hF.first
  rw [hs0] at hfirst
  have HENT : Hid (∀ W : World, Calls Try.prog 95 #[.agg #[.string B, .slice A es.length cap]] W fun e w' => e = .returned (.string ⟨#[s0]⟩) ∧ Below W.heap.size W w') := Lib.hid fun W => by
    rw [← hfirst]; exact l1Entry_any B _ W hB1 HM.out
  have HEXIT : Hid (∀ W : World, Calls Try.prog 115 #[.agg #[.string B, .slice A es.length cap]] W fun e w' => e = .returned (.string ⟨#[t]⟩) ∧ Below W.heap.size W w') := Lib.hid fun W => by
    rw [← hlast]; exact l1Exit_any B _ W hB1 HM.out
  have HSHORT : Hid (∀ (b : UInt8) (W : World), b ∈ B.data.toList → EdgesIn W W.heap.size A es → Calls Try.prog 116 #[.agg #[.string B, .slice A es.length cap], .string ⟨#[b]⟩] W fun e w' => e = .returned (.string ⟨(pathE (ebs es) b t).toArray⟩) ∧ Below W.heap.size W w') := Lib.hid fun b W hb h =>
    l2Short_any B A cap es B.data.toList ⟨#[b]⟩ b t W h h16 hF.lets hb h8 rfl hB1 HM.out hlast
  have hst : s0 ∈ B.data.toList := by rw [← hs0]; exact hF.ent
  have HT := Lib.hid ht; have HS0 := Lib.hid hs0; have HST := Lib.hid hst; have HLE := Lib.hid hF.lets; have HB1 := Lib.hid hB1
  clear hv hF hlast hfirst ht hs0 hst hB1 h8
  go_enter Try.func60, Try.ntmps60
  go_wp2_with fail
  refine (specValid_any B A cap es _ HM.out ((hE.below hb1).more hb1.size) HL2.out).mono ?_
  rw [HD.out]
  rintro e w2 ⟨rfl, hb2⟩
  have t2 := t1.below hb2 (by omega)
  have hb2' := hb1.trans (hb2.mono hb1.size)
  have hd0 := t2.1; have hd1 := t2.2
  have hz2 : w.heap.size + 1 ≤ w2.heap.size := by have := hb2.size; omega
  clear hb2 t1 hb1 hz1
  go_wp2_with fail
  refine (HENT.out _).mono ?_
  rintro e w3 ⟨rfl, hb3⟩
  have hb3' := hb2'.trans (hb3.mono hb2'.size)
  have t3 := t2.below hb3 (by omega)
  have hz3 : w.heap.size + 1 ≤ w3.heap.size := by have := hb3.size; omega
  have HT3 := Lib.hid t3; have HB3 := Lib.hid hb3'
  clear hb3 hd0 hd1 t2 hb2' t3 hb3'
  go_wp2_with fail
  go_loopw [6, 7, 19] (fun o a c wr => ∃ (j : Nat) (b : UInt8) (p : List UInt8), j ≤ xs.length ∧ c = .int .i64 j ∧ a = .string ⟨#[b]⟩ ∧ o = .string ⟨p.toArray⟩ ∧ b ∈ B.data.toList ∧ p.length ≤ 30 ∧ walkE es t xs s0 [] = walkE es t (xs.drop j) b p ∧ Below w3.heap.size w3 wr) (fun _ _ c _ => xs.length - (intOf c).toNat)
  case atStart => exact ⟨0, s0, [], Nat.zero_le _, rfl, rfl, rfl, HST.out, by simp, by simp, Below.refl _ _⟩
  case round =>
    obtain ⟨j, b, p, hj, rfl, rfl, rfl, hb, hp, hw, hbw⟩ := hrel
    have HBM := Lib.hid hb; have HW := Lib.hid hw; have HBW := Lib.hid hbw
    have tr := HT3.out.below hbw (by omega)
    have hzr := hbw.size
    have hd0 := tr.1; have hd1 := tr.2
    have sp : (⟨p.toArray⟩ : ByteArray).size = p.length := by show p.toArray.size = _; simp
    clear hb hw hbw
    -- the shortest path from here
    obtain ⟨r, hr⟩ : ∃ r : ByteArray, (⟨(pathE (ebs es) b t).toArray⟩ : ByteArray) = r := ⟨_, rfl⟩
    have hrs : r.size ≤ 8 := by
      rw [← hr]
      show (pathE (ebs es) b t).toArray.size ≤ 8
      rw [List.size_toArray]; exact pathE_len8 _ _ _
    have HSH : Hid (∀ W : World, EdgesIn W W.heap.size A es → Calls Try.prog 116 #[.agg #[.string B, .slice A es.length cap], .string ⟨#[b]⟩] W fun e w' => e = .returned (.string r) ∧ Below W.heap.size W w') := Lib.hid fun W h => by
      rw [← hr]; exact HSHORT.out b W HBM.out h
    have HFIN : Hid (walkE es t (xs.drop j) b p = some (b, p) → walkV B es xs = (⟨p.toArray⟩ ++ r, true)) := Lib.hid fun h => by
      have e : (⟨p.toArray⟩ ++ r : ByteArray) = ⟨(p ++ pathE (ebs es) b t).toArray⟩ := by rw [← hr]; exact bytes_ext (by simp)
      rw [e, ← HT.out]
      refine walkV_yes HV.out ?_
      rw [HT.out, HS0.out, HW.out, h]
    have hsz : ¬ 9223372036854775807 < (⟨p.toArray⟩ : ByteArray).size + r.size := by omega
    have hbwr := HB3.out.trans (HBW.out.mono (show w.heap.size ≤ w3.heap.size by omega))
    clear hr
    by_cases hlt : j < xs.length
    case neg =>
      have HQ := Lib.hid (HFIN.out (by rw [List.drop_of_length_le (by omega)]; rfl))
      clear hrs
      go_wp2_with fail
      refine (HSH.out _ ((hE.below hbwr).more hbwr.size)).mono ?_
      rintro e w5 ⟨rfl, hb5⟩
      have hb5' := hbwr.trans (hb5.mono hbwr.size)
      clear hb5 hd0 hd1
      go_wp2_with fail
      go_ret2
      exact ⟨by rw [HQ.out]; rfl, hb5'⟩
    obtain ⟨k, hk⟩ : ∃ k, xs[j] = k := ⟨_, rfl⟩
    obtain ⟨pb, po, rfl, hlow, c1⟩ := (hX.below hbwr) j hlt
    rw [hk] at c1
    have hdr : xs.drop j = k :: xs.drop (j + 1) := by rw [List.drop_eq_getElem_cons hlt, hk]
    have HDR := Lib.hid hdr
    have hki : (j : Int) < (xs.length : Int) := by omega
    clear hk hdr
    by_cases hbt : b = t
    case pos =>
      have HQ := Lib.hid (HFIN.out (walkE_stop _ (.inl hbt)))
      have hq : (b == t) = true := by simp [hbt]
      clear hrs hbt
      go_wp2_with (go_at_call 115; refine (HEXIT.out _).mono ?_; rintro e w4 ⟨rfl, hb4⟩; have t4 := tr.below hb4 (by omega); have he0 := t4.1; have he1 := t4.2)
      have hbw4 := hbwr.trans (hb4.mono hbwr.size)
      refine (HSH.out _ ((hE.below hbw4).more hbw4.size)).mono ?_
      rintro e w5 ⟨rfl, hb5⟩
      have hb5' := hbw4.trans (hb5.mono hbw4.size)
      clear hb5 hd0 hd1
      go_wp2_with fail
      go_ret2
      exact ⟨by rw [HQ.out]; rfl, hb5'⟩
    have hq : (b == t) = false := by simp [hbt]
    by_cases hp30 : 30 ≤ p.length
    case pos =>
      have HQ := Lib.hid (HFIN.out (walkE_stop _ (.inr hp30)))
      clear hrs hbt
      go_wp2_with (go_at_call 115; refine (HEXIT.out _).mono ?_; rintro e w4 ⟨rfl, hb4⟩; have t4 := tr.below hb4 (by omega); have he0 := t4.1; have he1 := t4.2)
      have hbw4 := hbwr.trans (hb4.mono hbwr.size)
      refine (HSH.out _ ((hE.below hbw4).more hbw4.size)).mono ?_
      rintro e w5 ⟨rfl, hb5⟩
      have hb5' := hbw4.trans (hb5.mono hbw4.size)
      clear hb5 hd0 hd1
      go_wp2_with fail
      go_ret2
      exact ⟨by rw [HQ.out]; rfl, hb5'⟩
    have HST2 : Hid (¬ (b = t ∨ 30 ≤ p.length)) := Lib.hid (fun h => h.elim hbt hp30)
    have HPOS : Hid (0 < (outsOf es b).length) := Lib.hid (outs_pos HV.out HBM.out (by rw [HT.out]; exact hbt))
    obtain ⟨et, het⟩ : ∃ et : ByteArray, (⟨(names (outB es ⟨#[b]⟩) es.length).toArray⟩ : ByteArray) = et := ⟨_, rfl⟩
    have hetd : et.data.toList = (outsOf es b).map nameOf := by rw [← het]; rfl
    have hets : et.size = (outsOf es b).length := by rw [str_size hetd]; simp
    have hol : (outsOf es b).length ≤ 16 := by
      have := names_length (outB es ⟨#[b]⟩) es.length
      have h2 : (names (outB es ⟨#[b]⟩) es.length).length = (outsOf es b).length := by simp [names, outsOf]
      omega
    have HOUT : Hid (∀ W : World, EdgesIn W W.heap.size A es → Calls Try.prog 87 #[.agg #[.string B, .slice A es.length cap], .string ⟨#[b]⟩] W fun e w' => e = .returned (.string et) ∧ Below W.heap.size W w') := Lib.hid fun W hW => by
      have h := outList_any B A cap es ⟨#[b]⟩ W hW (by omega)
      rwa [het] at h
    have HETD := Lib.hid hetd; have HETS := Lib.hid hets
    clear het hetd hbt hsz hrs HSH HFIN
    by_cases hk0 : k < 0
    case pos =>
      have HQ : Hid (walkV B es xs = (⟨#[]⟩, false)) := Lib.hid (by
        refine walkV_none ?_
        rw [HT.out, HS0.out, HW.out, HDR.out, walkE_none HST2.out hk0])
      clear hets
      go_wp2_with (go_at_call 115; refine (HEXIT.out _).mono ?_; rintro e w4 ⟨rfl, hb4⟩; have t4 := tr.below hb4 (by omega); have he0 := t4.1; have he1 := t4.2)
      have hbw4 := hbwr.trans (hb4.mono hbwr.size)
      clear hb4 hd0 hd1
      refine (HOUT.out _ ((hE.below hbw4).more hbw4.size)).mono ?_
      rintro e w5 ⟨rfl, hb5⟩
      have hb5' := hbw4.trans (hb5.mono hbw4.size)
      clear hb5 he0 he1 t4
      go_wp2_with fail
      go_ret2
      exact ⟨by rw [HQ.out]; rfl, hb5'⟩
    -- an edge is picked
    obtain ⟨hml, hme⟩ := pickAt_lt (k := k) HPOS.out
    obtain ⟨m, hm⟩ : ∃ m, pickAt es b k = m := ⟨_, rfl⟩
    rw [hm] at hml hme
    rw [← hets] at hme hml
    obtain ⟨ix, hix⟩ : ∃ ix, pickE es b k = ix := ⟨_, rfl⟩
    have hmem : ix ∈ outsOf es b := hix ▸ pickE_mem HPOS.out
    obtain ⟨hi, y, hy, hy2, hyl⟩ := outsOf_mem HLE.out hmem
    have HNEXT : Hid (walkE es t xs s0 [] = walkE es t (xs.drop (j + 1)) y (p ++ [nameOf ix])) := Lib.hid (by
      rw [HW.out, HDR.out, walkE_go HST2.out hk0, hix, tgt_at hy])
    have hel : (et.extract m (m + 1)) = ⟨#[nameOf ix]⟩ := by
      have := letter_at (p := et) hml
      rw [HETD.out] at this
      have e : ((outsOf es b).map nameOf).getD m 0 = nameOf ix := by
        have hm2 : m < (outsOf es b).length := by have := HETS.out; omega
        rw [← hix]
        unfold pickE
        rw [hm]
        simp [List.getD, hm2]
      rw [e] at this
      exact one_byte this
    have HX : Hid (eIdx es.length (⟨#[nameOf ix]⟩ : ByteArray).data.toList = ix) := Lib.hid (eIdx_name hi (by omega))
    have HY := Lib.hid hy2; have HEL := Lib.hid hel; have HYL := Lib.hid hyl
    have hsz : ¬ 9223372036854775807 < (⟨p.toArray⟩ : ByteArray).size + (⟨#[nameOf ix]⟩ : ByteArray).size := by
      have : (⟨#[nameOf ix]⟩ : ByteArray).size = 1 := rfl
      omega
    have hne0 : ((et.size : Int) == 0) = false := by rw [beq_eq_false_iff_ne]; omega
    have hk00 : 0 ≤ k := by omega
    clear hm hix hmem hy hy2 hyl hel hets
    go_wp2_with (go_at_call 115; refine (HEXIT.out _).mono ?_; rintro e w4 ⟨rfl, hb4⟩; have t4 := tr.below hb4 (by omega); have he0 := t4.1; have he1 := t4.2)
    have hbw4 := hbwr.trans (hb4.mono hbwr.size)
    have HB4 := Lib.hid (HBW.out.trans (hb4.mono (by omega)))
    have hz4 := hb4.size
    clear hb4 hd0 hd1
    refine (HOUT.out _ ((hE.below hbw4).more hbw4.size)).mono ?_
    rintro e w5 ⟨rfl, hb5⟩
    have hbw5 := hbw4.trans (hb5.mono hbw4.size)
    have HB5 := Lib.hid (HB4.out.trans (hb5.mono (by omega)))
    have t5 := t4.below hb5 (by omega)
    have hz5 := hb5.size
    clear hb5 he0 he1 t4 HOUT
    have he0 := t5.1; have he1 := t5.2
    have a1 : (0 : Int) ≤ (m : Int) := by omega
    have a2 : (m : Int) < (et.size : Int) := by omega
    have a4 : (0 : Int) ≤ (m : Int) + 1 := by omega
    have a5 : ((m : Int) + 1).toNat = m + 1 := by omega
    have a6 : (m : Int) + 1 ≤ (et.size : Int) := by omega
    have a7 : m + 1 ≤ et.size := by omega
    have a8 : (m : Int) ≤ (m : Int) + 1 := by omega
    have hsz6 : et.size ≤ 100 := by have := HETS.out; omega
    have a3 : IntKind.i64.wrap ((m : Int) + 1) = (m : Int) + 1 := IntWalk.i64_in _ (by omega)
    go_wp2_with fail
    go_quiet (fail)
    have hb6 : Below w5.heap.size w5 (w5.drewN nq) := below_drewN (Below.refl _ _) _
    have t6 := t5.below hb6 (by omega)
    have hbw6 := hbw5.trans (hb6.mono hbw5.size)
    have HB6 := Lib.hid (HB5.out.trans (hb6.mono (by omega)))
    have hz6 := hb6.size
    rw [HEL.out]
    clear a1 a2 a3 a4 a5 a6 a7 a8 he0 he1 t5 hb6 hme hml hne0
    generalize w5.drewN nq = w6 at t6 hbw6 HB6 hz6 ⊢
    have hf0 := t6.1; have hf1 := t6.2
    have e2 := edge_to
    go_wp2_with fail
    refine (l2Edge_any B A cap es _ ix _ ((hE.below hbw6).more hbw6.size) (by omega) hi HX.out).mono ?_
    rw [HY.out]
    rintro e w7 ⟨rfl, hb7⟩
    have HB7 := Lib.hid (HB6.out.trans (hb7.mono (by omega)))
    have HJ : Hid ((⟨p.toArray⟩ ++ ⟨#[nameOf ix]⟩ : ByteArray) = ⟨(p ++ [nameOf ix]).toArray⟩) := Lib.hid (bytes_ext (by simp))
    clear hb7 hf0 hf1 t6
    go_wp2_with fail
    go_roundw
    case rel => exact ⟨j + 1, y, p ++ [nameOf ix], by omega, by go_num, rfl, by rw [← HJ.out], HYL.out, by simp; omega, HNEXT.out, HB7.out⟩
    case measure => simp [intOf]; omega

end Go.Proofs.Ytcfcmlbbnpfejaa
