/- The edges without which there is no way through, by the model. -/
import Derived.Test.YthnpilkchfmfgaaBridges
import Derived.Test.YthnpilkchfmfgaaDropS
import Derived.Test.YthnpilkchfmfgaaSpec2
namespace Go.Proofs.Ythnpilkchfmfgaa
open Go.RowKit

set_option maxRecDepth 100000 in
set_option maxHeartbeats 8000000 in
/-- spec.BridgesOf -/
theorem specBridgesOf_any (B : ByteArray) (A : Option Addr) (cap : Nat) (es : List (ByteArray × ByteArray)) (w : World) (hs : B.size ≤ maxLen) (hE : EdgesIn w w.heap.size A es) (hl : es.length ≤ 1099511627776) (_ : ∀ e ∈ es, e.1.size ≤ 1099511627776 ∧ e.2.size ≤ 1099511627776) (hc : es.length ≤ cap) :
    Calls Try.prog 24 #[.agg #[.string B, .slice A es.length cap]] w (TextPost (bridgesV B es) w) := by
  have hl2 : es.length ≤ maxLen := by unfold maxLen; omega
  have HL2 := Lib.hid hl2; have HM := Lib.hid hs; have HC := Lib.hid hc
  clear hl hl2 hs hc
  have hb1 : Below w.heap.size w (w.alloc (.cells #[.string B, .slice A es.length cap] 28)) := (Below.refl _ _).alloc (Nat.le_refl _) _
  have t1 := Two.made w B A es.length cap 28
  have hz1 : (w.alloc (.cells #[.string B, .slice A es.length cap] 28)).heap.size = w.heap.size + 1 := by simp
  by_cases hv : Valid B.data.toList (ebs es)
  case neg =>
    have HD : Hid (decB (Valid B.data.toList (ebs es)) = false) := Lib.hid (decB_f hv)
    have HN : Hid (bridgesV B es = (⟨#[]⟩, false)) := Lib.hid (textV_no hv)
    clear hv
    go_enter Try.func24, Try.ntmps24
    go_wp2_with fail
    refine (specValid_any B A cap es _ HM.out ((hE.below hb1).more hb1.size) HL2.out).mono ?_
    rw [HD.out]
    rintro e w2 ⟨rfl, hb2⟩
    have hb2' := hb1.trans (hb2.mono hb1.size)
    clear hb2 t1
    go_wp2_with fail
    go_ret2
    exact ⟨by rw [HN.out]; rfl, hb2'⟩
  have HD : Hid (decB (Valid B.data.toList (ebs es)) = true) := Lib.hid (decB_t hv)
  have HN : Hid (bridgesV B es = (⟨(names (bridgeB B.data.toList es) es.length).toArray⟩, true)) := Lib.hid (textV_yes hv)
  have h16 := (valid_sizes hv).2
  have hB8 := (valid_sizes hv).1
  have hB2 : 2 ≤ B.size := by have := hv.1.1.1; simpa using this
  have hlen : B.data.toList.length = B.size := by simp
  obtain ⟨e1, e2⟩ := entry_bytes (B := B) (by omega)
  obtain ⟨f1, f2⟩ := exit_bytes (B := B) (by omega)
  obtain ⟨ex, hex⟩ : ∃ ex, exit_ B.data.toList = ex := ⟨_, rfl⟩
  rw [hex] at f1
  have HEX := Lib.hid hex
  have HB1 : Hid (1 ≤ B.size) := Lib.hid (by omega)
  have HEXIT : Hid (∀ W : World, Calls Try.prog 64 #[.agg #[.string B, .slice A es.length cap]] W fun e w' => e = .returned (.string ⟨#[ex]⟩) ∧ Below W.heap.size W w') := Lib.hid fun W => by
    rw [← bytes_one f1]
    exact l1Exit_any B _ W HB1.out HM.out
  have HE1 := Lib.hid e1; have HE2 := Lib.hid e2
  have HL8 : Hid (B.data.toList.length ≤ 8) := Lib.hid (by omega)
  have HOK := Lib.hid hv.1.2
  clear hv e1 e2 f1 f2 hlen hB8 hB2 hex
  go_enter Try.func24, Try.ntmps24
  go_wp2_with fail
  refine (specValid_any B A cap es _ HM.out ((hE.below hb1).more hb1.size) HL2.out).mono ?_
  rw [HD.out]
  rintro e w2 ⟨rfl, hb2⟩
  have t2 := t1.below hb2 (by omega)
  have hz2 : w.heap.size + 1 ≤ w2.heap.size := by have := hb2.size; omega
  have hb2' := hb1.trans (hb2.mono hb1.size)
  clear hb2 t1 hb1 hz1
  have hd0 := t2.1; have hd1 := t2.2
  have HT2 := Lib.hid t2; have HB2 := Lib.hid hb2'
  clear t2 hb2'
  go_wp2_with fail
  clear hd0 hd1
  go_loopw [4, 12] (fun a c wr => ∃ (k : Nat) (s : ByteArray), k ≤ es.length ∧ c = .int .i64 k ∧ a = .string s ∧ s.data.toList = names (bridgeB B.data.toList es) k ∧ Below w2.heap.size w2 wr) (fun _ c _ => es.length - (intOf c).toNat)
  case atStart => exact ⟨0, ⟨#[]⟩, Nat.zero_le _, rfl, rfl, rfl, Below.refl _ _⟩
  case round =>
    obtain ⟨k, s, hk, rfl, rfl, hsv, hb⟩ := hrel
    have HSV := Lib.hid hsv; have HB := Lib.hid hb
    have tr := HT2.out.below hb (by omega)
    have hzr := hb.size
    have hsl : s.size ≤ 16 := by
      have h := names_length (bridgeB B.data.toList es) k
      rw [← hsv] at h
      have : s.data.toList.length = s.size := by simp
      omega
    clear hsv hb
    by_cases hlt : k < es.length
    case neg =>
      have hkp : k = es.length := by omega
      subst hkp
      have hse : s = ⟨(names (bridgeB B.data.toList es) es.length).toArray⟩ := str_ext HSV.out
      subst hse
      clear tr hsl
      go_wp2_with fail
      go_ret2
      exact ⟨by rw [HN.out]; rfl, HB2.out.trans (HB.out.mono (by omega))⟩
    obtain ⟨es', hes'⟩ : ∃ es', dropE es k = es' := ⟨_, rfl⟩
    have HES := Lib.hid hes'
    have HOK' : Hid (EdgesOk B.data.toList (ebs es')) := Lib.hid (by rw [← hes']; exact drop_ok HOK.out k)
    have HL' : Hid (es'.length ≤ maxLen) := Lib.hid (by have := HOK'.out.1; simp [ebs] at this; unfold maxLen; omega)
    obtain ⟨r, hr⟩ : ∃ r : ByteArray, r.data.toList = fromAll (ebs es') (entry B.data.toList) := ⟨⟨(fromAll (ebs es') (entry B.data.toList)).toArray⟩, rfl⟩
    have HR := Lib.hid hr
    have HBRG : Hid (bridgeB B.data.toList es k = !decB (Way (ebs es') (entry B.data.toList) ex)) := Lib.hid (by unfold bridgeB; rw [hes', HEX.out])
    have hS : ∀ W, Below wr.heap.size wr W → (W.cell? ⟨w.heap.size, 0, none⟩ = some (.string B) ∧ W.cell? ⟨w.heap.size, 1, none⟩ = some (.slice A es.length cap) ∧ Below wr.heap.size wr W) :=
      fun W h => ⟨(h.cell (by simp only; omega)).trans tr.1, (h.cell (by simp only; omega)).trans tr.2, h⟩
    have hA : ∀ W, Below wr.heap.size wr W → EdgesIn W W.heap.size A es := fun W h => by
      have hbW := HB2.out.trans ((HB.out.trans (h.mono hzr)).mono HB2.out.size)
      exact (hE.below hbW).more hbW.size
    have HSS := Lib.hid hS; have HA := Lib.hid hA
    have hcur : Below wr.heap.size wr wr.drew := (Below.refl _ _).drew
    obtain ⟨fi, hfi⟩ : ∃ fi, Lib.indexByte r.data.toList ex = fi := ⟨_, rfl⟩
    have HFI := Lib.hid hfi
    have hrs : r.size ≤ maxLen ∨ True := .inr trivial
    clear hes' hr hS hA tr hfi hrs
    go_wp2_with fail
    go_region_held3 (fun W => W.cell? ⟨w.heap.size, 0, none⟩ = some (.string B) ∧ W.cell? ⟨w.heap.size, 1, none⟩ = some (.slice A es.length cap) ∧ Below wr.heap.size wr W)
      (exact HSS.out _ hcur)
      (first
        | (go_at_call 58; refine (l1Drop_any B A cap es k _ (HA.out _ hcur) (by omega) hlt HC.out).mono ?_; rw [HES.out]; rintro e wD ⟨AD, cD, rfl, hED, hbD, _⟩
           replace hcur := hcur.trans (hbD.mono hcur.size)
           clear hbD)
        | (go_at_call 63; refine (l1Entry_any B _ _ HB1.out HM.out).mono ?_; rintro e wN ⟨rfl, hbN⟩
           replace hcur := hcur.trans (hbN.mono hcur.size)
           (try replace hED := (hED.below hbN).more hbN.size)
           clear hbN)
        | (go_at_call 64; refine (HEXIT.out _).mono ?_; rintro e wX ⟨rfl, hbX⟩
           replace hcur := hcur.trans (hbX.mono hcur.size)
           (try replace hED := (hED.below hbX).more hbX.size)
           clear hbX)
        | (go_at_call 62; refine (from_fn B _ AD cD es' B.data.toList (entry B.data.toList) r HR.out _ hED HL'.out (lets_of HOK'.out) HE1.out HE2.out HL8.out).mono ?_; rintro e wF ⟨rfl, hbF⟩
           have hcl := from_closed hED HL'.out (lets_of HOK'.out) HE2.out HL8.out
           have HCLO : Hid (Closed (ebs es') (entry B.data.toList) (fromAll (ebs es') (entry B.data.toList)) ∧ ∀ x ∈ fromAll (ebs es') (entry B.data.toList), x ∈ B.data.toList) := Lib.hid hcl.1
           replace hcur := hcur.trans (hbF.mono hcur.size)
           clear hcl hED hbF)
        | (go_at_call 61; go_must (
           refine (find_any r ex _ (by
             have h1 := nodup_len HCLO.out.1.nodup HCLO.out.2
             rw [← HR.out] at h1
             have h2 : r.data.toList.length = r.size := by simp
             have := HL8.out
             unfold maxLen
             omega)).mono ?_
           rw [HFI.out]
           rintro e wI ⟨rfl, rfl⟩)))
    all_goals
      rename_i hHeld
      clear hHeld
      have hiff : 0 ≤ fi ↔ Way (ebs es') (entry B.data.toList) ex := by
        rw [← HFI.out, HR.out]
        exact indexByte_nonneg.trans (HCLO.out.1.mem_iff ex)
      have HCUR := Lib.hid (HB.out.trans (hcur.mono hzr))
      have hzc : w2.heap.size ≤ wX.heap.size := Nat.le_trans hzr hcur.size
      by_cases hf : fi < 0
      · have HP : Hid (names (bridgeB B.data.toList es) (k + 1) = names (bridgeB B.data.toList es) k ++ [nameOf k]) := Lib.hid (names_yes (by
          rw [HBRG.out, decB_f fun h => by have := hiff.2 h; omega]; rfl))
        have hsz : ¬ 9223372036854775807 < s.size + (⟨#[nameOf k]⟩ : ByteArray).size := by
          have : (⟨#[nameOf k]⟩ : ByteArray).size = 1 := rfl
          omega
        clear hiff hcur hsl
        go_wp2_with (go_at_call 65; refine (l1Name_any k (by omega) _).mono ?_; rintro e wZ ⟨rfl, hbZ⟩)
        go_roundw
        case rel => exact ⟨k + 1, _, by omega, by go_num, rfl, by rw [HP.out]; exact str_snoc HSV.out, HCUR.out.trans (hbZ.mono hzc)⟩
        case measure => simp [intOf]; omega
      · have HP : Hid (names (bridgeB B.data.toList es) (k + 1) = names (bridgeB B.data.toList es) k) := Lib.hid (names_no (by
          rw [HBRG.out, decB_t (hiff.1 (by omega))]; rfl))
        clear hiff hcur hsl
        go_wp2_with fail
        go_roundw
        case rel => exact ⟨k + 1, s, by omega, by go_num, rfl, by rw [HP.out]; exact HSV.out, HCUR.out⟩
        case measure => simp [intOf]; omega

end Go.Proofs.Ythnpilkchfmfgaa
