/- Whether a net has no way round, by the model. -/
import Derived.Test.YtghdjmjodgbghaaAcyc
import Derived.Deep.RegionHeld3
namespace Go.Proofs.Ytghdjmjodgbghaa
open Go.RowKit

set_option maxRecDepth 100000 in
set_option maxHeartbeats 4000000 in
/-- spec.IsAcyclic -/
theorem specIsAcyclic_any (B : ByteArray) (A : Option Addr) (cap : Nat) (es : List (ByteArray × ByteArray)) (w : World) (hs : B.size ≤ maxLen) (hE : EdgesIn w w.heap.size A es) (hl : es.length ≤ 1099511627776) (_ : ∀ e ∈ es, e.1.size ≤ 1099511627776 ∧ e.2.size ≤ 1099511627776) :
    Calls Try.prog 35 #[.agg #[.string B, .slice A es.length cap]] w (BoolPost (acycV B es) w) := by
  have hl2 : es.length ≤ maxLen := by unfold maxLen; omega
  have HL2 := Lib.hid hl2; have HM := Lib.hid hs
  clear hl hl2 hs
  have hb1 : Below w.heap.size w (w.alloc (.cells #[.string B, .slice A es.length cap] 29)) := (Below.refl _ _).alloc (Nat.le_refl _) _
  have t1 := Two.made w B A es.length cap 29
  have hz1 : (w.alloc (.cells #[.string B, .slice A es.length cap] 29)).heap.size = w.heap.size + 1 := by simp
  by_cases hv : Valid B.data.toList (ebs es)
  case neg =>
    have HD : Hid (decB (Valid B.data.toList (ebs es)) = false) := Lib.hid (decB_f hv)
    have HQ : Hid (acycV B es = false) := Lib.hid (decB_f fun h => hv h.1)
    clear hv
    go_enter Try.func35, Try.ntmps35
    go_wp2_with fail
    refine (specValid_any B A cap es _ HM.out ((hE.below hb1).more hb1.size) HL2.out).mono ?_
    rw [HD.out]
    rintro e w2 ⟨rfl, hb2⟩
    have hb2' := hb1.trans (hb2.mono hb1.size)
    clear hb2 t1
    go_wp2_with fail
    go_ret
    exact ⟨by rw [HQ.out]; rfl, hb2'⟩
  have HD : Hid (decB (Valid B.data.toList (ebs es)) = true) := Lib.hid (decB_t hv)
  have HQ : Hid (acycV B es = decB (¬ Cyc B.data.toList (ebs es))) := Lib.hid (decB_congr ⟨fun h => h.2, fun h => ⟨hv, h⟩⟩)
  have h16 : es.length ≤ 100 := by have := (valid_sizes hv).2; omega
  have h8 := (valid_sizes hv).1
  have HLE := Lib.hid (lets_of hv.1.2); have HND := Lib.hid hv.1.1.2.2.2
  have HLEN : Hid (B.data.toList.length = B.size) := Lib.hid (by simp)
  clear hv
  go_enter Try.func35, Try.ntmps35
  go_wp2_with fail
  refine (specValid_any B A cap es _ HM.out ((hE.below hb1).more hb1.size) HL2.out).mono ?_
  rw [HD.out]
  rintro e w2 ⟨rfl, hb2⟩
  have hb2' := hb1.trans (hb2.mono hb1.size)
  have t2 := t1.below hb2 (by omega)
  have hz2 : w.heap.size + 1 ≤ w2.heap.size := by have := hb2.size; omega
  have hd0 := t2.1; have hd1 := t2.2
  have HT2 := Lib.hid t2; have HB2 := Lib.hid hb2'
  clear hb2 t1 t2 hb2' hz1 hb1
  go_wp2_with fail
  clear hd0 hd1
  go_loopw [3, 4] (fun a g wo => ∃ (s : ByteArray) (ag : Bool), a = .string s ∧ g = .bool ag ∧ Big B.data.toList (ebs es) s.data.toList ∧ (ag = false → SelfEnt (ebs es) s.data.toList) ∧ Below w2.heap.size w2 wo)
    (fun a g _ => (match a with | .string s => s.size | _ => 0) * 2 + (match g with | .bool true => 1 | _ => 0))
  case atStart => exact ⟨B, true, rfl, rfl, Big.all HND.out, (fun h => by cases h), Below.refl _ _⟩
  case round =>
    obtain ⟨s, ag, rfl, rfl, hbig, hag, hb⟩ := hrel
    have HBIG := Lib.hid hbig; have HAG := Lib.hid hag; have HB := Lib.hid hb
    have hs8 : s.size ≤ 8 := by
      have h1 := nodup_len hbig.nodup hbig.sub
      rw [HLEN.out] at h1
      have : s.data.toList.length = s.size := by simp
      omega
    have hzr := hb.size
    clear hbig hag hb
    cases ag with
    | false =>
      have hdone := HBIG.out.done (HAG.out rfl)
      have HR : Hid ((s.toList == []) = decB (¬ Cyc B.data.toList (ebs es))) := Lib.hid (by
        rw [Lib.toList_data]
        by_cases h : s.data.toList = []
        · rw [decB_t (hdone.1 h)]; simp [h]
        · rw [decB_f fun q => h (hdone.2 q)]
          rw [beq_eq_false_iff_ne]; exact h)
      clear hdone
      go_wp2_with fail
      go_ret
      refine ⟨?_, HB2.out.trans (HB.out.mono (by omega))⟩
      rw [HQ.out, ← HR.out]
      first | rfl | simp
    | true =>
      clear HAG
      go_wp2_with fail
      obtain ⟨wo, rfl⟩ : ∃ wo, wo = wr := ⟨_, rfl⟩
      go_loopw [3, 4, 14] (fun a g c wi => ∃ k : Nat, k ≤ s.size ∧ a = .string s ∧ g = .bool false ∧ c = .int .i64 k ∧ (∀ i, i < k → EntL (ebs es) s.data.toList (s.data.toList.getD i 0)) ∧ Below w2.heap.size w2 wi) (fun _ _ c _ => s.size - (intOf c).toNat)
      case atStart => exact ⟨0, Nat.zero_le _, rfl, rfl, rfl, (fun i hi => absurd hi (by omega)), HB.out⟩
      case round =>
        clear HB hzr
        obtain ⟨k, hk, rfl, rfl, rfl, hent, hb⟩ := hrel
        have HENT := Lib.hid hent; have HB := Lib.hid hb
        have tr := HT2.out.below hb (by omega)
        have hzr := hb.size
        clear hent hb
        by_cases hlt : k < s.size
        case neg =>
          have HSE : Hid (SelfEnt (ebs es) s.data.toList) := Lib.hid fun c hc => by
            obtain ⟨i, hi, hic⟩ := List.getElem_of_mem hc
            have hg : s.data.toList.getD i 0 = c := by rw [← hic, List.getD_eq_getElem?_getD, List.getElem?_eq_getElem hi]; rfl
            have := HENT.out i (by have h2 : s.data.toList.length = s.size := (by simp); omega)
            rwa [hg] at this
          clear tr
          go_wp2_with fail
          go_roundw
          case rel => exact ⟨s, false, rfl, rfl, HBIG.out, (fun _ => HSE.out), HB.out⟩
          case measure => simp only; omega
        have hkey := letter_at hlt
        obtain ⟨c, hc⟩ : ∃ c, s.data.toList.getD k 0 = c := ⟨_, rfl⟩
        rw [hc] at hkey
        have HC := Lib.hid hc; have HKEY := Lib.hid hkey
        have hS : ∀ W, Below wr.heap.size wr W → (W.cell? ⟨w.heap.size, 0, none⟩ = some (.string B) ∧ W.cell? ⟨w.heap.size, 1, none⟩ = some (.slice A es.length cap) ∧ Below wr.heap.size wr W) :=
          fun W h => ⟨(h.cell (by simp only; omega)).trans tr.1, (h.cell (by simp only; omega)).trans tr.2, h⟩
        have hA : EdgesIn wr.drew wr.drew.heap.size A es := by
          have hbW := (HB2.out.trans (HB.out.mono (show w.heap.size ≤ w2.heap.size by omega))).drew
          exact (hE.below hbW).more hbW.size
        have HSS := Lib.hid hS; have HA := Lib.hid hA
        clear hS hA tr hc hkey
        have a1 : (0 : Int) ≤ (k : Int) := by omega
        have a2 : (k : Int) < (s.size : Int) := by omega
        have a4 : (0 : Int) ≤ (k : Int) + 1 := by omega
        have a5 : ((k : Int) + 1).toNat = k + 1 := by omega
        have a6 : (k : Int) + 1 ≤ (s.size : Int) := by omega
        have a7 : k + 1 ≤ s.size := by omega
        have a8 : (k : Int) ≤ (k : Int) + 1 := by omega
        have a3 : IntKind.i64.wrap ((k : Int) + 1) = (k : Int) + 1 := IntWalk.i64_in _ (by omega)
        go_wp2_with fail
        go_region_held3 (fun W => W.cell? ⟨w.heap.size, 0, none⟩ = some (.string B) ∧ W.cell? ⟨w.heap.size, 1, none⟩ = some (.slice A es.length cap) ∧ Below wr.heap.size wr W)
          (first
            | exact HSS.out _ (Below.refl _ _).drew
            | exact HSS.out _ ((Below.refl _ _).drew.trans hb5))
          (first
            | (go_at_call 64; refine (l2Entered_any B A cap es B.data.toList s _ c _ HA.out h16 HLE.out HKEY.out (by unfold maxLen; omega)).mono ?_; rintro e w5 ⟨rfl, hb5⟩))
        rename_i hHeld
        have HB5 := Lib.hid (HB.out.trans (hHeld.2.2.mono hzr))
        clear hHeld HSS HA hb5
        by_cases hent : EntL (ebs es) s.data.toList c
        · rw [decB_t hent]
          have HP : Hid (∀ i, i < k + 1 → EntL (ebs es) s.data.toList (s.data.toList.getD i 0)) := Lib.hid fun i hi => by
            by_cases hik : i < k
            · exact HENT.out i hik
            · have : i = k := by omega
              subst this
              rw [HC.out]; exact hent
          clear hent a1 a2 a3 a4 a5 a6 a7 a8
          go_wp2_with fail
          go_roundw
          case rel => exact ⟨k + 1, by omega, rfl, rfl, by go_num, HP.out, HB5.out⟩
          case measure => simp [intOf]; omega
        · rw [decB_f hent]
          have hlen : s.data.toList.length = s.size := by simp
          have hgk : s.data.toList.getD k 0 = s.data.toList[k]'(by omega) := by rw [List.getD_eq_getElem?_getD, List.getElem?_eq_getElem (by omega)]; rfl
          have HBIG2 : Hid (Big B.data.toList (ebs es) (s.extract 0 k ++ s.extract (k + 1) s.size).data.toList) := Lib.hid (by
            have h := HBIG.out.cut (i := k) (by omega) (by rw [← hgk, HC.out]; exact hent)
            rw [Go.Joins.data_append, extract_take, Lib.extract_to_end]
            exact h)
          have hsz1 : (s.extract 0 k).size = k := by simp; omega
          have hsz2 : (s.extract (k + 1) s.size).size = s.size - (k + 1) := by simp
          have hadd : ¬ 9223372036854775807 < (s.extract 0 k).size + (s.extract (k + 1) s.size).size := by omega
          have HSZ : Hid ((s.extract 0 k ++ s.extract (k + 1) s.size).size = s.size - 1) := Lib.hid (by rw [ByteArray.size_append, hsz1, hsz2]; omega)
          have b1 : (k : Int) ≤ (s.size : Int) := by omega
          have b2 : k ≤ s.size := by omega
          clear hent hlen hgk hsz1 hsz2
          go_wp2_with fail
          go_quiet (fail)
          go_wp2_with fail
          go_roundw
          case rel => exact ⟨_, true, rfl, rfl, HBIG2.out, (fun h => by cases h), below_drewN HB5.out _⟩
          case measure => simp only; rw [HSZ.out]; omega

end Go.Proofs.Ytghdjmjodgbghaa
