/- The law on Out and In of drawn nets, walked (by what l1Some hands back). -/
import Derived.Test.YtkclbjgnaichhaaDrawO
import Derived.Test.YtkclbjgnaichhaaHas
import Derived.Test.YtkclbjgnaichhaaEndsJ
import Derived.Test.YtkclbjgnaichhaaNamesJ
import Derived.Test.YtkclbjgnaichhaaValid
import Derived.Test.YtkclbjgnaichhaaOutI
import Derived.Test.YtkclbjgnaichhaaOutOf
import Derived.Test.YtkclbjgnaichhaaInI
import Derived.Test.YtkclbjgnaichhaaInOf
import Derived.Test.YtkclbjgnaichhaaOutIn
import Derived.BigQuiet
namespace Go.Proofs.Ytkclbjgnaichhaa
open Go.RowKit

set_option maxRecDepth 100000 in
set_option maxHeartbeats 8000000 in
/-- laws.FnOutIn -/
theorem lawOutIn (HS : SomeCon) (A : Option Addr) (cap : Nat) (xs : List UInt8) (w : World) (hb : BytesIn w w.heap.size A xs) (_ : xs.length ≤ maxLen) (hcap : xs.length ≤ cap) :
    Calls Try.prog 3 #[.slice A xs.length cap] w fun e w' => e = .returned (.bool true) ∧ Below w.heap.size w w' := by
  by_cases hbs : (xs.length : Int) > 1048576
  · go_enter Try.func3, Try.ntmps3
    go_wp2_with fail
    go_ret
    exact ⟨rfl, Below.refl _ _⟩
  have hbs' : xs.length ≤ 1048576 := by omega
  have hbi : (xs.length : Int) ≤ 1048576 := by omega
  have HD := Lib.hid (drawOut_any HS A cap xs w hb hbs' hcap)
  clear hbs hb hcap HS
  go_enter Try.func3, Try.ntmps3
  go_wp2_with fail
  refine HD.out.mono ?_
  rintro e w2 ⟨B, A', cap', es, s, rfl, hfn, hs2, hE2, hb2⟩
  have hba : Below w2.heap.size w2 (w2.alloc (.cells #[.string B, .slice A' es.length cap'] 25)) := (Below.refl _ _).alloc (Nat.le_refl _) _
  have tn := Two.made w2 B A' es.length cap' 25
  have hb3 := hb2.trans (hba.mono hb2.size)
  have hE3 := (hE2.below hba).more hba.size
  have hzv : w2.heap.size < (w2.alloc (.cells #[.string B, .slice A' es.length cap'] 25)).heap.size := by simp
  have HFN := Lib.hid hfn
  have HM : Hid (B.size ≤ maxLen) := Lib.hid (by have := hfn.1; unfold maxLen; omega)
  have HL : Hid (es.length ≤ 1099511627776) := Lib.hid (by have := hfn.2.1; omega)
  have HSZ : Hid (∀ e ∈ es, e.1.size ≤ 1099511627776 ∧ e.2.size ≤ 1099511627776) := Lib.hid fun e he => by have := hfn.2.2 e he; omega
  clear hba hb2 hE2 HD hfn
  go_wp2_with fail
  generalize hW3 : w2.alloc (.cells #[.string B, .slice A' es.length cap'] 25) = w3 at tn hb3 hE3 hzv ⊢
  clear hW3
  obtain ⟨V, hV⟩ : ∃ V, w2.heap.size = V := ⟨_, rfl⟩
  rw [hV] at tn hzv ⊢
  clear hV
  have t3 := tn
  obtain ⟨ot, ok, hq⟩ : ∃ ot ok, outV B es s = (ot, ok) := ⟨_, _, rfl⟩
  obtain ⟨ti, ok', hi⟩ : ∃ ti ok', intoV B es s = (ti, ok') := ⟨_, _, rfl⟩
  have hok : ok' = ok := by
    by_cases hv : Valid B.data.toList (ebs es) ∧ 0 ≤ bIdx B.data.toList s.data.toList
    · have h1 := textV_yes (l := names (outB es s) es.length) hv
      have h2 := textV_yes (l := names (intoB es s) es.length) hv
      unfold outV at hq; unfold intoV at hi
      rw [h1] at hq; rw [h2] at hi
      injection hq with _ hq; injection hi with _ hi
      rw [← hq, ← hi]
    · have h1 := textV_no (l := names (outB es s) es.length) hv
      have h2 := textV_no (l := names (intoB es s) es.length) hv
      unfold outV at hq; unfold intoV at hi
      rw [h1] at hq; rw [h2] at hi
      injection hq with _ hq; injection hi with _ hi
      rw [← hq, ← hi]
  subst hok
  have HPO : Hid (∀ (W W' : World) (e : Ending), TextPost (outV B es s) W e W' → e = .returned (.tuple #[.string ot, .bool ok']) ∧ Below W.heap.size W W') := Lib.hid fun W W' e h => by
    unfold TextPost at h; rw [hq] at h; exact h
  have HPI : Hid (∀ (W W' : World) (e : Ending), TextPost (intoV B es s) W e W' → e = .returned (.tuple #[.string ti, .bool ok']) ∧ Below W.heap.size W W') := Lib.hid fun W W' e h => by
    unfold TextPost at h; rw [hi] at h; exact h
  have HQ := Lib.hid hq; have HI := Lib.hid hi
  clear tn hq hi
  have hd0 := t3.1; have hd1 := t3.2
  refine (implOutOf_any B A' cap' es s _ HM.out hE3 HL.out HSZ.out).mono ?_
  intro e w4 h4
  obtain ⟨rfl, hb⟩ := HPO.out _ _ _ h4
  have t4 := t3.below hb hzv
  have hE4 := (hE3.below hb).more hb.size
  have hb4 := hb3.trans (hb.mono hb3.size)
  have hzv := Nat.lt_of_lt_of_le hzv hb.size
  have hd0 := t4.1; have hd1 := t4.2
  clear h4 hb t3 hE3 hb3
  go_wp2_with fail
  refine (implInOf_any B A' cap' es s _ HM.out hE4 HL.out HSZ.out).mono ?_
  intro e w5 h5
  obtain ⟨rfl, hb⟩ := HPI.out _ _ _ h5
  have t5 := t4.below hb hzv
  have hE5 := (hE4.below hb).more hb.size
  have hb5 := hb4.trans (hb.mono hb4.size)
  have hzv := Nat.lt_of_lt_of_le hzv hb.size
  have hd0 := t5.1; have hd1 := t5.2
  clear h5 hb t4 hE4 hb4
  go_wp2_with fail
  refine (specOutOf_any B A' cap' es s _ HM.out hE5 HL.out HSZ.out).mono ?_
  intro e w6 h6
  obtain ⟨rfl, hb⟩ := HPO.out _ _ _ h6
  have t6 := t5.below hb hzv
  have hE6 := (hE5.below hb).more hb.size
  have hb6 := hb5.trans (hb.mono hb5.size)
  have hzv := Nat.lt_of_lt_of_le hzv hb.size
  have hd0 := t6.1; have hd1 := t6.2
  clear h6 hb t5 hE5 hb5
  go_wp2_with fail
  refine (specInOf_any B A' cap' es s _ HM.out hE6 HL.out HSZ.out).mono ?_
  intro e w7 h7
  obtain ⟨rfl, hb⟩ := HPI.out _ _ _ h7
  have t7 := t6.below hb hzv
  have hE7 := (hE6.below hb).more hb.size
  have hb7 := hb6.trans (hb.mono hb6.size)
  have hzv := Nat.lt_of_lt_of_le hzv hb.size
  have hd0 := t7.1; have hd1 := t7.2
  clear h7 hb t6 hE6 hb6
  have q1 : (ot.toList != ot.toList) = false := by simp
  have q2 : (ok' != ok') = false := by simp
  have q3 : (ti.toList != ti.toList) = false := by simp
  have q4 : (ot.toList == ot.toList) = true := by simp
  have q5 : (ti.toList == ti.toList) = true := by simp
  cases ok' with
  | false =>
    go_wp2_with fail
    go_ret
    exact ⟨rfl, hb7⟩
  | true =>
  have hv : Valid B.data.toList (ebs es) ∧ 0 ≤ bIdx B.data.toList s.data.toList := by
    by_cases hv : Valid B.data.toList (ebs es) ∧ 0 ≤ bIdx B.data.toList s.data.toList
    · exact hv
    · have h1 := textV_no (l := names (outB es s) es.length) hv
      have hq := HQ.out
      unfold outV at hq
      rw [h1] at hq
      injection hq with _ hq
      cases hq
  have HTO : Hid (ot.data.toList = names (outB es s) es.length) := Lib.hid (by
    have h1 := textV_yes (l := names (outB es s) es.length) hv
    have hq := HQ.out
    unfold outV at hq
    rw [h1] at hq
    injection hq with hq _
    rw [← hq])
  have HTI : Hid (ti.data.toList = names (intoB es s) es.length) := Lib.hid (by
    have h1 := textV_yes (l := names (intoB es s) es.length) hv
    have hq := HI.out
    unfold intoV at hq
    rw [h1] at hq
    injection hq with hq _
    rw [← hq])
  obtain ⟨c, hc1, hc2, _⟩ := bIdx_some hv.2
  have HSC : Hid (s = ⟨#[c]⟩) := Lib.hid (bytes_one hc1)
  have HCB := Lib.hid hc2
  have HV := Lib.hid hv.1
  clear hc1 hc2 hv HQ HI HPO HPI hs2
  obtain ⟨nn, fine, hn⟩ : ∃ nn fine, namesV B es = (nn, fine) := ⟨_, _, rfl⟩
  have HPN : Hid (∀ (W W' : World) (e : Ending), TextPost (namesV B es) W e W' → e = .returned (.tuple #[.string nn, .bool fine]) ∧ Below W.heap.size W W') := Lib.hid fun W W' e h => by
    unfold TextPost at h; rw [hn] at h; exact h
  have HNN : Hid (nn.data.toList = names (fun _ => true) es.length) := Lib.hid (by
    have h1 := textV_yes (l := names (fun _ => true) es.length) HV.out
    unfold namesV at hn
    rw [h1] at hn
    injection hn with hn _
    rw [← hn])
  clear hn
  go_wp2_with fail
  refine (implNamesOf_any B A' cap' es _ HM.out hE7 HL.out HSZ.out).mono ?_
  intro e w8 h8
  obtain ⟨rfl, hb⟩ := HPN.out _ _ _ h8
  have t8 := t7.below hb hzv
  have hE8 := (hE7.below hb).more hb.size
  have hb8 := hb7.trans (hb.mono hb7.size)
  have hzv := Nat.lt_of_lt_of_le hzv hb.size
  have hd0 := t8.1; have hd1 := t8.2
  clear h8 hb t7 hE7 hb7 HPN q1 q2 q3 q4 q5
  go_wp2_with fail
  have HB8 := Lib.hid hb8
  have hBz : B.size ≤ 16 := HFN.out.1
  have hdl : ∀ (g : Nat → UInt8) (k : Nat), k ≤ B.size → degTo g es.length B.data.toList k ≤ 1000 := fun g k hk => by
    have h1 := degTo_le g es.length B.data.toList k (by simpa using hk)
    have h2 := HFN.out.2.1
    have h3 : es.length * k ≤ 18 * 16 := Nat.mul_le_mul h2 (by omega)
    omega
  have HDL := Lib.hid hdl
  have HSS : Hid (∀ W, Below w8.heap.size w8 W → (W.cell? ⟨V, 0, none⟩ = some (.string B) ∧ W.cell? ⟨V, 1, none⟩ = some (.slice A' es.length cap') ∧ Below w8.heap.size w8 W)) := Lib.hid fun W h => ⟨(h.cell (by simpa using hzv)).trans t8.1, (h.cell (by simpa using hzv)).trans t8.2, h⟩
  have HA : Hid (∀ W, Below w8.heap.size w8 W → EdgesIn W W.heap.size A' es) := Lib.hid fun W h => (hE8.below h).more h.size
  clear hb8 hdl hE8
  go_loopw [15, 16, 105] (fun o i v wr => ∃ k : Nat, k ≤ B.size ∧ v = .int .i64 k ∧ o = .int .i64 (degTo (ltr1 es) es.length B.data.toList k : Nat) ∧ i = .int .i64 (degTo (ltr2 es) es.length B.data.toList k : Nat) ∧ Below w8.heap.size w8 wr) (fun _ _ v _ => B.size - (intOf v).toNat)
  case atStart => exact ⟨0, Nat.zero_le _, rfl, rfl, rfl, Below.refl _ _⟩
  case round =>
    obtain ⟨k, hk, rfl, rfl, rfl, hb⟩ := hrel
    have tr := t8.below hb hzv
    have hzr := Nat.lt_of_lt_of_le hzv hb.size
    have HBr := Lib.hid hb
    have hd0 := tr.1; have hd1 := tr.2
    have ho1 := HDL.out (ltr1 es) k hk
    have ho2 := HDL.out (ltr2 es) k hk
    obtain ⟨so, hso⟩ : ∃ so, degTo (ltr1 es) es.length B.data.toList k = so := ⟨_, rfl⟩
    obtain ⟨si, hsi⟩ : ∃ si, degTo (ltr2 es) es.length B.data.toList k = si := ⟨_, rfl⟩
    rw [hso] at ho1; rw [hsi] at ho2; rw [hso, hsi]
    have HSO := Lib.hid hso; have HSI := Lib.hid hsi
    clear hb hso hsi
    by_cases hlt : k < B.size
    · have hle := letter_atH (p := B) hlt
      obtain ⟨x, hx⟩ : ∃ x, B.data.toList.getD k 0 = x := ⟨_, rfl⟩
      rw [hx] at hle
      have hlen : k < B.data.toList.length := by simpa using hlt
      have hget : B.data.toList[k] = x := by
        rw [← hx, List.getD_eq_getElem?_getD, List.getElem?_eq_getElem hlen]; rfl
      have hxB : x ∈ B.data.toList := by rw [← hget]; exact List.getElem_mem hlen
      obtain ⟨et, het⟩ : ∃ et, B.extract k (k + 1) = et := ⟨_, rfl⟩
      have hex : et = ⟨#[x]⟩ := by rw [← het]; exact bytes_one hle
      obtain ⟨tt, htt⟩ : ∃ tt : ByteArray, (⟨(names (outB es ⟨#[x]⟩) es.length).toArray⟩ : ByteArray) = tt := ⟨_, rfl⟩
      obtain ⟨ui, hui⟩ : ∃ ui : ByteArray, (⟨(names (intoB es ⟨#[x]⟩) es.length).toArray⟩ : ByteArray) = ui := ⟨_, rfl⟩
      have HTT : Hid (so + tt.size = degTo (ltr1 es) es.length B.data.toList (k + 1)) := Lib.hid (by
        rw [degTo_succ hlen, HSO.out, hget, ← htt]
        show so + (names (outB es ⟨#[x]⟩) es.length).toArray.size = so + degL (ltr1 es) es.length x
        rw [List.size_toArray, out_names HV.out]; rfl)
      have HUI : Hid (si + ui.size = degTo (ltr2 es) es.length B.data.toList (k + 1)) := Lib.hid (by
        rw [degTo_succ hlen, HSI.out, hget, ← hui]
        show si + (names (intoB es ⟨#[x]⟩) es.length).toArray.size = si + degL (ltr2 es) es.length x
        rw [List.size_toArray, into_names HV.out]; rfl)
      have hidx : 0 ≤ bIdx B.data.toList (⟨#[x]⟩ : ByteArray).data.toList := by
        show 0 ≤ Lib.indexByte B.data.toList x
        exact indexByte_nonneg.2 hxB
      have HO : Hid (∀ W : World, EdgesIn W W.heap.size A' es → Calls Try.prog 8 #[.agg #[.string B, .slice A' es.length cap'], .string et] W fun e w' => e = .returned (.tuple #[.string tt, .bool true]) ∧ Below W.heap.size W w') := Lib.hid fun W hE => by
        refine (implOutOf_any B A' cap' es et W HM.out hE HL.out HSZ.out).mono ?_
        rintro e w' h
        unfold TextPost outV at h
        rw [hex, textV_yes ⟨HV.out, hidx⟩] at h
        rw [← htt]; exact h
      have HIN : Hid (∀ W : World, EdgesIn W W.heap.size A' es → Calls Try.prog 9 #[.agg #[.string B, .slice A' es.length cap'], .string et] W fun e w' => e = .returned (.tuple #[.string ui, .bool true]) ∧ Below W.heap.size W w') := Lib.hid fun W hE => by
        refine (implInOf_any B A' cap' es et W HM.out hE HL.out HSZ.out).mono ?_
        rintro e w' h
        unfold TextPost intoV at h
        rw [hex, textV_yes ⟨HV.out, hidx⟩] at h
        rw [← hui]; exact h
      have hb1 : so + tt.size ≤ 1000 := by rw [HTT.out]; exact HDL.out _ _ (by omega)
      have hb2 : si + ui.size ≤ 1000 := by rw [HUI.out]; exact HDL.out _ _ (by omega)
      have a1 : (0 : Int) ≤ (k : Int) := by omega
      have a4 : (0 : Int) ≤ (k : Int) + 1 := by omega
      have a5 : ((k : Int) + 1).toNat = k + 1 := by omega
      have a6 : (k : Int) + 1 ≤ (B.size : Int) := by omega
      have a7 : k + 1 ≤ B.size := by omega
      have a8 : (k : Int) ≤ (k : Int) + 1 := by omega
      have a9 : IntKind.i64.wrap ((k : Int) + 1) = (k : Int) + 1 := IntWalk.i64_in _ (by omega)
      have c1 : IntKind.i64.wrap ((so : Int) + (tt.size : Int)) = (so : Int) + (tt.size : Int) := IntWalk.i64_in _ (by omega)
      have c2 : IntKind.i64.wrap ((si : Int) + (ui.size : Int)) = (si : Int) + (ui.size : Int) := IntWalk.i64_in _ (by omega)
      clear hle hx hlen hget hxB hex htt hui hidx
      go_wp2_with fail
      go_region_held3 (fun W => W.cell? ⟨V, 0, none⟩ = some (.string B) ∧ W.cell? ⟨V, 1, none⟩ = some (.slice A' es.length cap') ∧ Below w8.heap.size w8 W)
        (first
          | exact HSS.out _ HBr.out.drew
          | exact HSS.out _ HB9.out)
        (first
          | (go_at_call 8
             go_must (
             refine (HO.out _ (HA.out _ HBr.out.drew)).mono ?_
             rintro e w9 ⟨rfl, hb9⟩
             have HB9 : Hid (Below w8.heap.size w8 w9) := Lib.hid (HBr.out.drew.trans (hb9.mono HBr.out.size))
             clear hb9)))
      rename_i hHeld
      obtain ⟨hd0, hd1, hb9⟩ := hHeld
      go_wp2_with fail
      go_region_held3 (fun W => W.cell? ⟨V, 0, none⟩ = some (.string B) ∧ W.cell? ⟨V, 1, none⟩ = some (.slice A' es.length cap') ∧ Below w8.heap.size w8 W)
        (first
          | exact HSS.out _ HB9.out.drew
          | exact HSS.out _ HB10.out)
        (first
          | (go_at_call 9
             go_must (
             refine (HIN.out _ (HA.out _ HB9.out.drew)).mono ?_
             rintro e w10 ⟨rfl, hb10⟩
             have HB10 : Hid (Below w8.heap.size w8 w10) := Lib.hid (HB9.out.drew.trans (hb10.mono HB9.out.size))
             clear hb10)))
      rename_i hHeld
      obtain ⟨hd0, hd1, hb10⟩ := hHeld
      go_wp2_with fail
      go_roundw
      case rel => exact ⟨k + 1, by omega, by go_num, by rw [← HTT.out, Int.natCast_add], by rw [← HUI.out, Int.natCast_add], HB10.out⟩
      case measure => simp [intOf]; omega
    · have hke : k = B.data.toList.length := by have : B.data.toList.length = B.size := by simp
                                                omega
      have hso : so = es.length := by rw [← HSO.out, hke]; exact outs_all HV.out
      have hsi : si = es.length := by rw [← HSI.out, hke]; exact ins_all HV.out
      have HNA : Hid (nn.data.toList = (List.range es.length).map nameOf) := Lib.hid (by
        rw [HNN.out]; unfold names; rw [List.filter_eq_self.2 (fun _ _ => rfl)])
      have hnz : nn.size = es.length := by
        have h := congrArg List.length HNA.out
        simpa using h
      have HNZ := Lib.hid hnz
      have hn16 : nn.size ≤ 18 := by have := HFN.out.2.1; omega
      subst hso; subst hsi
      clear ho1 ho2 HSO HSI hke hnz
      go_wp2_with fail
      go_loopw [141] (fun v wx => ∃ i : Nat, i ≤ nn.size ∧ v = .int .i64 i ∧ Below w8.heap.size w8 wx) (fun v _ => nn.size - (intOf v).toNat)
      case atStart => exact ⟨0, Nat.zero_le _, rfl, HBr.out⟩
      case round =>
        obtain ⟨i, hin, rfl, hbx⟩ := hrel
        have HBX := Lib.hid hbx
        obtain ⟨hd0, hd1, _⟩ := HSS.out _ hbx
        clear hbx
        by_cases hlt2 : i < nn.size
        · have hie : i < es.length := by rw [← HNZ.out]; exact hlt2
          have hi100 : i ≤ 100 := by omega
          have hle := letter_atH (p := nn) hlt2
          have hgn : nn.data.toList.getD i 0 = nameOf i := by
            rw [HNA.out, List.getD_eq_getElem?_getD, List.getElem?_map, List.getElem?_range hie]; rfl
          rw [hgn] at hle
          obtain ⟨nt, hnt⟩ : ∃ nt, nn.extract i (i + 1) = nt := ⟨_, rfl⟩
          have hnx : nt = ⟨#[nameOf i]⟩ := by rw [← hnt]; exact bytes_one hle
          obtain ⟨l1, l2, l3, l4, _⟩ := ltrs HV.out hie
          have hidx : eIdx es.length (⟨#[nameOf i]⟩ : ByteArray).data.toList = i := by
            have h97 := nameOf_toNat hi100
            show eIdx es.length [nameOf i] = i
            simp only [eIdx]
            rw [if_pos (by omega)]
            omega
          have hey := endsV_yes (b := ⟨#[nameOf i]⟩) HV.out hie hidx
          obtain ⟨xa, hxa⟩ : ∃ xa : ByteArray, (⟨#[ltr1 es i]⟩ : ByteArray) = xa := ⟨_, rfl⟩
          obtain ⟨ya, hya⟩ : ∃ ya : ByteArray, (⟨#[ltr2 es i]⟩ : ByteArray) = ya := ⟨_, rfl⟩
          obtain ⟨EE, hEE⟩ : ∃ EE : ByteArray, es[i].1 ++ es[i].2 = EE := ⟨_, rfl⟩
          have hez : EE.size = 2 := by rw [← hEE, l1, l2]; rfl
          have hx1 : EE.extract 0 1 = xa := by rw [← hEE, l1, l2, ← hxa]; rfl
          have hx2 : EE.extract 1 2 = ya := by rw [← hEE, l1, l2, ← hya]; rfl
          have HEN : Hid (∀ W : World, EdgesIn W W.heap.size A' es → Calls Try.prog 13 #[.agg #[.string B, .slice A' es.length cap'], .string nt] W fun e w' => e = .returned (.tuple #[.string EE, .bool true]) ∧ Below W.heap.size W w') := Lib.hid fun W hE => by
            refine (implEnds_any B A' cap' es nt W HM.out hE HL.out HSZ.out).mono ?_
            rintro e w' h
            unfold EndsPost at h
            rw [hnx, hey, hEE] at h
            exact h
          have HTZ : Hid (ot.size ≤ 1000) := Lib.hid (by
            rw [str_size HTO.out]
            have := names_length (outB es s) es.length
            have := HFN.out.2.1
            omega)
          have HIZ : Hid (ti.size ≤ 1000) := Lib.hid (by
            rw [str_size HTI.out]
            have := names_length (intoB es s) es.length
            have := HFN.out.2.1
            omega)
          have he18 := HFN.out.2.1
          obtain ⟨pv, hpv⟩ : ∃ pv : ByteArray → Bool, ∀ S, pv S = decide (nameOf i ∈ S.data.toList) := ⟨fun S => decide (nameOf i ∈ S.data.toList), fun _ => rfl⟩
          have g1 : (xa.toList == s.toList) = pv ot := by
            rw [hpv, HTO.out, ← hxa, HSC.out, one_same, ← outB_ltr HV.out c hie]
            exact names_dec (outB es ⟨#[c]⟩) (by omega) hie
          have g2 : (ya.toList == s.toList) = pv ti := by
            rw [hpv, HTI.out, ← hya, HSC.out, one_same, ← intoB_ltr HV.out c hie]
            exact names_dec (intoB es ⟨#[c]⟩) (by omega) hie
          have g3 : (pv ot != pv ot) = false := by simp
          have g4 : (pv ti != pv ti) = false := by simp
          have HPG : Hid (∀ (S : ByteArray) (W : World), (S = ot ∨ S = ti) → Calls Try.prog 14 #[.string S, .string nt] W fun e w' => e = .returned (.bool (pv S)) ∧ W = w') := Lib.hid fun S W h => by
            rw [hnx, hpv]
            rcases h with rfl | rfl
            · exact pcHas_one _ (nameOf i) W HTZ.out _ rfl
            · exact pcHas_one _ (nameOf i) W HIZ.out _ rfl
          have a1 : (0 : Int) ≤ (i : Int) := by omega
          have a4 : (0 : Int) ≤ (i : Int) + 1 := by omega
          have a5 : ((i : Int) + 1).toNat = i + 1 := by omega
          have a6 : (i : Int) + 1 ≤ (nn.size : Int) := by omega
          have a7 : i + 1 ≤ nn.size := by omega
          have a8 : (i : Int) ≤ (i : Int) + 1 := by omega
          have a9 : IntKind.i64.wrap ((i : Int) + 1) = (i : Int) + 1 := IntWalk.i64_in _ (by omega)
          clear hle hgn hnx l1 l2 l3 l4 hidx hey hxa hya hEE hpv hie hi100 HTZ HIZ he18
          go_wp2_with fail
          go_region_held3 (fun W => W.cell? ⟨V, 0, none⟩ = some (.string B) ∧ W.cell? ⟨V, 1, none⟩ = some (.slice A' es.length cap') ∧ Below w8.heap.size w8 W)
            (first
              | exact HSS.out _ HBX.out.drew
              | exact HSS.out _ HB9.out)
            (first
              | (go_at_call 13
                 go_must (
                 refine (HEN.out _ (HA.out _ HBX.out.drew)).mono ?_
                 rintro e w9 ⟨rfl, hb9⟩
                 have HB9 : Hid (Below w8.heap.size w8 w9) := Lib.hid (HBX.out.drew.trans (hb9.mono HBX.out.size))
                 clear hb9)))
          rename_i hHeld
          obtain ⟨hd0, hd1, hb9⟩ := hHeld
          clear HEN
          go_wp2_with fail
          go_quiet ((go_at_call 14; refine Calls.quiet_of_same ((HPG.out _ _ ?_).mono fun _ _ ⟨h, h'⟩ => ⟨h, h'.symm⟩); first | exact .inl rfl | exact .inr rfl))
          go_wp2_with fail
          go_roundw
          case rel => exact ⟨i + 1, by omega, by go_num, below_drewN HB9.out _⟩
          case measure => simp [intOf]; omega
        · have f1 : ((es.length : Int) == (nn.size : Int)) = true := by rw [HNZ.out]; simp
          have hB1 : 1 ≤ B.size := by have h := HV.out.1.1.1; have e : B.data.toList.length = B.size := (by simp); omega
          obtain ⟨fb, hfb⟩ : ∃ fb, B.extract 0 1 = fb := ⟨_, rfl⟩
          obtain ⟨lb, hlb⟩ : ∃ lb, B.extract (B.size - 1) B.size = lb := ⟨_, rfl⟩
          have hf1 : fb = ⟨#[entry B.data.toList]⟩ := by rw [← hfb]; exact bytes_one (entry_bytes hB1).1
          have hl1 : lb = ⟨#[exit_ B.data.toList]⟩ := by rw [← hlb]; exact bytes_one (exit_bytes hB1).1
          obtain ⟨vo, hvo⟩ : ∃ vo, (c == exit_ B.data.toList) = vo := ⟨_, rfl⟩
          obtain ⟨vi, hvi⟩ : ∃ vi, (c == entry B.data.toList) = vi := ⟨_, rfl⟩
          have f2 : (s.toList == lb.toList) = vo := by rw [HSC.out, hl1, one_same, hvo]
          have f3 : (s.toList == fb.toList) = vi := by rw [HSC.out, hf1, one_same, hvi]
          have f4 : (ot.toList == []) = vo := by
            rw [Lib.toList_data, HTO.out, HSC.out, ← hvo]
            have h := out_nil HV.out HCB.out
            by_cases hc : c = exit_ B.data.toList
            · rw [h.2 hc, hc]; simp
            · have h2 : names (outB es ⟨#[c]⟩) es.length ≠ [] := fun e => hc (h.1 e)
              rw [beq_eq_false_iff_ne.2 h2, beq_eq_false_iff_ne.2 hc]
          have f5 : (ti.toList == []) = vi := by
            rw [Lib.toList_data, HTI.out, HSC.out, ← hvi]
            have h := into_nil HV.out HCB.out
            by_cases hc : c = entry B.data.toList
            · rw [h.2 hc, hc]; simp
            · have h2 : names (intoB es ⟨#[c]⟩) es.length ≠ [] := fun e => hc (h.1 e)
              rw [beq_eq_false_iff_ne.2 h2, beq_eq_false_iff_ne.2 hc]
          have f6 : (vo == vo) = true := by simp
          have f7 : (vi == vi) = true := by simp
          have b1 : ((B.size : Int) - 1).toNat = B.size - 1 := by omega
          have b2 : (0 : Int) ≤ (B.size : Int) - 1 := by omega
          have b3 : (B.size : Int) - 1 ≤ (B.size : Int) := by omega
          have b4 : IntKind.i64.wrap ((B.size : Int) - 1) = (B.size : Int) - 1 := IntWalk.i64_in _ (by omega)
          clear hf1 hl1 hvo hvi
          go_wp2_with fail
          go_ret
          exact ⟨rfl, HB8.out.trans (HBX.out.mono HB8.out.size)⟩

end Go.Proofs.Ytkclbjgnaichhaa
