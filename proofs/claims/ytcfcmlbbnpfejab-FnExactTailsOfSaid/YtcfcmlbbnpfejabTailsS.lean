/- Blocks that edges leave that lead back: by the model. -/
import Derived.Test.YtcfcmlbbnpfejabTails
namespace Go.Proofs.Ytcfcmlbbnpfejab
open Go.RowKit

theorem tailsL_snoc (es : List (ByteArray × ByteArray)) (is : List Nat) (i : Nat) : tailsL es (is ++ [i]) = tailsL es is ++ [tailsEnd es i] := by simp [tailsL]

set_option maxRecDepth 100000 in
set_option maxHeartbeats 4000000 in
/-- spec.TailsOf -/
theorem specTailsOf_any (B : ByteArray) (A : Option Addr) (cap : Nat) (es : List (ByteArray × ByteArray)) (w : World) (hs : B.size ≤ maxLen) (hE : EdgesIn w w.heap.size A es) (hl : es.length ≤ 1099511627776) (hS : ∀ e ∈ es, e.1.size ≤ 1099511627776 ∧ e.2.size ≤ 1099511627776) :
    Calls Try.prog 17 #[.agg #[.string B, .slice A es.length cap]] w (TextPost (tailsV B es) w) := by
  have HL := Lib.hid hl; have HM := Lib.hid hs; have HS := Lib.hid hS
  clear hl hs hS
  have hb1 : Below w.heap.size w (w.alloc (.cells #[.string B, .slice A es.length cap] 30)) := (Below.refl _ _).alloc (Nat.le_refl _) _
  have t1 := Two.made w B A es.length cap 30
  have hz1 : (w.alloc (.cells #[.string B, .slice A es.length cap] 30)).heap.size = w.heap.size + 1 := by simp
  by_cases hv : Valid B.data.toList (ebs es)
  case neg =>
    have HB : Hid (∀ W : World, EdgesIn W W.heap.size A es → Calls Try.prog 11 #[.agg #[.string B, .slice A es.length cap]] W fun e w' => e = .returned (.tuple #[.string ⟨#[]⟩, .bool false]) ∧ Below W.heap.size W w') := Lib.hid fun W h => by
      have := specBackEdges_any B A cap es W HM.out h HL.out HS.out
      have hq : backV B es = (⟨#[]⟩, false) := textV_no hv
      rwa [hq] at this
    have HN : Hid (tailsV B es = (⟨#[]⟩, false)) := Lib.hid (textV_no hv)
    have HSO : Hid (∀ W : World, Calls Try.prog 42 #[.agg #[.string B, .slice A es.length cap], .string ⟨#[]⟩] W fun e w' => e = .returned (.string ⟨#[]⟩) ∧ Below W.heap.size W w') := Lib.hid fun W => by
      have h := l3Sorted_any B A es.length cap ⟨#[]⟩ W HM.out (by decide)
      have e : B.data.toList.filter (inB (⟨#[]⟩ : ByteArray).data.toList) = [] := List.filter_eq_nil_iff.2 fun c _ hc => by
        have := inB_iff.1 hc; simp at this
      rwa [e] at h
    clear hv
    go_enter Try.func17, Try.ntmps17
    go_wp2_with fail
    refine (HB.out _ ((hE.below hb1).more hb1.size)).mono ?_
    rintro e w2 ⟨rfl, hb2⟩
    have t2 := t1.below hb2 (by omega)
    have hb2' := hb1.trans (hb2.mono hb1.size)
    have hd0 := t2.1; have hd1 := t2.2
    clear hb2 t1 hb1
    go_wp2_with fail
    go_loopw [4, 15] (fun a c wr => c = .int .i64 0 ∧ a = .string ⟨#[]⟩ ∧ wr = w2) (fun _ c _ => 0)
    case atStart => exact ⟨rfl, rfl, rfl⟩
    case round =>
      obtain ⟨rfl, rfl, rfl⟩ := hrel
      go_wp2_with fail
      refine (HSO.out _).mono ?_
      rintro e w3 ⟨rfl, hb3⟩
      have hb3' := hb2'.trans (hb3.mono hb2'.size)
      clear hb3 hd0 hd1 t2
      go_wp2_with fail
      go_ret2
      exact ⟨by rw [HN.out]; rfl, hb3'⟩
  have hF := facts_of hv
  have h16 := hF.few
  obtain ⟨idx, hidx⟩ : ∃ idx, (List.range es.length).filter (backP B es) = idx := ⟨_, rfl⟩
  obtain ⟨bt, hbt⟩ : ∃ bt : ByteArray, (⟨(names (backP B es) es.length).toArray⟩ : ByteArray) = bt := ⟨_, rfl⟩
  have hbd : bt.data.toList = idx.map nameOf := by rw [← hbt, ← hidx]; rfl
  have hbs : bt.size = idx.length := by rw [str_size hbd]; simp
  have hil : idx.length ≤ 16 := by
    rw [← hidx]
    exact Nat.le_trans (List.length_filter_le _ _) (by simpa using h16)
  have him : ∀ i ∈ idx, i < es.length := fun i hi => by rw [← hidx] at hi; simpa using (List.mem_filter.1 hi).1
  have HB : Hid (∀ W : World, EdgesIn W W.heap.size A es → Calls Try.prog 11 #[.agg #[.string B, .slice A es.length cap]] W fun e w' => e = .returned (.tuple #[.string bt, .bool true]) ∧ Below W.heap.size W w') := Lib.hid fun W h => by
    have := specBackEdges_any B A cap es W HM.out h HL.out HS.out
    have hq : backV B es = (bt, true) := by rw [← hbt]; exact textV_yes hv
    rwa [hq] at this
  have HN : Hid (tailsV B es = (⟨(B.data.toList.filter (inB (tailsL es idx))).toArray⟩, true)) := Lib.hid (by
    have e : tailsP B es = inB (tailsL es idx) := funext fun c => by rw [tails_iff hF, hidx]
    rw [← e]; exact textV_yes hv)
  have HBD := Lib.hid hbd; have HBS := Lib.hid hbs; have HIM := Lib.hid him; have HLE := Lib.hid hF.lets
  clear hv hidx hbt hbd hbs him hF
  go_enter Try.func17, Try.ntmps17
  go_wp2_with fail
  refine (HB.out _ ((hE.below hb1).more hb1.size)).mono ?_
  rintro e w2 ⟨rfl, hb2⟩
  have t2 := t1.below hb2 (by omega)
  have hz2 : w.heap.size + 1 ≤ w2.heap.size := by have := hb2.size; omega
  have hb2' := hb1.trans (hb2.mono hb1.size)
  clear hb2 t1 hb1 hz1 HB
  go_wp2_with fail
  go_loopw [4, 15] (fun a c wr => ∃ (k : Nat) (s : ByteArray), k ≤ bt.size ∧ c = .int .i64 k ∧ a = .string s ∧ s.data.toList = tailsL es (idx.take k) ∧ Below w2.heap.size w2 wr) (fun _ c _ => bt.size - (intOf c).toNat)
  case atStart => exact ⟨0, ⟨#[]⟩, Nat.zero_le _, rfl, rfl, rfl, Below.refl _ _⟩
  case round =>
    obtain ⟨k, s, hk, rfl, rfl, hsv, hb⟩ := hrel
    have HSV := Lib.hid hsv; have HBW := Lib.hid hb
    have tr := t2.below hb (by omega)
    have hzr := hb.size
    have hss : s.size ≤ 16 := by
      rw [str_size hsv]
      have : (idx.take k).length ≤ idx.length := by simp; omega
      simp only [tailsL, List.length_map]; omega
    clear hsv hb
    by_cases hlt : k < bt.size
    case neg =>
      have hke : idx.take k = idx := List.take_of_length_le (by have := HBS.out; omega)
      have HSE : Hid (s.data.toList = tailsL es idx) := Lib.hid (by rw [HSV.out, hke])
      have HSO : Hid (∀ W : World, Calls Try.prog 42 #[.agg #[.string B, .slice A es.length cap], .string s] W fun e w' => e = .returned (.string ⟨(B.data.toList.filter (inB (tailsL es idx))).toArray⟩) ∧ Below W.heap.size W w') := Lib.hid fun W => by
        have h := l3Sorted_any B A es.length cap s W HM.out (by omega)
        rwa [HSE.out] at h
      have hd0 := tr.1; have hd1 := tr.2
      clear hke tr
      go_wp2_with fail
      refine (HSO.out _).mono ?_
      rintro e w3 ⟨rfl, hb3⟩
      have hb3' := hb2'.trans ((HBW.out.trans (hb3.mono (by omega))).mono (show w.heap.size ≤ w2.heap.size by omega))
      clear hb3 hd0 hd1
      go_wp2_with fail
      go_ret2
      exact ⟨by rw [HN.out]; rfl, hb3'⟩
    have hko : k < idx.length := by have := HBS.out; omega
    obtain ⟨ix, hix⟩ : ∃ ix, idx[k] = ix := ⟨_, rfl⟩
    have hixl : ix < es.length := HIM.out ix (by rw [← hix]; exact List.getElem_mem hko)
    have htk : idx.take (k + 1) = idx.take k ++ [ix] := by rw [List.take_succ_eq_append_getElem hko, hix]
    have hel : (bt.extract k (k + 1)).data.toList = [nameOf ix] := by
      rw [letter_at hlt, HBD.out]
      simp [List.getD, hko, hix]
    obtain ⟨x, y, he, h1, h2, _, _⟩ := edge_letters HLE.out hixl
    have HEND : Hid (tailsEnd es ix = x) := Lib.hid (by simp [tailsEnd, List.getD, he])
    have HTK := Lib.hid htk
    have H1 := Lib.hid h1; have H2 := Lib.hid h2
    have HX : Hid (eIdx es.length (bt.extract k (k + 1)).data.toList = ix) := Lib.hid (by rw [hel]; exact eIdx_name hixl (by omega))
    have hbw := hb2'.trans (HBW.out.mono (show w.heap.size ≤ w2.heap.size by omega))
    have HA : Hid (EdgesIn wr.drew wr.drew.heap.size A es) := Lib.hid ((hE.below hbw.drew).more hbw.drew.size)
    have hS : ∀ W, Below wr.heap.size wr W → (W.cell? ⟨w.heap.size, 0, none⟩ = some (.string B) ∧ W.cell? ⟨w.heap.size, 1, none⟩ = some (.slice A es.length cap) ∧ Below wr.heap.size wr W) :=
      fun W h => ⟨(h.cell (by simp only; omega)).trans tr.1, (h.cell (by simp only; omega)).trans tr.2, h⟩
    have HSS := Lib.hid hS
    have hsz : ¬ 9223372036854775807 < s.size + (⟨#[x]⟩ : ByteArray).size := by
      have : (⟨#[x]⟩ : ByteArray).size = 1 := rfl
      omega
    have hsz2 : ¬ 9223372036854775807 < s.size + 1 := by omega
    have hsz3 : s.size + 1 ≤ 9223372036854775807 := by omega
    clear hix htk hel he h1 h2 hbw hS tr
    have a1 : (0 : Int) ≤ (k : Int) := by omega
    have a2 : (k : Int) < (bt.size : Int) := by omega
    have a4 : (0 : Int) ≤ (k : Int) + 1 := by omega
    have a5 : ((k : Int) + 1).toNat = k + 1 := by omega
    have a6 : (k : Int) + 1 ≤ (bt.size : Int) := by omega
    have a7 : k + 1 ≤ bt.size := by omega
    have a8 : (k : Int) ≤ (k : Int) + 1 := by omega
    have a3 : IntKind.i64.wrap ((k : Int) + 1) = (k : Int) + 1 := IntWalk.i64_in _ (by omega)
    have e1 := edge_from; have e2 := edge_to
    go_wp2_with fail
    go_region_held3 (fun W => W.cell? ⟨w.heap.size, 0, none⟩ = some (.string B) ∧ W.cell? ⟨w.heap.size, 1, none⟩ = some (.slice A es.length cap) ∧ Below wr.heap.size wr W)
      (first
        | exact HSS.out _ (Below.refl _ _).drew
        | exact HSS.out _ ((Below.refl _ _).drew.trans hb4))
      (first
        | (go_at_call 41; refine (l2Edge_any B A cap es _ ix _ HA.out HL.out hixl HX.out).mono ?_; rw [H1.out, H2.out]; rintro e w4 ⟨rfl, hb4⟩))
    rename_i hHeld
    have HB4 := Lib.hid (HBW.out.trans (hHeld.2.2.mono (by omega)))
    clear hHeld HSS HA hb4 a1 a2 a3 a4 a5 a6 a7 a8 e1 e2
    go_wp2_with fail
    go_roundw
    case rel => exact ⟨k + 1, _, by omega, by go_num, rfl, by rw [HTK.out, tailsL_snoc, HEND.out]; exact str_snoc HSV.out, HB4.out⟩
    case measure => simp [intOf]; omega

end Go.Proofs.Ytcfcmlbbnpfejab
