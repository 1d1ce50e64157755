/- The value of an edge, by the model. -/
import Derived.Test.YtghdjmjodgbghaaCountC
namespace Go.Proofs.Ytghdjmjodgbghaa
open Go.RowKit

theorem filter_take_at {p : Nat → Bool} {j ix : Nat} : ∀ {n : Nat} (h : j < ((List.range n).filter p).length), ((List.range n).filter p)[j] = ix → ((List.range n).filter p).take j = (List.range ix).filter p
  | 0, h, _ => by simp at h
  | n + 1, h, hx => by
    have e : (List.range (n + 1)).filter p = (List.range n).filter p ++ [n].filter p := by rw [List.range_succ, List.filter_append]
    by_cases hj : j < ((List.range n).filter p).length
    · have h2 : ((List.range n).filter p)[j] = ix := by
        rw [← hx]
        simp only [e]
        rw [List.getElem_append_left hj]
      rw [e, List.take_append_of_le_length (by omega)]
      exact filter_take_at hj h2
    · have hp : p n = true := by
        cases hq : p n with
        | true => rfl
        | false =>
          rw [e] at h
          simp [hq] at h
          exact absurd h hj
      have hl : [n].filter p = [n] := by simp [hp]
      have hjl : j = ((List.range n).filter p).length := by
        rw [e, hl] at h
        simp at h; omega
      have h3 : ix = n := by
        rw [← hx]
        simp only [e, hl]
        rw [List.getElem_append_right (by omega)]
        simp
      subst h3
      rw [e, List.take_append_of_le_length (by omega), List.take_of_length_le (by omega)]

theorem sumC_outs {es : List (ByteArray × ByteArray)} {l : List UInt8} (hL : Lets l es) (g : UInt8 → Nat) (x : UInt8) {j ix : Nat} (hj : j < (outsOf es x).length) (hx : (outsOf es x)[j] = ix) : sumC (ebs es) g x ((outsOf es x).take j) = sumC (ebs es) g x (List.range ix) := by
  have h1 := filter_take_at (p := outB es ⟨#[x]⟩) (n := es.length) (j := j) (ix := ix) hj hx
  have h2 : (outsOf es x).take j = (List.range ix).filter (outB es ⟨#[x]⟩) := h1
  rw [h2]
  have hix : ix < es.length := (outsOf_mem hL (hx ▸ List.getElem_mem hj)).1
  refine sumC_filter _ _ _ _ _ fun k hk hq => ?_
  have hkl : k < es.length := by have : k < ix := by simpa using hk
                                 omega
  obtain ⟨a, b, hek, ha, _⟩ := edge_letters hL hkl
  rw [outB_at hkl, Lib.toList_data, Lib.toList_data, ha] at hq
  exact stepC_no hek fun e => by subst e; simp at hq
theorem outs_has {es : List (ByteArray × ByteArray)} {x : UInt8} {y : List UInt8} {k : Nat} (h : (ebs es)[k]? = some ([x], y)) : k ∈ outsOf es x := by
  have hlt : k < es.length := by have := (List.getElem?_eq_some_iff.1 h).1; simpa [ebs] using this
  refine List.mem_filter.2 ⟨by simpa using hlt, ?_⟩
  rw [outB_at hlt]
  have : (es[k].1.data.toList, es[k].2.data.toList) = ([x], y) := by
    simp only [ebs, List.getElem?_map, List.getElem?_eq_getElem hlt, Option.map_some] at h
    injection h
  injection this with h2 _
  rw [Lib.toList_data, Lib.toList_data, h2]; simp

set_option maxRecDepth 100000 in
set_option maxHeartbeats 4000000 in
/-- spec.l4Value -/
theorem l4Value_any (B : ByteArray) (A : Option Addr) (cap : Nat) (es : List (ByteArray × ByteArray)) (k : Nat) (w : World) (hE : EdgesIn w w.heap.size A es) (hA : Acy B es (orderE B.data.toList (ebs es))) (hBm : B.size ≤ maxLen) (hk : k < es.length) :
    Calls Try.prog 46 #[.agg #[.string B, .slice A es.length cap], .string ⟨#[nameOf k]⟩] w (IntPost ((valE (ebs es) (exit_ B.data.toList) k : Nat) : Int) w) := by
  have h16 := hA.F.few
  obtain ⟨x, y, he, h1, h2, hxl, hyl⟩ := edge_letters hA.F.lets hk
  obtain ⟨t, ht⟩ : ∃ t, exit_ B.data.toList = t := ⟨_, rfl⟩
  have HA0 := Lib.hid hA
  have FL : Hid (∀ (i : Nat), i < es.length → ∀ W : World, EdgesIn W W.heap.size A es → Calls Try.prog 58 #[.agg #[.string B, .slice A es.length cap], .string ⟨#[nameOf i]⟩] W fun e w' => e = .returned (.agg #[.string (es.getD i (⟨#[]⟩, ⟨#[]⟩)).1, .string (es.getD i (⟨#[]⟩, ⟨#[]⟩)).2]) ∧ Below W.heap.size W w') := Lib.hid fun i hi W h => by
    have := l2Edge_any B A cap es ⟨#[nameOf i]⟩ i W h (by omega) hi (eIdx_name hi (by omega))
    simpa [List.getD, hi] using this
  have FO : Hid (∀ W : World, EdgesIn W W.heap.size A es → Calls Try.prog 74 #[.agg #[.string B, .slice A es.length cap], .string ⟨#[x]⟩] W fun e w' => e = .returned (.string ⟨(names (outB es ⟨#[x]⟩) es.length).toArray⟩) ∧ Below W.heap.size W w') := Lib.hid fun W h => outList_any B A cap es ⟨#[x]⟩ W h (by omega)
  have FC : Hid (∀ (c : UInt8), c ∈ B.data.toList → ∀ W : World, EdgesIn W W.heap.size A es → Calls Try.prog 36 #[.agg #[.string B, .slice A es.length cap], .string ⟨#[c]⟩] W fun e w' => e = .returned (.int .i64 ((cntE (ebs es) t c : Nat) : Int)) ∧ Below W.heap.size W w') := Lib.hid fun c hc W h => by
    have := l4Count_any B A cap es c W h hA hBm hc
    unfold cntV at this
    rw [ht] at this
    exact this
  obtain ⟨ot, hot⟩ : ∃ ot : ByteArray, (⟨(names (outB es ⟨#[x]⟩) es.length).toArray⟩ : ByteArray) = ot := ⟨_, rfl⟩
  rw [hot] at FO
  have hod : ot.data.toList = (outsOf es x).map nameOf := by rw [← hot]; rfl
  have hos : ot.size = (outsOf es x).length := by rw [str_size hod]; simp
  have HV : Hid (valE (ebs es) t k = sumC (ebs es) (cntE (ebs es) t) x (List.range k)) := Lib.hid (valE_eq he)
  have HKIN := Lib.hid (outs_has he)
  have HOD := Lib.hid hod; have HOS := Lib.hid hos
  have hge : es.getD k (⟨#[]⟩, ⟨#[]⟩) = es[k] := by simp [List.getD, hk]
  have FLk := FL.out k hk
  rw [hge, h1, h2] at FLk
  have HFLK := Lib.hid FLk
  have HE1 := Lib.hid he
  rw [ht]
  have hb1 : Below w.heap.size w (w.alloc (.cells #[.string B, .slice A es.length cap] 29)) := (Below.refl _ _).alloc (Nat.le_refl _) _
  have t1 := Two.made w B A es.length cap 29
  have hz1 : (w.alloc (.cells #[.string B, .slice A es.length cap] 29)).heap.size = w.heap.size + 1 := by simp
  have e1 := edge_from; have e2 := edge_to
  clear hot hod hos hge FLk h1 h2 he ht hA hBm
  go_enter Try.func46, Try.ntmps46
  go_wp2_with fail
  obtain ⟨w1, hw1⟩ : ∃ w1, w.alloc (.cells #[.string B, .slice A es.length cap] 29) = w1 := ⟨_, rfl⟩
  rw [hw1] at hb1 t1 hz1 ⊢
  clear hw1
  have x0 : ∀ x : After w1, x.W.cell? ⟨w.heap.size, 0, none⟩ = some (.string B) := fun x => x.cell (by simp only; omega) t1.1
  have x1 : ∀ x : After w1, x.W.cell? ⟨w.heap.size, 1, none⟩ = some (.slice A es.length cap) := fun x => x.cell (by simp only; omega) t1.2
  have xE : ∀ x : After w1, EdgesIn x.W x.W.heap.size A es := fun x => ((hE.below hb1).below (x.h.mono hb1.size)).more (Nat.le_trans hb1.size x.h.size)
  have XE := Lib.hid xE; clear xE
  refine wp_region_below (by kernel_rfl) (by kernel_rfl) ?_
  repeat (go_big_quiet_step ((first
    | (go_at_call 58; exact After.call (HFLK.out _ (XE.out _)))
    | (go_at_call 74; exact After.call (FO.out _ (XE.out _))))))
  refine wpQuiet_nil ?_
  rintro _ ⟨xw, rfl⟩
  clear x0 x1 XE
  obtain ⟨w2, hw2⟩ : ∃ w2, xw.W = w2 := ⟨_, rfl⟩
  have hb2 := xw.h
  rw [hw2] at hb2 ⊢
  clear hw2 xw
  have t2 := t1.below hb2 (by omega)
  have hb2' := hb1.trans (hb2.mono hb1.size)
  have hz2 : w.heap.size + 1 ≤ w2.heap.size := by have := hb2.size; omega
  have HTW2 := Lib.hid t2; have HB2 := Lib.hid hb2'
  clear hb2 t1 hz1 hb1 t2 hb2' HFLK FO
  have hol : (outsOf es x).length ≤ 16 := by
    have h1 := names_length (outB es ⟨#[x]⟩) es.length
    have h2 : (names (outB es ⟨#[x]⟩) es.length).length = (outsOf es x).length := by simp [names, outsOf]
    omega
  obtain ⟨r, htr, hr7⟩ := HA0.out.at_ hxl
  have HTR := Lib.hid htr
  clear htr
  go_wp2_with fail
  go_loopw [5, 16] (fun a c wr => ∃ j : Nat, j ≤ ot.size ∧ c = .int .i64 j ∧ a = .int .i64 ((sumC (ebs es) (cntE (ebs es) t) x ((outsOf es x).take j) : Nat) : Int) ∧ k ∉ (outsOf es x).take j ∧ Below w2.heap.size w2 wr) (fun _ c _ => ot.size - (intOf c).toNat)
  case atStart => exact ⟨0, Nat.zero_le _, rfl, rfl, by simp, Below.refl _ _⟩
  case round =>
    obtain ⟨j, hj, rfl, rfl, hnk, hb⟩ := hrel
    have HNK := Lib.hid hnk; have HB := Lib.hid hb
    have hzr := hb.size
    have tr := HTW2.out.below hb (by omega)
    have HTRW := Lib.hid tr
    clear hnk hb tr
    by_cases hlt : j < ot.size
    case neg =>
      exact absurd HKIN.out (by have h := HNK.out; rwa [List.take_of_length_le (by have := HOS.out; omega)] at h)
    have hjo : j < (outsOf es x).length := by have := HOS.out; omega
    obtain ⟨ix, hix⟩ : ∃ ix, (outsOf es x)[j] = ix := ⟨_, rfl⟩
    obtain ⟨hi, y2, hy, hy2, hyl2⟩ := outsOf_mem HA0.out.F.lets (hix ▸ List.getElem_mem hjo : ix ∈ outsOf es x)
    have hex : ot.extract j (j + 1) = ⟨#[nameOf ix]⟩ := by
      have := letter_at (p := ot) hlt
      rw [HOD.out] at this
      have e : ((outsOf es x).map nameOf).getD j 0 = nameOf ix := by simp [List.getD, hjo, hix]
      rw [e] at this
      exact one_byte this
    have HSO := Lib.hid (sumC_outs HA0.out.F.lets (cntE (ebs es) t) x hjo hix)
    have HTK : Hid ((outsOf es x).take (j + 1) = (outsOf es x).take j ++ [ix]) := Lib.hid (by rw [List.take_succ_eq_append_getElem hjo, hix])
    have HHY := Lib.hid hy; have HHY2 := Lib.hid hy2
    have a1 : (0 : Int) ≤ (j : Int) := by omega
    have a2 : (j : Int) < (ot.size : Int) := by omega
    have a4 : (0 : Int) ≤ (j : Int) + 1 := by omega
    have a5 : ((j : Int) + 1).toNat = j + 1 := by omega
    have a6 : (j : Int) + 1 ≤ (ot.size : Int) := by omega
    have a7 : j + 1 ≤ ot.size := by omega
    have a8 : (j : Int) ≤ (j : Int) + 1 := by omega
    have a9 : IntKind.i64.wrap ((j : Int) + 1) = (j : Int) + 1 := IntWalk.i64_in _ (by have := HOS.out; omega)
    clear hix hy hy2
    by_cases hik : ix = k
    · subst hik
      have HEND : Hid (sumC (ebs es) (cntE (ebs es) t) x ((outsOf es x).take j) = valE (ebs es) t ix) := Lib.hid (by rw [HSO.out, HV.out])
      rw [HEND.out]
      go_wp2_with fail
      go_ret
      exact ⟨rfl, HB2.out.trans (HB.out.mono (by omega))⟩
    have hq : (nameOf ix == nameOf k) = false := by
      rw [beq_eq_false_iff_ne]
      intro e
      have h1 := nameOf_toNat (k := ix) (by omega)
      have h2 := nameOf_toNat (k := k) (by omega)
      rw [e] at h1
      omega
    obtain ⟨c1, hc1⟩ : ∃ c1 : Nat, sumC (ebs es) (cntE (ebs es) t) x ((outsOf es x).take j) = c1 := ⟨_, rfl⟩
    obtain ⟨c2, hc2⟩ : ∃ c2 : Nat, cntE (ebs es) t y2 = c2 := ⟨_, rfl⟩
    have hcb : c1 + c2 ≤ 8589934592 := by
      have h1 := sumC_few (t := t) (by rw [ebs_len]; exact h16) HTR.out hr7 (show ix ≤ 16 by omega)
      obtain ⟨r2, htr2, hr72⟩ := HA0.out.at_ hyl2
      have h2 : cntE (ebs es) t y2 ≤ 268435456 := cntE_few (by rw [ebs_len]; exact h16) htr2 hr72
      rw [← HSO.out, hc1] at h1
      omega
    have HNEXT : Hid (sumC (ebs es) (cntE (ebs es) t) x ((outsOf es x).take (j + 1)) = c1 + c2) := Lib.hid (by rw [HTK.out, sumC_snoc, stepC_yes HHY.out, hc1, hc2])
    have HNK2 : Hid (k ∉ (outsOf es x).take (j + 1)) := Lib.hid (by
      rw [HTK.out]
      intro h
      rcases List.mem_append.1 h with h | h
      · exact HNK.out h
      · simp at h; exact hik h.symm)
    have FL2 : Hid (∀ W : World, EdgesIn W W.heap.size A es → Calls Try.prog 58 #[.agg #[.string B, .slice A es.length cap], .string ⟨#[nameOf ix]⟩] W fun e w' => e = .returned (.agg #[.string (es.getD ix (⟨#[]⟩, ⟨#[]⟩)).1, .string ⟨#[y2]⟩]) ∧ Below W.heap.size W w') := Lib.hid fun W h => by
      have := FL.out ix hi W h
      have e : (es.getD ix (⟨#[]⟩, ⟨#[]⟩)).2 = ⟨#[y2]⟩ := by rw [← HHY2.out]; simp [List.getD, hi]
      rwa [e] at this
    have FC2 : Hid (∀ W : World, EdgesIn W W.heap.size A es → Calls Try.prog 36 #[.agg #[.string B, .slice A es.length cap], .string ⟨#[y2]⟩] W fun e w' => e = .returned (.int .i64 (c2 : Int)) ∧ Below W.heap.size W w') := Lib.hid fun W h => by
      have := FC.out y2 hyl2 W h
      rwa [hc2] at this
    have z1 : IntKind.i64.wrap ((c1 : Int) + (c2 : Int)) = (c1 : Int) + (c2 : Int) := IntWalk.i64_in _ (by omega)
    rw [hc1]
    have hbw := HB2.out.trans (HB.out.mono (show w.heap.size ≤ w2.heap.size by omega))
    clear hc1 hc2 hcb hik hyl2
    go_wp2_with fail
    have x0 : ∀ x : After wr, x.W.cell? ⟨w.heap.size, 0, none⟩ = some (.string B) := fun x => x.cell (by simp only; omega) HTRW.out.1
    have x1 : ∀ x : After wr, x.W.cell? ⟨w.heap.size, 1, none⟩ = some (.slice A es.length cap) := fun x => x.cell (by simp only; omega) HTRW.out.2
    have xE : ∀ x : After wr, EdgesIn x.W x.W.heap.size A es := fun x => ((hE.below hbw).below (x.h.mono hbw.size)).more (Nat.le_trans hbw.size x.h.size)
    have XE := Lib.hid xE; clear xE
    refine wp_region_below (by kernel_rfl) (by kernel_rfl) ?_
    repeat (go_big_quiet_step ((first
      | (go_at_call 58; exact After.call (FL2.out _ (XE.out _)))
      | (go_at_call 36; exact After.call (FC2.out _ (XE.out _))))))
    refine wpQuiet_nil ?_
    rintro _ ⟨xw, rfl⟩
    clear x0 x1
    go_wp2_with fail
    go_roundw
    case rel => exact ⟨j + 1, by omega, by go_num, by rw [HNEXT.out, Int.natCast_add], HNK2.out, HB.out.trans (xw.h.mono (by omega))⟩
    case measure => simp [intOf]; omega

end Go.Proofs.Ytghdjmjodgbghaa
