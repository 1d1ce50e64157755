/- The longest path from a block, by the model. -/
import Derived.Test.YtcfcmlbbnpfejabLongE
import Derived.Test.YtcfcmlbbnpfejabOrderV
import Derived.Deep.RegionHeld3
namespace Go.Proofs.Ytcfcmlbbnpfejab
open Go.RowKit

/-- the edges of a block alone -/
theorem rowG_outs {es : List (ByteArray × ByteArray)} {l : List UInt8} (hL : Lets l es) (g : UInt8 → List UInt8) (b : UInt8) : rowG (ebs es) g b (outsOf es b) = rowG (ebs es) g b (List.range es.length) := by
  refine rowG_filter _ _ _ _ _ fun k hk hq out => ?_
  have hkl : k < es.length := by simpa using hk
  obtain ⟨x, y, hx, hy, _, _⟩ := hL es[k] (List.getElem_mem hkl)
  have hek : (ebs es)[k]? = some ([x], [y]) := by simp only [ebs, List.getElem?_map, List.getElem?_eq_getElem hkl, Option.map_some, hx, hy]
  rw [outB_at hkl, Lib.toList_data, Lib.toList_data, hx] at hq
  exact stepG_no hek fun e => by subst e; simp at hq

set_option maxRecDepth 100000 in
set_option maxHeartbeats 4000000 in
/-- spec.l3Long -/
theorem l3Long_any (B : ByteArray) (A : Option Addr) (cap : Nat) (es : List (ByteArray × ByteArray)) (l : List UInt8) (hl : es.length ≤ 16) (hL : Lets l es) : ∀ (n : Nat) (r : List UInt8) (b : UInt8) (w : World), r.length ≤ n → r.length ≤ 7 → Topo (ebs es) (b :: r) → EdgesIn w w.heap.size A es →
    Calls Try.prog 54 #[.agg #[.string B, .slice A es.length cap], .string ⟨#[b]⟩] w fun e w' => e = .returned (.string ⟨(longE (ebs es) b).toArray⟩) ∧ Below w.heap.size w w' := by
  intro n
  induction n with
  | zero =>
    intro r b w hn h7 ht hE
    have hr : r = [] := List.length_eq_zero_iff.1 (by omega)
    subst hr
    have hno : outsOf es b = [] := by
      cases ho : outsOf es b with
      | nil => rfl
      | cons i is =>
        obtain ⟨hi, y, hy, _, _⟩ := outsOf_mem hL (show i ∈ outsOf es b by rw [ho]; simp)
        exact absurd (ht.1 y (List.mem_of_getElem? hy)) (by simp)
    have HV : Hid (longE (ebs es) b = []) := Lib.hid (by
      have hel : (ebs es).length = es.length := by simp [ebs]
      rw [longE_fix ht h7, hel, ← rowG_outs hL, hno]; rfl)
    have HOUT : Hid (∀ W : World, EdgesIn W W.heap.size A es → Calls Try.prog 49 #[.agg #[.string B, .slice A es.length cap], .string ⟨#[b]⟩] W fun e w' => e = .returned (.string ⟨#[]⟩) ∧ Below W.heap.size W w') := Lib.hid fun W hW => by
      have h := outList_any B A cap es ⟨#[b]⟩ W hW (by omega)
      have e : names (outB es ⟨#[b]⟩) es.length = [] := by
        have : names (outB es ⟨#[b]⟩) es.length = (outsOf es b).map nameOf := rfl
        rw [this, hno]; rfl
      rwa [e] at h
    have hb1 : Below w.heap.size w (w.alloc (.cells #[.string B, .slice A es.length cap] 30)) := (Below.refl _ _).alloc (Nat.le_refl _) _
    have t1 := Two.made w B A es.length cap 30
    have hd0 := t1.1; have hd1 := t1.2
    clear hno ht t1
    go_enter Try.func54, Try.ntmps54
    go_wp2_with fail
    refine (HOUT.out _ ((hE.below hb1).more hb1.size)).mono ?_
    rintro e w2 ⟨rfl, hb2⟩
    have hb2' := hb1.trans (hb2.mono hb1.size)
    clear hd0 hd1 hb2
    go_wp2_with fail
    go_loopw [5, 14] (fun a c wr => c = .int .i64 0 ∧ a = .string ⟨#[]⟩ ∧ wr = w2) (fun _ c _ => 0)
    case atStart => exact ⟨rfl, rfl, rfl⟩
    case round =>
      obtain ⟨rfl, rfl, rfl⟩ := hrel
      go_wp2_with fail
      go_ret
      exact ⟨by rw [HV.out]; rfl, hb2'⟩
  | succ n ih =>
    intro r b w hn h7 ht hE
    have IH := Lib.hid ih
    have HTO := Lib.hid ht
    have HV : Hid (longE (ebs es) b = rowG (ebs es) (longE (ebs es)) b (outsOf es b)) := Lib.hid (by
      have hel : (ebs es).length = es.length := by simp [ebs]
      rw [longE_fix ht h7, hel, rowG_outs hL])
    obtain ⟨et, het⟩ : ∃ et : ByteArray, (⟨(names (outB es ⟨#[b]⟩) es.length).toArray⟩ : ByteArray) = et := ⟨_, rfl⟩
    have hetd : et.data.toList = (outsOf es b).map nameOf := by rw [← het]; rfl
    have hets : et.size = (outsOf es b).length := by rw [str_size hetd]; simp
    have hol : (outsOf es b).length ≤ 16 := by
      have := names_length (outB es ⟨#[b]⟩) es.length
      have h2 : (names (outB es ⟨#[b]⟩) es.length).length = (outsOf es b).length := by simp [names, outsOf]
      omega
    have HOUT : Hid (∀ W : World, EdgesIn W W.heap.size A es → Calls Try.prog 49 #[.agg #[.string B, .slice A es.length cap], .string ⟨#[b]⟩] W fun e w' => e = .returned (.string et) ∧ Below W.heap.size W w') := Lib.hid fun W hW => by
      have h := outList_any B A cap es ⟨#[b]⟩ W hW (by omega)
      rwa [het] at h
    have HETD := Lib.hid hetd; have HETS := Lib.hid hets
    have hb1 : Below w.heap.size w (w.alloc (.cells #[.string B, .slice A es.length cap] 30)) := (Below.refl _ _).alloc (Nat.le_refl _) _
    have t1 := Two.made w B A es.length cap 30
    have hz1 : (w.alloc (.cells #[.string B, .slice A es.length cap] 30)).heap.size = w.heap.size + 1 := by simp
    have hd0 := t1.1; have hd1 := t1.2
    clear ht het hetd hets ih
    go_enter Try.func54, Try.ntmps54
    go_wp2_with fail
    refine (HOUT.out _ ((hE.below hb1).more hb1.size)).mono ?_
    rintro e w2 ⟨rfl, hb2⟩
    have t2 := t1.below hb2 (by omega)
    have hz2 : w.heap.size + 1 ≤ w2.heap.size := by have := hb2.size; omega
    have hb2' := hb1.trans (hb2.mono hb1.size)
    clear hd0 hd1 hb2 t1 hb1 hz1 HOUT
    go_wp2_with fail
    go_loopw [5, 14] (fun a c wr => ∃ (k : Nat) (o : ByteArray), k ≤ et.size ∧ c = .int .i64 k ∧ a = .string o ∧ o.data.toList = rowG (ebs es) (longE (ebs es)) b ((outsOf es b).take k) ∧ Below w2.heap.size w2 wr) (fun _ c _ => et.size - (intOf c).toNat)
    case atStart => exact ⟨0, ⟨#[]⟩, Nat.zero_le _, rfl, rfl, rfl, Below.refl _ _⟩
    case round =>
      obtain ⟨k, o, hk, rfl, rfl, ho, hb⟩ := hrel
      have HO := Lib.hid ho; have HB := Lib.hid hb
      have tr := t2.below hb (by omega)
      have hzr := hb.size
      have hos : o.size ≤ 9 := by rw [str_size ho]; exact rowG_len (longE_len _) _
      clear ho hb
      by_cases hlt : k < et.size
      case neg =>
        have hke : (outsOf es b).take k = outsOf es b := List.take_of_length_le (by have := HETS.out; omega)
        have HS : Hid (o = ⟨(longE (ebs es) b).toArray⟩) := Lib.hid (str_ext (by rw [HO.out, hke, HV.out]))
        clear hke tr
        go_wp2_with fail
        go_ret
        exact ⟨by rw [HS.out]; rfl, hb2'.trans (HB.out.mono (by omega))⟩
      have hko : k < (outsOf es b).length := by have := HETS.out; omega
      obtain ⟨ix, hix⟩ : ∃ ix, (outsOf es b)[k] = ix := ⟨_, rfl⟩
      have hmem : ix ∈ outsOf es b := hix ▸ List.getElem_mem hko
      obtain ⟨hi, y, hy, hy2, hyl⟩ := outsOf_mem hL hmem
      have hel : et.extract k (k + 1) = ⟨#[nameOf ix]⟩ := by
        have := letter_at (p := et) hlt
        rw [HETD.out] at this
        have e : ((outsOf es b).map nameOf).getD k 0 = nameOf ix := by simp [List.getD, hko, hix]
        rw [e] at this
        exact one_byte this
      have HTK : Hid (rowG (ebs es) (longE (ebs es)) b ((outsOf es b).take (k + 1)) = stepG (ebs es) (longE (ebs es)) b o.data.toList ix) := Lib.hid (by
        rw [List.take_succ_eq_append_getElem hko, hix, rowG_snoc, HO.out])
      obtain ⟨ql, hql⟩ : ∃ ql : ByteArray, (⟨(longE (ebs es) y).toArray⟩ : ByteArray) = ql := ⟨_, rfl⟩
      have hqs : ql.size = (longE (ebs es) y).length := by rw [← hql]; exact (by show (longE (ebs es) y).toArray.size = _; simp)
      have hq8 : ql.size ≤ 8 := by rw [hqs]; exact longE_len _ _
      have FL : Hid (∀ W : World, EdgesIn W W.heap.size A es → Calls Try.prog 54 #[.agg #[.string B, .slice A es.length cap], .string ⟨#[y]⟩] W fun e w' => e = .returned (.string ql) ∧ Below W.heap.size W w') := Lib.hid fun W hW => by
        obtain ⟨a, r2, hr⟩ := List.append_of_mem (HTO.out.1 y (List.mem_of_getElem? hy))
        have h2 : Topo (ebs es) (y :: r2) := Topo.drop (a := a) (by rw [← hr]; exact HTO.out.2)
        have hlr := congrArg List.length hr
        simp at hlr
        rw [← hql]
        exact IH.out r2 y W (by omega) (by omega) h2 hW
      obtain ⟨pp, hpp⟩ : ∃ pp : ByteArray, et.extract k (k + 1) ++ ql = pp := ⟨_, rfl⟩
      have hpd : pp.data.toList = nameOf ix :: longE (ebs es) y := by rw [← hpp, hel, ← hql]; simp
      have hps : pp.size = ql.size + 1 := by rw [str_size hpd, hqs]; simp
      have HPP := Lib.hid hpp; have HPD := Lib.hid hpd; have HPS := Lib.hid hps; have HY := Lib.hid hy2; have HE1 := Lib.hid hy; have HQS := Lib.hid hqs
      have HX : Hid (eIdx es.length (et.extract k (k + 1)).data.toList = ix) := Lib.hid (by rw [hel]; exact eIdx_name hi (by omega))
      have hes : (et.extract k (k + 1)).size = 1 := by rw [hel]; rfl
      have z1 : ¬ 9223372036854775807 < (et.extract k (k + 1)).size + ql.size := by omega
      have z2 : (et.extract k (k + 1)).size + ql.size ≤ 9223372036854775807 := by omega
      have z3 : ¬ 9223372036854775807 < min (k + 1) et.size - k + ql.size := by omega
      have z5 : ¬ 9223372036854775807 < 1 + ql.size := by omega
      have z6 : 1 + ql.size ≤ 9223372036854775807 := by omega
      have z7 : ¬ 9223372036854775807 < k + 1 - k + ql.size := by omega
      have z8 : k + 1 - k + ql.size ≤ 9223372036854775807 := by omega
      have z4 : min (k + 1) et.size - k + ql.size ≤ 9223372036854775807 := by omega
      have hbw := hb2'.trans (HB.out.mono (show w.heap.size ≤ w2.heap.size by omega))
      have HA : Hid (∀ W, Below wr.heap.size wr W → EdgesIn W W.heap.size A es) := Lib.hid fun W h => (hE.below (hbw.trans (h.mono hbw.size))).more (hbw.trans (h.mono hbw.size)).size
      have hS : ∀ W, Below wr.heap.size wr W → (W.cell? ⟨w.heap.size, 0, none⟩ = some (.string B) ∧ W.cell? ⟨w.heap.size, 1, none⟩ = some (.slice A es.length cap) ∧ Below wr.heap.size wr W) :=
        fun W h => ⟨(h.cell (by simp only; omega)).trans tr.1, (h.cell (by simp only; omega)).trans tr.2, h⟩
      have HSS := Lib.hid hS
      have a1 : (0 : Int) ≤ (k : Int) := by omega
      have a2 : (k : Int) < (et.size : Int) := by omega
      have a4 : (0 : Int) ≤ (k : Int) + 1 := by omega
      have a5 : ((k : Int) + 1).toNat = k + 1 := by omega
      have a6 : (k : Int) + 1 ≤ (et.size : Int) := by omega
      have a7 : k + 1 ≤ et.size := by omega
      have a8 : (k : Int) ≤ (k : Int) + 1 := by omega
      have a3 : IntKind.i64.wrap ((k : Int) + 1) = (k : Int) + 1 := IntWalk.i64_in _ (by omega)
      have e2 := edge_to
      clear hix hmem hy hy2 hyl hel hql hqs hpp hpd hps hes hbw hS tr
      go_wp2_with fail
      go_region_held3 (fun W => W.cell? ⟨w.heap.size, 0, none⟩ = some (.string B) ∧ W.cell? ⟨w.heap.size, 1, none⟩ = some (.slice A es.length cap) ∧ Below wr.heap.size wr W)
        (first
          | exact HSS.out _ (Below.refl _ _).drew
          | exact HSS.out _ ((Below.refl _ _).drew.trans hb4)
          | exact HSS.out _ (((Below.refl _ _).drew.trans hb4).trans (hb5.mono hb4.size)))
        (first
          | (go_at_call 41; refine (l2Edge_any B A cap es _ ix _ (HA.out _ (Below.refl _ _).drew) (by omega) hi HX.out).mono ?_; rw [HY.out]; rintro e w4 ⟨rfl, hb4⟩)
          | (go_at_call 54; refine (FL.out _ (HA.out _ ((Below.refl _ _).drew.trans hb4))).mono ?_; rintro e w5 ⟨rfl, hb5⟩))
      rename_i hHeld
      have HB5 := Lib.hid (HB.out.trans (hHeld.2.2.mono (by omega)))
      rw [HPP.out]
      clear hHeld HSS HA hb4 hb5 a1 a2 a3 a4 a5 a6 a7 a8 z1 z2 z3 z4 z5 z6 z7 z8 e2 FL
      have hpz := HPS.out
      by_cases hgt : o.size < pp.size
      · have HN : Hid (rowG (ebs es) (longE (ebs es)) b ((outsOf es b).take (k + 1)) = pp.data.toList) := Lib.hid (by
          rw [HTK.out, stepG_yes HE1.out (by rw [← HQS.out]; have : o.data.toList.length = o.size := by simp
                                             omega), HPD.out]; rfl)
        have hgi : (pp.size : Int) > (o.size : Int) := by omega
        clear hpz
        go_wp2_with fail
        go_roundw
        case rel => exact ⟨k + 1, pp, by omega, by go_num, rfl, HN.out.symm, HB5.out⟩
        case measure => simp [intOf]; omega
      · have HN : Hid (rowG (ebs es) (longE (ebs es)) b ((outsOf es b).take (k + 1)) = o.data.toList) := Lib.hid (by
          rw [HTK.out, stepG_short HE1.out (by rw [← HQS.out]; have : o.data.toList.length = o.size := by simp
                                               omega)])
        have hgi : ¬ ((pp.size : Int) > (o.size : Int)) := by omega
        clear hpz
        go_wp2_with fail
        go_roundw
        case rel => exact ⟨k + 1, o, by omega, by go_num, rfl, HN.out.symm, HB5.out⟩
        case measure => simp [intOf]; omega

end Go.Proofs.Ytcfcmlbbnpfejab
