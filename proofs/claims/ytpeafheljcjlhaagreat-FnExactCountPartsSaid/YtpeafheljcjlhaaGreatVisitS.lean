/- The way order by the model. -/
import Derived.Test.YtpeafheljcjlhaaGreatMath
import Derived.Test.YtpeafheljcjlhaaGreatOutL
import Derived.Test.YtpeafheljcjlhaaGreatPaths
import Derived.Deep.RegionHeld3
namespace Go.Proofs.YtpeafheljcjlhaaGreat
open Go.RowKit

/-- the letter to which an edge leads -/
def tgt (es : List (ByteArray × ByteArray)) (i : Nat) : UInt8 := ((ebs es).getD i ([], [])).2.headD 0
theorem tgt_at {es : List (ByteArray × ByteArray)} {i : Nat} {x y : UInt8} (h : (ebs es)[i]? = some ([x], [y])) : tgt es i = y := by
  simp [tgt, List.getD, h]

/-- the places of the edges of a block -/
def outsOf (es : List (ByteArray × ByteArray)) (b : UInt8) : List Nat := (List.range es.length).filter (outB es ⟨#[b]⟩)
theorem outsOf_mem {es : List (ByteArray × ByteArray)} {l : List UInt8} (hL : Lets l es) {b : UInt8} {i : Nat} (h : i ∈ outsOf es b) : ∃ (hi : i < es.length) (y : UInt8), (ebs es)[i]? = some ([b], [y]) ∧ es[i].2 = ⟨#[y]⟩ ∧ y ∈ l := by
  obtain ⟨h1, h2⟩ := List.mem_filter.1 h
  have hi : i < es.length := by simpa using h1
  obtain ⟨x, y, hx, hy, _, hyl⟩ := hL es[i] (List.getElem_mem hi)
  have hxb : x = b := by
    rw [outB_at hi, Lib.toList_data, Lib.toList_data, hx] at h2
    simpa using h2
  subst hxb
  exact ⟨hi, y, by simp only [ebs, List.getElem?_map, List.getElem?_eq_getElem hi, Option.map_some, hx, hy], bytes_one hy, hyl⟩

theorem tos_outs {es : List (ByteArray × ByteArray)} {l : List UInt8} (hL : Lets l es) (b : UInt8) : tos (ebs es) b = (outsOf es b).map (tgt es) := by
  have main : ∀ k, k ≤ es.length → tos ((ebs es).take k) b = ((List.range k).filter (outB es ⟨#[b]⟩)).map (tgt es) := by
    intro k
    induction k with
    | zero => intro _; rfl
    | succ k ih =>
      intro hk
      have hkl : k < es.length := by omega
      have hke : k < (ebs es).length := by simpa [ebs] using hkl
      obtain ⟨x, y, hx, hy, _, _⟩ := hL es[k] (List.getElem_mem hkl)
      have he : (ebs es)[k]? = some ([x], [y]) := by simp only [ebs, List.getElem?_map, List.getElem?_eq_getElem hkl, Option.map_some, hx, hy]
      have hg : (ebs es)[k] = ([x], [y]) := by rw [List.getElem?_eq_getElem hke] at he; injection he
      have ho : outB es ⟨#[b]⟩ k = (x == b) := by
        rw [outB_at hkl, Lib.toList_data, Lib.toList_data, hx]
        by_cases h : x = b <;> simp [h]
      have h0 := ih (by omega)
      unfold tos at h0 ⊢
      rw [List.take_succ_eq_append_getElem hke, List.filterMap_append, h0, hg, List.range_succ, List.filter_append, List.map_append]
      congr 1
      by_cases h : x = b
      · subst h
        rw [List.filter_cons_of_pos (by rw [ho]; simp)]
        simp [toFrom, tgt_at he]
      · rw [List.filter_cons_of_neg (by rw [ho]; simpa using h)]
        simp [toFrom, h]
  have := main es.length (Nat.le_refl _)
  rw [List.take_of_length_le (by simp [ebs])] at this
  exact this

/-- two texts handed back -/
def TwoTexts (st : Gone) (w : World) (e : Ending) (w' : World) : Prop := e = .returned (.tuple #[.string ⟨st.1.toArray⟩, .string ⟨st.2.toArray⟩]) ∧ Below w.heap.size w w'

set_option maxRecDepth 100000 in
set_option maxHeartbeats 4000000 in
/-- spec.l3Visit -/
theorem l3Visit_any (B : ByteArray) (A : Option Addr) (cap : Nat) (es : List (ByteArray × ByteArray)) (l : List UInt8) (hl : es.length ≤ 100) (hL : Lets l es) (hI : Into l (ebs es)) (h8 : l.length ≤ 8) : ∀ (f : Nat) (b : UInt8) (st : Gone) (w : World),
    EdgesIn w w.heap.size A es → GoneOk l st → b ∈ l → b ∉ st.1 → l.length ≤ st.1.length + f →
    Calls Tryz.prog 113 #[.agg #[.string B, .slice A es.length cap], .string ⟨#[b]⟩, .string ⟨st.1.toArray⟩, .string ⟨st.2.toArray⟩] w (TwoTexts (visit (ebs es) f b st) w)
  | 0, b, st, w, _, hok, hb, hn, hf => by
    have h1 := nodup_len (a := b :: st.1) (b := l) (List.nodup_cons.2 ⟨hn, hok.nodup⟩) (fun x hx => by
      rcases List.mem_cons.1 hx with e | hx
      · subst e; exact hb
      · exact hok.sub x hx)
    simp at h1; omega
  | f + 1, b, st, w, hE, hok, hb, hn, hf => by
    have IH := Lib.hid (l3Visit_any B A cap es l hl hL hI h8 f)
    have hokB := begin_ok hok hb hn
    have hlB : (st.1 ++ [b]).length ≤ 8 := Nat.le_trans (nodup_len hokB.nodup hokB.sub) h8
    have hl2 : st.2.length ≤ 8 := by have := hok.len; simp at hlB; omega
    have hb1 : Below w.heap.size w (w.alloc (.cells #[.string B, .slice A es.length cap] 31)) := (Below.refl _ _).alloc (Nat.le_refl _) _
    have t1 := Two.made w B A es.length cap 31
    have hz1 : (w.alloc (.cells #[.string B, .slice A es.length cap] 31)).heap.size = w.heap.size + 1 := by simp
    have s1 : (⟨st.1.toArray⟩ : ByteArray).size = st.1.length := by show st.1.toArray.size = _; simp
    have s2 : (⟨#[b]⟩ : ByteArray).size = 1 := rfl
    have a1 : ¬ 9223372036854775807 < (⟨st.1.toArray⟩ : ByteArray).size + (⟨#[b]⟩ : ByteArray).size := by simp at hlB; omega
    have hj : (⟨st.1.toArray⟩ ++ ⟨#[b]⟩ : ByteArray) = ⟨(st.1 ++ [b]).toArray⟩ := bytes_ext (by simp)
    obtain ⟨ob, hob⟩ : ∃ ob : ByteArray, (⟨(names (outB es ⟨#[b]⟩) es.length).toArray⟩ : ByteArray) = ob := ⟨_, rfl⟩
    have hobd : ob.data.toList = (outsOf es b).map nameOf := by rw [← hob]; rfl
    have hobs : ob.size = (outsOf es b).length := by
      have h := congrArg List.length hobd
      simpa using h
    have hol : (outsOf es b).length ≤ 100 := by
      have := names_length (outB es ⟨#[b]⟩) es.length
      have h2 : (names (outB es ⟨#[b]⟩) es.length).length = (outsOf es b).length := by simp [names, outsOf]
      omega
    have HOUT : Hid (∀ W : World, Below w.heap.size w W → Calls Tryz.prog 104 #[.agg #[.string B, .slice A es.length cap], .string ⟨#[b]⟩] W fun e w' => e = .returned (.string ob) ∧ Below W.heap.size W w') := Lib.hid fun W hW => by
      have h := outList_any B A cap es ⟨#[b]⟩ W ((hE.below hW).more hW.size) hl
      rwa [hob] at h
    have HJ := Lib.hid hj; have HOBD := Lib.hid hobd; have HOBS := Lib.hid hobs; have HTOS := Lib.hid (tos_outs hL b)
    have HOK := Lib.hid hok; have HOKB := Lib.hid hokB; have HB := Lib.hid hb; have HN := Lib.hid hn
    clear hj hob hobd hobs hok hb hn s1 s2
    go_enter Tryz.func113, Tryz.ntmps113
    go_wp2_with fail
    refine (HOUT.out _ hb1).mono ?_
    rintro e w2 ⟨rfl, hb2⟩
    rw [HJ.out]
    have t2 := t1.below hb2 (by omega)
    have hz2 : w.heap.size + 1 ≤ w2.heap.size := by have := hb2.size; omega
    have hb2' := hb1.trans (hb2.mono hb1.size)
    have HB2 := Lib.hid hb2'
    clear hb2 t1 hb1 hz1 a1 HOUT hb2' HJ
    go_wp2_with fail
    go_loopw [2, 3, 11] (fun a d c wr => ∃ (j : Nat) (cur : Gone), j ≤ (outsOf es b).length ∧ c = .int .i64 ((j : Int) - 1) ∧ a = .string ⟨cur.1.toArray⟩ ∧ d = .string ⟨cur.2.toArray⟩ ∧ partV (ebs es) f (st.1 ++ [b], st.2) ((tos (ebs es) b).drop j) = cur ∧ Below w2.heap.size w2 wr) (fun _ _ c _ => (intOf c + 1).toNat)
    case atStart => exact ⟨(outsOf es b).length, (st.1 ++ [b], st.2), Nat.le_refl _, by rw [HOBS.out]; exact congrArg (Value.int IntKind.i64) (by unfold wrap64; omega), rfl, rfl, by rw [List.drop_of_length_le (by rw [HTOS.out]; simp)]; rfl, Below.refl _ _⟩
    case round =>
      obtain ⟨j, cur, hj, rfl, rfl, rfl, hcur, hb⟩ := hrel
      have hon := partV_on hI f _ HOKB.out ((tos (ebs es) b).drop j) (fun c hc => tos_sub hI b c (List.mem_of_mem_drop hc))
      rw [hcur] at hon
      have h2 : cur.1.length ≤ 8 := Nat.le_trans (nodup_len hon.ok.nodup hon.ok.sub) h8
      have h3 : cur.2.length ≤ 8 := Nat.le_trans hon.ok.len h2
      have hcl : st.1.length + 1 ≤ cur.1.length := by
        obtain ⟨t, ht⟩ := hon.pre
        have := congrArg List.length ht
        simp at this; omega
      have HCUR := Lib.hid hcur; have HON := Lib.hid hon; have HB := Lib.hid hb
      have tr := t2.below hb (by omega)
      have hzr := hb.size
      clear hcur hon hb
      cases j with
      | zero =>
        have HV : Hid (visit (ebs es) (f + 1) b st = (cur.1, b :: cur.2)) := Lib.hid (by rw [visit_succ, ← HCUR.out]; simp)
        have s2 : (⟨cur.2.toArray⟩ : ByteArray).size = cur.2.length := by show cur.2.toArray.size = _; simp
        have s3 : (⟨#[b]⟩ : ByteArray).size = 1 := rfl
        have a1 : ¬ 9223372036854775807 < (⟨#[b]⟩ : ByteArray).size + (⟨cur.2.toArray⟩ : ByteArray).size := by omega
        have HJ : Hid ((⟨#[b]⟩ ++ ⟨cur.2.toArray⟩ : ByteArray) = ⟨(b :: cur.2).toArray⟩) := Lib.hid (bytes_ext (by simp))
        clear tr s2 s3
        go_wp2_with fail
        go_ret2
        exact ⟨by rw [HV.out, ← HJ.out]; rfl, HB2.out.trans (HB.out.mono (by omega))⟩
      | succ j =>
        have hjl : j < (outsOf es b).length := by omega
        obtain ⟨ix, hix⟩ : ∃ ix, (outsOf es b)[j] = ix := ⟨_, rfl⟩
        have hmem : ix ∈ outsOf es b := hix ▸ List.getElem_mem hjl
        obtain ⟨hi, y, hy, hy2, hyl⟩ := outsOf_mem hL hmem
        have hdrop : (tos (ebs es) b).drop j = y :: (tos (ebs es) b).drop (j + 1) := by
          have hl : j < (tos (ebs es) b).length := by rw [HTOS.out]; simpa using hjl
          rw [List.drop_eq_getElem_cons hl]
          have : (tos (ebs es) b)[j] = y := by
            simp only [HTOS.out, List.getElem_map, hix, tgt_at hy]
          rw [this]
        have HNEXT : Hid (partV (ebs es) f (st.1 ++ [b], st.2) ((tos (ebs es) b).drop j) = stepV (ebs es) f y cur) := Lib.hid (by rw [hdrop, partV_cons, HCUR.out])
        have hlk : j < ob.size := by rw [HOBS.out]; exact hjl
        have hel : (ob.extract j (j + 1)).data.toList = [nameOf ix] := by
          rw [letter_at hlk, HOBD.out]
          simp [List.getD, hjl, hix]
        have HX : Hid (eIdx es.length (ob.extract j (j + 1)).data.toList = ix) := Lib.hid (by rw [hel]; exact eIdx_name hi (by omega))
        have HY := Lib.hid hy2
        have hS : ∀ W, Below wr.heap.size wr W → (W.cell? ⟨w.heap.size, 0, none⟩ = some (.string B) ∧ W.cell? ⟨w.heap.size, 1, none⟩ = some (.slice A es.length cap) ∧ Below wr.heap.size wr W) :=
          fun W h => ⟨(h.cell (by simp only; omega)).trans tr.1, (h.cell (by simp only; omega)).trans tr.2, h⟩
        have HSS := Lib.hid hS
        have hbw := HB2.out.trans (HB.out.mono (show w.heap.size ≤ w2.heap.size by omega))
        have HA : Hid (EdgesIn wr.drew wr.drew.heap.size A es) := Lib.hid ((hE.below hbw.drew).more hbw.drew.size)
        have e1 : ((j + 1 : Nat) : Int) - 1 = (j : Int) := by omega
        rw [e1]
        have HOS := HOBS.out
        clear hS hix hmem hy hy2 hdrop hel e1 hbw
        have a1 : (0 : Int) ≤ (j : Int) := by omega
        have a2 : (j : Int) < (ob.size : Int) := by omega
        have a4 : (0 : Int) ≤ (j : Int) + 1 := by omega
        have a5 : ((j : Int) + 1).toNat = j + 1 := by omega
        have a6 : (j : Int) + 1 ≤ (ob.size : Int) := by omega
        have a7 : j + 1 ≤ ob.size := by omega
        have a8 : (j : Int) ≤ (j : Int) + 1 := by omega
        have a3 : IntKind.i64.wrap ((j : Int) + 1) = (j : Int) + 1 := IntWalk.i64_in _ (by omega)
        have e2 := edge_to
        clear HOS
        go_wp2_with fail
        go_region_held3 (fun W => W.cell? ⟨w.heap.size, 0, none⟩ = some (.string B) ∧ W.cell? ⟨w.heap.size, 1, none⟩ = some (.slice A es.length cap) ∧ Below wr.heap.size wr W)
          (first
            | exact HSS.out _ (Below.refl _ _).drew
            | exact HSS.out _ ((Below.refl _ _).drew.trans hb4))
          (first
            | (go_at_call 47; refine (l2Edge_any B A cap es _ ix _ HA.out (by omega) hi HX.out).mono ?_; rw [HY.out]; rintro e w4 ⟨rfl, hb4⟩))
        rename_i hHeld
        have hd0 := hHeld.1; have hd1 := hHeld.2.1
        have HB4 := Lib.hid (HB.out.trans (hHeld.2.2.mono (by omega)))
        have hz4 := hHeld.2.2.size
        clear hHeld HSS HA hb4 a1 a2 a3 a4 a5 a6 a7 a8 e2 tr
        obtain ⟨fi, hfi⟩ : ∃ fi, Lib.indexByte cur.1 y = fi := ⟨_, rfl⟩
        have HFIND : Hid (∀ W : World, Calls Tryz.prog 51 #[.string ⟨cur.1.toArray⟩, .int .u8 y.toNat] W fun e w' => e = .returned (.int .i64 fi) ∧ W = w') := Lib.hid fun W => by
          have hs : (⟨cur.1.toArray⟩ : ByteArray).size = cur.1.length := by show cur.1.toArray.size = _; simp
          have := find_any ⟨cur.1.toArray⟩ y W (by rw [hs]; unfold maxLen; omega)
          simpa [hfi] using this
        by_cases hm : y ∈ cur.1
        · have hfi0 : 0 ≤ fi := by rw [← hfi]; exact indexByte_nonneg.2 hm
          have HST : Hid (partV (ebs es) f (st.1 ++ [b], st.2) ((tos (ebs es) b).drop j) = cur) := Lib.hid (by rw [HNEXT.out, stepV_no hm])
          clear hfi hm
          go_wp2_with (go_at_call 51; refine (HFIND.out _).mono ?_; rintro e w5 ⟨rfl, rfl⟩)
          go_roundw
          case rel => exact ⟨j, cur, by omega, by go_num, rfl, rfl, HST.out, HB4.out⟩
          case measure => simp [intOf]
        · have hfi0 : fi < 0 := by
            have : ¬ 0 ≤ fi := by rw [← hfi]; exact fun h => hm (indexByte_nonneg.1 h)
            omega
          have HST : Hid (partV (ebs es) f (st.1 ++ [b], st.2) ((tos (ebs es) b).drop j) = visit (ebs es) f y cur) := Lib.hid (by rw [HNEXT.out, stepV_yes hm])
          have HCALL : Hid (∀ W : World, Below w4.heap.size w4 W → Calls Tryz.prog 113 #[.agg #[.string B, .slice A es.length cap], .string ⟨#[y]⟩, .string ⟨cur.1.toArray⟩, .string ⟨cur.2.toArray⟩] W (TwoTexts (visit (ebs es) f y cur) W)) := Lib.hid fun W hW => by
            have hbw := HB2.out.trans ((HB4.out.trans (hW.mono HB4.out.size)).mono (show w.heap.size ≤ w2.heap.size by omega))
            exact IH.out y cur W ((hE.below hbw).more hbw.size) HON.out.ok hyl hm (by omega)
          clear hfi hm
          go_wp2_with (go_at_call 51; refine (HFIND.out _).mono ?_; rintro e w5 ⟨rfl, rfl⟩)
          refine (HCALL.out _ (Below.refl _ _)).mono ?_
          rintro e w6 ⟨rfl, hb6⟩
          have HB6 := Lib.hid (HB4.out.trans (hb6.mono HB4.out.size))
          clear hb6 hd0 hd1 HCALL HFIND
          go_wp2_with fail
          go_roundw
          case rel => exact ⟨j, visit (ebs es) f y cur, by omega, by go_num, rfl, rfl, HST.out, HB6.out⟩
          case measure => simp [intOf]

end Go.Proofs.YtpeafheljcjlhaaGreat
