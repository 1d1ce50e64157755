/- Values and sums by the model. -/
import Derived.Test.YtjfdkhaepmmlfaaNet1
import Derived.Test.YtjfdkhaepmmlfaaTurn
import Derived.Test.YtjfdkhaepmmlfaaValid
import Derived.Test.YtjfdkhaepmmlfaaSpec2
import Derived.Test.YtjfdkhaepmmlfaaMath
import Derived.Test.YtjfdkhaepmmlfaaPaths
import Derived.Test.YtjfdkhaepmmlfaaRegion
import Derived.Test.YtjfdkhaepmmlfaaZ6W
import Derived.Test.YtjfdkhaepmmlfaaMem
import Derived.Test.YtjfdkhaepmmlfaaNetQ
import Derived.Test.YtjfdkhaepmmlfaaZ6A
import Derived.Deep.RegionHeld3
import Derived.BigRegion
import Derived.Deep.RegionWith
import Derived.Deep.DrawnRows
namespace Go.Proofs.Ytjfdkhaepmmlfaa
open Go.RowKit

/-- one number, and all that lay is kept -/
def IntPost (v : Int) (w : World) (e : Ending) (w' : World) : Prop := e = .returned (.int .i64 v) ∧ Below w.heap.size w w'

end Go.Proofs.Ytjfdkhaepmmlfaa

namespace Go.Proofs.Ytjfdkhaepmmlfaa
open Go.RowKit

set_option maxRecDepth 100000 in
/-- spec.l1Name -/
theorem l1Name_any (k : Nat) (hk : k ≤ 100) (w : World) :
    Calls Try.prog 64 #[.int .i64 k] w fun e w' => e = .returned (.string ⟨#[nameOf k]⟩) ∧ Below w.heap.size w w' := by
  have hback : (convert 124 9 (.slice (some ⟨w.heap.size, 0, none⟩) 1 1)).run Try.prog (w.alloc (.cells #[.int .u8 (97 + (k : Int))] 5)) = .ok (.string ⟨#[nameOf k]⟩) (w.alloc (.cells #[.int .u8 (97 + (k : Int))] 5)) := by
    have h := run_convert_bytes_back (P := Try.prog) (w.alloc (.cells #[.int .u8 (97 + (k : Int))] 5)) 124 9 5 ⟨w.heap.size, 0, none⟩ 1 [nameOf k] Try.underlying124 Try.underlying5 Try.underlying9 (fun j hj => by
      have hj0 : j = 0 := by simpa using hj
      subst hj0
      have hu := nameOf_toNat hk
      simp [Addr.add, hu])
    simpa using h
  have hb : Below w.heap.size w (w.alloc (.cells #[.int .u8 (97 + (k : Int))] 5)) := (Below.refl _ _).alloc (Nat.le_refl _) _
  go_enter Try.func64, Try.ntmps64
  go_wp2_with fail
  go_ret
  exact ⟨rfl, hb⟩

end Go.Proofs.Ytjfdkhaepmmlfaa

namespace Go.Proofs.Ytjfdkhaepmmlfaa
open Go.RowKit

/-- the edges of the block -/
def outB (es : List (ByteArray × ByteArray)) (b : ByteArray) (i : Nat) : Bool := (es.getD i (⟨#[]⟩, ⟨#[]⟩)).1.toList == b.toList
theorem outB_at {es : List (ByteArray × ByteArray)} {b : ByteArray} {k : Nat} (h : k < es.length) : outB es b k = (es[k].1.toList == b.toList) := by simp [outB, List.getD, h]

/-- their names, of a net that is one -/
noncomputable def outV (B : ByteArray) (es : List (ByteArray × ByteArray)) (b : ByteArray) : ByteArray × Bool := textV (Valid B.data.toList (ebs es) ∧ 0 ≤ bIdx B.data.toList b.data.toList) (names (outB es b) es.length)

set_option maxRecDepth 100000 in
set_option maxHeartbeats 2000000 in
/-- spec.l1Out -/
theorem outList_any (B : ByteArray) (A : Option Addr) (cap : Nat) (es : List (ByteArray × ByteArray)) (b : ByteArray) (w : World) (hE : EdgesIn w w.heap.size A es) (hn : es.length ≤ 100) :
    Calls Try.prog 97 #[.agg #[.string B, .slice A es.length cap], .string b] w fun e w' => e = .returned (.string ⟨(names (outB es b) es.length).toArray⟩) ∧ Below w.heap.size w w' := by
  have hb1 : Below w.heap.size w (w.alloc (.cells #[.string B, .slice A es.length cap] 30)) := (Below.refl _ _).alloc (Nat.le_refl _) _
  go_enter Try.func97, Try.ntmps97
  go_wp2_with fail
  generalize hW1 : w.alloc (.cells #[.string B, .slice A es.length cap] 30) = w1 at hb1 ⊢
  clear hW1
  go_loopw [5, 11] (fun out i wr => ∃ (k : Nat) (s : ByteArray), k ≤ es.length ∧ i = .int .i64 k ∧ out = .string s ∧ s.data.toList = names (outB es b) k ∧ Below w.heap.size w wr) (fun _ i _ => es.length - (intOf i).toNat)
  case atStart => exact ⟨0, ⟨#[]⟩, Nat.zero_le _, rfl, rfl, rfl, hb1⟩
  case round =>
    obtain ⟨k, s, hkn, rfl, rfl, hs, hb⟩ := hrel
    have hz := str_size hs
    have hz2 := names_length (outB es b) k
    have HS := Lib.hid hs
    clear hs
    by_cases hkl : k < es.length
    · have hsz : ¬ 9223372036854775807 < s.size + (⟨#[nameOf k]⟩ : ByteArray).size := by
        have : (⟨#[nameOf k]⟩ : ByteArray).size = 1 := rfl
        omega
      clear hz hz2
      obtain ⟨eb, eo, rfl, hlow, h1, h2⟩ := (hE.below hb) k hkl
      have hbn : Below w.heap.size w (wr.alloc (.cells #[.string es[k].1, .string es[k].2] 104)) := hb.alloc hb.size _
      have hp := outB_at (b := b) hkl
      cases ht : (es[k].1.toList == b.toList) with
      | false =>
        have HP : Hid (names (outB es b) (k + 1) = names (outB es b) k) := Lib.hid (names_no (hp.trans ht))
        clear hp
        go_wp2_with fail
        go_roundw
        case rel => exact ⟨k + 1, s, by omega, by go_num, rfl, by rw [HP.out]; exact HS.out, hbn⟩
        case measure => simp [intOf]; omega
      | true =>
        have HP : Hid (names (outB es b) (k + 1) = names (outB es b) k ++ [nameOf k]) := Lib.hid (names_yes (hp.trans ht))
        clear hp
        go_wp2_with (go_at_call 64; refine (l1Name_any k (by omega) _).mono ?_; rintro e w3 ⟨rfl, hb3⟩)
        go_roundw
        case rel => exact ⟨k + 1, _, by omega, by go_num, rfl, by rw [HP.out]; exact str_snoc HS.out, hbn.trans (hb3.mono hbn.size)⟩
        case measure => simp [intOf]; omega
    · go_wp2_with fail
      go_ret
      have hkn' : k = es.length := by omega
      subst hkn'
      exact ⟨by rw [str_ext HS.out]; rfl, hb⟩

end Go.Proofs.Ytjfdkhaepmmlfaa

namespace Go.Proofs.Ytjfdkhaepmmlfaa
open Go.RowKit

/-- the letter to which an edge leads -/
def tgt (es : List (ByteArray × ByteArray)) (i : Nat) : UInt8 := ((ebs es).getD i ([], [])).2.headD 0
theorem tgt_at {es : List (ByteArray × ByteArray)} {i : Nat} {x y : UInt8} (h : (ebs es)[i]? = some ([x], [y])) : tgt es i = y := by
  simp [tgt, List.getD, h]

/-- the places of the edges of a block -/
def outsOf (es : List (ByteArray × ByteArray)) (b : UInt8) : List Nat := (List.range es.length).filter (outB es ⟨#[b]⟩)
theorem outsOf_mem {es : List (ByteArray × ByteArray)} {l : List UInt8} (hL : Lets l es) {b : UInt8} {i : Nat} (h : i ∈ outsOf es b) : ∃ (hi : i < es.length) (y : UInt8), (ebs es)[i]? = some ([b], [y]) ∧ es[i].2 = ⟨#[y]⟩ ∧ y ∈ l := by
  obtain ⟨h1, h2⟩ := List.mem_filter.1 h
  have hi : i < es.length := by simpa using h1
  obtain ⟨x, y, hx, hy, _, hyl⟩ := hL es[i] (List.getElem_mem hi)
  have hxb : x = b := by
    rw [outB_at hi, Lib.toList_data, Lib.toList_data, hx] at h2
    simpa using h2
  subst hxb
  exact ⟨hi, y, by simp only [ebs, List.getElem?_map, List.getElem?_eq_getElem hi, Option.map_some, hx, hy], bytes_one hy, hyl⟩

theorem tos_outs {es : List (ByteArray × ByteArray)} {l : List UInt8} (hL : Lets l es) (b : UInt8) : tos (ebs es) b = (outsOf es b).map (tgt es) := by
  have main : ∀ k, k ≤ es.length → tos ((ebs es).take k) b = ((List.range k).filter (outB es ⟨#[b]⟩)).map (tgt es) := by
    intro k
    induction k with
    | zero => intro _; rfl
    | succ k ih =>
      intro hk
      have hkl : k < es.length := by omega
      have hke : k < (ebs es).length := by simpa [ebs] using hkl
      obtain ⟨x, y, hx, hy, _, _⟩ := hL es[k] (List.getElem_mem hkl)
      have he : (ebs es)[k]? = some ([x], [y]) := by simp only [ebs, List.getElem?_map, List.getElem?_eq_getElem hkl, Option.map_some, hx, hy]
      have hg : (ebs es)[k] = ([x], [y]) := by rw [List.getElem?_eq_getElem hke] at he; injection he
      have ho : outB es ⟨#[b]⟩ k = (x == b) := by
        rw [outB_at hkl, Lib.toList_data, Lib.toList_data, hx]
        by_cases h : x = b <;> simp [h]
      have h0 := ih (by omega)
      unfold tos at h0 ⊢
      rw [List.take_succ_eq_append_getElem hke, List.filterMap_append, h0, hg, List.range_succ, List.filter_append, List.map_append]
      congr 1
      by_cases h : x = b
      · subst h
        rw [List.filter_cons_of_pos (by rw [ho]; simp)]
        simp [toFrom, tgt_at he]
      · rw [List.filter_cons_of_neg (by rw [ho]; simpa using h)]
        simp [toFrom, h]
  have := main es.length (Nat.le_refl _)
  rw [List.take_of_length_le (by simp [ebs])] at this
  exact this

/-- two texts handed back -/
def TwoTexts (st : Gone) (w : World) (e : Ending) (w' : World) : Prop := e = .returned (.tuple #[.string ⟨st.1.toArray⟩, .string ⟨st.2.toArray⟩]) ∧ Below w.heap.size w w'

set_option maxRecDepth 100000 in
set_option maxHeartbeats 4000000 in
/-- spec.l3Visit -/
theorem l3Visit_any (B : ByteArray) (A : Option Addr) (cap : Nat) (es : List (ByteArray × ByteArray)) (l : List UInt8) (hl : es.length ≤ 100) (hL : Lets l es) (hI : Into l (ebs es)) (h8 : l.length ≤ 8) : ∀ (f : Nat) (b : UInt8) (st : Gone) (w : World),
    EdgesIn w w.heap.size A es → GoneOk l st → b ∈ l → b ∉ st.1 → l.length ≤ st.1.length + f →
    Calls Try.prog 135 #[.agg #[.string B, .slice A es.length cap], .string ⟨#[b]⟩, .string ⟨st.1.toArray⟩, .string ⟨st.2.toArray⟩] w (TwoTexts (visit (ebs es) f b st) w)
  | 0, b, st, w, _, hok, hb, hn, hf => by
    have h1 := nodup_len (a := b :: st.1) (b := l) (List.nodup_cons.2 ⟨hn, hok.nodup⟩) (fun x hx => by
      rcases List.mem_cons.1 hx with e | hx
      · subst e; exact hb
      · exact hok.sub x hx)
    simp at h1; omega
  | f + 1, b, st, w, hE, hok, hb, hn, hf => by
    have IH := Lib.hid (l3Visit_any B A cap es l hl hL hI h8 f)
    have hokB := begin_ok hok hb hn
    have hlB : (st.1 ++ [b]).length ≤ 8 := Nat.le_trans (nodup_len hokB.nodup hokB.sub) h8
    have hl2 : st.2.length ≤ 8 := by have := hok.len; simp at hlB; omega
    have hb1 : Below w.heap.size w (w.alloc (.cells #[.string B, .slice A es.length cap] 30)) := (Below.refl _ _).alloc (Nat.le_refl _) _
    have t1 := Two.made w B A es.length cap 30
    have hz1 : (w.alloc (.cells #[.string B, .slice A es.length cap] 30)).heap.size = w.heap.size + 1 := by simp
    have s1 : (⟨st.1.toArray⟩ : ByteArray).size = st.1.length := by show st.1.toArray.size = _; simp
    have s2 : (⟨#[b]⟩ : ByteArray).size = 1 := rfl
    have a1 : ¬ 9223372036854775807 < (⟨st.1.toArray⟩ : ByteArray).size + (⟨#[b]⟩ : ByteArray).size := by simp at hlB; omega
    have hj : (⟨st.1.toArray⟩ ++ ⟨#[b]⟩ : ByteArray) = ⟨(st.1 ++ [b]).toArray⟩ := bytes_ext (by simp)
    obtain ⟨ob, hob⟩ : ∃ ob : ByteArray, (⟨(names (outB es ⟨#[b]⟩) es.length).toArray⟩ : ByteArray) = ob := ⟨_, rfl⟩
    have hobd : ob.data.toList = (outsOf es b).map nameOf := by rw [← hob]; rfl
    have hobs : ob.size = (outsOf es b).length := by
      have h := congrArg List.length hobd
      simpa using h
    have hol : (outsOf es b).length ≤ 100 := by
      have := names_length (outB es ⟨#[b]⟩) es.length
      have h2 : (names (outB es ⟨#[b]⟩) es.length).length = (outsOf es b).length := by simp [names, outsOf]
      omega
    have HOUT : Hid (∀ W : World, Below w.heap.size w W → Calls Try.prog 97 #[.agg #[.string B, .slice A es.length cap], .string ⟨#[b]⟩] W fun e w' => e = .returned (.string ob) ∧ Below W.heap.size W w') := Lib.hid fun W hW => by
      have h := outList_any B A cap es ⟨#[b]⟩ W ((hE.below hW).more hW.size) hl
      rwa [hob] at h
    have HJ := Lib.hid hj; have HOBD := Lib.hid hobd; have HOBS := Lib.hid hobs; have HTOS := Lib.hid (tos_outs hL b)
    have HOK := Lib.hid hok; have HOKB := Lib.hid hokB; have HB := Lib.hid hb; have HN := Lib.hid hn
    clear hj hob hobd hobs hok hb hn s1 s2
    go_enter Try.func135, Try.ntmps135
    go_wp2_with fail
    refine (HOUT.out _ hb1).mono ?_
    rintro e w2 ⟨rfl, hb2⟩
    rw [HJ.out]
    have t2 := t1.below hb2 (by omega)
    have hz2 : w.heap.size + 1 ≤ w2.heap.size := by have := hb2.size; omega
    have hb2' := hb1.trans (hb2.mono hb1.size)
    have HB2 := Lib.hid hb2'
    clear hb2 t1 hb1 hz1 a1 HOUT hb2' HJ
    go_wp2_with fail
    go_loopw [2, 3, 11] (fun a d c wr => ∃ (j : Nat) (cur : Gone), j ≤ (outsOf es b).length ∧ c = .int .i64 ((j : Int) - 1) ∧ a = .string ⟨cur.1.toArray⟩ ∧ d = .string ⟨cur.2.toArray⟩ ∧ partV (ebs es) f (st.1 ++ [b], st.2) ((tos (ebs es) b).drop j) = cur ∧ Below w2.heap.size w2 wr) (fun _ _ c _ => (intOf c + 1).toNat)
    case atStart => exact ⟨(outsOf es b).length, (st.1 ++ [b], st.2), Nat.le_refl _, by rw [HOBS.out]; exact congrArg (Value.int IntKind.i64) (by unfold wrap64; omega), rfl, rfl, by rw [List.drop_of_length_le (by rw [HTOS.out]; simp)]; rfl, Below.refl _ _⟩
    case round =>
      obtain ⟨j, cur, hj, rfl, rfl, rfl, hcur, hb⟩ := hrel
      have hon := partV_on hI f _ HOKB.out ((tos (ebs es) b).drop j) (fun c hc => tos_sub hI b c (List.mem_of_mem_drop hc))
      rw [hcur] at hon
      have h2 : cur.1.length ≤ 8 := Nat.le_trans (nodup_len hon.ok.nodup hon.ok.sub) h8
      have h3 : cur.2.length ≤ 8 := Nat.le_trans hon.ok.len h2
      have hcl : st.1.length + 1 ≤ cur.1.length := by
        obtain ⟨t, ht⟩ := hon.pre
        have := congrArg List.length ht
        simp at this; omega
      have HCUR := Lib.hid hcur; have HON := Lib.hid hon; have HB := Lib.hid hb
      have tr := t2.below hb (by omega)
      have hzr := hb.size
      clear hcur hon hb
      cases j with
      | zero =>
        have HV : Hid (visit (ebs es) (f + 1) b st = (cur.1, b :: cur.2)) := Lib.hid (by rw [visit_succ, ← HCUR.out]; simp)
        have s2 : (⟨cur.2.toArray⟩ : ByteArray).size = cur.2.length := by show cur.2.toArray.size = _; simp
        have s3 : (⟨#[b]⟩ : ByteArray).size = 1 := rfl
        have a1 : ¬ 9223372036854775807 < (⟨#[b]⟩ : ByteArray).size + (⟨cur.2.toArray⟩ : ByteArray).size := by omega
        have HJ : Hid ((⟨#[b]⟩ ++ ⟨cur.2.toArray⟩ : ByteArray) = ⟨(b :: cur.2).toArray⟩) := Lib.hid (bytes_ext (by simp))
        clear tr s2 s3
        go_wp2_with fail
        go_ret2
        exact ⟨by rw [HV.out, ← HJ.out]; rfl, HB2.out.trans (HB.out.mono (by omega))⟩
      | succ j =>
        have hjl : j < (outsOf es b).length := by omega
        obtain ⟨ix, hix⟩ : ∃ ix, (outsOf es b)[j] = ix := ⟨_, rfl⟩
        have hmem : ix ∈ outsOf es b := hix ▸ List.getElem_mem hjl
        obtain ⟨hi, y, hy, hy2, hyl⟩ := outsOf_mem hL hmem
        have hdrop : (tos (ebs es) b).drop j = y :: (tos (ebs es) b).drop (j + 1) := by
          have hl : j < (tos (ebs es) b).length := by rw [HTOS.out]; simpa using hjl
          rw [List.drop_eq_getElem_cons hl]
          have : (tos (ebs es) b)[j] = y := by
            simp only [HTOS.out, List.getElem_map, hix, tgt_at hy]
          rw [this]
        have HNEXT : Hid (partV (ebs es) f (st.1 ++ [b], st.2) ((tos (ebs es) b).drop j) = stepV (ebs es) f y cur) := Lib.hid (by rw [hdrop, partV_cons, HCUR.out])
        have hlk : j < ob.size := by rw [HOBS.out]; exact hjl
        have hel : (ob.extract j (j + 1)).data.toList = [nameOf ix] := by
          rw [letter_at hlk, HOBD.out]
          simp [List.getD, hjl, hix]
        have HX : Hid (eIdx es.length (ob.extract j (j + 1)).data.toList = ix) := Lib.hid (by rw [hel]; exact eIdx_name hi (by omega))
        have HY := Lib.hid hy2
        have hS : ∀ W, Below wr.heap.size wr W → (W.cell? ⟨w.heap.size, 0, none⟩ = some (.string B) ∧ W.cell? ⟨w.heap.size, 1, none⟩ = some (.slice A es.length cap) ∧ Below wr.heap.size wr W) :=
          fun W h => ⟨(h.cell (by simp only; omega)).trans tr.1, (h.cell (by simp only; omega)).trans tr.2, h⟩
        have HSS := Lib.hid hS
        have hbw := HB2.out.trans (HB.out.mono (show w.heap.size ≤ w2.heap.size by omega))
        have HA : Hid (EdgesIn wr.drew wr.drew.heap.size A es) := Lib.hid ((hE.below hbw.drew).more hbw.drew.size)
        have e1 : ((j + 1 : Nat) : Int) - 1 = (j : Int) := by omega
        rw [e1]
        have HOS := HOBS.out
        clear hS hix hmem hy hy2 hdrop hel e1 hbw
        have a1 : (0 : Int) ≤ (j : Int) := by omega
        have a2 : (j : Int) < (ob.size : Int) := by omega
        have a4 : (0 : Int) ≤ (j : Int) + 1 := by omega
        have a5 : ((j : Int) + 1).toNat = j + 1 := by omega
        have a6 : (j : Int) + 1 ≤ (ob.size : Int) := by omega
        have a7 : j + 1 ≤ ob.size := by omega
        have a8 : (j : Int) ≤ (j : Int) + 1 := by omega
        have a3 : IntKind.i64.wrap ((j : Int) + 1) = (j : Int) + 1 := IntWalk.i64_in _ (by omega)
        have e2 := edge_to
        clear HOS
        go_wp2_with fail
        go_region_held3 (fun W => W.cell? ⟨w.heap.size, 0, none⟩ = some (.string B) ∧ W.cell? ⟨w.heap.size, 1, none⟩ = some (.slice A es.length cap) ∧ Below wr.heap.size wr W)
          (first
            | exact HSS.out _ (Below.refl _ _).drew
            | exact HSS.out _ ((Below.refl _ _).drew.trans hb4))
          (first
            | (go_at_call 98; refine (l2Edge_any B A cap es _ ix _ HA.out (by omega) hi HX.out).mono ?_; rw [HY.out]; rintro e w4 ⟨rfl, hb4⟩))
        rename_i hHeld
        have hd0 := hHeld.1; have hd1 := hHeld.2.1
        have HB4 := Lib.hid (HB.out.trans (hHeld.2.2.mono (by omega)))
        have hz4 := hHeld.2.2.size
        clear hHeld HSS HA hb4 a1 a2 a3 a4 a5 a6 a7 a8 e2 tr
        obtain ⟨fi, hfi⟩ : ∃ fi, Lib.indexByte cur.1 y = fi := ⟨_, rfl⟩
        have HFIND : Hid (∀ W : World, Calls Try.prog 96 #[.string ⟨cur.1.toArray⟩, .int .u8 y.toNat] W fun e w' => e = .returned (.int .i64 fi) ∧ W = w') := Lib.hid fun W => by
          have hs : (⟨cur.1.toArray⟩ : ByteArray).size = cur.1.length := by show cur.1.toArray.size = _; simp
          have := find_any ⟨cur.1.toArray⟩ y W (by rw [hs]; unfold maxLen; omega)
          simpa [hfi] using this
        by_cases hm : y ∈ cur.1
        · have hfi0 : 0 ≤ fi := by rw [← hfi]; exact indexByte_nonneg.2 hm
          have HST : Hid (partV (ebs es) f (st.1 ++ [b], st.2) ((tos (ebs es) b).drop j) = cur) := Lib.hid (by rw [HNEXT.out, stepV_no hm])
          clear hfi hm
          go_wp2_with (go_at_call 96; refine (HFIND.out _).mono ?_; rintro e w5 ⟨rfl, rfl⟩)
          go_roundw
          case rel => exact ⟨j, cur, by omega, by go_num, rfl, rfl, HST.out, HB4.out⟩
          case measure => simp [intOf]
        · have hfi0 : fi < 0 := by
            have : ¬ 0 ≤ fi := by rw [← hfi]; exact fun h => hm (indexByte_nonneg.1 h)
            omega
          have HST : Hid (partV (ebs es) f (st.1 ++ [b], st.2) ((tos (ebs es) b).drop j) = visit (ebs es) f y cur) := Lib.hid (by rw [HNEXT.out, stepV_yes hm])
          have HCALL : Hid (∀ W : World, Below w4.heap.size w4 W → Calls Try.prog 135 #[.agg #[.string B, .slice A es.length cap], .string ⟨#[y]⟩, .string ⟨cur.1.toArray⟩, .string ⟨cur.2.toArray⟩] W (TwoTexts (visit (ebs es) f y cur) W)) := Lib.hid fun W hW => by
            have hbw := HB2.out.trans ((HB4.out.trans (hW.mono HB4.out.size)).mono (show w.heap.size ≤ w2.heap.size by omega))
            exact IH.out y cur W ((hE.below hbw).more hbw.size) HON.out.ok hyl hm (by omega)
          clear hfi hm
          go_wp2_with (go_at_call 96; refine (HFIND.out _).mono ?_; rintro e w5 ⟨rfl, rfl⟩)
          refine (HCALL.out _ (Below.refl _ _)).mono ?_
          rintro e w6 ⟨rfl, hb6⟩
          have HB6 := Lib.hid (HB4.out.trans (hb6.mono HB4.out.size))
          clear hb6 hd0 hd1 HCALL HFIND
          go_wp2_with fail
          go_roundw
          case rel => exact ⟨j, visit (ebs es) f y cur, by omega, by go_num, rfl, rfl, HST.out, HB6.out⟩
          case measure => simp [intOf]

end Go.Proofs.Ytjfdkhaepmmlfaa

namespace Go.Proofs.Ytjfdkhaepmmlfaa
open Go.RowKit

theorem one_byte {b : ByteArray} {c : UInt8} (h : b.data.toList = [c]) : b = ⟨#[c]⟩ := bytes_ext (by rw [h])

theorem into_of {l : List UInt8} {es : List (ByteArray × ByteArray)} (h : Lets l es) : Into l (ebs es) := by
  intro x y hm
  simp only [ebs, List.mem_map, Prod.mk.injEq] at hm
  obtain ⟨e, he, h1, h2⟩ := hm
  obtain ⟨x', y', hx', hy', _, hy⟩ := h e he
  rw [hy'] at h2
  injection h2 with h2
  subst h2; exact hy

theorem edge_letters {es : List (ByteArray × ByteArray)} {l : List UInt8} (hL : Lets l es) {k : Nat} (h : k < es.length) : ∃ x y, (ebs es)[k]? = some ([x], [y]) ∧ es[k].1 = ⟨#[x]⟩ ∧ es[k].2 = ⟨#[y]⟩ ∧ x ∈ l ∧ y ∈ l := by
  obtain ⟨x, y, hx, hy, hxl, hyl⟩ := hL es[k] (List.getElem_mem h)
  exact ⟨x, y, by simp only [ebs, List.getElem?_map, List.getElem?_eq_getElem h, Option.map_some, hx, hy], bytes_one hx, bytes_one hy, hxl, hyl⟩

/-- what a valid net is, in words that a walk can use -/
structure Facts (B : ByteArray) (es : List (ByteArray × ByteArray)) : Prop where
  few : es.length ≤ 16
  small : B.data.toList.length ≤ 8
  lets : Lets B.data.toList es
  into : Into B.data.toList (ebs es)
  ent : entry B.data.toList ∈ B.data.toList
  one : 1 ≤ B.size
  eight : B.size ≤ 8
  first : B.extract 0 1 = ⟨#[entry B.data.toList]⟩
  last : B.extract (B.size - 1) B.size = ⟨#[exit_ B.data.toList]⟩
theorem facts_of {B : ByteArray} {es : List (ByteArray × ByteArray)} (hv : Valid B.data.toList (ebs es)) : Facts B es := by
  have hB1 : 1 ≤ B.size := by have h := hv.1.1.1; have e : B.data.toList.length = B.size := (by simp); omega
  have hLE := lets_of hv.1.2
  exact ⟨(valid_sizes hv).2, hv.1.1.2.1, hLE, into_of hLE, (entry_bytes hB1).2, hB1, (valid_sizes hv).1, one_byte (entry_bytes hB1).1, one_byte (exit_bytes hB1).1⟩

set_option maxRecDepth 100000 in
set_option maxHeartbeats 2000000 in
/-- spec.l3Order -/
theorem l3Order_any (B : ByteArray) (A : Option Addr) (cap : Nat) (es : List (ByteArray × ByteArray)) (w : World) (hE : EdgesIn w w.heap.size A es) (hF : Facts B es) (hBm : B.size ≤ maxLen) :
    Calls Try.prog 131 #[.agg #[.string B, .slice A es.length cap]] w fun e w' => e = .returned (.string ⟨(orderE B.data.toList (ebs es)).toArray⟩) ∧ Below w.heap.size w w' := by
  have hB1 := hF.one
  obtain ⟨st, hst⟩ : ∃ st, visit (ebs es) 8 (entry B.data.toList) ([], []) = st := ⟨_, rfl⟩
  have HO : Hid (orderE B.data.toList (ebs es) = st.2) := Lib.hid (by rw [← hst]; rfl)
  have FS : Hid (∀ W : World, EdgesIn W W.heap.size A es → Calls Try.prog 135 #[.agg #[.string B, .slice A es.length cap], .string (B.extract 0 1), .string ⟨#[]⟩, .string ⟨#[]⟩] W fun e w' => e = .returned (.tuple #[.string ⟨st.1.toArray⟩, .string ⟨st.2.toArray⟩]) ∧ Below W.heap.size W w') := Lib.hid fun W h => by
    have := l3Visit_any B A cap es B.data.toList (by have := hF.few; omega) hF.lets hF.into hF.small 8 (entry B.data.toList) ([], []) W h ⟨by simp, by simp, by simp⟩ hF.ent (by simp) (by have := hF.small; simpa using this)
    rw [hst] at this
    rw [hF.first]
    exact this
  have hb1 : Below w.heap.size w (w.alloc (.cells #[.string B, .slice A es.length cap] 30)) := (Below.refl _ _).alloc (Nat.le_refl _) _
  have t1 := Two.made w B A es.length cap 30
  have hz1 : (w.alloc (.cells #[.string B, .slice A es.length cap] 30)).heap.size = w.heap.size + 1 := by simp
  have HM := Lib.hid hBm
  clear hst hF hBm
  go_enter Try.func131, Try.ntmps131
  go_wp2_with fail
  generalize hW1 : w.alloc (.cells #[.string B, .slice A es.length cap] 30) = w1 at hb1 t1 hz1 ⊢
  clear hW1
  have x0 : ∀ x : After w1, x.W.cell? ⟨w.heap.size, 0, none⟩ = some (.string B) := fun x => x.cell (by simp only; omega) t1.1
  have x1 : ∀ x : After w1, x.W.cell? ⟨w.heap.size, 1, none⟩ = some (.slice A es.length cap) := fun x => x.cell (by simp only; omega) t1.2
  have xE : ∀ x : After w1, EdgesIn x.W x.W.heap.size A es := fun x => ((hE.below hb1).below (x.h.mono hb1.size)).more (Nat.le_trans hb1.size x.h.size)
  have XE := Lib.hid xE; clear xE t1
  refine wp_region_below (by kernel_rfl) (by kernel_rfl) ?_
  repeat (go_big_quiet_step ((first
    | (go_at_call 135; exact After.call (FS.out _ (XE.out _)))
    | (go_at_call 81; exact After.call (l1Entry_any _ _ _ hB1 HM.out)))))
  refine wpQuiet_nil ?_
  rintro _ ⟨x, rfl⟩
  clear x0 x1
  go_wp2
  go_ret
  exact ⟨by rw [HO.out]; rfl, hb1.trans (x.h.mono hb1.size)⟩

end Go.Proofs.Ytjfdkhaepmmlfaa

namespace Go.Proofs.Ytjfdkhaepmmlfaa
open Go.RowKit

/-- a net without ways round, in words that a walk can use: in O all edges lead on -/
structure Acy (B : ByteArray) (es : List (ByteArray × ByteArray)) (O : List UInt8) : Prop where
  F : Facts B es
  topo : Topo (ebs es) O
  nd : O.Nodup
  eight : O.length ≤ 8
  sub : ∀ x ∈ O, x ∈ B.data.toList
  all : ∀ x ∈ B.data.toList, x ∈ O
  lnd : B.data.toList.Nodup
  no : ∀ y, ([exit_ B.data.toList], [y]) ∉ ebs es
  tin : exit_ B.data.toList ∈ B.data.toList
  tix : B.data.toList[B.size - 1]? = some (exit_ B.data.toList)
  out : ∀ b ∈ B.data.toList, b ≠ exit_ B.data.toList → ∃ (i : Nat) (y : UInt8), (ebs es)[i]? = some ([b], [y])

theorem no_out {B : ByteArray} {es : List (ByteArray × ByteArray)} (hv : Valid B.data.toList (ebs es)) : B.data.toList[B.size - 1]? = some (exit_ B.data.toList) ∧ ∀ y, ([exit_ B.data.toList], [y]) ∉ ebs es := by
  have hlen : B.data.toList.length = B.size := by simp
  have h2 := hv.1.1.1
  have hx : B.data.toList[B.size - 1]? = some (exit_ B.data.toList) := by
    unfold exit_
    have hne : B.data.toList ≠ [] := fun e => by rw [e] at h2; simp at h2
    rw [List.getLastD_eq_getLast?, List.getLast?_eq_some_getLast hne, Option.getD_some, List.getLast_eq_getElem, ← List.getElem?_eq_getElem, hlen]
  refine ⟨hx, fun y hy => ?_⟩
  have h3 := (hv.1.2.2 _ hy).2.2.1
  simp only [bIdx] at h3
  rw [indexByte_of_get hv.1.1.2.2.2 hx] at h3
  omega

theorem acy_of {B : ByteArray} {es : List (ByteArray × ByteArray)} (hv : Valid B.data.toList (ebs es)) (hc : ¬ Cyc B.data.toList (ebs es)) : Acy B es (orderE B.data.toList (ebs es)) := by
  have hF := facts_of hv
  obtain ⟨htopo, _⟩ := order_topo hF.into hc hF.ent hF.small
  have hosub : ∀ x ∈ orderE B.data.toList (ebs es), x ∈ B.data.toList := by
    have h0 : GoneOk B.data.toList (([], []) : Gone) := ⟨by simp, by simp, by simp⟩
    have h := visit_deep hF.into hc 8 (entry B.data.toList) [] ([], []) h0 (by simp) (by simp [Trail]) (by simpa using hF.ent) (by have := hF.small; simpa using this) ⟨by simp [Topo], by simp⟩
    have hon := visit_on hF.into 8 (entry B.data.toList) ([], []) h0 hF.ent (by simp)
    intro x hx
    have hb := hon.bal
    simp only [List.length_nil, Nat.add_zero] at hb
    have hs1 : ∀ y ∈ (visit (ebs es) 8 (entry B.data.toList) ([], [])).1, y ∈ (visit (ebs es) 8 (entry B.data.toList) ([], [])).2 := fun y hy => (h.1.cover y hy).resolve_right (by simp)
    refine hon.ok.sub x (Classical.byContradiction fun hn => ?_)
    have h2 := nodup_len (a := x :: (visit (ebs es) 8 (entry B.data.toList) ([], [])).1) (b := (visit (ebs es) 8 (entry B.data.toList) ([], [])).2) (List.nodup_cons.2 ⟨hn, hon.ok.nodup⟩) (fun y hy => by
      rcases List.mem_cons.1 hy with e | hy
      · subst e; exact hx
      · exact hs1 y hy)
    simp at h2; omega
  obtain ⟨hx, hno⟩ := no_out hv
  exact ⟨hF, htopo, order_nodup hF.into hc hF.ent hF.small, orderE_len hF.into hF.ent hF.small, hosub, fun x hx => order_all hF.into hc hF.ent hF.small (hv.2.1 x hx), hv.1.1.2.2.2, hno, List.mem_of_getElem? hx, hx, fun b hb hne => by
    have hw := hv.2.2 b hb
    cases hw with
    | refl => exact absurd rfl hne
    | step _ he =>
      obtain ⟨i, hi⟩ := List.mem_iff_getElem?.1 (mem_flip.1 he)
      exact ⟨i, _, hi⟩⟩

theorem Acy.at_ {B : ByteArray} {es : List (ByteArray × ByteArray)} {O : List UInt8} (h : Acy B es O) {b : UInt8} (hb : b ∈ B.data.toList) : ∃ r, Topo (ebs es) (b :: r) ∧ r.length ≤ 7 := topo_at h.topo h.eight (h.all b hb)
theorem ebs_len (es : List (ByteArray × ByteArray)) : (ebs es).length = es.length := by simp [ebs]

/-- what is known of the blocks: the counts of those that are done, and that of the exit -/
def tabC (E : Eds) (t : UInt8) (l done : List UInt8) (i : Nat) : Nat := match l[i]? with
  | some c => if c ∈ done ∨ c = t then cntE E t c else 0
  | none => 0
theorem tabC_in {E : Eds} {t : UInt8} {l done : List UInt8} {i : Nat} {c : UInt8} (h : l[i]? = some c) (hc : c ∈ done ∨ c = t) : tabC E t l done i = cntE E t c := by
  unfold tabC; rw [h]; simp only; rw [if_pos hc]
theorem tabC_out {E : Eds} {t : UInt8} {l done : List UInt8} {i : Nat} {c : UInt8} (h : l[i]? = some c) (hc : c ∉ done) : tabC E t l done i = if c = t then 1 else 0 := by
  unfold tabC; rw [h]; simp only
  by_cases ht : c = t
  · subst ht; rw [if_pos (.inr rfl), if_pos rfl, cntE_at]
  · rw [if_neg (fun q => q.elim hc ht), if_neg ht]
theorem tabC_cons {E : Eds} {t : UInt8} {l r : List UInt8} {b : UInt8} {h : Nat} (hn : l.Nodup) (hb : l[h]? = some b) (i : Nat) : tabC E t l (b :: r) i = if i = h then cntE E t b else tabC E t l r i := by
  by_cases hi : i = h
  · subst hi; rw [if_pos rfl, tabC_in hb (.inl (by simp))]
  · rw [if_neg hi]
    unfold tabC
    cases hc : l[i]? with
    | none => rfl
    | some c =>
      have hne : c ≠ b := fun e => hi (by
        subst e
        have h1 : i < l.length := (List.getElem?_eq_some_iff.1 hc).1
        exact (List.getElem?_inj h1 hn).1 (hc.trans hb.symm))
      simp only [List.mem_cons, hne, false_or]

end Go.Proofs.Ytjfdkhaepmmlfaa

namespace Go.Proofs.Ytjfdkhaepmmlfaa
open Go.RowKit

/-- numbers as they lie in memory -/
def IntsIn (w : World) (B : Nat) (A : Option Addr) (xs : List Int) : Prop :=
  ∀ k, (h : k < xs.length) → ∃ b o, A = some ⟨b, o, none⟩ ∧ b < B ∧ w.cell? ⟨b, o + k, none⟩ = some (.int .i64 xs[k])
theorem IntsIn.below {w w' : World} {B : Nat} {A : Option Addr} {xs : List Int} (h : IntsIn w B A xs) (hb : Below B w w') : IntsIn w' B A xs := by
  intro k hk
  obtain ⟨b, o, e, hl, h1⟩ := h k hk
  exact ⟨b, o, e, hl, (hb.cell hl).trans h1⟩
theorem IntsIn.more {w : World} {B B' : Nat} {A : Option Addr} {xs : List Int} (h : IntsIn w B A xs) (hb : B ≤ B') : IntsIn w B' A xs := by
  intro k hk
  obtain ⟨b, o, e, hl, h1⟩ := h k hk
  exact ⟨b, o, e, by omega, h1⟩

theorem intInfo : (Try.prog.info? 3).map (fun i => (i.zero, i.size, i.bytes)) = some (some (.int .i64 0), 1, 8) := by kernel_rfl

theorem make_ints (n : Nat) (hn : n ≤ 1099511627776) (W : World) : (Instr.makeSlice 52 (.int .i64 (n : Int)) (.int .i64 (n : Int))).run Try.prog W =
    .ok (.slice (some ⟨W.heap.size, 0, none⟩) n n) (W.alloc (.cells (madeCells #[.int .i64 0] n) 3)) := by
  obtain ⟨i0, hi, hz0, hz1, hz2⟩ := info_parts intInfo
  have h := run_make (P := Try.prog) W 52 _ i0 _ Try.underlying52 hi hz0 .i64 .i64 (n : Int) (n : Int) (by omega) (by omega) (by rw [hz2]; omega) (by omega)
  rw [hz1] at h
  simp only [Int.toNat_natCast, Nat.mul_one] at h
  exact h

/-- what is handed back: the same numbers, in new memory -/
def IntsPost (xs : List Int) (w : World) (e : Ending) (w' : World) : Prop :=
  ∃ g, e = .returned (.slice (some ⟨g, 0, none⟩) xs.length xs.length) ∧ IntsIn w' w'.heap.size (some ⟨g, 0, none⟩) xs ∧ Below w.heap.size w w'

end Go.Proofs.Ytjfdkhaepmmlfaa

namespace Go.Proofs.Ytjfdkhaepmmlfaa
open Go.RowKit

/-- what is handed back: a row of numbers, one for each block -/
def CountsPost (F : Nat → Nat) (n : Nat) (w : World) (e : Ending) (w' : World) : Prop :=
  ∃ g, e = .returned (.slice (some ⟨g, 0, none⟩) n n) ∧ w'.rowIs g 3 n (fun i => .int .i64 (F i : Nat)) ∧ Below w.heap.size w w'

set_option maxRecDepth 100000 in
set_option maxHeartbeats 8000000 in
/-- spec.l4Counts -/
theorem l4Counts_any (B : ByteArray) (A : Option Addr) (cap : Nat) (es : List (ByteArray × ByteArray)) (w : World) (hE : EdgesIn w w.heap.size A es) (hA : Acy B es (orderE B.data.toList (ebs es))) (hBm : B.size ≤ maxLen) :
    Calls Try.prog 118 #[.agg #[.string B, .slice A es.length cap]] w (CountsPost (tabC (ebs es) (exit_ B.data.toList) B.data.toList (orderE B.data.toList (ebs es))) B.size w) := by
  have h16 := hA.F.few
  have h8 := hA.F.eight
  have h1 := hA.F.one
  obtain ⟨O, hO⟩ : ∃ O, orderE B.data.toList (ebs es) = O := ⟨_, rfl⟩
  obtain ⟨o, ho⟩ : ∃ o : ByteArray, (⟨O.toArray⟩ : ByteArray) = o := ⟨_, rfl⟩
  have hod : o.data.toList = O := by rw [← ho]
  have hos : o.size = O.length := str_size hod
  have FO : Hid (∀ W : World, EdgesIn W W.heap.size A es → Calls Try.prog 131 #[.agg #[.string B, .slice A es.length cap]] W fun e w' => e = .returned (.string o) ∧ Below W.heap.size W w') := Lib.hid fun W h => by
    rw [← ho, ← hO]; exact l3Order_any B A cap es W h hA.F hBm
  rw [hO] at hA ⊢
  have hlen : B.data.toList.length = B.size := by simp
  obtain ⟨t, ht⟩ : ∃ t, exit_ B.data.toList = t := ⟨_, rfl⟩
  obtain ⟨l, hl⟩ : ∃ l, B.data.toList = l := ⟨_, rfl⟩
  obtain ⟨d, hd⟩ : ∃ d, B.size = d + 1 := ⟨B.size - 1, by omega⟩
  have FB : Hid (∀ (c : UInt8) (W : World), Calls Try.prog 96 #[.string B, .int .u8 c.toNat] W fun e w' => e = .returned (.int .i64 (Lib.indexByte l c)) ∧ W = w') := Lib.hid fun c W => by
    rw [← hl]; exact find_any B c W hBm
  have HT : Hid (Topo (ebs es) O) := Lib.hid hA.topo
  have HND : Hid O.Nodup := Lib.hid hA.nd
  have HLE : Hid (Lets l es) := Lib.hid (hl ▸ hA.F.lets)
  have HSUB : Hid (∀ x ∈ O, x ∈ l) := Lib.hid (hl ▸ hA.sub)
  have HLN : Hid l.Nodup := Lib.hid (hl ▸ hA.lnd)
  have HNO : Hid (∀ y, ([t], [y]) ∉ ebs es) := Lib.hid (ht ▸ hA.no)
  have HTIX : Hid (l[d]? = some t) := Lib.hid (by have := hA.tix; rw [ht, hl, hd] at this; simpa using this)
  have HLEN : Hid (l.length = d + 1) := Lib.hid (by rw [← hl, hlen, hd])
  have HO8 := Lib.hid hA.eight
  rw [ht, hl]
  have HOD := Lib.hid hod; have HOS := Lib.hid hos
  have a0 : IntKind.i64.wrap ((B.size : Int) - 1) = (d : Int) := by rw [IntWalk.i64_in _ (by omega)]; omega
  have a1 : (d : Int) < (B.size : Int) := by omega
  have a2 : d < B.size := by omega
  have HD := Lib.hid hd
  clear hO ho hod hos hlen ht hl hA hBm hd
  obtain ⟨W0, hW0⟩ : ∃ W0, W0 = (w.alloc (.cells #[.string B, .slice A es.length cap] 30)).alloc (.cells ((madeCells #[.int .i64 0] B.size).setIfInBounds d (.int .i64 1)) 3) := ⟨_, rfl⟩
  have hb0 : Below w.heap.size w W0 := by rw [hW0]; exact ((Below.refl _ _).alloc (Nat.le_refl _) _).alloc (by simp) _
  have t0 : Two W0 w.heap.size B A es.length cap := by rw [hW0]; exact ⟨by go_simp, by go_simp⟩
  have hz0 : W0.heap.size = w.heap.size + 2 := by rw [hW0]; simp
  have x0 : W0.rowIs (w.heap.size + 1) 3 B.size (fun i => .int .i64 ((tabC (ebs es) t l [] i : Nat) : Int)) := by
    have h := World.rowIs_alloc (w.alloc (.cells #[.string B, .slice A es.length cap] 30)) ((madeCells #[.int .i64 0] B.size).setIfInBounds d (.int .i64 1)) 3 (fun i => .int .i64 ((tabC (ebs es) t l [] i : Nat) : Int)) (fun i hi => by
      have hiB : i < B.size := by rw [Array.size_setIfInBounds, size_madeCells] at hi; exact hi
      have hi2 : i < l.length := by rw [HLEN.out, ← HD.out]; exact hiB
      have hc : l[i]? = some l[i] := List.getElem?_eq_getElem hi2
      rw [tabC_out hc (by simp), Array.getElem?_setIfInBounds]
      by_cases hid : d = i
      · subst hid
        have : l[d] = t := by have := hc.symm.trans HTIX.out; injection this
        rw [if_pos rfl, if_pos (by rw [size_madeCells]; exact hiB), if_pos this]; rfl
      · rw [if_neg hid]
        have hne : l[i] ≠ t := fun e => hid (by
          have h2 : l[d]? = l[i]? := by rw [HTIX.out, hc, e]
          exact (List.getElem?_inj (by have := HLEN.out; omega) HLN.out).1 h2)
        rw [if_neg hne]
        simp [madeCells, hiB, Nat.mod_one])
    rw [World.size_alloc, Array.size_setIfInBounds, size_madeCells] at h
    rw [hW0]; exact h
  have c0 := t0.1; have c1 := t0.2
  have c2 : (madeCells #[.int .i64 0] B.size)[d]? = some (.int .i64 0) := by simp [madeCells, a2, Nat.mod_one]
  rw [hW0] at c0 c1
  have hmk := fun W => make_ints B.size (by omega) W
  go_enter Try.func118, Try.ntmps118
  go_wp2_with fail
  rw [← hW0]
  clear hmk c0 c1 c2 hW0 a0 a1 a2
  obtain ⟨X, hX⟩ : ∃ X, w.heap.size + 1 = X := ⟨_, rfl⟩
  rw [hX] at x0 ⊢
  refine (FO.out _ ((hE.below hb0).more hb0.size)).mono ?_
  rintro e w3 ⟨rfl, hb3⟩
  have hb3' := hb0.trans (hb3.mono hb0.size)
  have t3 := t0.below hb3 (by omega)
  have x3 := x0.of_block (hb3.block X (by omega))
  have hz3 := hb3.size
  clear hb3 t0 x0 hb0 FO
  have HT3 := Lib.hid t3; have HX3 := Lib.hid x3; have HB3 := Lib.hid hb3'
  clear t3 x3 hb3'
  go_wp2_with fail
  go_loopw [5] (fun c wr => ∃ j : Nat, j ≤ o.size ∧ c = .int .i64 ((j : Int) - 1) ∧ wr.rowIs X 3 B.size (fun i => .int .i64 ((tabC (ebs es) t l (O.drop j) i : Nat) : Int)) ∧ w3.grownBy wr (some X)) (fun c _ => (intOf c + 1).toNat)
  case atStart => exact ⟨o.size, Nat.le_refl _, by first | rfl | exact congrArg (Value.int IntKind.i64) (by have := HOS.out; have := HO8.out; unfold wrap64; omega), by rw [List.drop_of_length_le (by have := HOS.out; omega)]; exact HX3.out, World.grownBy.refl _ _⟩
  case round =>
    clear HX3
    obtain ⟨j, hj, rfl, htab, hgr⟩ := hrel
    have tr := HT3.out.grown hgr (by omega) (by intro e; injection e with e; omega)
    have hbw : Below w.heap.size w wr := HB3.out.grown hgr (by omega) (fun q e => by injection e with e; omega)
    have hzr := hgr.size
    have HTAB := Lib.hid htab; have HGR := Lib.hid hgr
    clear htab hgr
    have hos := HOS.out
    cases j with
    | zero =>
      clear tr hos
      go_wp2_with fail
      go_ret
      exact ⟨X, rfl, HTAB.out, hbw⟩
    | succ j =>
      have hjl : j < o.size := by omega
      have hjO : j < O.length := by omega
      obtain ⟨b, hb⟩ : ∃ b, O[j] = b := ⟨_, rfl⟩
      have hdrop : O.drop j = b :: O.drop (j + 1) := by rw [List.drop_eq_getElem_cons hjO, hb]
      have hTj : Topo (ebs es) (b :: O.drop (j + 1)) := by
        rw [← hdrop]
        exact Topo.drop (a := O.take j) (by rw [List.take_append_drop]; exact HT.out)
      have hbl : b ∈ l := HSUB.out b (hb ▸ List.getElem_mem hjO)
      have hbn : b ∉ O.drop (j + 1) := by
        have h := HND.out
        rw [← List.take_append_drop j O, hdrop] at h
        exact (List.nodup_cons.1 (List.nodup_append.1 h).2.1).1
      have hrl : (O.drop (j + 1)).length ≤ 7 := by have := HO8.out; simp; omega
      have hkey : o.extract j (j + 1) = ⟨#[b]⟩ := by
        have := letter_at (p := o) hjl
        rw [HOD.out] at this
        have e : O.getD j 0 = b := by simp [List.getD, hjO, hb]
        rw [e] at this
        exact one_byte this
      have hby : o[j] = b := by
        have h2 : o.data.toList[j]? = some b := by rw [HOD.out, List.getElem?_eq_getElem hjO, hb]
        have h3 : o.data.toList[j]? = some o[j] := by rw [List.getElem?_eq_getElem (by simpa using hjl)]; rfl
        rw [h3] at h2; injection h2
      obtain ⟨h, hh⟩ := Int.eq_ofNat_of_zero_le (indexByte_nonneg.2 hbl)
      have hhl : h < l.length := by have := indexByte_lt (l := l) (c := b); omega
      have hlh : l[h]? = some b := by have := indexByte_get hbl; rw [hh] at this; simpa using this
      have hhB : h < B.size := by rw [HD.out, ← HLEN.out]; exact hhl
      have FH : Hid (∀ W : World, Calls Try.prog 96 #[.string B, .int .u8 (o[j].toNat : Int)] W fun e w' => e = .returned (.int .i64 h) ∧ W = w') := Lib.hid fun W => by
        have := FB.out b W
        rw [hh] at this
        rw [hby]; exact this
      have HDR := Lib.hid hdrop; have HTJ := Lib.hid hTj; have HBN := Lib.hid hbn; have HKEY := Lib.hid hkey; have HLH := Lib.hid hlh; have HRL := Lib.hid hrl; have HHH := Lib.hid hh
      have e1 : ((j + 1 : Nat) : Int) - 1 = (j : Int) := by omega
      rw [e1]
      have d0 := tr.1; have d1 := tr.2
      have b1 : (0 : Int) ≤ (j : Int) := by omega
      have b2 : (j : Int) < (o.size : Int) := by omega
      clear hb hdrop hTj hbl hbn hrl hkey hh hlh e1 hos hby
      go_wp2_with fail
      go_quiet ((go_at_call 96; exact Calls.quiet_of_same ((FH.out _).mono fun _ _ ⟨h, h'⟩ => ⟨h, h'.symm⟩)))
      have hgq : w3.grownBy (wr.drewN nq) (some X) := ⟨HGR.out.os, HGR.out.tape, HGR.out.output, HGR.out.size, HGR.out.block⟩
      have HXQ : Hid ((wr.drewN nq).rowIs X 3 B.size (fun i => .int .i64 ((tabC (ebs es) t l (O.drop (j + 1)) i : Nat) : Int))) := Lib.hid (HTAB.out.of_block rfl)
      have HGQ := Lib.hid hgq
      clear FH hgq
      go_wp2_with fail
      clear d0 d1 tr
      have HV : Hid (∀ k : Nat, k ≤ es.length → sumC (ebs es) (cntE (ebs es) t) b (List.range k) ≤ 4294967296) := Lib.hid fun k hk => sumC_few (by rw [ebs_len]; exact h16) HTJ.out HRL.out (by omega)
      go_loopw [37] (fun c wi => ∃ k : Nat, k ≤ es.length ∧ c = .int .i64 k ∧ wi.rowIs X 3 B.size (fun i => .int .i64 ((if i = h then (if b = t then 1 else 0) + sumC (ebs es) (cntE (ebs es) t) b (List.range k) else tabC (ebs es) t l (O.drop (j + 1)) i : Nat) : Int)) ∧ w3.grownBy wi (some X)) (fun c _ => es.length - (intOf c).toNat)
      case atStart => exact ⟨0, Nat.zero_le _, rfl, HXQ.out.congr (fun i _ => by
        by_cases hi : i = h
        · rw [if_pos hi, hi, tabC_out HLH.out HBN.out]; rfl
        · rw [if_neg hi]), HGQ.out⟩
      case round =>
        clear HXQ HGQ
        obtain ⟨k, hk, rfl, htab, hgr⟩ := hrel
        have tr := HT3.out.grown hgr (by omega) (by intro e; injection e with e; omega)
        have hbw : Below w.heap.size w wr := HB3.out.grown hgr (by omega) (fun q e => by injection e with e; omega)
        have hzr := hgr.size
        have HTAB := Lib.hid htab; have HGR := Lib.hid hgr
        clear htab hgr
        have hwr : wrap64 ((j : Int) - 1) = (j : Int) - 1 := by have := HOS.out; have := HO8.out; unfold wrap64; omega
        by_cases hlt : k < es.length
        case neg =>
          have hkn : k = es.length := by omega
          have hel : (ebs es).length = es.length := by simp [ebs]
          have HN : Hid (wr.rowIs X 3 B.size (fun i => .int .i64 ((tabC (ebs es) t l (O.drop j) i : Nat) : Int))) := Lib.hid (HTAB.out.congr (fun i _ => by
            rw [HDR.out, tabC_cons HLN.out HLH.out i, hkn, ← hel, ← cntE_all HNO.out HTJ.out HRL.out]))
          clear tr
          go_wp2_with fail
          go_roundw
          case rel => exact ⟨j, by omega, by rw [hwr], HN.out, HGR.out⟩
          case measure => simp [intOf, hwr]
        obtain ⟨x, y, he, h1, h2, hxl, hyl⟩ := edge_letters HLE.out hlt
        obtain ⟨eb, eo, rfl, hlow, q1, q2⟩ := (hE.below hbw) k hlt
        rw [h1] at q1
        rw [h2] at q2
        have HE1 := Lib.hid he
        have hba : Below wr.heap.size wr (wr.alloc (.cells #[.string ⟨#[x]⟩, .string ⟨#[y]⟩] 104)) := (Below.refl _ _).alloc (Nat.le_refl _) _
        have HBA := Lib.hid hba
        have HRS : Hid (sumC (ebs es) (cntE (ebs es) t) b (List.range (k + 1)) = sumC (ebs es) (cntE (ebs es) t) b (List.range k) + stepC (ebs es) (cntE (ebs es) t) b k) := Lib.hid (sumC_range _ _ _ _)
        clear he h1 h2 hba
        have d0 := tr.1; have d1 := tr.2
        have a4 : (0 : Int) ≤ (j : Int) + 1 := by omega
        have a5 : ((j : Int) + 1).toNat = j + 1 := by omega
        have a6 : (j : Int) + 1 ≤ (o.size : Int) := by omega
        have a7 : j + 1 ≤ o.size := by omega
        have a8 : (j : Int) ≤ (j : Int) + 1 := by omega
        have a9 : IntKind.i64.wrap ((j : Int) + 1) = (j : Int) + 1 := by have := HOS.out; have := HO8.out; exact IntWalk.i64_in _ (by omega)
        obtain ⟨ob, hob⟩ : ∃ ob : ByteArray, o.extract j (j + 1) = ob := ⟨_, rfl⟩
        have hobb : ob = ⟨#[b]⟩ := by rw [← hob, HKEY.out]
        have HWR := Lib.hid hwr
        clear hwr
        by_cases hxb : x = b
        case neg =>
          have hq : (x == b) = false := by simp [hxb]
          have HN : Hid (sumC (ebs es) (cntE (ebs es) t) b (List.range (k + 1)) = sumC (ebs es) (cntE (ebs es) t) b (List.range k)) := Lib.hid (by rw [HRS.out, stepC_no HE1.out hxb, Nat.add_zero])
          have HG6 := Lib.hid (grown_below HGR.out HBA.out)
          have HX6 := Lib.hid (HTAB.out.of_block (HBA.out.block X (by have := HTAB.out.lt; omega)))
          clear hxb tr
          go_wp2_with fail
          go_quiet (fail)
          go_wp2_with fail
          go_roundw
          case rel => exact ⟨k + 1, by omega, by go_num, by rw [HN.out]; exact HX6.out.of_block rfl, ⟨HG6.out.os, HG6.out.tape, HG6.out.output, HG6.out.size, HG6.out.block⟩⟩
          case measure => simp [intOf]; omega
        subst hxb
        have hq : (x == x) = true := by simp
        -- an edge from the block
        obtain ⟨iy, hiy⟩ := Int.eq_ofNat_of_zero_le (indexByte_nonneg.2 hyl)
        have hiyl : iy < l.length := by have := indexByte_lt (l := l) (c := y); omega
        have hly : l[iy]? = some y := by have := indexByte_get hyl; rw [hiy] at this; simpa using this
        have hiyB : iy < B.size := by rw [HD.out, ← HLEN.out]; exact hiyl
        have hyO : y ∈ O.drop (j + 1) := HTJ.out.1 y (List.mem_of_getElem? HE1.out)
        have hne : iy ≠ h := fun e => by
          subst e
          have := hly.symm.trans HLH.out
          injection this with e2
          subst e2
          exact topo_self _ _ _ (Nat.le_refl _) HTJ.out (List.mem_of_getElem? HE1.out)
        have FY : Hid (∀ W : World, Calls Try.prog 96 #[.string B, .int .u8 (y.toNat : Int)] W fun e w' => e = .returned (.int .i64 iy) ∧ W = w') := Lib.hid fun W => by
          have := FB.out y W
          rwa [hiy] at this
        obtain ⟨c1, hc1⟩ : ∃ c1 : Nat, ((if x = t then 1 else 0) + sumC (ebs es) (cntE (ebs es) t) x (List.range k)) = c1 := ⟨_, rfl⟩
        obtain ⟨c2, hc2⟩ : ∃ c2 : Nat, cntE (ebs es) t y = c2 := ⟨_, rfl⟩
        have hcb : c1 + c2 ≤ 8589934593 := by
          have h1 := HV.out k hk
          have h2 : cntE (ebs es) t y ≤ 268435456 := by
            obtain ⟨r2, h2, h3, _⟩ := topo_to HTJ.out HRL.out (List.mem_of_getElem? HE1.out)
            exact cntE_few (by rw [ebs_len]; exact h16) h2 h3
          rw [← hc1, ← hc2]
          split <;> omega
        have cy : wr.cell? ⟨X, iy, none⟩ = some (.int .i64 c2) := by
          rw [HTAB.out.cell hiyB, if_neg hne, tabC_in hly (.inl hyO), hc2]
        have ch : wr.cell? ⟨X, h, none⟩ = some (.int .i64 c1) := by
          rw [HTAB.out.cell hhB, if_pos rfl, hc1]
        have fh := HTAB.out.frozen h
        have HN : Hid ((if x = t then 1 else 0) + sumC (ebs es) (cntE (ebs es) t) x (List.range (k + 1)) = c1 + c2) := Lib.hid (by rw [HRS.out, stepC_yes HE1.out, ← hc1, ← hc2]; omega)
        have hba := HBA.out
        have hXr : X < wr.heap.size := HTAB.out.lt
        have z1 : IntKind.i64.wrap ((c1 : Int) + (c2 : Int)) = (c1 : Int) + (c2 : Int) := IntWalk.i64_in _ (by omega)
        have i1 : (0 : Int) ≤ (iy : Int) := by omega
        have i2 : (iy : Int) < (B.size : Int) := by omega
        have i3 : (0 : Int) ≤ (h : Int) := by omega
        have i4 : (h : Int) < (B.size : Int) := by omega
        clear hiy hiyl hly hyO hc1 hc2 hcb
        go_wp2_with fail
        go_quiet (fail)
        go_wp2_with fail
        obtain ⟨wa, hwa⟩ : ∃ wa, (wr.alloc (.cells #[.string ⟨#[x]⟩, .string ⟨#[y]⟩] 104)).drewN nq = wa := ⟨_, rfl⟩
        have tA := tr.below hba (by omega)
        have cA0 := tA.1
        have cA1 := (hba.cell (p := ⟨X, iy, none⟩) (by simp only; omega)).trans cy
        have cA2 := (hba.cell (p := ⟨X, h, none⟩) (by simp only; omega)).trans ch
        have cA3 : (wr.alloc (.cells #[.string ⟨#[x]⟩, .string ⟨#[y]⟩] 104)).cell? ⟨wr.heap.size, 1, none⟩ = some (.string ⟨#[y]⟩) := by go_simp
        have fA := (HTAB.out.of_block (hba.block X (by omega))).frozen h
        have hwX : wa.heap[X]? = wr.heap[X]? := by rw [← hwa]; exact hba.block X (by omega)
        have hwb : Below wr.heap.size wr wa := by rw [← hwa]; exact below_drewN hba nq
        rw [show ∀ p, (wr.alloc (.cells #[.string ⟨#[x]⟩, .string ⟨#[y]⟩] 104)).cell? p = wa.cell? p from fun p => by rw [← hwa]; rfl] at cA0 cA1 cA2 cA3
        rw [show ∀ p, (wr.alloc (.cells #[.string ⟨#[x]⟩, .string ⟨#[y]⟩] 104)).frozen? p = wa.frozen? p from fun p => by rw [← hwa]; rfl] at fA
        rw [hwa]
        have HWX := Lib.hid hwX; have HWB := Lib.hid hwb
        clear hwa hba tA d0 d1 q1 q2 cy ch fh tr hwX hwb a4 a5 a6 a7 a8 a9 hq hob hobb
        have hrow : (wa.setCell ⟨X, h, none⟩ (.int .i64 ((c1 : Int) + (c2 : Int)))).rowIs X 3 B.size (fun i => .int .i64 ((if i = h then (if x = t then 1 else 0) + sumC (ebs es) (cntE (ebs es) t) x (List.range (k + 1)) else tabC (ebs es) t l (O.drop (j + 1)) i : Nat) : Int)) := by
          refine ((HTAB.out.of_block HWX.out).set h (.int .i64 ((c1 : Int) + (c2 : Int)))).congr fun i hi => ?_
          by_cases hih : i = h
          · simp only [hih, if_true, HN.out]; rw [Int.natCast_add]
          · simp only [hih, if_false]
        have HROW := Lib.hid hrow
        have HG7 := Lib.hid (only_setCell_at (i := h) (u := .int .i64 ((c1 : Int) + (c2 : Int))) (grown_below HGR.out HWB.out))
        clear hrow
        go_region_with (first
            | (go_at_call 96; refine (FY.out _).mono ?_; rintro e w6 ⟨rfl, rfl⟩))
        all_goals
          go_wp2_with fail
          go_roundw
          case rel => exact ⟨k + 1, by omega, by go_num, HROW.out.of_block rfl, ⟨HG7.out.os, HG7.out.tape, HG7.out.output, HG7.out.size, HG7.out.block⟩⟩
          case measure => simp [intOf]; omega

end Go.Proofs.Ytjfdkhaepmmlfaa

namespace Go.Proofs.Ytjfdkhaepmmlfaa
open Go.RowKit

theorem acy_v {B : ByteArray} {es : List (ByteArray × ByteArray)} (h : acycV B es = true) : Acy B es (orderE B.data.toList (ebs es)) := by
  obtain ⟨hv, hc⟩ := decB_iff.1 h
  exact acy_of hv hc
/-- the counts of a net without ways round -/
def cntV (B : ByteArray) (es : List (ByteArray × ByteArray)) (b : UInt8) : Int := ((cntE (ebs es) (exit_ B.data.toList) b : Nat) : Int)
noncomputable def runsV (B : ByteArray) (es : List (ByteArray × ByteArray)) : Int := if acycV B es = true then cntV B es (entry B.data.toList) else -1
noncomputable def fromV (B : ByteArray) (es : List (ByteArray × ByteArray)) (b : ByteArray) : Int := if acycV B es = true ∧ 0 ≤ bIdx B.data.toList b.data.toList then cntV B es (b.data.toList.headD 0) else -1
theorem cntV_bound {B : ByteArray} {es : List (ByteArray × ByteArray)} {O : List UInt8} (h : Acy B es O) {b : UInt8} (hb : b ∈ B.data.toList) : 0 ≤ cntV B es b ∧ cntV B es b ≤ 268435456 := by
  obtain ⟨r, h1, h2⟩ := h.at_ hb
  have := cntE_few (t := exit_ B.data.toList) (by rw [ebs_len]; exact h.F.few) h1 h2
  unfold cntV
  omega

set_option maxRecDepth 100000 in
set_option maxHeartbeats 4000000 in
/-- spec.l4Count -/
theorem l4Count_any (B : ByteArray) (A : Option Addr) (cap : Nat) (es : List (ByteArray × ByteArray)) (c : UInt8) (w : World) (hE : EdgesIn w w.heap.size A es) (hA : Acy B es (orderE B.data.toList (ebs es))) (hBm : B.size ≤ maxLen) (hc : c ∈ B.data.toList) :
    Calls Try.prog 99 #[.agg #[.string B, .slice A es.length cap], .string ⟨#[c]⟩] w (IntPost (cntV B es c) w) := by
  have hlen : B.data.toList.length = B.size := by simp
  obtain ⟨i, hi⟩ := Int.eq_ofNat_of_zero_le (indexByte_nonneg.2 hc)
  have hil : i < B.size := by have := indexByte_lt (l := B.data.toList) (c := c); omega
  have hli : B.data.toList[i]? = some c := by have := indexByte_get hc; rw [hi] at this; simpa using this
  have HV : Hid (((tabC (ebs es) (exit_ B.data.toList) B.data.toList (orderE B.data.toList (ebs es)) i : Nat) : Int) = cntV B es c) := Lib.hid (by rw [tabC_in hli (.inl (hA.all c hc))]; rfl)
  obtain ⟨v, hv⟩ : ∃ v, cntV B es c = v := ⟨_, rfl⟩
  rw [hv] at HV ⊢
  have FC : Hid (∀ W : World, EdgesIn W W.heap.size A es → Calls Try.prog 118 #[.agg #[.string B, .slice A es.length cap]] W (CountsPost (tabC (ebs es) (exit_ B.data.toList) B.data.toList (orderE B.data.toList (ebs es))) B.size W)) := Lib.hid fun W h => l4Counts_any B A cap es W h hA hBm
  have FF : Hid (∀ W : World, Calls Try.prog 96 #[.string B, .int .u8 (c.toNat : Int)] W fun e w' => e = .returned (.int .i64 i) ∧ W = w') := Lib.hid fun W => by
    rw [← hi]; exact find_any B c W hBm
  have hb1 : Below w.heap.size w (w.alloc (.cells #[.string B, .slice A es.length cap] 30)) := (Below.refl _ _).alloc (Nat.le_refl _) _
  have t1 := Two.made w B A es.length cap 30
  have hz1 : (w.alloc (.cells #[.string B, .slice A es.length cap] 30)).heap.size = w.heap.size + 1 := by simp
  have i1 : (0 : Int) ≤ (i : Int) := by omega
  have i2 : (i : Int) < (B.size : Int) := by omega
  clear hlen hi hli hv hA hBm hc
  go_enter Try.func99, Try.ntmps99
  go_wp2_with fail
  obtain ⟨w1, hw1⟩ : ∃ w1, w.alloc (.cells #[.string B, .slice A es.length cap] 30) = w1 := ⟨_, rfl⟩
  rw [hw1] at hb1 t1 hz1 ⊢
  clear hw1
  have HT1 := Lib.hid t1
  have HA : Hid (∀ W, Below w1.heap.size w1 W → EdgesIn W W.heap.size A es) := Lib.hid fun W h => (hE.below (hb1.trans (h.mono hb1.size))).more (hb1.trans (h.mono hb1.size)).size
  have d0 := t1.1; have d1 := t1.2
  clear t1
  go_region_with (first
      | (go_at_call 96; refine (FF.out _).mono ?_; rintro e w5 ⟨rfl, rfl⟩)
      | (go_at_call 118; go_must (refine (FC.out _ (HA.out _ (Below.refl _ _).drew)).mono ?_; rintro e w4 ⟨g, rfl, hrow4, hb4⟩; have hc4 := hrow4.cell (i := i) (by omega); have e0 := (HT1.out.below ((Below.refl _ _).drew.trans hb4) (show w.heap.size < w1.heap.size by omega)).1; have HB4 := Lib.hid ((Below.refl _ _).drew.trans hb4); clear hrow4 hb4)))
  all_goals
    go_wp2_with fail
    go_ret
    exact ⟨ret_int HV.out, hb1.trans (HB4.out.mono hb1.size)⟩

end Go.Proofs.Ytjfdkhaepmmlfaa

namespace Go.Proofs.Ytjfdkhaepmmlfaa
open Go.RowKit

theorem filter_take_at {p : Nat → Bool} {j ix : Nat} : ∀ {n : Nat} (h : j < ((List.range n).filter p).length), ((List.range n).filter p)[j] = ix → ((List.range n).filter p).take j = (List.range ix).filter p
  | 0, h, _ => by simp at h
  | n + 1, h, hx => by
    have e : (List.range (n + 1)).filter p = (List.range n).filter p ++ [n].filter p := by rw [List.range_succ, List.filter_append]
    by_cases hj : j < ((List.range n).filter p).length
    · have h2 : ((List.range n).filter p)[j] = ix := by
        rw [← hx]
        simp only [e]
        rw [List.getElem_append_left hj]
      rw [e, List.take_append_of_le_length (by omega)]
      exact filter_take_at hj h2
    · have hp : p n = true := by
        cases hq : p n with
        | true => rfl
        | false =>
          rw [e] at h
          simp [hq] at h
          exact absurd h hj
      have hl : [n].filter p = [n] := by simp [hp]
      have hjl : j = ((List.range n).filter p).length := by
        rw [e, hl] at h
        simp at h; omega
      have h3 : ix = n := by
        rw [← hx]
        simp only [e, hl]
        rw [List.getElem_append_right (by omega)]
        simp
      subst h3
      rw [e, List.take_append_of_le_length (by omega), List.take_of_length_le (by omega)]

theorem sumC_outs {es : List (ByteArray × ByteArray)} {l : List UInt8} (hL : Lets l es) (g : UInt8 → Nat) (x : UInt8) {j ix : Nat} (hj : j < (outsOf es x).length) (hx : (outsOf es x)[j] = ix) : sumC (ebs es) g x ((outsOf es x).take j) = sumC (ebs es) g x (List.range ix) := by
  have h1 := filter_take_at (p := outB es ⟨#[x]⟩) (n := es.length) (j := j) (ix := ix) hj hx
  have h2 : (outsOf es x).take j = (List.range ix).filter (outB es ⟨#[x]⟩) := h1
  rw [h2]
  have hix : ix < es.length := (outsOf_mem hL (hx ▸ List.getElem_mem hj)).1
  refine sumC_filter _ _ _ _ _ fun k hk hq => ?_
  have hkl : k < es.length := by have : k < ix := by simpa using hk
                                 omega
  obtain ⟨a, b, hek, ha, _⟩ := edge_letters hL hkl
  rw [outB_at hkl, Lib.toList_data, Lib.toList_data, ha] at hq
  exact stepC_no hek fun e => by subst e; simp at hq
theorem outs_has {es : List (ByteArray × ByteArray)} {x : UInt8} {y : List UInt8} {k : Nat} (h : (ebs es)[k]? = some ([x], y)) : k ∈ outsOf es x := by
  have hlt : k < es.length := by have := (List.getElem?_eq_some_iff.1 h).1; simpa [ebs] using this
  refine List.mem_filter.2 ⟨by simpa using hlt, ?_⟩
  rw [outB_at hlt]
  have : (es[k].1.data.toList, es[k].2.data.toList) = ([x], y) := by
    simp only [ebs, List.getElem?_map, List.getElem?_eq_getElem hlt, Option.map_some] at h
    injection h
  injection this with h2 _
  rw [Lib.toList_data, Lib.toList_data, h2]; simp

/-- a name is the letter of its place -/
theorem eIdx_text {n k : Nat} {b : ByteArray} (h : eIdx n b.data.toList = (k : Int)) (hn : n ≤ 16) : b = ⟨#[nameOf k]⟩ := by
  unfold eIdx at h
  split at h
  · rename_i c hc
    split at h
    · rename_i hr
      refine bytes_one (hc.trans ?_)
      have : c = nameOf k := UInt8.toNat_inj.1 (by rw [nameOf_toNat (by omega)]; omega)
      rw [this]
    · omega
  · omega

set_option maxRecDepth 100000 in
set_option maxHeartbeats 4000000 in
/-- spec.l4Value -/
theorem l4Value_any (B : ByteArray) (A : Option Addr) (cap : Nat) (es : List (ByteArray × ByteArray)) (k : Nat) (w : World) (hE : EdgesIn w w.heap.size A es) (hA : Acy B es (orderE B.data.toList (ebs es))) (hBm : B.size ≤ maxLen) (hk : k < es.length) :
    Calls Try.prog 63 #[.agg #[.string B, .slice A es.length cap], .string ⟨#[nameOf k]⟩] w (IntPost ((valE (ebs es) (exit_ B.data.toList) k : Nat) : Int) w) := by
  have h16 := hA.F.few
  obtain ⟨x, y, he, h1, h2, hxl, hyl⟩ := edge_letters hA.F.lets hk
  obtain ⟨t, ht⟩ : ∃ t, exit_ B.data.toList = t := ⟨_, rfl⟩
  have HA0 := Lib.hid hA
  have FL : Hid (∀ (i : Nat), i < es.length → ∀ W : World, EdgesIn W W.heap.size A es → Calls Try.prog 98 #[.agg #[.string B, .slice A es.length cap], .string ⟨#[nameOf i]⟩] W fun e w' => e = .returned (.agg #[.string (es.getD i (⟨#[]⟩, ⟨#[]⟩)).1, .string (es.getD i (⟨#[]⟩, ⟨#[]⟩)).2]) ∧ Below W.heap.size W w') := Lib.hid fun i hi W h => by
    have := l2Edge_any B A cap es ⟨#[nameOf i]⟩ i W h (by omega) hi (eIdx_name hi (by omega))
    simpa [List.getD, hi] using this
  have FO : Hid (∀ W : World, EdgesIn W W.heap.size A es → Calls Try.prog 97 #[.agg #[.string B, .slice A es.length cap], .string ⟨#[x]⟩] W fun e w' => e = .returned (.string ⟨(names (outB es ⟨#[x]⟩) es.length).toArray⟩) ∧ Below W.heap.size W w') := Lib.hid fun W h => outList_any B A cap es ⟨#[x]⟩ W h (by omega)
  have FC : Hid (∀ (c : UInt8), c ∈ B.data.toList → ∀ W : World, EdgesIn W W.heap.size A es → Calls Try.prog 99 #[.agg #[.string B, .slice A es.length cap], .string ⟨#[c]⟩] W fun e w' => e = .returned (.int .i64 ((cntE (ebs es) t c : Nat) : Int)) ∧ Below W.heap.size W w') := Lib.hid fun c hc W h => by
    have := l4Count_any B A cap es c W h hA hBm hc
    unfold cntV at this
    rw [ht] at this
    exact this
  obtain ⟨ot, hot⟩ : ∃ ot : ByteArray, (⟨(names (outB es ⟨#[x]⟩) es.length).toArray⟩ : ByteArray) = ot := ⟨_, rfl⟩
  rw [hot] at FO
  have hod : ot.data.toList = (outsOf es x).map nameOf := by rw [← hot]; rfl
  have hos : ot.size = (outsOf es x).length := by rw [str_size hod]; simp
  have HV : Hid (valE (ebs es) t k = sumC (ebs es) (cntE (ebs es) t) x (List.range k)) := Lib.hid (valE_eq he)
  have HKIN := Lib.hid (outs_has he)
  have HOD := Lib.hid hod; have HOS := Lib.hid hos
  have hge : es.getD k (⟨#[]⟩, ⟨#[]⟩) = es[k] := by simp [List.getD, hk]
  have FLk := FL.out k hk
  rw [hge, h1, h2] at FLk
  have HFLK := Lib.hid FLk
  have HE1 := Lib.hid he
  rw [ht]
  have hb1 : Below w.heap.size w (w.alloc (.cells #[.string B, .slice A es.length cap] 30)) := (Below.refl _ _).alloc (Nat.le_refl _) _
  have t1 := Two.made w B A es.length cap 30
  have hz1 : (w.alloc (.cells #[.string B, .slice A es.length cap] 30)).heap.size = w.heap.size + 1 := by simp
  have e1 := edge_from; have e2 := edge_to
  clear hot hod hos hge FLk h1 h2 he ht hA hBm
  go_enter Try.func63, Try.ntmps63
  go_wp2_with fail
  obtain ⟨w1, hw1⟩ : ∃ w1, w.alloc (.cells #[.string B, .slice A es.length cap] 30) = w1 := ⟨_, rfl⟩
  rw [hw1] at hb1 t1 hz1 ⊢
  clear hw1
  have x0 : ∀ x : After w1, x.W.cell? ⟨w.heap.size, 0, none⟩ = some (.string B) := fun x => x.cell (by simp only; omega) t1.1
  have x1 : ∀ x : After w1, x.W.cell? ⟨w.heap.size, 1, none⟩ = some (.slice A es.length cap) := fun x => x.cell (by simp only; omega) t1.2
  have xE : ∀ x : After w1, EdgesIn x.W x.W.heap.size A es := fun x => ((hE.below hb1).below (x.h.mono hb1.size)).more (Nat.le_trans hb1.size x.h.size)
  have XE := Lib.hid xE; clear xE
  refine wp_region_below (by kernel_rfl) (by kernel_rfl) ?_
  repeat (go_big_quiet_step ((first
    | (go_at_call 98; exact After.call (HFLK.out _ (XE.out _)))
    | (go_at_call 97; exact After.call (FO.out _ (XE.out _))))))
  refine wpQuiet_nil ?_
  rintro _ ⟨xw, rfl⟩
  clear x0 x1 XE
  obtain ⟨w2, hw2⟩ : ∃ w2, xw.W = w2 := ⟨_, rfl⟩
  have hb2 := xw.h
  rw [hw2] at hb2 ⊢
  clear hw2 xw
  have t2 := t1.below hb2 (by omega)
  have hb2' := hb1.trans (hb2.mono hb1.size)
  have hz2 : w.heap.size + 1 ≤ w2.heap.size := by have := hb2.size; omega
  have HTW2 := Lib.hid t2; have HB2 := Lib.hid hb2'
  clear hb2 t1 hz1 hb1 t2 hb2' HFLK FO
  have hol : (outsOf es x).length ≤ 16 := by
    have h1 := names_length (outB es ⟨#[x]⟩) es.length
    have h2 : (names (outB es ⟨#[x]⟩) es.length).length = (outsOf es x).length := by simp [names, outsOf]
    omega
  obtain ⟨r, htr, hr7⟩ := HA0.out.at_ hxl
  have HTR := Lib.hid htr
  clear htr
  go_wp2_with fail
  go_loopw [5, 16] (fun a c wr => ∃ j : Nat, j ≤ ot.size ∧ c = .int .i64 j ∧ a = .int .i64 ((sumC (ebs es) (cntE (ebs es) t) x ((outsOf es x).take j) : Nat) : Int) ∧ k ∉ (outsOf es x).take j ∧ Below w2.heap.size w2 wr) (fun _ c _ => ot.size - (intOf c).toNat)
  case atStart => exact ⟨0, Nat.zero_le _, rfl, rfl, by simp, Below.refl _ _⟩
  case round =>
    obtain ⟨j, hj, rfl, rfl, hnk, hb⟩ := hrel
    have HNK := Lib.hid hnk; have HB := Lib.hid hb
    have hzr := hb.size
    have tr := HTW2.out.below hb (by omega)
    have HTRW := Lib.hid tr
    clear hnk hb tr
    by_cases hlt : j < ot.size
    case neg =>
      exact absurd HKIN.out (by have h := HNK.out; rwa [List.take_of_length_le (by have := HOS.out; omega)] at h)
    have hjo : j < (outsOf es x).length := by have := HOS.out; omega
    obtain ⟨ix, hix⟩ : ∃ ix, (outsOf es x)[j] = ix := ⟨_, rfl⟩
    obtain ⟨hi, y2, hy, hy2, hyl2⟩ := outsOf_mem HA0.out.F.lets (hix ▸ List.getElem_mem hjo : ix ∈ outsOf es x)
    have hex : ot.extract j (j + 1) = ⟨#[nameOf ix]⟩ := by
      have := letter_at (p := ot) hlt
      rw [HOD.out] at this
      have e : ((outsOf es x).map nameOf).getD j 0 = nameOf ix := by simp [List.getD, hjo, hix]
      rw [e] at this
      exact one_byte this
    have HSO := Lib.hid (sumC_outs HA0.out.F.lets (cntE (ebs es) t) x hjo hix)
    have HTK : Hid ((outsOf es x).take (j + 1) = (outsOf es x).take j ++ [ix]) := Lib.hid (by rw [List.take_succ_eq_append_getElem hjo, hix])
    have HHY := Lib.hid hy; have HHY2 := Lib.hid hy2
    have a1 : (0 : Int) ≤ (j : Int) := by omega
    have a2 : (j : Int) < (ot.size : Int) := by omega
    have a4 : (0 : Int) ≤ (j : Int) + 1 := by omega
    have a5 : ((j : Int) + 1).toNat = j + 1 := by omega
    have a6 : (j : Int) + 1 ≤ (ot.size : Int) := by omega
    have a7 : j + 1 ≤ ot.size := by omega
    have a8 : (j : Int) ≤ (j : Int) + 1 := by omega
    have a9 : IntKind.i64.wrap ((j : Int) + 1) = (j : Int) + 1 := IntWalk.i64_in _ (by have := HOS.out; omega)
    clear hix hy hy2
    by_cases hik : ix = k
    · subst hik
      have HEND : Hid (sumC (ebs es) (cntE (ebs es) t) x ((outsOf es x).take j) = valE (ebs es) t ix) := Lib.hid (by rw [HSO.out, HV.out])
      rw [HEND.out]
      go_wp2_with fail
      go_ret
      exact ⟨rfl, HB2.out.trans (HB.out.mono (by omega))⟩
    have hq : (nameOf ix == nameOf k) = false := by
      rw [beq_eq_false_iff_ne]
      intro e
      have h1 := nameOf_toNat (k := ix) (by omega)
      have h2 := nameOf_toNat (k := k) (by omega)
      rw [e] at h1
      omega
    obtain ⟨c1, hc1⟩ : ∃ c1 : Nat, sumC (ebs es) (cntE (ebs es) t) x ((outsOf es x).take j) = c1 := ⟨_, rfl⟩
    obtain ⟨c2, hc2⟩ : ∃ c2 : Nat, cntE (ebs es) t y2 = c2 := ⟨_, rfl⟩
    have hcb : c1 + c2 ≤ 8589934592 := by
      have h1 := sumC_few (t := t) (by rw [ebs_len]; exact h16) HTR.out hr7 (show ix ≤ 16 by omega)
      obtain ⟨r2, htr2, hr72⟩ := HA0.out.at_ hyl2
      have h2 : cntE (ebs es) t y2 ≤ 268435456 := cntE_few (by rw [ebs_len]; exact h16) htr2 hr72
      rw [← HSO.out, hc1] at h1
      omega
    have HNEXT : Hid (sumC (ebs es) (cntE (ebs es) t) x ((outsOf es x).take (j + 1)) = c1 + c2) := Lib.hid (by rw [HTK.out, sumC_snoc, stepC_yes HHY.out, hc1, hc2])
    have HNK2 : Hid (k ∉ (outsOf es x).take (j + 1)) := Lib.hid (by
      rw [HTK.out]
      intro h
      rcases List.mem_append.1 h with h | h
      · exact HNK.out h
      · simp at h; exact hik h.symm)
    have FL2 : Hid (∀ W : World, EdgesIn W W.heap.size A es → Calls Try.prog 98 #[.agg #[.string B, .slice A es.length cap], .string ⟨#[nameOf ix]⟩] W fun e w' => e = .returned (.agg #[.string (es.getD ix (⟨#[]⟩, ⟨#[]⟩)).1, .string ⟨#[y2]⟩]) ∧ Below W.heap.size W w') := Lib.hid fun W h => by
      have := FL.out ix hi W h
      have e : (es.getD ix (⟨#[]⟩, ⟨#[]⟩)).2 = ⟨#[y2]⟩ := by rw [← HHY2.out]; simp [List.getD, hi]
      rwa [e] at this
    have FC2 : Hid (∀ W : World, EdgesIn W W.heap.size A es → Calls Try.prog 99 #[.agg #[.string B, .slice A es.length cap], .string ⟨#[y2]⟩] W fun e w' => e = .returned (.int .i64 (c2 : Int)) ∧ Below W.heap.size W w') := Lib.hid fun W h => by
      have := FC.out y2 hyl2 W h
      rwa [hc2] at this
    have z1 : IntKind.i64.wrap ((c1 : Int) + (c2 : Int)) = (c1 : Int) + (c2 : Int) := IntWalk.i64_in _ (by omega)
    rw [hc1]
    have hbw := HB2.out.trans (HB.out.mono (show w.heap.size ≤ w2.heap.size by omega))
    clear hc1 hc2 hcb hik hyl2
    go_wp2_with fail
    have x0 : ∀ x : After wr, x.W.cell? ⟨w.heap.size, 0, none⟩ = some (.string B) := fun x => x.cell (by simp only; omega) HTRW.out.1
    have x1 : ∀ x : After wr, x.W.cell? ⟨w.heap.size, 1, none⟩ = some (.slice A es.length cap) := fun x => x.cell (by simp only; omega) HTRW.out.2
    have xE : ∀ x : After wr, EdgesIn x.W x.W.heap.size A es := fun x => ((hE.below hbw).below (x.h.mono hbw.size)).more (Nat.le_trans hbw.size x.h.size)
    have XE := Lib.hid xE; clear xE
    refine wp_region_below (by kernel_rfl) (by kernel_rfl) ?_
    repeat (go_big_quiet_step ((first
      | (go_at_call 98; exact After.call (FL2.out _ (XE.out _)))
      | (go_at_call 99; exact After.call (FC2.out _ (XE.out _))))))
    refine wpQuiet_nil ?_
    rintro _ ⟨xw, rfl⟩
    clear x0 x1
    go_wp2_with fail
    go_roundw
    case rel => exact ⟨j + 1, by omega, by go_num, by rw [HNEXT.out, Int.natCast_add], HNK2.out, HB.out.trans (xw.h.mono (by omega))⟩
    case measure => simp [intOf]; omega

end Go.Proofs.Ytjfdkhaepmmlfaa

namespace Go.Proofs.Ytjfdkhaepmmlfaa
open Go.RowKit

theorem IntsIn.low {W W' : World} {B : Nat} {row : Option Nat} {A : Option Addr} {ts : List Int} (h : IntsIn W B A ts) (k : W.grownBy W' row) (hB : B ≤ W.heap.size) (hr : ∀ c, c < B → some c ≠ row) : IntsIn W' B A ts := by
  intro i hi
  obtain ⟨b, o, e, hl, h1⟩ := h i hi
  exact ⟨b, o, e, hl, (World.cell?_of_block (k.block b (by omega) (hr b hl))).trans h1⟩
theorem IntsIn.grown_low {W W' : World} {B : Nat} {row : Option Nat} {A : Option Addr} {ts : List Int} (h : IntsIn W B A ts) (k : W.grownBy W' row) (hB : B ≤ W.heap.size) (hr : ∀ a, A = some a → some a.block ≠ row) : IntsIn W' B A ts := by
  intro i hi
  obtain ⟨b, o, e, hl, h1⟩ := h i hi
  exact ⟨b, o, e, hl, (World.cell?_of_block (k.block b (by omega) (hr _ e))).trans h1⟩

/-- numbers that are a call's own: none, or a row from a block on -/
def OwnInts (W : World) (base : Nat) (A : Option Addr) (n : Nat) : Prop :=
  (n = 0 ∧ A = none) ∨ ∃ g r f, A = some ⟨g, 0, none⟩ ∧ base ≤ g ∧ g < W.heap.size ∧ n ≤ r ∧ W.rowIs g 3 r f

theorem OwnInts.grown {W W' : World} {base n : Nat} {row : Option Nat} {A : Option Addr} (h : OwnInts W base A n) (k : W.grownBy W' row) (hr : ∀ a, A = some a → some a.block ≠ row) : OwnInts W' base A n := by
  rcases h with h | ⟨g, r, f, rfl, hb, hg, hn, hrow⟩
  · exact .inl h
  · exact .inr ⟨g, r, f, rfl, hb, Nat.lt_of_lt_of_le hg k.size, hn, hrow.of_block (k.block g hg (hr _ rfl))⟩
theorem OwnInts.below {W W' : World} {base n : Nat} {A : Option Addr} (h : OwnInts W base A n) (k : Below W.heap.size W W') : OwnInts W' base A n := by
  rcases h with h | ⟨g, r, f, rfl, hb, hg, hn, hrow⟩
  · exact .inl h
  · exact .inr ⟨g, r, f, rfl, hb, Nat.lt_of_lt_of_le hg k.size, hn, hrow.of_block (k.block g hg)⟩
theorem OwnInts.ne {W : World} {base n : Nat} {A : Option Addr} (h : OwnInts W base A n) {c : Nat} (hc : c < base) : ∀ a, A = some a → some a.block ≠ some c := by
  rintro a rfl e
  rcases h with ⟨_, h⟩ | ⟨g, r, f, h, hb, _⟩
  · simp at h
  · injection h with h
    subst h
    injection e with e
    simp only at e
    omega

theorem OwnInts.mono {W : World} {base base' n : Nat} {A : Option Addr} (h : OwnInts W base A n) (hb : base' ≤ base) : OwnInts W base' A n := by
  rcases h with h | ⟨g, r, f, e, hg, rest⟩
  · exact .inl h
  · exact .inr ⟨g, r, f, e, by omega, rest⟩

theorem OwnInts.row {W : World} {base n : Nat} {A : Option Addr} (h : OwnInts W base A n) {c : Nat} (hc : c < base) : rowOf A ≠ some c := by
  rcases h with ⟨_, rfl⟩ | ⟨g, r, f, rfl, hb, _⟩
  · intro e; cases e
  · intro e; simp [rowOf] at e; omega
theorem below_after_ints {w W W' : World} {base n : Nat} {A : Option Addr} (h : Below w.heap.size w W) (ho : OwnInts W base A n) (hb : w.heap.size ≤ base) (k : W.grownBy W' (rowOf A)) : Below w.heap.size w W' := by
  refine ⟨k.os.trans h.os, k.tape.trans h.tape, k.output.trans h.output, Nat.le_trans h.size k.size, fun i hi => (k.block i (Nat.lt_of_lt_of_le hi h.size) ?_).trans (h.block i hi)⟩
  exact fun e => ho.row (c := i) (by omega) e.symm

/-- a row of the call's own, as numbers -/
theorem own_ints {w : World} {base : Nat} {v : Value} {ts : List Int} (h : w.ownsRow base 3 1 v ts.length (ts.map (Value.int .i64))) :
    ∃ A cap, v = .slice A ts.length cap ∧ IntsIn w w.heap.size A ts ∧ OwnInts w base A ts.length := by
  rcases h.2 with ⟨rfl, h0⟩ | ⟨g, cap, cur, rfl, hb, hg, hn, hc, hs, htake⟩
  · exact ⟨none, 0, by rw [h0], fun k hk => absurd hk (by omega), .inl ⟨h0, rfl⟩⟩
  · have hlt : g < w.heap.size := (Array.getElem?_eq_some_iff.1 hg).1
    refine ⟨_, cap, rfl, fun k hk => ⟨g, 0, rfl, hlt, ?_⟩, .inr ⟨g, cur.size, fun i => cur.getD i (.bool true), rfl, hb, hlt, by omega, cur, hg, rfl, fun i hi => by simp [hi]⟩⟩
    have := h.cells (g := g) rfl k (.int .i64 ts[k]) (by simp [hk])
    have e : ((⟨g, 0, none⟩ : Addr).add k) = ⟨g, k, none⟩ := by unfold Addr.add; split <;> simp_all
    rw [e] at this
    rwa [Nat.zero_add]

theorem ownI_ne {W : World} {base n : Nat} {T : TypeId} {z : Nat} {v : Value} {xs : List Value} (h : W.ownsRow base T z v n xs) {c : Nat} (hc : c < base) : some c ≠ v.ownBlock := by
  rcases h.2 with ⟨rfl, _⟩ | ⟨g, cap, cur, rfl, hb, _⟩
  · intro e; cases e
  · intro e
    have e' : some c = some g := e
    injection e' with e'; omega

/-- what is handed back: numbers, and whether there are any -/
def ValsPost (q : List Int × Bool) (w : World) (e : Ending) (w' : World) : Prop :=
  ∃ A cap, e = .returned (.tuple #[.slice A q.1.length cap, .bool q.2]) ∧ IntsIn w' w'.heap.size A q.1 ∧ Below w.heap.size w w' ∧ OwnInts w' w.heap.size A q.1.length

end Go.Proofs.Ytjfdkhaepmmlfaa

namespace Go.Proofs.Ytjfdkhaepmmlfaa
open Go.RowKit

theorem valE_few' {B : ByteArray} {es : List (ByteArray × ByteArray)} {O : List UInt8} (h : Acy B es O) {k : Nat} (hk : k < es.length) : valE (ebs es) (exit_ B.data.toList) k ≤ 4294967296 := by
  obtain ⟨x, y, he, _, _, hx, _⟩ := edge_letters h.F.lets hk
  obtain ⟨r, h1, h2⟩ := h.at_ hx
  rw [valE_eq he]
  exact sumC_few (by rw [ebs_len]; exact h.F.few) h1 h2 (by have := h.F.few; omega)

section
variable {w : World} {P : Program}
/-- an append to a row of the call's own, where a region draws its order -/
theorem step_append_ownI {ops : Array Oper} {o : Oper} {a : Act} {K : Act → World → Prop} {Q : Exit → Act → World → Prop} {E : Prop} (hgd : o.guard = none) (s x : Operand) (t : TypeId)
    (ho : o.op = .call { callee := .builtin .append, args := #[s, x], argTypes := #[t, t] })
    (base : Nat) (e : TypeId) (i : TypeInfo) (z : Value) (size bytes : Nat) (ht : P.underlying t = some (.slice e)) (hi : P.info? e = some i) (hz : i.zero = some z)
    (hsize : i.size = size) (hby : i.bytes = bytes) (hzs : z.cells.size = size) (hsz : 0 < size)
    (v : Value) (n : Nat) (xs : List Value) (hs : a.eval s = v) (hown : w.ownsRow base e size v n xs)
    (ad : Addr) (m c : Nat) (news : List Value) (hx : a.eval x = .slice (some ad) m c) (hl : news.length = m * size) (hnews : ∀ j u, news[j]? = some u → w.cell? (ad.add j) = some u) (h1 : ∀ u ∈ news, u.oneCell' = true)
    (h63 : n + m ≤ maxLen) (hbytes : (n + m) * bytes ≤ 140737488355328) (hbase : base ≤ w.heap.size)
    (h : ∀ v' w', w'.ownsRow base e size v' (n + m) (xs ++ news) → w.grownBy w' v.ownBlock → K (a.put o.dst v') w') :
    if Region.wanted o (yielded ops a.tmps) = true then Oper.wp P o a w K Q else E := by
  have hw : Region.wanted o (yielded ops a.tmps) = true := by simp [Region.wanted, hgd]
  rw [if_pos hw]
  exact wp_append_own w s x t ho base e i z size bytes ht hi hz hsize hby hzs hsz v n xs hs hown ad m c news hx hl hnews h1 h63 hbytes hbase fun v' w' h2 h3 _ => h v' w' h2 h3
end

theorem one_newI (w : World) (u : Value) : ∀ j x, [u][j]? = some x → (w.alloc (.cells #[u] 3)).cell? ((⟨w.heap.size, 0, none⟩ : Addr).add j) = some x := by
  intro j x hj
  match j, hj with
  | 0, hj => simp at hj; subst hj; simp [Addr.add]
  | j + 1, hj => simp at hj

end Go.Proofs.Ytjfdkhaepmmlfaa

namespace Go.Proofs.Ytjfdkhaepmmlfaa
open Go.RowKit

theorem txtM_at {p : List Mv} {j : Nat} {m : Mv} : (h : p[j]? = some m) → (txtM p)[2 * j]? = some m.sg ∧ (txtM p)[2 * j + 1]? = some m.nm := by
  induction p generalizing j with
  | nil => intro h; simp at h
  | cons x p ih =>
    intro h
    have e : txtM (x :: p) = x.sg :: x.nm :: txtM p := rfl
    rw [e]
    cases j with
    | zero =>
      simp at h
      subst h
      exact ⟨rfl, rfl⟩
    | succ j =>
      have := ih (j := j) (by simpa using h)
      rw [show 2 * (j + 1) = 2 * j + 2 by omega]
      exact this
theorem byte_of {y : ByteArray} {i : Nat} {c : UInt8} (h : y.data.toList[i]? = some c) : ∃ hi : i < y.size, y[i]'hi = c := by
  have hi : i < y.data.toList.length := (List.getElem?_eq_some_iff.1 h).1
  have hi2 : i < y.size := by simpa using hi
  refine ⟨hi2, ?_⟩
  have h2 : y.data.toList[i]? = some y[i] := List.getElem?_eq_getElem hi
  rw [h] at h2
  injection h2 with h2
  exact h2.symm

set_option maxRecDepth 100000 in
set_option maxHeartbeats 2000000 in
/-- spec.l6Sum -/
theorem l6Sum_any (B : ByteArray) (A : Option Addr) (cap : Nat) (es : List (ByteArray × ByteArray)) (y : ByteArray) (p : List Mv) (w : World) (hs : B.size ≤ maxLen) (hE : EdgesIn w w.heap.size A es) (ha : acycV B es = true) (hy : y.data.toList = txtM p) (hp : OfNet es.length p) (h60 : p.length ≤ 60) :
    Calls Try.prog 127 #[.agg #[.string B, .slice A es.length cap], .string y] w (IntPost (sumM (valE (ebs es) (exit_ B.data.toList)) p) w) := by
  have hA := acy_v ha
  have h16 := hA.F.few
  have hsz : y.size = 2 * p.length := by
    have := congrArg List.length hy
    rw [txtM_len] at this
    simpa using this
  have FV : Hid (∀ k, k < es.length → ∀ (s : ByteArray), s = ⟨#[nameOf k]⟩ → ∀ W : World, EdgesIn W W.heap.size A es → Calls Try.prog 63 #[.agg #[.string B, .slice A es.length cap], .string s] W fun e w' => e = .returned (.int .i64 ((valE (ebs es) (exit_ B.data.toList) k : Nat) : Int)) ∧ Below W.heap.size W w') := Lib.hid fun k hk s hs' W h => by
    subst hs'; exact l4Value_any B A cap es k W h hA hs hk
  have hF : ∀ k, valE (ebs es) (exit_ B.data.toList) k ≤ 4294967296 := fun k => by
    by_cases hk : k < es.length
    · exact valE_few' hA hk
    · have h0 : valE (ebs es) (exit_ B.data.toList) k = 0 := by unfold valE; rw [List.getElem?_eq_none (by rw [ebs_len]; omega)]
      rw [h0]; omega
  obtain ⟨F, hFe⟩ : ∃ F, valE (ebs es) (exit_ B.data.toList) = F := ⟨_, rfl⟩
  rw [hFe] at FV hF ⊢
  have HY := Lib.hid hy; have HP := Lib.hid hp; have HSZ := Lib.hid hsz; have HF := Lib.hid hF; have H60 := Lib.hid h60; have H16 := Lib.hid h16
  have hb1 : Below w.heap.size w (w.alloc (.cells #[.string B, .slice A es.length cap] 30)) := (Below.refl _ _).alloc (Nat.le_refl _) _
  have t1 := Two.made w B A es.length cap 30
  have hz1 : (w.alloc (.cells #[.string B, .slice A es.length cap] 30)).heap.size = w.heap.size + 1 := by simp
  obtain ⟨w1, hw1⟩ : ∃ w1, w.alloc (.cells #[.string B, .slice A es.length cap] 30) = w1 := ⟨_, rfl⟩
  rw [hw1] at hb1 t1 hz1
  have HW1 := Lib.hid hw1; have HB1 := Lib.hid hb1; have HT1 := Lib.hid t1; have HZ1 := Lib.hid hz1
  clear hA h16 hsz hF hFe hy hp h60 ha hs hb1 t1 hz1 hw1
  go_enter Try.func127, Try.ntmps127
  go_wp2_with fail
  rw [HW1.out]
  go_loopw [5, 6] (fun a c wr => ∃ (j q : Nat) (s : Int), j ≤ p.length ∧ c = .int .i64 q ∧ a = .int .i64 s ∧ Hid (q = 2 * j) ∧ Hid (s = sumM F (p.take j)) ∧ Below w1.heap.size w1 wr) (fun _ c _ => y.size - (intOf c).toNat)
  case atStart => exact ⟨0, 0, 0, Nat.zero_le _, rfl, rfl, Lib.hid rfl, Lib.hid rfl, Below.refl _ _⟩
  case round =>
    obtain ⟨j, q, s, hj, rfl, rfl, HQ, HS, hb⟩ := hrel
    have hsz' := HSZ.out; have hq' := HQ.out; have h60' := H60.out
    have q60 : q ≤ 120 := by omega
    have hbf := HB1.out.trans (hb.mono HB1.out.size)
    by_cases hlt : j < p.length
    case neg =>
      have hn : ¬ ((q : Int) + 1 < (y.size : Int)) := by omega
      have HV : Hid (s = sumM F p) := Lib.hid (by rw [HS.out, List.take_of_length_le (by omega)])
      clear hsz' hq' h60'
      go_wp2_with fail
      go_ret
      exact ⟨ret_int HV.out, hbf⟩
    obtain ⟨m, hm⟩ : ∃ m, p[j]? = some m := ⟨_, List.getElem?_eq_getElem hlt⟩
    obtain ⟨b0, b1⟩ := txtM_at hm
    rw [← HY.out, ← hq'] at b0 b1
    obtain ⟨l0, x0⟩ := byte_of b0
    obtain ⟨l1, x1⟩ := byte_of b1
    have hex : y.extract (q + 1) (q + 2) = ⟨#[m.nm]⟩ := bytes_one (by
      rw [show q + 2 = q + 1 + 1 by omega, letter_at l1, List.getD_eq_getElem?_getD, b1]; rfl)
    have HNX : Hid (sumM F (p.take (j + 1)) = s + addM F m) := Lib.hid (by rw [List.take_add_one, hm, sumM_append, HS.out]; simp [sumM])
    have hsf := sum_few HF.out (p.take j)
    have hsl : (p.take j).length ≤ 60 := by rw [List.length_take]; omega
    rw [← HS.out] at hsf
    have s0 : -257698037760 ≤ s ∧ s ≤ 257698037760 := by omega
    have haf := add_few HF.out m
    have hmem := HP.out m (List.mem_of_getElem? hm)
    have a0 : (q : Int) + 1 < (y.size : Int) := by omega
    have a1 : (0 : Int) ≤ (q : Int) := by omega
    have a2 : (q : Int) < (y.size : Int) := by omega
    have a3 : (0 : Int) ≤ (q : Int) + 1 := by omega
    have a4 : ((q : Int) + 1).toNat = q + 1 := by omega
    have a5 : ((q : Int) + 2).toNat = q + 2 := by omega
    have a6 : (q : Int) + 2 ≤ (y.size : Int) := by omega
    have a7 : (q : Int) + 1 ≤ (q : Int) + 2 := by omega
    have a8 : q + 2 ≤ y.size := by omega
    have a9 : IntKind.i64.wrap ((q : Int) + 1) = (q : Int) + 1 := IntWalk.i64_in _ (by omega)
    have a10 : IntKind.i64.wrap ((q : Int) + 2) = (q : Int) + 2 := IntWalk.i64_in _ (by omega)
    have a11 : (0 : Int) ≤ (q : Int) + 2 := by omega
    have HREL : Hid (∀ v : Int, v = s + addM F m → ∃ (j' q' : Nat) (s' : Int), j' ≤ p.length ∧ Value.int .i64 ((q : Int) + 2) = .int .i64 q' ∧ Value.int .i64 v = .int .i64 s' ∧ Hid (q' = 2 * j') ∧ Hid (s' = sumM F (p.take j'))) := Lib.hid fun v hv => ⟨j + 1, q + 2, v, by omega, by go_num, rfl, Lib.hid (by have := HQ.out; omega), Lib.hid (by rw [HNX.out, hv])⟩
    have hmeas : y.size - (q + 2) < y.size - q := by omega
    by_cases hz : m.nm = 122
    · have n1 : ((m.nm.toNat : Int) != 122) = false := by rw [hz]; rfl
      by_cases hsg : m.sg = 45
      · have g1 : ((m.sg.toNat : Int) == 45) = true := by rw [beq_iff_eq, hsg]; rfl
        have HV : Hid (s = s + addM F m) := Lib.hid (by unfold addM; rw [if_pos hz, Int.add_zero])
        have HR := Lib.hid (HREL.out _ HV.out)
        clear hm b0 b1 hsf hsl haf hmem hsz' hq' h60' hz hsg
        go_wp2_with fail
        go_roundw
        case rel =>
          obtain ⟨j', q', s', r1, r2, r3, r4, r5⟩ := HR.out
          exact ⟨j', q', s', r1, r2, r3, r4, r5, hb⟩
        case measure => simp [intOf]; omega
      · have g1 : ((m.sg.toNat : Int) == 45) = false := by
          rw [beq_eq_false_iff_ne]
          intro e
          exact hsg (UInt8.toNat_inj.1 (by show m.sg.toNat = 45; omega))
        have HV : Hid (s = s + addM F m) := Lib.hid (by unfold addM; rw [if_pos hz, Int.add_zero])
        have HR := Lib.hid (HREL.out _ HV.out)
        clear hm b0 b1 hsf hsl haf hmem hsz' hq' h60' hz hsg
        go_wp2_with fail
        go_roundw
        case rel =>
          obtain ⟨j', q', s', r1, r2, r3, r4, r5⟩ := HR.out
          exact ⟨j', q', s', r1, r2, r3, r4, r5, hb⟩
        case measure => simp [intOf]; omega
    · have n1 : ((m.nm.toNat : Int) != 122) = true := by
        rw [bne_iff_ne]
        intro e
        exact hz (UInt8.toNat_inj.1 (by show m.nm.toNat = 122; omega))
      obtain ⟨k, hk, hkn⟩ : ∃ k, k < es.length ∧ m.nm = nameOf k := by
        rcases hmem with h | h
        · exact absurd h hz
        · exact h
      have hkm : m.nm.toNat - 97 = k := by
        rw [hkn, nameOf_toNat (by have := H16.out; omega)]; omega
      obtain ⟨fk, hfk'⟩ : ∃ fk : Int, ((F k : Nat) : Int) = fk := ⟨_, rfl⟩
      have hfk2 := HF.out k
      have f0 : 0 ≤ fk := by omega
      have f1 : fk ≤ 4294967296 := by omega
      have HFV : Hid (∀ W : World, EdgesIn W W.heap.size A es → Calls Try.prog 63 #[.agg #[.string B, .slice A es.length cap], .string (y.extract (q + 1) (q + 2))] W fun e w' => e = .returned (.int .i64 fk) ∧ Below W.heap.size W w') := Lib.hid fun W h => by
        have := FV.out k hk _ (show y.extract (q + 1) (q + 2) = ⟨#[nameOf k]⟩ by rw [hex, hkn]) W h
        rwa [hfk'] at this
      clear hex
      by_cases hsg : m.sg = 45
      · have g1 : ((m.sg.toNat : Int) == 45) = true := by rw [beq_iff_eq, hsg]; rfl
        have HV : Hid (s + -fk = s + addM F m) := Lib.hid (by unfold addM; rw [if_neg hz, if_pos hsg, hkm, hfk'])
        have HR := Lib.hid (HREL.out _ HV.out)
        clear hm b0 b1 hsf hsl haf hmem hsz' hq' h60' hz hsg hk hkn hkm hfk' hfk2
        go_wp2_with fail
        have y0 : ∀ x : After wr, x.W.cell? ⟨w.heap.size, 0, none⟩ = some (.string B) := fun x => x.cell (by have := HZ1.out; have := hb.size; simp only; omega) ((hb.cell (by have := HZ1.out; simp only; omega)).trans HT1.out.1)
        have y1 : ∀ x : After wr, x.W.cell? ⟨w.heap.size, 1, none⟩ = some (.slice A es.length cap) := fun x => x.cell (by have := HZ1.out; have := hb.size; simp only; omega) ((hb.cell (by have := HZ1.out; simp only; omega)).trans HT1.out.2)
        have yE : ∀ x : After wr, EdgesIn x.W x.W.heap.size A es := fun x => ((hE.below hbf).below (x.h.mono hbf.size)).more (Nat.le_trans hbf.size x.h.size)
        have XE := Lib.hid yE; clear yE
        refine wp_region_below (by kernel_rfl) (by kernel_rfl) ?_
        repeat (go_big_quiet_step ((go_at_call 63; exact After.call (HFV.out _ (XE.out _)))))
        refine wpQuiet_nil ?_
        rintro _ ⟨xw, rfl⟩
        clear y0 y1
        go_wp2_with fail
        go_roundw
        case rel =>
          obtain ⟨j', q', s', r1, r2, r3, r4, r5⟩ := HR.out
          exact ⟨j', q', s', r1, r2, r3, r4, r5, (hb.trans (xw.h.mono hb.size))⟩
        case measure => simp [intOf]; omega
      · have g1 : ((m.sg.toNat : Int) == 45) = false := by
          rw [beq_eq_false_iff_ne]
          intro e
          exact hsg (UInt8.toNat_inj.1 (by show m.sg.toNat = 45; omega))
        have HV : Hid (s + fk = s + addM F m) := Lib.hid (by unfold addM; rw [if_neg hz, if_neg hsg, hkm, hfk'])
        have HR := Lib.hid (HREL.out _ HV.out)
        clear hm b0 b1 hsf hsl haf hmem hsz' hq' h60' hz hsg hk hkn hkm hfk' hfk2
        go_wp2_with fail
        have y0 : ∀ x : After wr, x.W.cell? ⟨w.heap.size, 0, none⟩ = some (.string B) := fun x => x.cell (by have := HZ1.out; have := hb.size; simp only; omega) ((hb.cell (by have := HZ1.out; simp only; omega)).trans HT1.out.1)
        have y1 : ∀ x : After wr, x.W.cell? ⟨w.heap.size, 1, none⟩ = some (.slice A es.length cap) := fun x => x.cell (by have := HZ1.out; have := hb.size; simp only; omega) ((hb.cell (by have := HZ1.out; simp only; omega)).trans HT1.out.2)
        have yE : ∀ x : After wr, EdgesIn x.W x.W.heap.size A es := fun x => ((hE.below hbf).below (x.h.mono hbf.size)).more (Nat.le_trans hbf.size x.h.size)
        have XE := Lib.hid yE; clear yE
        refine wp_region_below (by kernel_rfl) (by kernel_rfl) ?_
        repeat (go_big_quiet_step ((go_at_call 63; exact After.call (HFV.out _ (XE.out _)))))
        refine wpQuiet_nil ?_
        rintro _ ⟨xw, rfl⟩
        clear y0 y1
        go_wp2_with fail
        go_roundw
        case rel =>
          obtain ⟨j', q', s', r1, r2, r3, r4, r5⟩ := HR.out
          exact ⟨j', q', s', r1, r2, r3, r4, r5, (hb.trans (xw.h.mono hb.size))⟩
        case measure => simp [intOf]; omega

end Go.Proofs.Ytjfdkhaepmmlfaa
