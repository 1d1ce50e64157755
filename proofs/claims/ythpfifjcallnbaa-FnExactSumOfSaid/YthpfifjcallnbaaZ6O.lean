/- Sums on paths by both. -/
import Derived.Test.YthpfifjcallnbaaZ6W
import Derived.Test.YthpfifjcallnbaaZ6V
import Derived.Test.YthpfifjcallnbaaPaths
import Derived.Test.YthpfifjcallnbaaSpec2
import Derived.Test.YthpfifjcallnbaaZ6K
import Derived.Test.YthpfifjcallnbaaZ6P
import Derived.Test.YthpfifjcallnbaaZ6I
import Derived.BigQuiet
import Derived.Deep.RegionHeld3
namespace Go.Proofs.Ythpfifjcallnbaa
open Go.RowKit

/-- what a path gives: the place of each of its edges -/
def PathKs (n : Nat) (p : ByteArray) : Prop := p.size ≤ 60 ∧ (ksOf p.data.toList).length = p.size ∧ ∀ i, i < p.size → ∃ k, k < n ∧ (ksOf p.data.toList)[i]? = some k ∧ p.extract i (i + 1) = ⟨#[nameOf k]⟩
theorem path_ks {B : ByteArray} {es : List (ByteArray × ByteArray)} {p : ByteArray} (hp : pathV B es p = true) : PathKs es.length p := by
  obtain ⟨hV, h60, hg⟩ := decB_iff.1 hp
  have h16 := (valid_sizes hV).2
  have hl : p.data.toList.length = p.size := by simp
  refine ⟨by omega, by simp [ksOf], fun i hi => ?_⟩
  have h0 := (hg i (by omega)).1
  obtain ⟨k, hk, hke⟩ := eIdx_some h0
  have hb := letter_at (p := p) hi
  have hx : p.extract i (i + 1) = ⟨#[nameOf k]⟩ := eIdx_text (n := es.length) (by rw [hb, hke]) (by omega)
  refine ⟨k, hk, ?_, hx⟩
  have hc : p.data.toList.getD i 0 = nameOf k := by
    rw [hx] at hb
    injection hb with hb
    exact hb.symm
  have hli : i < p.data.toList.length := by omega
  rw [List.getD_eq_getElem?_getD, List.getElem?_eq_getElem hli] at hc
  have hc2 : p.data.toList[i] = nameOf k := hc
  unfold ksOf
  rw [List.getElem?_map, List.getElem?_eq_getElem hli, Option.map_some, hc2, nameOf_toNat (by omega)]
  congr 1
  omega
theorem map_take {f : Nat → Int} {ks : List Nat} {i k : Nat} (h : ks[i]? = some k) : (ks.take (i + 1)).map f = (ks.take i).map f ++ [f k] := by
  rw [List.take_add_one, h]
  simp
theorem sumK_few {V : Int} (hV : 0 ≤ V) : ∀ (xs : List Int), (∀ x ∈ xs, -V ≤ x ∧ x ≤ V) → -(V * xs.length) ≤ sumK xs ∧ sumK xs ≤ V * xs.length
  | [], _ => by simp [sumK]
  | x :: r, h => by
    have h1 := h x List.mem_cons_self
    have h2 := sumK_few hV r fun y hy => h y (List.mem_cons_of_mem _ hy)
    have e : V * ((x :: r).length : Int) = V * (r.length : Int) + V := by simp [Int.mul_add]
    rw [e]
    simp only [sumK]
    omega

theorem map_ks {f : Nat → Int} {ks : List Nat} {n : Nat} (h : ks.length = n) : (List.range n).map (fun i => f (ks.getD i 0)) = ks.map f := by
  apply List.ext_getElem?
  intro i
  rw [List.getElem?_map, List.getElem?_map]
  by_cases hi : i < n
  · rw [List.getElem?_range hi, List.getElem?_eq_getElem (by omega)]
    simp [List.getD, List.getElem?_eq_getElem (show i < ks.length by omega)]
  · rw [List.getElem?_eq_none (by simp; omega), List.getElem?_eq_none (by omega)]
    rfl

end Go.Proofs.Ythpfifjcallnbaa

namespace Go.Proofs.Ythpfifjcallnbaa
open Go.RowKit

theorem goes_not {es : List (ByteArray × ByteArray)} {l : List UInt8} {k : Nat} (hk : k < l.length) (h : ¬ Goes es l k) : ¬ PathOk es l := fun q => h (q.2 k hk)

set_option maxRecDepth 100000 in
set_option maxHeartbeats 4000000 in
/-- impl.IsPath -/
theorem implIsPath_any (B : ByteArray) (A : Option Addr) (cap : Nat) (es : List (ByteArray × ByteArray)) (p : ByteArray) (w : World) (hs : B.size ≤ maxLen) (hE : EdgesIn w w.heap.size A es) (hl : es.length ≤ 1099511627776) (hp : p.size ≤ 1099511627776) :
    Calls Try.prog 51 #[.agg #[.string B, .slice A es.length cap], .string p] w (BoolPost (pathV B es p) w) := by
  have hl2 : es.length ≤ maxLen := by unfold maxLen; omega
  have HL := Lib.hid hl; have HL2 := Lib.hid hl2; have HM := Lib.hid hs
  clear hl hl2 hs
  have hb1 : Below w.heap.size w (w.alloc (.cells #[.string B, .slice A es.length cap] 30)) := (Below.refl _ _).alloc (Nat.le_refl _) _
  have t1 := Two.made w B A es.length cap 30
  have hz1 : (w.alloc (.cells #[.string B, .slice A es.length cap] 30)).heap.size = w.heap.size + 1 := by simp
  obtain ⟨bv, hbv⟩ : ∃ bv, decB (Valid B.data.toList (ebs es)) = bv := ⟨_, rfl⟩
  have HBV := Lib.hid hbv
  clear hbv
  cases bv with
  | false =>
    have HQ : Hid (pathV B es p = false) := Lib.hid (decB_f fun h => decB_not.1 HBV.out h.1)
    clear hp
    go_enter Try.func51, Try.ntmps51
    go_wp2_with fail
    refine (valid_any B A cap es _ HM.out ((hE.below hb1).more hb1.size) HL2.out).mono ?_
    rw [HBV.out]
    rintro e w2 ⟨rfl, hb2⟩
    have hb2' := hb1.trans (hb2.mono hb1.size)
    clear hb2 t1
    go_wp2_with fail
    go_ret
    exact ⟨by rw [HQ.out]; rfl, hb2'⟩
  | true =>
  have HV : Hid (Valid B.data.toList (ebs es)) := Lib.hid (decB_iff.1 HBV.out)
  by_cases h60 : (p.size : Int) > 60
  · have HQ : Hid (pathV B es p = false) := Lib.hid (decB_f fun h => by have := h.2.1; simp at this; omega)
    go_enter Try.func51, Try.ntmps51
    go_wp2_with fail
    refine (valid_any B A cap es _ HM.out ((hE.below hb1).more hb1.size) HL2.out).mono ?_
    rw [HBV.out]
    rintro e w2 ⟨rfl, hb2⟩
    have hb2' := hb1.trans (hb2.mono hb1.size)
    clear hb2 t1
    go_wp2_with fail
    go_ret
    exact ⟨by rw [HQ.out]; rfl, hb2'⟩
  have hp60 : (p.size : Int) ≤ 60 := by omega
  have HP60 : Hid (p.data.toList.length ≤ 60) := Lib.hid (by simp; omega)
  clear h60 hp
  go_enter Try.func51, Try.ntmps51
  go_wp2_with fail
  refine (valid_any B A cap es _ HM.out ((hE.below hb1).more hb1.size) HL2.out).mono ?_
  rw [HBV.out]
  rintro e w2 ⟨rfl, hb2⟩
  have t2 := t1.below hb2 (by omega)
  have hz2 : w.heap.size + 1 ≤ w2.heap.size := by have := hb2.size; omega
  have hb2' := hb1.trans (hb2.mono hb1.size)
  clear hb2 t1 hb1 hz1
  have HT2 := Lib.hid t2; have HB2 := Lib.hid hb2'
  clear t2 hb2'
  go_wp2_with fail
  go_loopw [5, 18] (fun a c wr => ∃ (k : Nat) (s : ByteArray), k ≤ p.size ∧ c = .int .i64 k ∧ a = .string s ∧ (0 < k → s = (edgeOf es (p.data.toList.getD (k - 1) 0)).2) ∧ (∀ i, i < k → Goes es p.data.toList i) ∧ Below w2.heap.size w2 wr) (fun _ c _ => p.size - (intOf c).toNat)
  case atStart => exact ⟨0, ⟨#[]⟩, Nat.zero_le _, rfl, rfl, fun h => absurd h (by omega), fun i hi => absurd hi (by omega), Below.refl _ _⟩
  case round =>
    obtain ⟨k, s, hk, rfl, rfl, hsv, hgo, hb⟩ := hrel
    have HSV := Lib.hid hsv; have HGO := Lib.hid hgo; have HB := Lib.hid hb
    have tr := HT2.out.below hb (by omega)
    have hzr := hb.size
    clear hsv hgo hb
    by_cases hlt : k < p.size
    case neg =>
      have hkp : k = p.size := by omega
      have HQ : Hid (pathV B es p = true) := Lib.hid (decB_t ⟨HV.out, HP60.out, fun i hi => HGO.out i (by simp at hi; omega)⟩)
      clear tr
      go_wp2_with fail
      go_ret
      exact ⟨by rw [HQ.out]; rfl, HB2.out.trans (HB.out.mono (by omega))⟩
    obtain ⟨x, hx⟩ : ∃ x, eIdx es.length (p.extract k (k + 1)).data.toList = x := ⟨_, rfl⟩
    have hlet : eIdx es.length [p.data.toList.getD k 0] = x := by rw [← letter_at hlt, hx]
    have HX := Lib.hid hx; have HLET := Lib.hid hlet
    clear hx hlet
    have hS : ∀ W, Below wr.heap.size wr W → (W.cell? ⟨w.heap.size, 0, none⟩ = some (.string B) ∧ W.cell? ⟨w.heap.size, 1, none⟩ = some (.slice A es.length cap) ∧ Below wr.heap.size wr W) :=
      fun W h => ⟨(h.cell (by simp only; omega)).trans tr.1, (h.cell (by simp only; omega)).trans tr.2, h⟩
    have HSS := Lib.hid hS
    clear hS tr
    have a1 : (0 : Int) ≤ (k : Int) := by omega
    have a2 : (k : Int) < (p.size : Int) := by omega
    have a4 : (0 : Int) ≤ (k : Int) + 1 := by omega
    have a5 : ((k : Int) + 1).toNat = k + 1 := by omega
    have a6 : (k : Int) + 1 ≤ (p.size : Int) := by omega
    have a7 : k + 1 ≤ p.size := by omega
    have a8 : (k : Int) ≤ (k : Int) + 1 := by omega
    have a3 : IntKind.i64.wrap ((k : Int) + 1) = (k : Int) + 1 := IntWalk.i64_in _ (by omega)
    go_wp2_with fail
    go_region_held3 (fun W => W.cell? ⟨w.heap.size, 0, none⟩ = some (.string B) ∧ W.cell? ⟨w.heap.size, 1, none⟩ = some (.slice A es.length cap) ∧ Below wr.heap.size wr W)
      (first
        | exact HSS.out _ (Below.refl _ _).drew
        | exact HSS.out _ ((Below.refl _ _).drew.trans hb4))
      (first
        | (go_at_call 45; refine (edgeIndex_any _ A es.length cap _ _ HL.out).mono ?_; rw [HX.out]; rintro e w4 ⟨rfl, hb4⟩))
    rename_i hHeld
    have hc0 := hHeld.1; have hc1 := hHeld.2.1
    have hbx := hHeld.2.2
    have HBX := Lib.hid hbx
    have hzx := hbx.size
    clear hHeld a1 a2 a3 a4 a5 a6 a7 a8 HSS hbx hb4
    by_cases hx0 : x < 0
    · have HQ : Hid (pathV B es p = false) := Lib.hid (decB_f fun h => goes_not (by simp; omega) (fun g => by have := g.1; rw [HLET.out] at this; omega) h.2)
      go_wp2_with fail
      go_ret
      exact ⟨by rw [HQ.out]; rfl, HB2.out.trans ((HB.out.trans (HBX.out.mono (by omega))).mono (by omega))⟩
    obtain ⟨j, hj, hxj⟩ : ∃ j : Nat, j < es.length ∧ x = j := by
      obtain ⟨j, hj, h⟩ := eIdx_some (n := es.length) (b := [p.data.toList.getD k 0]) (by rw [HLET.out]; omega)
      exact ⟨j, hj, by rw [← HLET.out, h]⟩
    subst hxj
    have hed := edgeOf_at hj HLET.out
    have HED := Lib.hid hed
    clear hed
    have hbw := HB2.out.trans ((HB.out.trans (HBX.out.mono (by omega))).mono (show w.heap.size ≤ w2.heap.size by omega))
    have HBW := Lib.hid hbw
    obtain ⟨eb, eo, rfl, hlow, h1, h2⟩ := (hE.below hbw) j hj
    clear hbw
    have hj0 : ¬ ((j : Int) < 0) := by omega
    by_cases hk0 : k = 0
    · subst hk0
      have hk1 : ¬ ((0 : Int) > 0) := by omega
      have HGN : Hid (∀ i, i < 0 + 1 → Goes es p.data.toList i) := Lib.hid fun i hi => by
        have : i = 0 := by omega
        subst this
        exact ⟨by rw [HLET.out]; omega, fun h => absurd h (by omega)⟩
      go_wp2_with fail
      go_roundw
      case rel => exact ⟨0 + 1, _, by omega, by go_num, rfl, fun _ => by simp only [Nat.zero_add, Nat.sub_self]; rw [HED.out], HGN.out, HB.out.trans (HBX.out.mono (by omega))⟩
      case measure => simp [intOf]; omega
    · have hk1 : (k : Int) > 0 := by omega
      cases ht : (es[j].1.toList == s.toList) with
      | false =>
        have ht2 : (es[j].1.toList != s.toList) = true := by simp [bne, ht]
        have HQ : Hid (pathV B es p = false) := Lib.hid (decB_f fun h => goes_not (by simp; omega) (fun g => by
          have hg := g.2 (by omega)
          rw [HED.out] at hg
          rw [HSV.out (by omega), hg] at ht
          simp at ht) h.2)
        go_wp2_with fail
        go_ret
        exact ⟨by rw [HQ.out]; rfl, HBW.out⟩
      | true =>
        have ht2 : (es[j].1.toList != s.toList) = false := by simp [bne, ht]
        have HGN : Hid (∀ i, i < k + 1 → Goes es p.data.toList i) := Lib.hid fun i hi => by
          by_cases hik : i < k
          · exact HGO.out i hik
          · have : i = k := by omega
            subst this
            refine ⟨by rw [HLET.out]; omega, fun h => ?_⟩
            have he : es[j].1 = s := by simp at ht; exact bytes_ext (by rw [← Lib.toList_data, ← Lib.toList_data, ht])
            rw [HED.out, he, HSV.out h]
        go_wp2_with fail
        go_roundw
        case rel => exact ⟨k + 1, _, by omega, by go_num, rfl, fun _ => by rw [Nat.add_sub_cancel, HED.out], HGN.out, HB.out.trans (HBX.out.mono (by omega))⟩
        case measure => simp [intOf]; omega

end Go.Proofs.Ythpfifjcallnbaa

namespace Go.Proofs.Ythpfifjcallnbaa
open Go.RowKit

/-- the edge that a text of one letter names -/
def edgeB (es : List (ByteArray × ByteArray)) (b : ByteArray) : ByteArray × ByteArray := es.getD (eIdx es.length b.data.toList).toNat (⟨#[]⟩, ⟨#[]⟩)

theorem edgeB_at {es : List (ByteArray × ByteArray)} {p : ByteArray} {i : Nat} (h : i < p.size) (hx : 0 ≤ eIdx es.length [p.data.toList.getD i 0]) : edgeB es (p.extract i (i + 1)) = edgeOf es (p.data.toList.getD i 0) := by
  obtain ⟨k, hk, he⟩ := eIdx_some hx
  rw [edgeOf_at hk he]
  unfold edgeB
  rw [letter_at h, he]
  simp [List.getD, hk]

theorem l2Edge_b (B : ByteArray) (A : Option Addr) (cap : Nat) (es : List (ByteArray × ByteArray)) (b : ByteArray) (w : World) (hE : EdgesIn w w.heap.size A es) (hl : es.length ≤ 1099511627776) (hi : 0 ≤ eIdx es.length b.data.toList) :
    Calls Try.prog 80 #[.agg #[.string B, .slice A es.length cap], .string b] w fun e w' => e = .returned (.agg #[.string (edgeB es b).1, .string (edgeB es b).2]) ∧ Below w.heap.size w w' := by
  obtain ⟨k, hk, he⟩ := eIdx_some hi
  have : edgeB es b = es[k] := by
    unfold edgeB
    rw [he]
    simp [List.getD, hk]
  rw [this]
  exact l2Edge_any B A cap es b k w hE hl hk he

set_option maxRecDepth 100000 in
set_option maxHeartbeats 4000000 in
/-- spec.l2Path -/
theorem l2Path_any (B : ByteArray) (A : Option Addr) (cap : Nat) (es : List (ByteArray × ByteArray)) (p : ByteArray) (w : World) (hE : EdgesIn w w.heap.size A es) (hl : es.length ≤ 1099511627776) (hp : p.size ≤ 1099511627776) :
    Calls Try.prog 84 #[.agg #[.string B, .slice A es.length cap], .string p] w (BoolPost (decB (PathOk es p.data.toList)) w) := by
  have HL := Lib.hid hl
  clear hl
  have hb1 : Below w.heap.size w (w.alloc (.cells #[.string B, .slice A es.length cap] 30)) := (Below.refl _ _).alloc (Nat.le_refl _) _
  have t1 := Two.made w B A es.length cap 30
  have hz1 : (w.alloc (.cells #[.string B, .slice A es.length cap] 30)).heap.size = w.heap.size + 1 := by simp
  go_enter Try.func84, Try.ntmps84
  go_wp2_with fail
  generalize hW1 : w.alloc (.cells #[.string B, .slice A es.length cap] 30) = w1 at hb1 t1 hz1 ⊢
  clear hW1
  have HT1 := Lib.hid t1; have HB1 := Lib.hid hb1
  clear t1 hb1
  go_loopw [8] (fun c wr => ∃ (k : Nat), k ≤ p.size ∧ c = .int .i64 k ∧ (∀ i, i < k → Goes es p.data.toList i) ∧ Below w1.heap.size w1 wr) (fun c _ => p.size - (intOf c).toNat)
  case atStart => exact ⟨0, Nat.zero_le _, rfl, fun i hi => absurd hi (by omega), Below.refl _ _⟩
  case round =>
    obtain ⟨k, hk, rfl, hgo, hb⟩ := hrel
    have HGO := Lib.hid hgo; have HB := Lib.hid hb
    have tr := HT1.out.below hb (by omega)
    have hzr := hb.size
    clear hgo hb
    by_cases hlt : k < p.size
    case neg =>
      have hkp : k = p.size := by omega
      clear tr
      by_cases h60 : (p.size : Int) ≤ 60
      · have HQ : Hid (decB (PathOk es p.data.toList) = true) := Lib.hid (decB_t ⟨by simp; omega, fun i hi => HGO.out i (by simp at hi; omega)⟩)
        have hd : decide ((p.size : Int) ≤ 60) = true := by simpa using h60
        go_wp2_with fail
        go_ret
        exact ⟨by rw [HQ.out]; first | rfl | simp [h60], HB1.out.trans (HB.out.mono (by omega))⟩
      · have HQ : Hid (decB (PathOk es p.data.toList) = false) := Lib.hid (decB_f fun h => by have := h.1; simp at this; omega)
        have hd : decide ((p.size : Int) ≤ 60) = false := by simpa using h60
        go_wp2_with fail
        go_ret
        exact ⟨by rw [HQ.out]; first | rfl | simp [h60], HB1.out.trans (HB.out.mono (by omega))⟩
    obtain ⟨x, hx⟩ : ∃ x, eIdx es.length (p.extract k (k + 1)).data.toList = x := ⟨_, rfl⟩
    have hlet : eIdx es.length [p.data.toList.getD k 0] = x := by rw [← letter_at hlt, hx]
    have HX := Lib.hid hx; have HLET := Lib.hid hlet
    clear hx hlet
    have hS : ∀ W, Below wr.heap.size wr W → (W.cell? ⟨w.heap.size, 0, none⟩ = some (.string B) ∧ W.cell? ⟨w.heap.size, 1, none⟩ = some (.slice A es.length cap) ∧ Below wr.heap.size wr W) :=
      fun W h => ⟨(h.cell (by simp only; omega)).trans tr.1, (h.cell (by simp only; omega)).trans tr.2, h⟩
    have HSS := Lib.hid hS
    clear hS
    have a1 : (0 : Int) ≤ (k : Int) := by omega
    have a2 : (k : Int) < (p.size : Int) := by omega
    have a4 : (0 : Int) ≤ (k : Int) + 1 := by omega
    have a5 : ((k : Int) + 1).toNat = k + 1 := by omega
    have a6 : (k : Int) + 1 ≤ (p.size : Int) := by omega
    have a7 : k + 1 ≤ p.size := by omega
    have a8 : (k : Int) ≤ (k : Int) + 1 := by omega
    have a3 : IntKind.i64.wrap ((k : Int) + 1) = (k : Int) + 1 := IntWalk.i64_in _ (by omega)
    go_wp2_with fail
    go_region_held3 (fun W => W.cell? ⟨w.heap.size, 0, none⟩ = some (.string B) ∧ W.cell? ⟨w.heap.size, 1, none⟩ = some (.slice A es.length cap) ∧ Below wr.heap.size wr W)
      (first
        | exact HSS.out _ (Below.refl _ _).drew
        | exact HSS.out _ ((Below.refl _ _).drew.trans hb4))
      (first
        | (go_at_call 43; refine (l1Index_any _ A es.length cap _ _ HL.out).mono ?_; rw [HX.out]; rintro e w4 ⟨rfl, hb4⟩))
    rename_i hHeld
    have hbx := hHeld.2.2
    have HBX := Lib.hid hbx
    have hzx := hbx.size
    clear hHeld a1 a2 a3 a4 a5 a6 a7 a8 HSS hbx hb4
    have HBW := Lib.hid (HB1.out.trans ((HB.out.trans (HBX.out.mono (by omega))).mono (show w.heap.size ≤ w1.heap.size by omega)))
    by_cases hx0 : x < 0
    · have HQ : Hid (decB (PathOk es p.data.toList) = false) := Lib.hid (decB_f fun h => goes_not (by simp; omega) (fun g => by have := g.1; rw [HLET.out] at this; omega) h)
      go_wp2_with fail
      go_ret
      exact ⟨by rw [HQ.out]; rfl, HBW.out⟩
    have tx := tr.below HBX.out (by omega)
    have hS : ∀ W, Below w4.heap.size w4 W → (W.cell? ⟨w.heap.size, 0, none⟩ = some (.string B) ∧ W.cell? ⟨w.heap.size, 1, none⟩ = some (.slice A es.length cap) ∧ Below w4.heap.size w4 W) :=
      fun W h => ⟨(h.cell (by simp only; omega)).trans tx.1, (h.cell (by simp only; omega)).trans tx.2, h⟩
    have hA : ∀ W, Below w4.heap.size w4 W → EdgesIn W W.heap.size A es := fun W h => by
      have hbW := HBW.out.trans (h.mono HBW.out.size)
      exact (hE.below hbW).more hbW.size
    have HSS := Lib.hid hS; have HA := Lib.hid hA
    clear hS hA tx tr
    by_cases hk0 : k = 0
    · subst hk0
      have hk1 : ¬ ((0 : Int) > 0) := by omega
      have HGN : Hid (∀ i, i < 0 + 1 → Goes es p.data.toList i) := Lib.hid fun i hi => by
        have : i = 0 := by omega
        subst this
        exact ⟨by rw [HLET.out]; omega, fun h => absurd h (by omega)⟩
      go_wp2_with fail
      go_quiet (fail)
      go_wp2_with fail
      go_roundw
      case rel => exact ⟨0 + 1, by omega, by go_num, HGN.out, HB.out.trans ((below_drewN HBX.out _).mono (by omega))⟩
      case measure => simp [intOf]; omega
    have hk1 : (k : Int) > 0 := by omega
    obtain ⟨m, rfl⟩ : ∃ m, k = m + 1 := ⟨k - 1, by omega⟩
    have hxm : 0 ≤ eIdx es.length [p.data.toList.getD m 0] := (HGO.out m (by omega)).1
    have HI1 : Hid (0 ≤ eIdx es.length (p.extract m (m + 1)).data.toList) := Lib.hid (by rw [letter_at (by omega)]; exact hxm)
    have HI2 : Hid (0 ≤ eIdx es.length (p.extract (m + 1) (m + 1 + 1)).data.toList) := Lib.hid (by rw [HX.out]; omega)
    have HE1 := Lib.hid (edgeB_at (es := es) (show m < p.size by omega) hxm)
    have HE2 := Lib.hid (edgeB_at (es := es) hlt (by rw [HLET.out]; omega))
    clear hxm
    have a1 : (0 : Int) ≤ ((m + 1 : Nat) : Int) := by omega
    have b1 : IntKind.i64.wrap (((m + 1 : Nat) : Int) - 1) = (m : Int) := by rw [IntWalk.i64_in _ (by omega)]; omega
    have a2 : (m : Int) + 1 < (p.size : Int) := by omega
    have a4 : (0 : Int) ≤ (m : Int) + 1 + 1 := by omega
    have a5 : ((m : Int) + 1 + 1).toNat = m + 1 + 1 := by omega
    have a6 : (m : Int) + 1 + 1 ≤ (p.size : Int) := by omega
    have a7 : m + 1 + 1 ≤ p.size := by omega
    have a8 : (m : Int) + 1 ≤ (m : Int) + 1 + 1 := by omega
    have a9 : (m : Int) ≤ (m : Int) + 1 := by omega
    have a10 : (m : Int) + 1 ≤ (p.size : Int) := by omega
    have a11 : (0 : Int) ≤ (m : Int) := by omega
    have a12 : (0 : Int) ≤ (m : Int) + 1 := by omega
    have a13 : ((m : Int) + 1).toNat = m + 1 := by omega
    have a14 : m + 1 ≤ p.size := by omega
    have a15 : m ≤ p.size := by omega
    have b4 : IntKind.i64.wrap (m : Int) = (m : Int) := IntWalk.i64_in _ (by omega)
    have b2 : IntKind.i64.wrap ((m : Int) + 1 - 1) = (m : Int) := by rw [IntWalk.i64_in _ (by omega)]; omega
    have a3 : IntKind.i64.wrap ((m : Int) + 1 + 1) = (m : Int) + 1 + 1 := IntWalk.i64_in _ (by omega)
    have e1 := edge_from; have e2 := edge_to
    go_wp2_with fail
    go_region_held3 (fun W => W.cell? ⟨w.heap.size, 0, none⟩ = some (.string B) ∧ W.cell? ⟨w.heap.size, 1, none⟩ = some (.slice A es.length cap) ∧ Below w4.heap.size w4 W)
      (first
        | exact HSS.out _ (Below.refl _ _).drew
        | exact HSS.out _ ((Below.refl _ _).drew.trans hb5)
        | exact HSS.out _ (((Below.refl _ _).drew.trans hb5).trans (hb6.mono hb5.size)))
      (first
        | (go_at_call 80; refine (l2Edge_b B A cap es _ _ (HA.out _ ((Below.refl _ _).drew.trans hb5)) HL.out (by first | exact HI1.out | exact HI2.out)).mono ?_; rintro e w6 ⟨rfl, hb6⟩)
        | (go_at_call 80; refine (l2Edge_b B A cap es _ _ (HA.out _ (Below.refl _ _).drew) HL.out (by first | exact HI1.out | exact HI2.out)).mono ?_; rintro e w5 ⟨rfl, hb5⟩))
    all_goals
      rename_i hHeld
      have hby := hHeld.2.2
      have HBY := Lib.hid (HB.out.trans ((HBX.out.trans (hby.mono (by omega))).mono (by omega)))
      clear hHeld a1 a2 a3 a4 a5 a6 a7 a8 a9 a10 a11 a12 a13 a14 a15 b1 b2 b4 e1 e2 HSS HA hby hb5 hb6
      cases ht : ((edgeB es (p.extract m (m + 1))).2.toList == (edgeB es (p.extract (m + 1) (m + 1 + 1))).1.toList) with
      | false =>
        have ht2 : ((edgeB es (p.extract m (m + 1))).2.toList != (edgeB es (p.extract (m + 1) (m + 1 + 1))).1.toList) = true := by simp [bne, ht]
        have HQ : Hid (decB (PathOk es p.data.toList) = false) := Lib.hid (decB_f fun h => goes_not (k := m + 1) (by simp; omega) (fun g => by
          have hg := g.2 (by omega)
          rw [Nat.add_sub_cancel, ← HE1.out, ← HE2.out] at hg
          rw [hg] at ht
          simp at ht) h)
        go_wp2_with fail
        go_ret
        exact ⟨by rw [HQ.out]; rfl, HB1.out.trans (HBY.out.mono (by omega))⟩
      | true =>
        have ht2 : ((edgeB es (p.extract m (m + 1))).2.toList != (edgeB es (p.extract (m + 1) (m + 1 + 1))).1.toList) = false := by simp [bne, ht]
        have HGN : Hid (∀ i, i < m + 1 + 1 → Goes es p.data.toList i) := Lib.hid fun i hi => by
          by_cases hik : i < m + 1
          · exact HGO.out i hik
          · have : i = m + 1 := by omega
            subst this
            refine ⟨by rw [HLET.out]; omega, fun _ => ?_⟩
            rw [Nat.add_sub_cancel, ← HE1.out, ← HE2.out]
            simp at ht
            exact bytes_ext (by rw [← Lib.toList_data, ← Lib.toList_data, ht])
        go_wp2_with fail
        go_roundw
        case rel => exact ⟨m + 1 + 1, by omega, by go_num, HGN.out, HBY.out⟩
        case measure => simp [intOf]; omega

set_option maxRecDepth 100000 in
set_option maxHeartbeats 1000000 in
/-- spec.IsPath -/
theorem specIsPath_any (B : ByteArray) (A : Option Addr) (cap : Nat) (es : List (ByteArray × ByteArray)) (p : ByteArray) (w : World) (hs : B.size ≤ maxLen) (hE : EdgesIn w w.heap.size A es) (hl : es.length ≤ 1099511627776) (hp : p.size ≤ 1099511627776) :
    Calls Try.prog 50 #[.agg #[.string B, .slice A es.length cap], .string p] w (BoolPost (pathV B es p) w) := by
  have hl2 : es.length ≤ maxLen := by unfold maxLen; omega
  have HL := Lib.hid hl; have HL2 := Lib.hid hl2; have HM := Lib.hid hs
  clear hl hl2 hs
  have hb1 : Below w.heap.size w (w.alloc (.cells #[.string B, .slice A es.length cap] 30)) := (Below.refl _ _).alloc (Nat.le_refl _) _
  have t1 := Two.made w B A es.length cap 30
  have hz1 : (w.alloc (.cells #[.string B, .slice A es.length cap] 30)).heap.size = w.heap.size + 1 := by simp
  obtain ⟨bv, hbv⟩ : ∃ bv, decB (Valid B.data.toList (ebs es)) = bv := ⟨_, rfl⟩
  have HBV := Lib.hid hbv
  clear hbv
  cases bv with
  | false =>
    have HQ : Hid (pathV B es p = false) := Lib.hid (decB_f fun h => decB_not.1 HBV.out h.1)
    clear hp
    go_enter Try.func50, Try.ntmps50
    go_wp2_with fail
    refine (specValid_any B A cap es _ HM.out ((hE.below hb1).more hb1.size) HL2.out).mono ?_
    rw [HBV.out]
    rintro e w2 ⟨rfl, hb2⟩
    have hb2' := hb1.trans (hb2.mono hb1.size)
    clear hb2 t1
    go_wp2_with fail
    go_ret
    exact ⟨by rw [HQ.out]; rfl, hb2'⟩
  | true =>
    obtain ⟨pv, hpv⟩ : ∃ pv, decB (PathOk es p.data.toList) = pv := ⟨_, rfl⟩
    have HQ : Hid (pathV B es p = pv) := Lib.hid (by
      rw [← hpv]
      exact decB_congr ⟨fun h => h.2, fun h => ⟨decB_iff.1 HBV.out, h⟩⟩)
    have HPV := Lib.hid hpv
    clear hpv
    go_enter Try.func50, Try.ntmps50
    go_wp2_with fail
    refine (specValid_any B A cap es _ HM.out ((hE.below hb1).more hb1.size) HL2.out).mono ?_
    rw [HBV.out]
    rintro e w2 ⟨rfl, hb2⟩
    have hb2' := hb1.trans (hb2.mono hb1.size)
    have t2 := t1.below hb2 (by omega)
    have hd0 := t2.1; have hd1 := t2.2
    clear hb2 t1 t2
    go_wp2_with fail
    refine (l2Path_any B A cap es p _ ((hE.below hb2').more hb2'.size) HL.out hp).mono ?_
    rw [HPV.out]
    rintro e w3 ⟨rfl, hb3⟩
    have hb3' := hb2'.trans (hb3.mono hb2'.size)
    clear hb3 hd0 hd1
    go_wp2_with fail
    go_ret
    exact ⟨by rw [HQ.out]; rfl, hb3'⟩

end Go.Proofs.Ythpfifjcallnbaa

namespace Go.Proofs.Ythpfifjcallnbaa
open Go.RowKit

set_option maxRecDepth 100000 in
set_option maxHeartbeats 1000000 in
/-- spec.AddsOn -/
theorem specAddsOn_any (B : ByteArray) (A : Option Addr) (cap : Nat) (es : List (ByteArray × ByteArray)) (t p : ByteArray) (w : World) (hs : B.size ≤ maxLen) (hE : EdgesIn w w.heap.size A es) (hl : es.length ≤ 1099511627776) (hS : ∀ e ∈ es, e.1.size ≤ 1099511627776 ∧ e.2.size ≤ 1099511627776) (htz : t.size ≤ 1099511627776) (hpz : p.size ≤ 1099511627776) :
    Calls Try.prog 28 #[.agg #[.string B, .slice A es.length cap], .string t, .string p] w (IntPost (addsOnV B es t p) w) := by
  have HM := Lib.hid hs; have HL := Lib.hid hl; have HS := Lib.hid hS; have HTZ := Lib.hid htz; have HPZ := Lib.hid hpz
  clear hs hl hS htz hpz
  obtain ⟨v, hv⟩ : ∃ v, askV B es t = v := ⟨_, rfl⟩
  have FA : Hid (∀ W : World, EdgesIn W W.heap.size A es → Calls Try.prog 35 #[.agg #[.string B, .slice A es.length cap], .string t] W fun e w' => e = .returned (.bool v) ∧ Below W.heap.size W w') := Lib.hid fun W h => by
    have := l6Asked_any B A cap es t W HM.out h HL.out HS.out HTZ.out
    rwa [hv] at this
  obtain ⟨u, hu⟩ : ∃ u, pathV B es p = u := ⟨_, rfl⟩
  have FP : Hid (∀ W : World, EdgesIn W W.heap.size A es → Calls Try.prog 50 #[.agg #[.string B, .slice A es.length cap], .string p] W fun e w' => e = .returned (.bool u) ∧ Below W.heap.size W w') := Lib.hid fun W h => by
    have := specIsPath_any B A cap es p W HM.out h HL.out HPZ.out
    rwa [hu] at this
  have hb1 : Below w.heap.size w (w.alloc (.cells #[.string B, .slice A es.length cap] 30)) := (Below.refl _ _).alloc (Nat.le_refl _) _
  have t1 := Two.made w B A es.length cap 30
  have hz1 : (w.alloc (.cells #[.string B, .slice A es.length cap] 30)).heap.size = w.heap.size + 1 := by simp
  cases v with
  | false =>
    have HN : Hid (addsOnV B es t p = -1) := Lib.hid (if_neg (by rw [hv]; simp))
    clear hv hu
    go_enter Try.func28, Try.ntmps28
    go_wp2_with fail
    refine (FA.out _ ((hE.below hb1).more hb1.size)).mono ?_
    rintro e w2 ⟨rfl, hb2⟩
    have hb2' := hb1.trans (hb2.mono hb1.size)
    clear hb2 t1
    go_wp2_with fail
    go_ret
    exact ⟨ret_int HN.out.symm, hb2'⟩
  | true =>
  cases u with
  | false =>
    have HN : Hid (addsOnV B es t p = -1) := Lib.hid (if_neg (by rw [hu]; simp))
    clear hv hu
    go_enter Try.func28, Try.ntmps28
    go_wp2_with fail
    refine (FA.out _ ((hE.below hb1).more hb1.size)).mono ?_
    rintro e w2 ⟨rfl, hb2⟩
    have hb2' := hb1.trans (hb2.mono hb1.size)
    have t2 := t1.below hb2 (by omega)
    have hd0 := t2.1; have hd1 := t2.2
    clear hb2 t1
    go_wp2_with fail
    refine (FP.out _ ((hE.below hb2').more hb2'.size)).mono ?_
    rintro e w3 ⟨rfl, hb3⟩
    have hb3' := hb2'.trans (hb3.mono hb2'.size)
    clear hb3 hd0 hd1 t2
    go_wp2_with fail
    go_ret
    exact ⟨ret_int HN.out.symm, hb3'⟩
  | true =>
    obtain ⟨ha, ht⟩ := ask_yes hv
    have hk := path_ks hu
    have FST : Hid (∀ i, i < p.size → ∀ W : World, EdgesIn W W.heap.size A es → Calls Try.prog 44 #[.agg #[.string B, .slice A es.length cap], .string t, .string (p.extract i (i + 1))] W fun e w' => e = .returned (.int .i64 (stpB B es t ((ksOf p.data.toList).getD i 0))) ∧ Below W.heap.size W w') := Lib.hid fun i hi W h => by
      obtain ⟨k, hkl, hki, hkx⟩ := hk.2.2 i hi
      rw [List.getD_eq_getElem?_getD, hki]
      exact l6Step_any B A cap es t _ k hkx W HM.out h HL.out ha ht hkl
    have hTm := tame_of ht (F := valB B es) (valE_allS (acy_v ha))
    have hmk : (List.range p.size).map (fun i => stpB B es t ((ksOf p.data.toList).getD i 0)) = (ksOf p.data.toList).map (stpB B es t) := map_ks hk.2.1
    have hfw : ∀ i, i < p.size → -137438953472 ≤ stpB B es t ((ksOf p.data.toList).getD i 0) ∧ stpB B es t ((ksOf p.data.toList).getD i 0) ≤ 137438953472 := fun i hi => by
      obtain ⟨k, hkl, hki, _⟩ := hk.2.2 i hi
      rw [List.getD_eq_getElem?_getD, hki]
      exact stp_few hTm (tree_pack ht).1.1.2 hkl
    obtain ⟨f, hf⟩ : ∃ f : Nat → Int, (fun i => stpB B es t ((ksOf p.data.toList).getD i 0)) = f := ⟨_, rfl⟩
    have hff : ∀ i, stpB B es t ((ksOf p.data.toList).getD i 0) = f i := fun i => by rw [← hf]
    have hfw2 : ∀ i, i < p.size → -137438953472 ≤ f i ∧ f i ≤ 137438953472 := fun i hi => by rw [← hf]; exact hfw i hi
    simp only [hff] at FST
    rw [hf] at hmk
    have HN : Hid (addsOnV B es t p = ((cntK ((List.range p.size).map f) : Nat) : Int)) := Lib.hid ((if_pos ⟨hv, hu⟩).trans (by rw [hmk]))
    have h60 := hk.1
    have HFW := Lib.hid hfw2
    clear hv hu ha ht hk hf hmk hTm hfw hfw2 hff
    go_enter Try.func28, Try.ntmps28
    go_wp2_with fail
    refine (FA.out _ ((hE.below hb1).more hb1.size)).mono ?_
    rintro e w2 ⟨rfl, hb2⟩
    have hb2' := hb1.trans (hb2.mono hb1.size)
    have t2 := t1.below hb2 (by omega)
    have hz2 := hb2.size
    have hd0 := t2.1; have hd1 := t2.2
    clear hb2 t1 FA
    go_wp2_with fail
    refine (FP.out _ ((hE.below hb2').more hb2'.size)).mono ?_
    rintro e w3 ⟨rfl, hb3⟩
    have hb3' := hb2'.trans (hb3.mono hb2'.size)
    have t3 := t2.below hb3 (by omega)
    have hz3 := hb3.size
    have hf0 := t3.1; have hf1 := t3.2
    clear hb3 hd0 hd1 t2 FP
    go_wp2_with fail
    have H60 := Lib.hid h60
    go_loopw [7, 21] (fun a c wr => ∃ (i : Nat) (s : Nat), i ≤ p.size ∧ c = .int .i64 i ∧ a = .int .i64 s ∧ s ≤ i ∧ Hid (s = cntK ((List.range i).map f)) ∧ Below w3.heap.size w3 wr) (fun _ c _ => p.size - (intOf c).toNat)
    case atStart => exact ⟨0, 0, Nat.zero_le _, rfl, rfl, Nat.le_refl _, Lib.hid rfl, Below.refl _ _⟩
    case round =>
      obtain ⟨i, s, hi, rfl, rfl, hq, HQ, hb⟩ := hrel
      have hbf := hb3'.trans (hb.mono hb3'.size)
      by_cases hlt : i < p.size
      case neg =>
        have HV : Hid (((s : Nat) : Int) = addsOnV B es t p) := Lib.hid (by rw [HN.out, HQ.out, show i = p.size by omega])
        go_wp2_with fail
        go_ret
        exact ⟨ret_int HV.out, hbf⟩
      have a1 : (0 : Int) ≤ (i : Int) := by omega
      have a2 : (i : Int) < (p.size : Int) := by omega
      have a4 : (0 : Int) ≤ (i : Int) + 1 := by omega
      have a5 : ((i : Int) + 1).toNat = i + 1 := by omega
      have a6 : (i : Int) + 1 ≤ (p.size : Int) := by omega
      have a7 : i + 1 ≤ p.size := by omega
      have a8 : (i : Int) ≤ (i : Int) + 1 := by omega
      have hi60 : i ≤ 60 := by have := H60.out; omega
      have a9 : IntKind.i64.wrap ((i : Int) + 1) = (i : Int) + 1 := IntWalk.i64_in _ (by omega)
      have FSI := Lib.hid (FST.out i hlt)
      have y0 : ∀ x : After wr, x.W.cell? ⟨w.heap.size, 0, none⟩ = some (.string B) := fun x => x.cell (by have := hb.size; simp only; omega) ((hb.cell (by simp only; omega)).trans hf0)
      have y1 : ∀ x : After wr, x.W.cell? ⟨w.heap.size, 1, none⟩ = some (.slice A es.length cap) := fun x => x.cell (by have := hb.size; simp only; omega) ((hb.cell (by simp only; omega)).trans hf1)
      have yE : ∀ x : After wr, EdgesIn x.W x.W.heap.size A es := fun x => ((hE.below hbf).below (x.h.mono hbf.size)).more (Nat.le_trans hbf.size x.h.size)
      have XE := Lib.hid yE; clear yE
      have HNX : Hid (cntK ((List.range (i + 1)).map f) = s + if f i = 0 then 0 else 1) := Lib.hid (by rw [List.range_succ, List.map_append, List.map_cons, List.map_nil, cntK_snoc, HQ.out])
      obtain ⟨fi, hfi⟩ : ∃ fi, f i = fi := ⟨_, rfl⟩
      rw [hfi] at HNX FSI
      clear hfi
      by_cases hz : fi = 0
      · have HN2 : Hid (s = cntK ((List.range (i + 1)).map f)) := Lib.hid (by rw [HNX.out, if_pos hz, Nat.add_zero])
        have z1 : (fi != 0) = false := by simp [hz]
        clear hz
        go_wp2_with fail
        refine wp_region_below (by kernel_rfl) (by kernel_rfl) ?_
        repeat (go_big_quiet_step ((go_at_call 44; exact After.call (FSI.out _ (XE.out _)))))
        refine wpQuiet_nil ?_
        rintro _ ⟨xw, rfl⟩
        have HBN := Lib.hid (hb.trans (xw.h.mono hb.size))
        clear y0 y1
        go_wp2_with fail
        go_roundw
        case rel => exact ⟨i + 1, s, by omega, by go_num, rfl, by omega, HN2, HBN.out⟩
        case measure => simp [intOf]; omega
      · have HN2 : Hid (s + 1 = cntK ((List.range (i + 1)).map f)) := Lib.hid (by rw [HNX.out, if_neg hz])
        have z1 : (fi != 0) = true := by simp [hz]
        clear hz
        go_wp2_with fail
        refine wp_region_below (by kernel_rfl) (by kernel_rfl) ?_
        repeat (go_big_quiet_step ((go_at_call 44; exact After.call (FSI.out _ (XE.out _)))))
        refine wpQuiet_nil ?_
        rintro _ ⟨xw, rfl⟩
        have HBN := Lib.hid (hb.trans (xw.h.mono hb.size))
        clear y0 y1
        go_wp2_with fail
        go_roundw
        case rel => exact ⟨i + 1, s + 1, by omega, by go_num, by go_num, by omega, HN2, HBN.out⟩
        case measure => simp [intOf]; omega

set_option maxRecDepth 100000 in
set_option maxHeartbeats 1000000 in
/-- spec.SumOf -/
theorem specSumOf_any (B : ByteArray) (A : Option Addr) (cap : Nat) (es : List (ByteArray × ByteArray)) (t p : ByteArray) (w : World) (hs : B.size ≤ maxLen) (hE : EdgesIn w w.heap.size A es) (hl : es.length ≤ 1099511627776) (hS : ∀ e ∈ es, e.1.size ≤ 1099511627776 ∧ e.2.size ≤ 1099511627776) (htz : t.size ≤ 1099511627776) (hpz : p.size ≤ 1099511627776) :
    Calls Try.prog 24 #[.agg #[.string B, .slice A es.length cap], .string t, .string p] w (IBPost (sumTV B es t p) w) := by
  have HM := Lib.hid hs; have HL := Lib.hid hl; have HS := Lib.hid hS; have HTZ := Lib.hid htz; have HPZ := Lib.hid hpz
  clear hs hl hS htz hpz
  obtain ⟨v, hv⟩ : ∃ v, askV B es t = v := ⟨_, rfl⟩
  have FA : Hid (∀ W : World, EdgesIn W W.heap.size A es → Calls Try.prog 35 #[.agg #[.string B, .slice A es.length cap], .string t] W fun e w' => e = .returned (.bool v) ∧ Below W.heap.size W w') := Lib.hid fun W h => by
    have := l6Asked_any B A cap es t W HM.out h HL.out HS.out HTZ.out
    rwa [hv] at this
  obtain ⟨u, hu⟩ : ∃ u, pathV B es p = u := ⟨_, rfl⟩
  have FP : Hid (∀ W : World, EdgesIn W W.heap.size A es → Calls Try.prog 50 #[.agg #[.string B, .slice A es.length cap], .string p] W fun e w' => e = .returned (.bool u) ∧ Below W.heap.size W w') := Lib.hid fun W h => by
    have := specIsPath_any B A cap es p W HM.out h HL.out HPZ.out
    rwa [hu] at this
  have hb1 : Below w.heap.size w (w.alloc (.cells #[.string B, .slice A es.length cap] 30)) := (Below.refl _ _).alloc (Nat.le_refl _) _
  have t1 := Two.made w B A es.length cap 30
  have hz1 : (w.alloc (.cells #[.string B, .slice A es.length cap] 30)).heap.size = w.heap.size + 1 := by simp
  cases v with
  | false =>
    have HN : Hid (sumTV B es t p = (0, false)) := Lib.hid (ibV_no (by rw [hv]; simp))
    clear hv hu
    go_enter Try.func24, Try.ntmps24
    go_wp2_with fail
    refine (FA.out _ ((hE.below hb1).more hb1.size)).mono ?_
    rintro e w2 ⟨rfl, hb2⟩
    have hb2' := hb1.trans (hb2.mono hb1.size)
    clear hb2 t1
    go_wp2_with fail
    go_ret2
    exact ⟨by rw [HN.out]; rfl, hb2'⟩
  | true =>
  cases u with
  | false =>
    have HN : Hid (sumTV B es t p = (0, false)) := Lib.hid (ibV_no (by rw [hu]; simp))
    clear hv hu
    go_enter Try.func24, Try.ntmps24
    go_wp2_with fail
    refine (FA.out _ ((hE.below hb1).more hb1.size)).mono ?_
    rintro e w2 ⟨rfl, hb2⟩
    have hb2' := hb1.trans (hb2.mono hb1.size)
    have t2 := t1.below hb2 (by omega)
    have hd0 := t2.1; have hd1 := t2.2
    clear hb2 t1
    go_wp2_with fail
    refine (FP.out _ ((hE.below hb2').more hb2'.size)).mono ?_
    rintro e w3 ⟨rfl, hb3⟩
    have hb3' := hb2'.trans (hb3.mono hb2'.size)
    clear hb3 hd0 hd1 t2
    go_wp2_with fail
    go_ret2
    exact ⟨by rw [HN.out]; rfl, hb3'⟩
  | true =>
    obtain ⟨ha, ht⟩ := ask_yes hv
    have hk := path_ks hu
    have FST : Hid (∀ i, i < p.size → ∀ W : World, EdgesIn W W.heap.size A es → Calls Try.prog 44 #[.agg #[.string B, .slice A es.length cap], .string t, .string (p.extract i (i + 1))] W fun e w' => e = .returned (.int .i64 (stpB B es t ((ksOf p.data.toList).getD i 0))) ∧ Below W.heap.size W w') := Lib.hid fun i hi W h => by
      obtain ⟨k, hkl, hki, hkx⟩ := hk.2.2 i hi
      rw [List.getD_eq_getElem?_getD, hki]
      exact l6Step_any B A cap es t _ k hkx W HM.out h HL.out ha ht hkl
    have hTm := tame_of ht (F := valB B es) (valE_allS (acy_v ha))
    have hmk : (List.range p.size).map (fun i => stpB B es t ((ksOf p.data.toList).getD i 0)) = (ksOf p.data.toList).map (stpB B es t) := map_ks hk.2.1
    have hfw : ∀ i, i < p.size → -137438953472 ≤ stpB B es t ((ksOf p.data.toList).getD i 0) ∧ stpB B es t ((ksOf p.data.toList).getD i 0) ≤ 137438953472 := fun i hi => by
      obtain ⟨k, hkl, hki, _⟩ := hk.2.2 i hi
      rw [List.getD_eq_getElem?_getD, hki]
      exact stp_few hTm (tree_pack ht).1.1.2 hkl
    obtain ⟨f, hf⟩ : ∃ f : Nat → Int, (fun i => stpB B es t ((ksOf p.data.toList).getD i 0)) = f := ⟨_, rfl⟩
    have hff : ∀ i, stpB B es t ((ksOf p.data.toList).getD i 0) = f i := fun i => by rw [← hf]
    have hfw2 : ∀ i, i < p.size → -137438953472 ≤ f i ∧ f i ≤ 137438953472 := fun i hi => by rw [← hf]; exact hfw i hi
    simp only [hff] at FST
    rw [hf] at hmk
    have HN : Hid (sumTV B es t p = (sumK ((List.range p.size).map f), true)) := Lib.hid ((ibV_yes ⟨hv, hu⟩).trans (by rw [hmk]))
    have h60 := hk.1
    have HFW := Lib.hid hfw2
    clear hv hu ha ht hk hf hmk hTm hfw hfw2 hff
    go_enter Try.func24, Try.ntmps24
    go_wp2_with fail
    refine (FA.out _ ((hE.below hb1).more hb1.size)).mono ?_
    rintro e w2 ⟨rfl, hb2⟩
    have hb2' := hb1.trans (hb2.mono hb1.size)
    have t2 := t1.below hb2 (by omega)
    have hz2 := hb2.size
    have hd0 := t2.1; have hd1 := t2.2
    clear hb2 t1 FA
    go_wp2_with fail
    refine (FP.out _ ((hE.below hb2').more hb2'.size)).mono ?_
    rintro e w3 ⟨rfl, hb3⟩
    have hb3' := hb2'.trans (hb3.mono hb2'.size)
    have t3 := t2.below hb3 (by omega)
    have hz3 := hb3.size
    have hf0 := t3.1; have hf1 := t3.2
    clear hb3 hd0 hd1 t2 FP
    go_wp2_with fail
    have H60 := Lib.hid h60
    go_loopw [8, 22] (fun a c wr => ∃ (i : Nat) (s : Int), i ≤ p.size ∧ c = .int .i64 i ∧ a = .int .i64 s ∧ Hid (s = sumK ((List.range i).map f)) ∧ Below w3.heap.size w3 wr) (fun _ c _ => p.size - (intOf c).toNat)
    case atStart => exact ⟨0, 0, Nat.zero_le _, rfl, rfl, Lib.hid rfl, Below.refl _ _⟩
    case round =>
      obtain ⟨i, s, hi, rfl, rfl, HQ, hb⟩ := hrel
      have hbf := hb3'.trans (hb.mono hb3'.size)
      by_cases hlt : i < p.size
      case neg =>
        have HV : Hid (sumTV B es t p = (s, true)) := Lib.hid (by rw [HN.out, HQ.out, show i = p.size by omega])
        go_wp2_with fail
        go_ret2
        exact ⟨by rw [HV.out]; rfl, hbf⟩
      have a1 : (0 : Int) ≤ (i : Int) := by omega
      have a2 : (i : Int) < (p.size : Int) := by omega
      have a4 : (0 : Int) ≤ (i : Int) + 1 := by omega
      have a5 : ((i : Int) + 1).toNat = i + 1 := by omega
      have a6 : (i : Int) + 1 ≤ (p.size : Int) := by omega
      have a7 : i + 1 ≤ p.size := by omega
      have a8 : (i : Int) ≤ (i : Int) + 1 := by omega
      have hi60 : i ≤ 60 := by have := H60.out; omega
      have a9 : IntKind.i64.wrap ((i : Int) + 1) = (i : Int) + 1 := IntWalk.i64_in _ (by omega)
      have FSI := Lib.hid (FST.out i hlt)
      have y0 : ∀ x : After wr, x.W.cell? ⟨w.heap.size, 0, none⟩ = some (.string B) := fun x => x.cell (by have := hb.size; simp only; omega) ((hb.cell (by simp only; omega)).trans hf0)
      have y1 : ∀ x : After wr, x.W.cell? ⟨w.heap.size, 1, none⟩ = some (.slice A es.length cap) := fun x => x.cell (by have := hb.size; simp only; omega) ((hb.cell (by simp only; omega)).trans hf1)
      have yE : ∀ x : After wr, EdgesIn x.W x.W.heap.size A es := fun x => ((hE.below hbf).below (x.h.mono hbf.size)).more (Nat.le_trans hbf.size x.h.size)
      have XE := Lib.hid yE; clear yE
      have HNX : Hid (s + f i = sumK ((List.range (i + 1)).map f)) := Lib.hid (by rw [List.range_succ, List.map_append, List.map_cons, List.map_nil, sumK_append, HQ.out]; simp [sumK])
      have hfi2 := HFW.out i hlt
      have hsb := sumK_few (V := 137438953472) (by omega) ((List.range i).map f) (fun x hx => by
        obtain ⟨j, hj, rfl⟩ := List.mem_map.1 hx
        exact HFW.out j (by have := List.mem_range.1 hj; omega))
      rw [← HQ.out, List.length_map, List.length_range] at hsb
      obtain ⟨fi, hfi⟩ : ∃ fi, f i = fi := ⟨_, rfl⟩
      rw [hfi] at HNX hfi2 FSI
      have b1 : -9223372036854775808 ≤ s + fi := by omega
      have b2 : s + fi ≤ 9223372036854775807 := by omega
      have z0 : IntKind.i64.wrap (s + fi) = s + fi := IntWalk.i64_in _ (by omega)
      clear hfi hsb hfi2
      go_wp2_with fail
      refine wp_region_below (by kernel_rfl) (by kernel_rfl) ?_
      repeat (go_big_quiet_step ((go_at_call 44; exact After.call (FSI.out _ (XE.out _)))))
      refine wpQuiet_nil ?_
      rintro _ ⟨xw, rfl⟩
      have HBN := Lib.hid (hb.trans (xw.h.mono hb.size))
      clear y0 y1
      go_wp2_with fail
      go_roundw
      case rel => exact ⟨i + 1, s + fi, by omega, by go_num, rfl, HNX, HBN.out⟩
      case measure => simp [intOf]; omega


end Go.Proofs.Ythpfifjcallnbaa

namespace Go.Proofs.Ythpfifjcallnbaa
open Go.RowKit

set_option maxRecDepth 100000 in
set_option maxHeartbeats 2000000 in
/-- impl.treeNet.stepsOn -/
theorem stepsOn_any (B : ByteArray) (A : Option Addr) (cap : Nat) (es : List (ByteArray × ByteArray)) (F : Nat → Nat) (G : UInt8 → Int) (H : Nat → Int) (p : ByteArray) (w : World) (hE : EdgesIn w w.heap.size A es) (hV : Valid B.data.toList (ebs es)) (hT : Tame B.data.toList F G) (hH : ∀ x ∈ B.data.toList, H (idxL B.data.toList x) = G x) (hp : PathKs es.length p) :
    Calls Try.prog 52 #[.agg (tnC B A es.length cap F H).toArray, .string p] w (RowI (fun i => stpE F G es ((ksOf p.data.toList).getD i 0)) p.size w) := by
  obtain ⟨h60, hkl, hks⟩ := hp
  have h16 := (valid_sizes hV).2
  have FS : Hid (∀ (k : Nat), k < es.length → ∀ W : World, EdgesIn W W.heap.size A es → Calls Try.prog 46 #[.agg (tnC B A es.length cap F H).toArray, .int .i64 (k : Int)] W fun e w' => e = .returned (.int .i64 (stpE F G es k)) ∧ Below W.heap.size W w') := Lib.hid fun k hk W h => step_any B A cap es F G H k W h hV hT hH hk
  have FI : Hid (∀ (k : Nat), k < es.length → ∀ (s : ByteArray), s = ⟨#[nameOf k]⟩ → ∀ W : World, Calls Try.prog 45 #[.agg #[.string B, .slice A es.length cap], .string s] W fun e w' => e = .returned (.int .i64 (k : Int)) ∧ Below W.heap.size W w') := Lib.hid fun k hk s hs W => by
    subst hs
    have := edgeIndex_any (.string B) A es.length cap ⟨#[nameOf k]⟩ W (by omega)
    rwa [eIdx_name hk (by omega)] at this
  obtain ⟨f, hf⟩ : ∃ f : Nat → Int, (fun i => stpE F G es ((ksOf p.data.toList).getD i 0)) = f := ⟨_, rfl⟩
  have HFE : Hid (∀ i k, (ksOf p.data.toList)[i]? = some k → stpE F G es k = f i) := Lib.hid fun i k h => by
    rw [← hf]
    show _ = stpE F G es ((ksOf p.data.toList).getD i 0)
    rw [List.getD_eq_getElem?_getD, h]; rfl
  rw [hf]
  have htn := TnAt.new w (tnC B A es.length cap F H) rfl
  have c0 : (tnC B A es.length cap F H)[0]? = some (.string B) := rfl
  have c1 : (tnC B A es.length cap F H)[1]? = some (.slice A es.length cap) := rfl
  obtain ⟨cs, hcs⟩ : ∃ cs, tnC B A es.length cap F H = cs := ⟨_, rfl⟩
  have hcl : (Try.prog.info? 53).map (·.size) = some cs.length := by rw [← hcs]; kernel_rfl
  have HCL := Lib.hid hcl
  rw [hcs] at FS htn c0 c1 ⊢
  have HC0 := Lib.hid c0; have HC1 := Lib.hid c1
  have hw0 : Below w.heap.size w (w.alloc (.cells cs.toArray 53)) := (Below.refl _ _).alloc (Nat.le_refl _) _
  have hmk := fun W => make_ints p.size (by omega) W
  have HKS := Lib.hid hks; have H60 := Lib.hid h60
  have HS1 : Hid (StpAt w ((w.alloc (.cells cs.toArray 53)).alloc (.cells (madeCells #[.int .i64 0] p.size) 3)) (w.heap.size + 1) p.size cs f 0) := Lib.hid (by
    have hz := zerosI (w.alloc (.cells cs.toArray 53)) p.size
    rw [World.size_alloc] at hz
    exact ⟨hw0.alloc (by simp) _, htn.below ((Below.refl _ _).alloc (Nat.le_refl _) _) (by simp), hz.congr (fun j _ => by simp), by omega, by simp⟩)
  clear h16 h60 hkl hks hV hT hH hf htn c0 c1 hcs hcl hw0
  go_enter Try.func52, Try.ntmps52
  go_wp2_with fail
  clear hmk
  go_loopw [12] (fun c wr => ∃ i : Nat, i ≤ p.size ∧ c = .int .i64 i ∧ Hid (StpAt w wr (w.heap.size + 1) p.size cs f i)) (fun c _ => p.size - (intOf c).toNat)
  case atStart => exact ⟨0, Nat.zero_le _, rfl, HS1⟩
  case round =>
    clear HS1
    obtain ⟨i, hi, rfl, HS⟩ := hrel
    by_cases hlt : i < p.size
    case neg =>
      have HROW : Hid (wr.rowIs (w.heap.size + 1) 3 p.size (fun j => .int .i64 (f j))) := Lib.hid (HS.out.row.congr fun j hj => by rw [if_pos (by omega)])
      go_wp2_with fail
      go_ret
      exact ⟨w.heap.size + 1, rfl, HROW.out, by omega, HS.out.below⟩
    have a1 : (0 : Int) ≤ (i : Int) := by omega
    have a2 : (i : Int) < (p.size : Int) := by omega
    have a4 : (0 : Int) ≤ (i : Int) + 1 := by omega
    have a5 : ((i : Int) + 1).toNat = i + 1 := by omega
    have a6 : (i : Int) + 1 ≤ (p.size : Int) := by omega
    have a7 : i + 1 ≤ p.size := by omega
    have a8 : (i : Int) ≤ (i : Int) + 1 := by omega
    have hi60 : i ≤ 60 := by have := H60.out; omega
    have a9 : IntKind.i64.wrap ((i : Int) + 1) = (i : Int) + 1 := IntWalk.i64_in _ (by omega)
    obtain ⟨k, hk, hki, hkx⟩ := HKS.out i hlt
    obtain ⟨s, hs⟩ : ∃ s, p.extract i (i + 1) = s := ⟨_, rfl⟩
    have HFI := Lib.hid (FI.out k hk s (by rw [← hs, hkx]))
    have HFS := Lib.hid (FS.out k hk)
    have hfe := HFE.out i k hki
    rw [hfe] at HFS
    obtain ⟨fi, hfi⟩ : ∃ fi, f i = fi := ⟨_, rfl⟩
    rw [hfi] at HFS
    have HFII := Lib.hid hfi
    have HSX := Lib.hid hs
    have hkk : k ≤ 16 ∨ True := .inr True.intro
    clear hk hki hkx hfe hfi hkk
    have HSS : Hid (∀ W, Below wr.heap.size wr W → (W.rangeAt w.heap.size 0 cs ∧ W.cell? ⟨w.heap.size, 0, none⟩ = some (.string B) ∧ W.cell? ⟨w.heap.size, 1, none⟩ = some (.slice A es.length cap))) := Lib.hid fun W h =>
      ⟨((HS.out.go h).tn).rg, (HS.out.go h).tn.cell HC0.out, (HS.out.go h).tn.cell HC1.out⟩
    clear hs
    go_wp2_with fail
    refine wp_region_noPanic ?_
    refine wp_region_held_drew (S := (fun W => W.rangeAt w.heap.size 0 cs ∧ W.cell? ⟨w.heap.size, 0, none⟩ = some (.string B) ∧ W.cell? ⟨w.heap.size, 1, none⟩ = some (.slice A es.length cap))) (by kernel_rfl) (HSS.out _ (Below.refl _ _).drew) (fun hHeld => ?_)
    refine wpAnyH_take (i := 0) (v := .slice (some ⟨w.heap.size + 1, 0, none⟩) p.size p.size) rfl (by kernel_rfl) (by kernel_rfl) (by kernel_rfl) (fun _ _ _ h => h) (Or.inl ⟨by rfl, by intro w hSw; go_split_ands; go_simp⟩) (by assumption) ?_
    try simp only [Act.put]
    refine wpAnyH_take (i := 1) (v := .int .i64 (i : Int)) rfl (by kernel_rfl) (by kernel_rfl) (by kernel_rfl) (fun _ _ _ h => h) (Or.inl ⟨by rfl, by intro w hSw; go_split_ands; go_simp⟩) (by assumption) ?_
    try simp only [Act.put]
    refine wpAnyH_take (i := 2) (v := .agg cs.toArray) rfl (by kernel_rfl) (by kernel_rfl) (by kernel_rfl) (fun _ _ _ h => h) (yieldsIf_load_mid (by rfl) _ _ rfl _ _ rfl cs _ (fun w hSw => hSw.1) Try.underlying53 rfl HCL.out) (by assumption) ?_
    try simp only [Act.put]
    refine wpAnyH_take (i := 3) (v := .pointer (some ⟨w.heap.size, 0, none⟩)) rfl (by kernel_rfl) (by kernel_rfl) (by kernel_rfl) (fun _ _ _ h => h) (Or.inl ⟨by rfl, by intro w hSw; go_split_ands; go_simp⟩) (by assumption) ?_
    try simp only [Act.put]
    refine wpAnyH_take (i := 4) (v := .agg #[.string B, .slice A es.length cap]) rfl (by kernel_rfl) (by kernel_rfl) (by kernel_rfl) (fun _ _ _ h => h) (Or.inl ⟨by rfl, by intro w hSw; go_split_ands; go_simp⟩) (by assumption) ?_
    try simp only [Act.put]
    refine wpAnyH_take (i := 5) (v := .string p) rfl (by kernel_rfl) (by kernel_rfl) (by kernel_rfl) (fun _ _ _ h => h) (Or.inl ⟨by rfl, by intro w hSw; go_split_ands; go_simp⟩) (by assumption) ?_
    try simp only [Act.put]
    refine wpAnyH_take (i := 6) (v := .int .i64 (i : Int)) rfl (by kernel_rfl) (by kernel_rfl) (by kernel_rfl) (fun _ _ _ h => h) (Or.inl ⟨by rfl, by intro w hSw; go_split_ands; go_simp⟩) (by assumption) ?_
    try simp only [Act.put]
    refine wpAnyH_take (i := 7) (v := .int .i64 (i : Int)) rfl (by kernel_rfl) (by kernel_rfl) (by kernel_rfl) (fun _ _ _ h => h) (Or.inl ⟨by rfl, by intro w hSw; go_split_ands; go_simp⟩) (by assumption) ?_
    try simp only [Act.put]
    refine wpAnyH_take (i := 8) (v := .int .i64 ((i : Int) + 1)) rfl (by kernel_rfl) (by kernel_rfl) (by kernel_rfl) (fun _ _ _ h => h) (Or.inl ⟨by rfl, by intro w hSw; go_split_ands; go_simp⟩) (by assumption) ?_
    try simp only [Act.put]
    refine wpAnyH_take (i := 9) (v := .string (p.extract i (i + 1))) rfl (by kernel_rfl) (by kernel_rfl) (by kernel_rfl) (fun _ _ _ h => h) (Or.inl ⟨by rfl, by intro w hSw; go_split_ands; go_simp⟩) (by assumption) ?_
    try simp only [Act.put]
    refine wpAnyH_ready (rs := [10]) (by kernel_rfl) (by simp) ?_
    refine AllReadyH.cons rfl (fun K hK => ?_) AllReadyH.nil
    go_simp
    rw [HSX.out]
    refine (HFI.out _).mono ?_
    rintro e w2 ⟨rfl, hb2⟩
    have HB2 : Hid (Below wr.heap.size wr w2) := Lib.hid ((Below.refl _ _).drew.trans hb2)
    clear hb2
    go_wp2_with fail
    refine hK.out _ _ (HSS.out _ HB2.out) (fun hHeld => ?_)
    clear hK K
    try simp only [Act.put, List.setIfInBounds_toArray, List.set_cons_zero, List.set_cons_succ]
    refine wpAnyH_ready (rs := [11]) (by kernel_rfl) (by simp) ?_
    refine AllReadyH.cons rfl (fun K hK => ?_) AllReadyH.nil
    go_simp
    refine (HFS.out _ ((hE.below (HS.out.below.trans (HB2.out.mono HS.out.below.size))).more (HS.out.below.trans (HB2.out.mono HS.out.below.size)).size)).mono ?_
    rintro e w3 ⟨rfl, hb3⟩
    have HB3 : Hid (Below wr.heap.size wr w3) := Lib.hid (HB2.out.trans (hb3.mono HB2.out.size))
    clear hb3
    go_wp2_with fail
    refine hK.out _ _ (HSS.out _ HB3.out) (fun hHeld => ?_)
    clear hK K
    try simp only [Act.put, List.setIfInBounds_toArray, List.set_cons_zero, List.set_cons_succ]
    have HS5 := Lib.hid (HS.out.go HB3.out)
    have s1 := HS5.out.row.cell (i := i) hlt
    have s2 := HS5.out.row.frozen i
    have HS6 : Hid (StpAt w (w3.setCell ⟨w.heap.size + 1, i, none⟩ (.int .i64 fi)) (w.heap.size + 1) p.size cs f (i + 1)) := Lib.hid (by rw [← HFII.out]; exact HS5.out.set)
    refine wpAnyH_take (i := 12) (v := .pointer (some ⟨w.heap.size + 1, i, none⟩)) rfl (by kernel_rfl) (by kernel_rfl) (by kernel_rfl) (fun _ _ _ h => h) (Or.inl ⟨by rfl, by intro w hSw; go_split_ands; go_simp⟩) (by assumption) ?_
    try simp only [Act.put, List.setIfInBounds_toArray]
    refine wpAnyH_ready (rs := [13]) (by kernel_rfl) (by simp) ?_
    refine AllReadyH.cons rfl (fun K hK => ?_) AllReadyH.nil
    go_simp
    refine hK.out _ _ ⟨HS6.out.tn.rg, HS6.out.tn.cell HC0.out, HS6.out.tn.cell HC1.out⟩ (fun hHeld => ?_)
    clear hK K hHeld
    refine wpAnyH_done (by kernel_rfl) (NoPanic.normal ?_) _
    clear s1 s2 HSS HB2 HB3
    go_wp2_with fail
    go_roundw
    case rel => exact ⟨i + 1, by omega, by go_num, HS6⟩
    case measure => simp [intOf]; omega

end Go.Proofs.Ythpfifjcallnbaa

namespace Go.Proofs.Ythpfifjcallnbaa
open Go.RowKit

set_option maxRecDepth 100000 in
set_option maxHeartbeats 1000000 in
/-- impl.AddsOn -/
theorem implAddsOn_any (B : ByteArray) (A : Option Addr) (cap : Nat) (es : List (ByteArray × ByteArray)) (t p : ByteArray) (w : World) (hs : B.size ≤ maxLen) (hE : EdgesIn w w.heap.size A es) (hl : es.length ≤ 1099511627776) (hS : ∀ e ∈ es, e.1.size ≤ 1099511627776 ∧ e.2.size ≤ 1099511627776) (htz : t.size ≤ 1099511627776) (hpz : p.size ≤ 1099511627776) :
    Calls Try.prog 29 #[.agg #[.string B, .slice A es.length cap], .string t, .string p] w (IntPost (addsOnV B es t p) w) := by
  have HM := Lib.hid hs; have HL := Lib.hid hl; have HS := Lib.hid hS; have HTZ := Lib.hid htz; have HPZ := Lib.hid hpz
  clear hs hl hS htz hpz
  obtain ⟨v, hv⟩ : ∃ v, askV B es t = v := ⟨_, rfl⟩
  have FA : Hid (∀ W : World, EdgesIn W W.heap.size A es → Calls Try.prog 40 #[.agg #[.string B, .slice A es.length cap], .string t] W fun e w' => e = .returned (.bool v) ∧ Below W.heap.size W w') := Lib.hid fun W h => by
    have := isTreeOfAcyclic_any B A cap es t W HM.out h HL.out HS.out HTZ.out
    rwa [hv] at this
  obtain ⟨u, hu⟩ : ∃ u, pathV B es p = u := ⟨_, rfl⟩
  have FP : Hid (∀ W : World, EdgesIn W W.heap.size A es → Calls Try.prog 51 #[.agg #[.string B, .slice A es.length cap], .string p] W fun e w' => e = .returned (.bool u) ∧ Below W.heap.size W w') := Lib.hid fun W h => by
    have := implIsPath_any B A cap es p W HM.out h HL.out HPZ.out
    rwa [hu] at this
  have hb1 : Below w.heap.size w (w.alloc (.cells #[.string B, .slice A es.length cap] 30)) := (Below.refl _ _).alloc (Nat.le_refl _) _
  have t1 := Two.made w B A es.length cap 30
  have hz1 : (w.alloc (.cells #[.string B, .slice A es.length cap] 30)).heap.size = w.heap.size + 1 := by simp
  cases v with
  | false =>
    have HN : Hid (addsOnV B es t p = -1) := Lib.hid (if_neg (by rw [hv]; simp))
    clear hv hu
    go_enter Try.func29, Try.ntmps29
    go_wp2_with fail
    refine (FA.out _ ((hE.below hb1).more hb1.size)).mono ?_
    rintro e w2 ⟨rfl, hb2⟩
    have hb2' := hb1.trans (hb2.mono hb1.size)
    clear hb2 t1
    go_wp2_with fail
    go_ret
    exact ⟨ret_int HN.out.symm, hb2'⟩
  | true =>
  cases u with
  | false =>
    have HN : Hid (addsOnV B es t p = -1) := Lib.hid (if_neg (by rw [hu]; simp))
    clear hv hu
    go_enter Try.func29, Try.ntmps29
    go_wp2_with fail
    refine (FA.out _ ((hE.below hb1).more hb1.size)).mono ?_
    rintro e w2 ⟨rfl, hb2⟩
    have hb2' := hb1.trans (hb2.mono hb1.size)
    have t2 := t1.below hb2 (by omega)
    have hd0 := t2.1; have hd1 := t2.2
    clear hb2 t1
    go_wp2_with fail
    refine (FP.out _ ((hE.below hb2').more hb2'.size)).mono ?_
    rintro e w3 ⟨rfl, hb3⟩
    have hb3' := hb2'.trans (hb3.mono hb2'.size)
    clear hb3 hd0 hd1 t2
    go_wp2_with fail
    go_ret
    exact ⟨ret_int HN.out.symm, hb3'⟩
  | true =>
    obtain ⟨ha, ht⟩ := ask_yes hv
    have hk := path_ks hu
    have FT : Hid (∀ W : World, EdgesIn W W.heap.size A es → Calls Try.prog 41 #[.agg #[.string B, .slice A es.length cap], .string t] W (TnetPost B A es.length cap (valB B es) (hgtB B es t (valB B es)) W)) := Lib.hid fun W h => ask_tnet ha A cap ht HM.out HL.out W h
    have hTm := tame_of ht (F := valB B es) (valE_all (acy_v ha))
    have FST : Hid (∀ (H : Nat → Int), (∀ x ∈ B.data.toList, H (idxL B.data.toList x) = hgtB B es t (valB B es) x) → ∀ W : World, EdgesIn W W.heap.size A es → Calls Try.prog 52 #[.agg (tnC B A es.length cap (valB B es) H).toArray, .string p] W (RowI (fun i => stpB B es t ((ksOf p.data.toList).getD i 0)) p.size W)) := Lib.hid fun H hH W h =>
      stepsOn_any B A cap es (valB B es) (hgtB B es t (valB B es)) H p W h (tree_pack ht).1 hTm hH hk
    have hmk : (List.range p.size).map (fun i => stpB B es t ((ksOf p.data.toList).getD i 0)) = (ksOf p.data.toList).map (stpB B es t) := map_ks hk.2.1
    have hfw : ∀ i, i < p.size → -137438953472 ≤ stpB B es t ((ksOf p.data.toList).getD i 0) ∧ stpB B es t ((ksOf p.data.toList).getD i 0) ≤ 137438953472 := fun i hi => by
      obtain ⟨k, hkl, hki, _⟩ := hk.2.2 i hi
      rw [List.getD_eq_getElem?_getD, hki]
      exact stp_few hTm (tree_pack ht).1.1.2 hkl
    obtain ⟨f, hf⟩ : ∃ f : Nat → Int, (fun i => stpB B es t ((ksOf p.data.toList).getD i 0)) = f := ⟨_, rfl⟩
    have hfw2 : ∀ i, i < p.size → -137438953472 ≤ f i ∧ f i ≤ 137438953472 := fun i hi => by rw [← hf]; exact hfw i hi
    rw [hf] at FST hmk
    have HN : Hid (addsOnV B es t p = ((cntK ((List.range p.size).map f) : Nat) : Int)) := Lib.hid ((if_pos ⟨hv, hu⟩).trans (by rw [hmk]))
    have h60 := hk.1
    have HFW := Lib.hid hfw2
    clear hv hu ha ht hk hf hmk hTm hfw hfw2
    go_enter Try.func29, Try.ntmps29
    go_wp2_with fail
    refine (FA.out _ ((hE.below hb1).more hb1.size)).mono ?_
    rintro e w2 ⟨rfl, hb2⟩
    have hb2' := hb1.trans (hb2.mono hb1.size)
    have t2 := t1.below hb2 (by omega)
    have hz2 := hb2.size
    have hd0 := t2.1; have hd1 := t2.2
    clear hb2 t1 FA
    go_wp2_with fail
    refine (FP.out _ ((hE.below hb2').more hb2'.size)).mono ?_
    rintro e w3 ⟨rfl, hb3⟩
    have hb3' := hb2'.trans (hb3.mono hb2'.size)
    have t3 := t2.below hb3 (by omega)
    have hz3 := hb3.size
    have hf0 := t3.1; have hf1 := t3.2
    clear hb3 hd0 hd1 t2 FP
    go_wp2_with fail
    refine (FT.out _ ((hE.below hb3').more hb3'.size)).mono ?_
    rintro e w4 ⟨H, rfl, hH, hb4⟩
    have hb4' := hb3'.trans (hb4.mono hb3'.size)
    have HCALL := Lib.hid (FST.out H hH w4 ((hE.below hb4').more hb4'.size))
    obtain ⟨cs, hcs⟩ : ∃ cs, tnC B A es.length cap (valB B es) H = cs := ⟨_, rfl⟩
    rw [hcs] at HCALL ⊢
    clear hb4 hf0 hf1 t3 hcs hH FT FST
    go_wp2_with fail
    refine HCALL.out.mono ?_
    rintro e w5 ⟨g, rfl, hrow, hg, hb5⟩
    have hb5' := hb4'.trans (hb5.mono hb4'.size)
    have HROW := Lib.hid hrow
    clear hb5 hrow HCALL hg
    have FCA := Lib.hid (countAdding_any g p.size f w5 HROW.out (by omega))
    obtain ⟨q, hq⟩ : ∃ q : Int, ((cntK ((List.range p.size).map f) : Nat) : Int) = q := ⟨_, rfl⟩
    rw [hq] at FCA
    have HQ := Lib.hid hq
    clear hq HROW
    go_wp2_with fail
    refine FCA.out.mono ?_
    rintro e w6 ⟨rfl, hb6⟩
    have hb6' := hb5'.trans (hb6.mono hb5'.size)
    clear hb6 FCA
    go_wp2_with fail
    go_ret
    exact ⟨ret_int (by rw [HN.out, HQ.out]), hb6'⟩

set_option maxRecDepth 100000 in
set_option maxHeartbeats 1000000 in
/-- impl.SumOf -/
theorem implSumOf_any (B : ByteArray) (A : Option Addr) (cap : Nat) (es : List (ByteArray × ByteArray)) (t p : ByteArray) (w : World) (hs : B.size ≤ maxLen) (hE : EdgesIn w w.heap.size A es) (hl : es.length ≤ 1099511627776) (hS : ∀ e ∈ es, e.1.size ≤ 1099511627776 ∧ e.2.size ≤ 1099511627776) (htz : t.size ≤ 1099511627776) (hpz : p.size ≤ 1099511627776) :
    Calls Try.prog 25 #[.agg #[.string B, .slice A es.length cap], .string t, .string p] w (IBPost (sumTV B es t p) w) := by
  have HM := Lib.hid hs; have HL := Lib.hid hl; have HS := Lib.hid hS; have HTZ := Lib.hid htz; have HPZ := Lib.hid hpz
  clear hs hl hS htz hpz
  obtain ⟨v, hv⟩ : ∃ v, askV B es t = v := ⟨_, rfl⟩
  have FA : Hid (∀ W : World, EdgesIn W W.heap.size A es → Calls Try.prog 40 #[.agg #[.string B, .slice A es.length cap], .string t] W fun e w' => e = .returned (.bool v) ∧ Below W.heap.size W w') := Lib.hid fun W h => by
    have := isTreeOfAcyclic_any B A cap es t W HM.out h HL.out HS.out HTZ.out
    rwa [hv] at this
  obtain ⟨u, hu⟩ : ∃ u, pathV B es p = u := ⟨_, rfl⟩
  have FP : Hid (∀ W : World, EdgesIn W W.heap.size A es → Calls Try.prog 51 #[.agg #[.string B, .slice A es.length cap], .string p] W fun e w' => e = .returned (.bool u) ∧ Below W.heap.size W w') := Lib.hid fun W h => by
    have := implIsPath_any B A cap es p W HM.out h HL.out HPZ.out
    rwa [hu] at this
  have hb1 : Below w.heap.size w (w.alloc (.cells #[.string B, .slice A es.length cap] 30)) := (Below.refl _ _).alloc (Nat.le_refl _) _
  have t1 := Two.made w B A es.length cap 30
  have hz1 : (w.alloc (.cells #[.string B, .slice A es.length cap] 30)).heap.size = w.heap.size + 1 := by simp
  cases v with
  | false =>
    have HN : Hid (sumTV B es t p = (0, false)) := Lib.hid (ibV_no (by rw [hv]; simp))
    clear hv hu
    go_enter Try.func25, Try.ntmps25
    go_wp2_with fail
    refine (FA.out _ ((hE.below hb1).more hb1.size)).mono ?_
    rintro e w2 ⟨rfl, hb2⟩
    have hb2' := hb1.trans (hb2.mono hb1.size)
    clear hb2 t1
    go_wp2_with fail
    go_ret2
    exact ⟨by rw [HN.out]; rfl, hb2'⟩
  | true =>
  cases u with
  | false =>
    have HN : Hid (sumTV B es t p = (0, false)) := Lib.hid (ibV_no (by rw [hu]; simp))
    clear hv hu
    go_enter Try.func25, Try.ntmps25
    go_wp2_with fail
    refine (FA.out _ ((hE.below hb1).more hb1.size)).mono ?_
    rintro e w2 ⟨rfl, hb2⟩
    have hb2' := hb1.trans (hb2.mono hb1.size)
    have t2 := t1.below hb2 (by omega)
    have hd0 := t2.1; have hd1 := t2.2
    clear hb2 t1
    go_wp2_with fail
    refine (FP.out _ ((hE.below hb2').more hb2'.size)).mono ?_
    rintro e w3 ⟨rfl, hb3⟩
    have hb3' := hb2'.trans (hb3.mono hb2'.size)
    clear hb3 hd0 hd1 t2
    go_wp2_with fail
    go_ret2
    exact ⟨by rw [HN.out]; rfl, hb3'⟩
  | true =>
    obtain ⟨ha, ht⟩ := ask_yes hv
    have hk := path_ks hu
    have FT : Hid (∀ W : World, EdgesIn W W.heap.size A es → Calls Try.prog 41 #[.agg #[.string B, .slice A es.length cap], .string t] W (TnetPost B A es.length cap (valB B es) (hgtB B es t (valB B es)) W)) := Lib.hid fun W h => ask_tnet ha A cap ht HM.out HL.out W h
    have hTm := tame_of ht (F := valB B es) (valE_all (acy_v ha))
    have FST : Hid (∀ (H : Nat → Int), (∀ x ∈ B.data.toList, H (idxL B.data.toList x) = hgtB B es t (valB B es) x) → ∀ W : World, EdgesIn W W.heap.size A es → Calls Try.prog 52 #[.agg (tnC B A es.length cap (valB B es) H).toArray, .string p] W (RowI (fun i => stpB B es t ((ksOf p.data.toList).getD i 0)) p.size W)) := Lib.hid fun H hH W h =>
      stepsOn_any B A cap es (valB B es) (hgtB B es t (valB B es)) H p W h (tree_pack ht).1 hTm hH hk
    have hmk : (List.range p.size).map (fun i => stpB B es t ((ksOf p.data.toList).getD i 0)) = (ksOf p.data.toList).map (stpB B es t) := map_ks hk.2.1
    have hfw : ∀ i, i < p.size → -137438953472 ≤ stpB B es t ((ksOf p.data.toList).getD i 0) ∧ stpB B es t ((ksOf p.data.toList).getD i 0) ≤ 137438953472 := fun i hi => by
      obtain ⟨k, hkl, hki, _⟩ := hk.2.2 i hi
      rw [List.getD_eq_getElem?_getD, hki]
      exact stp_few hTm (tree_pack ht).1.1.2 hkl
    obtain ⟨f, hf⟩ : ∃ f : Nat → Int, (fun i => stpB B es t ((ksOf p.data.toList).getD i 0)) = f := ⟨_, rfl⟩
    have hfw2 : ∀ i, i < p.size → -137438953472 ≤ f i ∧ f i ≤ 137438953472 := fun i hi => by rw [← hf]; exact hfw i hi
    rw [hf] at FST hmk
    have HN : Hid (sumTV B es t p = (sumK ((List.range p.size).map f), true)) := Lib.hid ((ibV_yes ⟨hv, hu⟩).trans (by rw [hmk]))
    have h60 := hk.1
    have HFW := Lib.hid hfw2
    clear hv hu ha ht hk hf hmk hTm hfw hfw2
    go_enter Try.func25, Try.ntmps25
    go_wp2_with fail
    refine (FA.out _ ((hE.below hb1).more hb1.size)).mono ?_
    rintro e w2 ⟨rfl, hb2⟩
    have hb2' := hb1.trans (hb2.mono hb1.size)
    have t2 := t1.below hb2 (by omega)
    have hz2 := hb2.size
    have hd0 := t2.1; have hd1 := t2.2
    clear hb2 t1 FA
    go_wp2_with fail
    refine (FP.out _ ((hE.below hb2').more hb2'.size)).mono ?_
    rintro e w3 ⟨rfl, hb3⟩
    have hb3' := hb2'.trans (hb3.mono hb2'.size)
    have t3 := t2.below hb3 (by omega)
    have hz3 := hb3.size
    have hf0 := t3.1; have hf1 := t3.2
    clear hb3 hd0 hd1 t2 FP
    go_wp2_with fail
    refine (FT.out _ ((hE.below hb3').more hb3'.size)).mono ?_
    rintro e w4 ⟨H, rfl, hH, hb4⟩
    have hb4' := hb3'.trans (hb4.mono hb3'.size)
    have HCALL := Lib.hid (FST.out H hH w4 ((hE.below hb4').more hb4'.size))
    obtain ⟨cs, hcs⟩ : ∃ cs, tnC B A es.length cap (valB B es) H = cs := ⟨_, rfl⟩
    rw [hcs] at HCALL ⊢
    clear hb4 hf0 hf1 t3 hcs hH FT FST
    go_wp2_with fail
    refine HCALL.out.mono ?_
    rintro e w5 ⟨g, rfl, hrow, hg, hb5⟩
    have hb5' := hb4'.trans (hb5.mono hb4'.size)
    have HROW := Lib.hid hrow
    clear hb5 hrow HCALL hg
    have H60 := Lib.hid h60
    go_wp2_with fail
    go_loop [8, 27] (fun a c => ∃ (i : Nat) (s : Int), i ≤ p.size ∧ c = .int .i64 i ∧ a = .int .i64 s ∧ Hid (s = sumK ((List.range i).map f))) (fun _ c => p.size - (intOf c).toNat)
    case atStart => exact ⟨0, 0, Nat.zero_le _, rfl, rfl, Lib.hid rfl⟩
    case round =>
      obtain ⟨i, s, hi, rfl, rfl, HQ⟩ := hrel
      by_cases hlt : i < p.size
      case neg =>
        have HV : Hid (sumTV B es t p = (s, true)) := Lib.hid (by rw [HN.out, HQ.out, show i = p.size by omega])
        go_wp2_with fail
        go_ret2
        exact ⟨by rw [HV.out]; rfl, hb5'⟩
      have c1 := HROW.out.cell (i := i) hlt
      have a1 : (0 : Int) ≤ (i : Int) := by omega
      have a2 : (i : Int) < (p.size : Int) := by omega
      have HNX : Hid (s + f i = sumK ((List.range (i + 1)).map f)) := Lib.hid (by rw [List.range_succ, List.map_append, List.map_cons, List.map_nil, sumK_append, HQ.out]; simp [sumK])
      have hfi2 := HFW.out i hlt
      have hsb := sumK_few (V := 137438953472) (by omega) ((List.range i).map f) (fun x hx => by
        obtain ⟨j, hj, rfl⟩ := List.mem_map.1 hx
        exact HFW.out j (by have := List.mem_range.1 hj; omega))
      rw [← HQ.out, List.length_map, List.length_range] at hsb
      obtain ⟨fi, hfi⟩ : ∃ fi, f i = fi := ⟨_, rfl⟩
      rw [hfi] at HNX hfi2
      simp only [hfi] at c1
      have hi60 : i ≤ 60 := by have := H60.out; omega
      have z0 : IntKind.i64.wrap (s + fi) = s + fi := IntWalk.i64_in _ (by omega)
      have b1 : -9223372036854775808 ≤ s + fi := by omega
      have b2 : s + fi ≤ 9223372036854775807 := by omega
      clear hfi hsb hfi2
      go_wp2_with fail
      go_round
      case rel => exact ⟨i + 1, s + fi, by omega, by go_num, rfl, HNX⟩
      case measure => simp [intOf]; omega

end Go.Proofs.Ythpfifjcallnbaa
