/- Whether a text is a path, by the program. -/
import Derived.Test.YtghdjmjodgbghaaPaths
namespace Go.Proofs.Ytghdjmjodgbghaa
open Go.RowKit

theorem goes_not {es : List (ByteArray × ByteArray)} {l : List UInt8} {k : Nat} (hk : k < l.length) (h : ¬ Goes es l k) : ¬ PathOk es l := fun q => h (q.2 k hk)

set_option maxRecDepth 100000 in
set_option maxHeartbeats 4000000 in
/-- impl.IsPath -/
theorem implIsPath_any (B : ByteArray) (A : Option Addr) (cap : Nat) (es : List (ByteArray × ByteArray)) (p : ByteArray) (w : World) (hs : B.size ≤ maxLen) (hE : EdgesIn w w.heap.size A es) (hl : es.length ≤ 1099511627776) (hp : p.size ≤ 1099511627776) :
    Calls Try.prog 96 #[.agg #[.string B, .slice A es.length cap], .string p] w (BoolPost (pathV B es p) w) := by
  have hl2 : es.length ≤ maxLen := by unfold maxLen; omega
  have HL := Lib.hid hl; have HL2 := Lib.hid hl2; have HM := Lib.hid hs
  clear hl hl2 hs
  have hb1 : Below w.heap.size w (w.alloc (.cells #[.string B, .slice A es.length cap] 29)) := (Below.refl _ _).alloc (Nat.le_refl _) _
  have t1 := Two.made w B A es.length cap 29
  have hz1 : (w.alloc (.cells #[.string B, .slice A es.length cap] 29)).heap.size = w.heap.size + 1 := by simp
  obtain ⟨bv, hbv⟩ : ∃ bv, decB (Valid B.data.toList (ebs es)) = bv := ⟨_, rfl⟩
  have HBV := Lib.hid hbv
  clear hbv
  cases bv with
  | false =>
    have HQ : Hid (pathV B es p = false) := Lib.hid (decB_f fun h => decB_not.1 HBV.out h.1)
    clear hp
    go_enter Try.func96, Try.ntmps96
    go_wp2_with fail
    refine (valid_any B A cap es _ HM.out ((hE.below hb1).more hb1.size) HL2.out).mono ?_
    rw [HBV.out]
    rintro e w2 ⟨rfl, hb2⟩
    have hb2' := hb1.trans (hb2.mono hb1.size)
    clear hb2 t1
    go_wp2_with fail
    go_ret
    exact ⟨by rw [HQ.out]; rfl, hb2'⟩
  | true =>
  have HV : Hid (Valid B.data.toList (ebs es)) := Lib.hid (decB_iff.1 HBV.out)
  by_cases h60 : (p.size : Int) > 60
  · have HQ : Hid (pathV B es p = false) := Lib.hid (decB_f fun h => by have := h.2.1; simp at this; omega)
    go_enter Try.func96, Try.ntmps96
    go_wp2_with fail
    refine (valid_any B A cap es _ HM.out ((hE.below hb1).more hb1.size) HL2.out).mono ?_
    rw [HBV.out]
    rintro e w2 ⟨rfl, hb2⟩
    have hb2' := hb1.trans (hb2.mono hb1.size)
    clear hb2 t1
    go_wp2_with fail
    go_ret
    exact ⟨by rw [HQ.out]; rfl, hb2'⟩
  have hp60 : (p.size : Int) ≤ 60 := by omega
  have HP60 : Hid (p.data.toList.length ≤ 60) := Lib.hid (by simp; omega)
  clear h60 hp
  go_enter Try.func96, Try.ntmps96
  go_wp2_with fail
  refine (valid_any B A cap es _ HM.out ((hE.below hb1).more hb1.size) HL2.out).mono ?_
  rw [HBV.out]
  rintro e w2 ⟨rfl, hb2⟩
  have t2 := t1.below hb2 (by omega)
  have hz2 : w.heap.size + 1 ≤ w2.heap.size := by have := hb2.size; omega
  have hb2' := hb1.trans (hb2.mono hb1.size)
  clear hb2 t1 hb1 hz1
  have HT2 := Lib.hid t2; have HB2 := Lib.hid hb2'
  clear t2 hb2'
  go_wp2_with fail
  go_loopw [5, 18] (fun a c wr => ∃ (k : Nat) (s : ByteArray), k ≤ p.size ∧ c = .int .i64 k ∧ a = .string s ∧ (0 < k → s = (edgeOf es (p.data.toList.getD (k - 1) 0)).2) ∧ (∀ i, i < k → Goes es p.data.toList i) ∧ Below w2.heap.size w2 wr) (fun _ c _ => p.size - (intOf c).toNat)
  case atStart => exact ⟨0, ⟨#[]⟩, Nat.zero_le _, rfl, rfl, fun h => absurd h (by omega), fun i hi => absurd hi (by omega), Below.refl _ _⟩
  case round =>
    obtain ⟨k, s, hk, rfl, rfl, hsv, hgo, hb⟩ := hrel
    have HSV := Lib.hid hsv; have HGO := Lib.hid hgo; have HB := Lib.hid hb
    have tr := HT2.out.below hb (by omega)
    have hzr := hb.size
    clear hsv hgo hb
    by_cases hlt : k < p.size
    case neg =>
      have hkp : k = p.size := by omega
      have HQ : Hid (pathV B es p = true) := Lib.hid (decB_t ⟨HV.out, HP60.out, fun i hi => HGO.out i (by simp at hi; omega)⟩)
      clear tr
      go_wp2_with fail
      go_ret
      exact ⟨by rw [HQ.out]; rfl, HB2.out.trans (HB.out.mono (by omega))⟩
    obtain ⟨x, hx⟩ : ∃ x, eIdx es.length (p.extract k (k + 1)).data.toList = x := ⟨_, rfl⟩
    have hlet : eIdx es.length [p.data.toList.getD k 0] = x := by rw [← letter_at hlt, hx]
    have HX := Lib.hid hx; have HLET := Lib.hid hlet
    clear hx hlet
    have hS : ∀ W, Below wr.heap.size wr W → (W.cell? ⟨w.heap.size, 0, none⟩ = some (.string B) ∧ W.cell? ⟨w.heap.size, 1, none⟩ = some (.slice A es.length cap) ∧ Below wr.heap.size wr W) :=
      fun W h => ⟨(h.cell (by simp only; omega)).trans tr.1, (h.cell (by simp only; omega)).trans tr.2, h⟩
    have HSS := Lib.hid hS
    clear hS tr
    have a1 : (0 : Int) ≤ (k : Int) := by omega
    have a2 : (k : Int) < (p.size : Int) := by omega
    have a4 : (0 : Int) ≤ (k : Int) + 1 := by omega
    have a5 : ((k : Int) + 1).toNat = k + 1 := by omega
    have a6 : (k : Int) + 1 ≤ (p.size : Int) := by omega
    have a7 : k + 1 ≤ p.size := by omega
    have a8 : (k : Int) ≤ (k : Int) + 1 := by omega
    have a3 : IntKind.i64.wrap ((k : Int) + 1) = (k : Int) + 1 := IntWalk.i64_in _ (by omega)
    go_wp2_with fail
    go_region_held3 (fun W => W.cell? ⟨w.heap.size, 0, none⟩ = some (.string B) ∧ W.cell? ⟨w.heap.size, 1, none⟩ = some (.slice A es.length cap) ∧ Below wr.heap.size wr W)
      (first
        | exact HSS.out _ (Below.refl _ _).drew
        | exact HSS.out _ ((Below.refl _ _).drew.trans hb4))
      (first
        | (go_at_call 47; refine (edgeIndex_any _ A es.length cap _ _ HL.out).mono ?_; rw [HX.out]; rintro e w4 ⟨rfl, hb4⟩))
    rename_i hHeld
    have hc0 := hHeld.1; have hc1 := hHeld.2.1
    have hbx := hHeld.2.2
    have HBX := Lib.hid hbx
    have hzx := hbx.size
    clear hHeld a1 a2 a3 a4 a5 a6 a7 a8 HSS hbx hb4
    by_cases hx0 : x < 0
    · have HQ : Hid (pathV B es p = false) := Lib.hid (decB_f fun h => goes_not (by simp; omega) (fun g => by have := g.1; rw [HLET.out] at this; omega) h.2)
      go_wp2_with fail
      go_ret
      exact ⟨by rw [HQ.out]; rfl, HB2.out.trans ((HB.out.trans (HBX.out.mono (by omega))).mono (by omega))⟩
    obtain ⟨j, hj, hxj⟩ : ∃ j : Nat, j < es.length ∧ x = j := by
      obtain ⟨j, hj, h⟩ := eIdx_some (n := es.length) (b := [p.data.toList.getD k 0]) (by rw [HLET.out]; omega)
      exact ⟨j, hj, by rw [← HLET.out, h]⟩
    subst hxj
    have hed := edgeOf_at hj HLET.out
    have HED := Lib.hid hed
    clear hed
    have hbw := HB2.out.trans ((HB.out.trans (HBX.out.mono (by omega))).mono (show w.heap.size ≤ w2.heap.size by omega))
    have HBW := Lib.hid hbw
    obtain ⟨eb, eo, rfl, hlow, h1, h2⟩ := (hE.below hbw) j hj
    clear hbw
    have hj0 : ¬ ((j : Int) < 0) := by omega
    by_cases hk0 : k = 0
    · subst hk0
      have hk1 : ¬ ((0 : Int) > 0) := by omega
      have HGN : Hid (∀ i, i < 0 + 1 → Goes es p.data.toList i) := Lib.hid fun i hi => by
        have : i = 0 := by omega
        subst this
        exact ⟨by rw [HLET.out]; omega, fun h => absurd h (by omega)⟩
      go_wp2_with fail
      go_roundw
      case rel => exact ⟨0 + 1, _, by omega, by go_num, rfl, fun _ => by simp only [Nat.zero_add, Nat.sub_self]; rw [HED.out], HGN.out, HB.out.trans (HBX.out.mono (by omega))⟩
      case measure => simp [intOf]; omega
    · have hk1 : (k : Int) > 0 := by omega
      cases ht : (es[j].1.toList == s.toList) with
      | false =>
        have ht2 : (es[j].1.toList != s.toList) = true := by simp [bne, ht]
        have HQ : Hid (pathV B es p = false) := Lib.hid (decB_f fun h => goes_not (by simp; omega) (fun g => by
          have hg := g.2 (by omega)
          rw [HED.out] at hg
          rw [HSV.out (by omega), hg] at ht
          simp at ht) h.2)
        go_wp2_with fail
        go_ret
        exact ⟨by rw [HQ.out]; rfl, HBW.out⟩
      | true =>
        have ht2 : (es[j].1.toList != s.toList) = false := by simp [bne, ht]
        have HGN : Hid (∀ i, i < k + 1 → Goes es p.data.toList i) := Lib.hid fun i hi => by
          by_cases hik : i < k
          · exact HGO.out i hik
          · have : i = k := by omega
            subst this
            refine ⟨by rw [HLET.out]; omega, fun h => ?_⟩
            have he : es[j].1 = s := by simp at ht; exact bytes_ext (by rw [← Lib.toList_data, ← Lib.toList_data, ht])
            rw [HED.out, he, HSV.out h]
        go_wp2_with fail
        go_roundw
        case rel => exact ⟨k + 1, _, by omega, by go_num, rfl, fun _ => by rw [Nat.add_sub_cancel, HED.out], HGN.out, HB.out.trans (HBX.out.mono (by omega))⟩
        case measure => simp [intOf]; omega

end Go.Proofs.Ytghdjmjodgbghaa
