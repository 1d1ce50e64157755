/- Whether a text is a run, by both. -/
import Derived.Test.YtpeafheljcjlhaaGreatEndsS
import Derived.Test.YtpeafheljcjlhaaGreatPaths
import Derived.Test.YtpeafheljcjlhaaGreatSpec2
import Derived.Test.YtpeafheljcjlhaaGreatNameS
import Derived.Test.YtpeafheljcjlhaaGreatEntry
import Derived.Test.YtpeafheljcjlhaaGreatRegion
namespace Go.Proofs.YtpeafheljcjlhaaGreat
open Go.RowKit

set_option maxRecDepth 100000 in
set_option maxHeartbeats 1000000 in
/-- impl.edgeIndex -/
theorem edgeIndex_any (bl : Value) (A : Option Addr) (n cap : Nat) (b : ByteArray) (w : World) (_ : n ≤ 1099511627776) :
    Calls Tryz.prog 66 #[.agg #[bl, .slice A n cap], .string b] w fun e w' => e = .returned (.int .i64 (eIdx n b.data.toList)) ∧ Below w.heap.size w w' := by
  by_cases h : b.size = 1
  case neg =>
    have h1 : ((b.size : Int) != 1) = true := by simp; omega
    have HE := Lib.hid (data_not_one h n)
    clear h
    go_enter Tryz.func66, Tryz.ntmps66
    go_wp2
    go_quiet (fail)
    go_wp2
    go_ret
    exact ⟨by rw [HE.out]; rfl, below_drewN ((Below.refl _ _).alloc (Nat.le_refl _) _) _⟩
  have h1 : ((b.size : Int) != 1) = false := by simp [h]
  have h2 : 0 < b.size := by omega
  have hu : (b[0].toNat : Int) < 256 := by have := b[0].toNat_lt; omega
  have hd : eIdx n b.data.toList = if 97 ≤ b[0].toNat ∧ b[0].toNat < 97 + n then (b[0].toNat : Int) - 97 else -1 := by rw [data_one h]; rfl
  have HD := Lib.hid hd
  clear hd h
  by_cases h97 : (b[0].toNat : Int) < 97
  · have HE : Hid (eIdx n b.data.toList = -1) := Lib.hid (by rw [HD.out, if_neg (by omega)])
    go_enter Tryz.func66, Tryz.ntmps66
    go_wp2
    go_quiet (fail)
    go_wp2
    go_ret
    exact ⟨by rw [HE.out]; rfl, below_drewN ((Below.refl _ _).alloc (Nat.le_refl _) _) _⟩
  have W1 : Hid (IntKind.u8.wrap ((b[0].toNat : Int) - 97) = (b[0].toNat : Int) - 97) := Lib.hid (IntWalk.u8_in _ (by omega))
  have W2 : Hid (IntKind.i64.wrap ((b[0].toNat : Int) - 97) = (b[0].toNat : Int) - 97) := Lib.hid (IntWalk.i64_in _ (by omega))
  by_cases hge : (n : Int) ≤ (b[0].toNat : Int) - 97
  · have HE : Hid (eIdx n b.data.toList = -1) := Lib.hid (by rw [HD.out, if_neg (by omega)])
    go_enter Tryz.func66, Tryz.ntmps66
    go_wp2
    have e1 : IntKind.u8.wrap ((b[0].toNat : Int) - 97) = (b[0].toNat : Int) - 97 := W1.out
    have e2 : IntKind.i64.wrap ((b[0].toNat : Int) - 97) = (b[0].toNat : Int) - 97 := W2.out
    go_quiet (fail)
    clear e1 e2
    go_wp2
    go_ret
    exact ⟨by rw [HE.out]; rfl, below_drewN ((Below.refl _ _).alloc (Nat.le_refl _) _) _⟩
  · have HE : Hid (eIdx n b.data.toList = (b[0].toNat : Int) - 97) := Lib.hid (by rw [HD.out, if_pos (by omega)])
    go_enter Tryz.func66, Tryz.ntmps66
    go_wp2
    have e1 : IntKind.u8.wrap ((b[0].toNat : Int) - 97) = (b[0].toNat : Int) - 97 := W1.out
    have e2 : IntKind.i64.wrap ((b[0].toNat : Int) - 97) = (b[0].toNat : Int) - 97 := W2.out
    go_quiet (fail)
    clear e1 e2
    go_wp2
    go_ret
    exact ⟨by rw [HE.out]; rfl, below_drewN ((Below.refl _ _).alloc (Nat.le_refl _) _) _⟩

end Go.Proofs.YtpeafheljcjlhaaGreat

namespace Go.Proofs.YtpeafheljcjlhaaGreat
open Go.RowKit

theorem goes_not {es : List (ByteArray × ByteArray)} {l : List UInt8} {k : Nat} (hk : k < l.length) (h : ¬ Goes es l k) : ¬ PathOk es l := fun q => h (q.2 k hk)

set_option maxRecDepth 100000 in
set_option maxHeartbeats 4000000 in
/-- impl.IsPath -/
theorem implIsPath_any (B : ByteArray) (A : Option Addr) (cap : Nat) (es : List (ByteArray × ByteArray)) (p : ByteArray) (w : World) (hs : B.size ≤ maxLen) (hE : EdgesIn w w.heap.size A es) (hl : es.length ≤ 1099511627776) (hp : p.size ≤ 1099511627776) :
    Calls Tryz.prog 99 #[.agg #[.string B, .slice A es.length cap], .string p] w (BoolPost (pathV B es p) w) := by
  have hl2 : es.length ≤ maxLen := by unfold maxLen; omega
  have HL := Lib.hid hl; have HL2 := Lib.hid hl2; have HM := Lib.hid hs
  clear hl hl2 hs
  have hb1 : Below w.heap.size w (w.alloc (.cells #[.string B, .slice A es.length cap] 31)) := (Below.refl _ _).alloc (Nat.le_refl _) _
  have t1 := Two.made w B A es.length cap 31
  have hz1 : (w.alloc (.cells #[.string B, .slice A es.length cap] 31)).heap.size = w.heap.size + 1 := by simp
  obtain ⟨bv, hbv⟩ : ∃ bv, decB (Valid B.data.toList (ebs es)) = bv := ⟨_, rfl⟩
  have HBV := Lib.hid hbv
  clear hbv
  cases bv with
  | false =>
    have HQ : Hid (pathV B es p = false) := Lib.hid (decB_f fun h => decB_not.1 HBV.out h.1)
    clear hp
    go_enter Tryz.func99, Tryz.ntmps99
    go_wp2_with fail
    refine (valid_any B A cap es _ HM.out ((hE.below hb1).more hb1.size) HL2.out).mono ?_
    rw [HBV.out]
    rintro e w2 ⟨rfl, hb2⟩
    have hb2' := hb1.trans (hb2.mono hb1.size)
    clear hb2 t1
    go_wp2_with fail
    go_ret
    exact ⟨by rw [HQ.out]; rfl, hb2'⟩
  | true =>
  have HV : Hid (Valid B.data.toList (ebs es)) := Lib.hid (decB_iff.1 HBV.out)
  by_cases h60 : (p.size : Int) > 60
  · have HQ : Hid (pathV B es p = false) := Lib.hid (decB_f fun h => by have := h.2.1; simp at this; omega)
    go_enter Tryz.func99, Tryz.ntmps99
    go_wp2_with fail
    refine (valid_any B A cap es _ HM.out ((hE.below hb1).more hb1.size) HL2.out).mono ?_
    rw [HBV.out]
    rintro e w2 ⟨rfl, hb2⟩
    have hb2' := hb1.trans (hb2.mono hb1.size)
    clear hb2 t1
    go_wp2_with fail
    go_ret
    exact ⟨by rw [HQ.out]; rfl, hb2'⟩
  have hp60 : (p.size : Int) ≤ 60 := by omega
  have HP60 : Hid (p.data.toList.length ≤ 60) := Lib.hid (by simp; omega)
  clear h60 hp
  go_enter Tryz.func99, Tryz.ntmps99
  go_wp2_with fail
  refine (valid_any B A cap es _ HM.out ((hE.below hb1).more hb1.size) HL2.out).mono ?_
  rw [HBV.out]
  rintro e w2 ⟨rfl, hb2⟩
  have t2 := t1.below hb2 (by omega)
  have hz2 : w.heap.size + 1 ≤ w2.heap.size := by have := hb2.size; omega
  have hb2' := hb1.trans (hb2.mono hb1.size)
  clear hb2 t1 hb1 hz1
  have HT2 := Lib.hid t2; have HB2 := Lib.hid hb2'
  clear t2 hb2'
  go_wp2_with fail
  go_loopw [5, 18] (fun a c wr => ∃ (k : Nat) (s : ByteArray), k ≤ p.size ∧ c = .int .i64 k ∧ a = .string s ∧ (0 < k → s = (edgeOf es (p.data.toList.getD (k - 1) 0)).2) ∧ (∀ i, i < k → Goes es p.data.toList i) ∧ Below w2.heap.size w2 wr) (fun _ c _ => p.size - (intOf c).toNat)
  case atStart => exact ⟨0, ⟨#[]⟩, Nat.zero_le _, rfl, rfl, fun h => absurd h (by omega), fun i hi => absurd hi (by omega), Below.refl _ _⟩
  case round =>
    obtain ⟨k, s, hk, rfl, rfl, hsv, hgo, hb⟩ := hrel
    have HSV := Lib.hid hsv; have HGO := Lib.hid hgo; have HB := Lib.hid hb
    have tr := HT2.out.below hb (by omega)
    have hzr := hb.size
    clear hsv hgo hb
    by_cases hlt : k < p.size
    case neg =>
      have hkp : k = p.size := by omega
      have HQ : Hid (pathV B es p = true) := Lib.hid (decB_t ⟨HV.out, HP60.out, fun i hi => HGO.out i (by simp at hi; omega)⟩)
      clear tr
      go_wp2_with fail
      go_ret
      exact ⟨by rw [HQ.out]; rfl, HB2.out.trans (HB.out.mono (by omega))⟩
    obtain ⟨x, hx⟩ : ∃ x, eIdx es.length (p.extract k (k + 1)).data.toList = x := ⟨_, rfl⟩
    have hlet : eIdx es.length [p.data.toList.getD k 0] = x := by rw [← letter_at hlt, hx]
    have HX := Lib.hid hx; have HLET := Lib.hid hlet
    clear hx hlet
    have hS : ∀ W, Below wr.heap.size wr W → (W.cell? ⟨w.heap.size, 0, none⟩ = some (.string B) ∧ W.cell? ⟨w.heap.size, 1, none⟩ = some (.slice A es.length cap) ∧ Below wr.heap.size wr W) :=
      fun W h => ⟨(h.cell (by simp only; omega)).trans tr.1, (h.cell (by simp only; omega)).trans tr.2, h⟩
    have HSS := Lib.hid hS
    clear hS tr
    have a1 : (0 : Int) ≤ (k : Int) := by omega
    have a2 : (k : Int) < (p.size : Int) := by omega
    have a4 : (0 : Int) ≤ (k : Int) + 1 := by omega
    have a5 : ((k : Int) + 1).toNat = k + 1 := by omega
    have a6 : (k : Int) + 1 ≤ (p.size : Int) := by omega
    have a7 : k + 1 ≤ p.size := by omega
    have a8 : (k : Int) ≤ (k : Int) + 1 := by omega
    have a3 : IntKind.i64.wrap ((k : Int) + 1) = (k : Int) + 1 := IntWalk.i64_in _ (by omega)
    go_wp2_with fail
    go_region_held3 (fun W => W.cell? ⟨w.heap.size, 0, none⟩ = some (.string B) ∧ W.cell? ⟨w.heap.size, 1, none⟩ = some (.slice A es.length cap) ∧ Below wr.heap.size wr W)
      (first
        | exact HSS.out _ (Below.refl _ _).drew
        | exact HSS.out _ ((Below.refl _ _).drew.trans hb4))
      (first
        | (go_at_call 66; refine (edgeIndex_any _ A es.length cap _ _ HL.out).mono ?_; rw [HX.out]; rintro e w4 ⟨rfl, hb4⟩))
    rename_i hHeld
    have hc0 := hHeld.1; have hc1 := hHeld.2.1
    have hbx := hHeld.2.2
    have HBX := Lib.hid hbx
    have hzx := hbx.size
    clear hHeld a1 a2 a3 a4 a5 a6 a7 a8 HSS hbx hb4
    by_cases hx0 : x < 0
    · have HQ : Hid (pathV B es p = false) := Lib.hid (decB_f fun h => goes_not (by simp; omega) (fun g => by have := g.1; rw [HLET.out] at this; omega) h.2)
      go_wp2_with fail
      go_ret
      exact ⟨by rw [HQ.out]; rfl, HB2.out.trans ((HB.out.trans (HBX.out.mono (by omega))).mono (by omega))⟩
    obtain ⟨j, hj, hxj⟩ : ∃ j : Nat, j < es.length ∧ x = j := by
      obtain ⟨j, hj, h⟩ := eIdx_some (n := es.length) (b := [p.data.toList.getD k 0]) (by rw [HLET.out]; omega)
      exact ⟨j, hj, by rw [← HLET.out, h]⟩
    subst hxj
    have hed := edgeOf_at hj HLET.out
    have HED := Lib.hid hed
    clear hed
    have hbw := HB2.out.trans ((HB.out.trans (HBX.out.mono (by omega))).mono (show w.heap.size ≤ w2.heap.size by omega))
    have HBW := Lib.hid hbw
    obtain ⟨eb, eo, rfl, hlow, h1, h2⟩ := (hE.below hbw) j hj
    clear hbw
    have hj0 : ¬ ((j : Int) < 0) := by omega
    by_cases hk0 : k = 0
    · subst hk0
      have hk1 : ¬ ((0 : Int) > 0) := by omega
      have HGN : Hid (∀ i, i < 0 + 1 → Goes es p.data.toList i) := Lib.hid fun i hi => by
        have : i = 0 := by omega
        subst this
        exact ⟨by rw [HLET.out]; omega, fun h => absurd h (by omega)⟩
      go_wp2_with fail
      go_roundw
      case rel => exact ⟨0 + 1, _, by omega, by go_num, rfl, fun _ => by simp only [Nat.zero_add, Nat.sub_self]; rw [HED.out], HGN.out, HB.out.trans (HBX.out.mono (by omega))⟩
      case measure => simp [intOf]; omega
    · have hk1 : (k : Int) > 0 := by omega
      cases ht : (es[j].1.toList == s.toList) with
      | false =>
        have ht2 : (es[j].1.toList != s.toList) = true := by simp [bne, ht]
        have HQ : Hid (pathV B es p = false) := Lib.hid (decB_f fun h => goes_not (by simp; omega) (fun g => by
          have hg := g.2 (by omega)
          rw [HED.out] at hg
          rw [HSV.out (by omega), hg] at ht
          simp at ht) h.2)
        go_wp2_with fail
        go_ret
        exact ⟨by rw [HQ.out]; rfl, HBW.out⟩
      | true =>
        have ht2 : (es[j].1.toList != s.toList) = false := by simp [bne, ht]
        have HGN : Hid (∀ i, i < k + 1 → Goes es p.data.toList i) := Lib.hid fun i hi => by
          by_cases hik : i < k
          · exact HGO.out i hik
          · have : i = k := by omega
            subst this
            refine ⟨by rw [HLET.out]; omega, fun h => ?_⟩
            have he : es[j].1 = s := by simp at ht; exact bytes_ext (by rw [← Lib.toList_data, ← Lib.toList_data, ht])
            rw [HED.out, he, HSV.out h]
        go_wp2_with fail
        go_roundw
        case rel => exact ⟨k + 1, _, by omega, by go_num, rfl, fun _ => by rw [Nat.add_sub_cancel, HED.out], HGN.out, HB.out.trans (HBX.out.mono (by omega))⟩
        case measure => simp [intOf]; omega

end Go.Proofs.YtpeafheljcjlhaaGreat

namespace Go.Proofs.YtpeafheljcjlhaaGreat
open Go.RowKit

/-- the edge that a text of one letter names -/
def edgeB (es : List (ByteArray × ByteArray)) (b : ByteArray) : ByteArray × ByteArray := es.getD (eIdx es.length b.data.toList).toNat (⟨#[]⟩, ⟨#[]⟩)

theorem edgeB_at {es : List (ByteArray × ByteArray)} {p : ByteArray} {i : Nat} (h : i < p.size) (hx : 0 ≤ eIdx es.length [p.data.toList.getD i 0]) : edgeB es (p.extract i (i + 1)) = edgeOf es (p.data.toList.getD i 0) := by
  obtain ⟨k, hk, he⟩ := eIdx_some hx
  rw [edgeOf_at hk he]
  unfold edgeB
  rw [letter_at h, he]
  simp [List.getD, hk]

theorem l2Edge_b (B : ByteArray) (A : Option Addr) (cap : Nat) (es : List (ByteArray × ByteArray)) (b : ByteArray) (w : World) (hE : EdgesIn w w.heap.size A es) (hl : es.length ≤ 1099511627776) (hi : 0 ≤ eIdx es.length b.data.toList) :
    Calls Tryz.prog 47 #[.agg #[.string B, .slice A es.length cap], .string b] w fun e w' => e = .returned (.agg #[.string (edgeB es b).1, .string (edgeB es b).2]) ∧ Below w.heap.size w w' := by
  obtain ⟨k, hk, he⟩ := eIdx_some hi
  have : edgeB es b = es[k] := by
    unfold edgeB
    rw [he]
    simp [List.getD, hk]
  rw [this]
  exact l2Edge_any B A cap es b k w hE hl hk he

set_option maxRecDepth 100000 in
set_option maxHeartbeats 4000000 in
/-- spec.l2Path -/
theorem l2Path_any (B : ByteArray) (A : Option Addr) (cap : Nat) (es : List (ByteArray × ByteArray)) (p : ByteArray) (w : World) (hE : EdgesIn w w.heap.size A es) (hl : es.length ≤ 1099511627776) (hp : p.size ≤ 1099511627776) :
    Calls Tryz.prog 88 #[.agg #[.string B, .slice A es.length cap], .string p] w (BoolPost (decB (PathOk es p.data.toList)) w) := by
  have HL := Lib.hid hl
  clear hl
  have hb1 : Below w.heap.size w (w.alloc (.cells #[.string B, .slice A es.length cap] 31)) := (Below.refl _ _).alloc (Nat.le_refl _) _
  have t1 := Two.made w B A es.length cap 31
  have hz1 : (w.alloc (.cells #[.string B, .slice A es.length cap] 31)).heap.size = w.heap.size + 1 := by simp
  go_enter Tryz.func88, Tryz.ntmps88
  go_wp2_with fail
  generalize hW1 : w.alloc (.cells #[.string B, .slice A es.length cap] 31) = w1 at hb1 t1 hz1 ⊢
  clear hW1
  have HT1 := Lib.hid t1; have HB1 := Lib.hid hb1
  clear t1 hb1
  go_loopw [8] (fun c wr => ∃ (k : Nat), k ≤ p.size ∧ c = .int .i64 k ∧ (∀ i, i < k → Goes es p.data.toList i) ∧ Below w1.heap.size w1 wr) (fun c _ => p.size - (intOf c).toNat)
  case atStart => exact ⟨0, Nat.zero_le _, rfl, fun i hi => absurd hi (by omega), Below.refl _ _⟩
  case round =>
    obtain ⟨k, hk, rfl, hgo, hb⟩ := hrel
    have HGO := Lib.hid hgo; have HB := Lib.hid hb
    have tr := HT1.out.below hb (by omega)
    have hzr := hb.size
    clear hgo hb
    by_cases hlt : k < p.size
    case neg =>
      have hkp : k = p.size := by omega
      clear tr
      by_cases h60 : (p.size : Int) ≤ 60
      · have HQ : Hid (decB (PathOk es p.data.toList) = true) := Lib.hid (decB_t ⟨by simp; omega, fun i hi => HGO.out i (by simp at hi; omega)⟩)
        have hd : decide ((p.size : Int) ≤ 60) = true := by simpa using h60
        go_wp2_with fail
        go_ret
        exact ⟨by rw [HQ.out]; first | rfl | simp [h60], HB1.out.trans (HB.out.mono (by omega))⟩
      · have HQ : Hid (decB (PathOk es p.data.toList) = false) := Lib.hid (decB_f fun h => by have := h.1; simp at this; omega)
        have hd : decide ((p.size : Int) ≤ 60) = false := by simpa using h60
        go_wp2_with fail
        go_ret
        exact ⟨by rw [HQ.out]; first | rfl | simp [h60], HB1.out.trans (HB.out.mono (by omega))⟩
    obtain ⟨x, hx⟩ : ∃ x, eIdx es.length (p.extract k (k + 1)).data.toList = x := ⟨_, rfl⟩
    have hlet : eIdx es.length [p.data.toList.getD k 0] = x := by rw [← letter_at hlt, hx]
    have HX := Lib.hid hx; have HLET := Lib.hid hlet
    clear hx hlet
    have hS : ∀ W, Below wr.heap.size wr W → (W.cell? ⟨w.heap.size, 0, none⟩ = some (.string B) ∧ W.cell? ⟨w.heap.size, 1, none⟩ = some (.slice A es.length cap) ∧ Below wr.heap.size wr W) :=
      fun W h => ⟨(h.cell (by simp only; omega)).trans tr.1, (h.cell (by simp only; omega)).trans tr.2, h⟩
    have HSS := Lib.hid hS
    clear hS
    have a1 : (0 : Int) ≤ (k : Int) := by omega
    have a2 : (k : Int) < (p.size : Int) := by omega
    have a4 : (0 : Int) ≤ (k : Int) + 1 := by omega
    have a5 : ((k : Int) + 1).toNat = k + 1 := by omega
    have a6 : (k : Int) + 1 ≤ (p.size : Int) := by omega
    have a7 : k + 1 ≤ p.size := by omega
    have a8 : (k : Int) ≤ (k : Int) + 1 := by omega
    have a3 : IntKind.i64.wrap ((k : Int) + 1) = (k : Int) + 1 := IntWalk.i64_in _ (by omega)
    go_wp2_with fail
    go_region_held3 (fun W => W.cell? ⟨w.heap.size, 0, none⟩ = some (.string B) ∧ W.cell? ⟨w.heap.size, 1, none⟩ = some (.slice A es.length cap) ∧ Below wr.heap.size wr W)
      (first
        | exact HSS.out _ (Below.refl _ _).drew
        | exact HSS.out _ ((Below.refl _ _).drew.trans hb4))
      (first
        | (go_at_call 87; refine (l1Index_any _ A es.length cap _ _ HL.out).mono ?_; rw [HX.out]; rintro e w4 ⟨rfl, hb4⟩))
    rename_i hHeld
    have hbx := hHeld.2.2
    have HBX := Lib.hid hbx
    have hzx := hbx.size
    clear hHeld a1 a2 a3 a4 a5 a6 a7 a8 HSS hbx hb4
    have HBW := Lib.hid (HB1.out.trans ((HB.out.trans (HBX.out.mono (by omega))).mono (show w.heap.size ≤ w1.heap.size by omega)))
    by_cases hx0 : x < 0
    · have HQ : Hid (decB (PathOk es p.data.toList) = false) := Lib.hid (decB_f fun h => goes_not (by simp; omega) (fun g => by have := g.1; rw [HLET.out] at this; omega) h)
      go_wp2_with fail
      go_ret
      exact ⟨by rw [HQ.out]; rfl, HBW.out⟩
    have tx := tr.below HBX.out (by omega)
    have hS : ∀ W, Below w4.heap.size w4 W → (W.cell? ⟨w.heap.size, 0, none⟩ = some (.string B) ∧ W.cell? ⟨w.heap.size, 1, none⟩ = some (.slice A es.length cap) ∧ Below w4.heap.size w4 W) :=
      fun W h => ⟨(h.cell (by simp only; omega)).trans tx.1, (h.cell (by simp only; omega)).trans tx.2, h⟩
    have hA : ∀ W, Below w4.heap.size w4 W → EdgesIn W W.heap.size A es := fun W h => by
      have hbW := HBW.out.trans (h.mono HBW.out.size)
      exact (hE.below hbW).more hbW.size
    have HSS := Lib.hid hS; have HA := Lib.hid hA
    clear hS hA tx tr
    by_cases hk0 : k = 0
    · subst hk0
      have hk1 : ¬ ((0 : Int) > 0) := by omega
      have HGN : Hid (∀ i, i < 0 + 1 → Goes es p.data.toList i) := Lib.hid fun i hi => by
        have : i = 0 := by omega
        subst this
        exact ⟨by rw [HLET.out]; omega, fun h => absurd h (by omega)⟩
      go_wp2_with fail
      go_quiet (fail)
      go_wp2_with fail
      go_roundw
      case rel => exact ⟨0 + 1, by omega, by go_num, HGN.out, HB.out.trans ((below_drewN HBX.out _).mono (by omega))⟩
      case measure => simp [intOf]; omega
    have hk1 : (k : Int) > 0 := by omega
    obtain ⟨m, rfl⟩ : ∃ m, k = m + 1 := ⟨k - 1, by omega⟩
    have hxm : 0 ≤ eIdx es.length [p.data.toList.getD m 0] := (HGO.out m (by omega)).1
    have HI1 : Hid (0 ≤ eIdx es.length (p.extract m (m + 1)).data.toList) := Lib.hid (by rw [letter_at (by omega)]; exact hxm)
    have HI2 : Hid (0 ≤ eIdx es.length (p.extract (m + 1) (m + 1 + 1)).data.toList) := Lib.hid (by rw [HX.out]; omega)
    have HE1 := Lib.hid (edgeB_at (es := es) (show m < p.size by omega) hxm)
    have HE2 := Lib.hid (edgeB_at (es := es) hlt (by rw [HLET.out]; omega))
    clear hxm
    have a1 : (0 : Int) ≤ ((m + 1 : Nat) : Int) := by omega
    have b1 : IntKind.i64.wrap (((m + 1 : Nat) : Int) - 1) = (m : Int) := by rw [IntWalk.i64_in _ (by omega)]; omega
    have a2 : (m : Int) + 1 < (p.size : Int) := by omega
    have a4 : (0 : Int) ≤ (m : Int) + 1 + 1 := by omega
    have a5 : ((m : Int) + 1 + 1).toNat = m + 1 + 1 := by omega
    have a6 : (m : Int) + 1 + 1 ≤ (p.size : Int) := by omega
    have a7 : m + 1 + 1 ≤ p.size := by omega
    have a8 : (m : Int) + 1 ≤ (m : Int) + 1 + 1 := by omega
    have a9 : (m : Int) ≤ (m : Int) + 1 := by omega
    have a10 : (m : Int) + 1 ≤ (p.size : Int) := by omega
    have a11 : (0 : Int) ≤ (m : Int) := by omega
    have a12 : (0 : Int) ≤ (m : Int) + 1 := by omega
    have a13 : ((m : Int) + 1).toNat = m + 1 := by omega
    have a14 : m + 1 ≤ p.size := by omega
    have a15 : m ≤ p.size := by omega
    have b4 : IntKind.i64.wrap (m : Int) = (m : Int) := IntWalk.i64_in _ (by omega)
    have b2 : IntKind.i64.wrap ((m : Int) + 1 - 1) = (m : Int) := by rw [IntWalk.i64_in _ (by omega)]; omega
    have a3 : IntKind.i64.wrap ((m : Int) + 1 + 1) = (m : Int) + 1 + 1 := IntWalk.i64_in _ (by omega)
    have e1 := edge_from; have e2 := edge_to
    go_wp2_with fail
    go_region_held3 (fun W => W.cell? ⟨w.heap.size, 0, none⟩ = some (.string B) ∧ W.cell? ⟨w.heap.size, 1, none⟩ = some (.slice A es.length cap) ∧ Below w4.heap.size w4 W)
      (first
        | exact HSS.out _ (Below.refl _ _).drew
        | exact HSS.out _ ((Below.refl _ _).drew.trans hb5)
        | exact HSS.out _ (((Below.refl _ _).drew.trans hb5).trans (hb6.mono hb5.size)))
      (first
        | (go_at_call 47; refine (l2Edge_b B A cap es _ _ (HA.out _ ((Below.refl _ _).drew.trans hb5)) HL.out (by first | exact HI1.out | exact HI2.out)).mono ?_; rintro e w6 ⟨rfl, hb6⟩)
        | (go_at_call 47; refine (l2Edge_b B A cap es _ _ (HA.out _ (Below.refl _ _).drew) HL.out (by first | exact HI1.out | exact HI2.out)).mono ?_; rintro e w5 ⟨rfl, hb5⟩))
    all_goals
      rename_i hHeld
      have hby := hHeld.2.2
      have HBY := Lib.hid (HB.out.trans ((HBX.out.trans (hby.mono (by omega))).mono (by omega)))
      clear hHeld a1 a2 a3 a4 a5 a6 a7 a8 a9 a10 a11 a12 a13 a14 a15 b1 b2 b4 e1 e2 HSS HA hby hb5 hb6
      cases ht : ((edgeB es (p.extract m (m + 1))).2.toList == (edgeB es (p.extract (m + 1) (m + 1 + 1))).1.toList) with
      | false =>
        have ht2 : ((edgeB es (p.extract m (m + 1))).2.toList != (edgeB es (p.extract (m + 1) (m + 1 + 1))).1.toList) = true := by simp [bne, ht]
        have HQ : Hid (decB (PathOk es p.data.toList) = false) := Lib.hid (decB_f fun h => goes_not (k := m + 1) (by simp; omega) (fun g => by
          have hg := g.2 (by omega)
          rw [Nat.add_sub_cancel, ← HE1.out, ← HE2.out] at hg
          rw [hg] at ht
          simp at ht) h)
        go_wp2_with fail
        go_ret
        exact ⟨by rw [HQ.out]; rfl, HB1.out.trans (HBY.out.mono (by omega))⟩
      | true =>
        have ht2 : ((edgeB es (p.extract m (m + 1))).2.toList != (edgeB es (p.extract (m + 1) (m + 1 + 1))).1.toList) = false := by simp [bne, ht]
        have HGN : Hid (∀ i, i < m + 1 + 1 → Goes es p.data.toList i) := Lib.hid fun i hi => by
          by_cases hik : i < m + 1
          · exact HGO.out i hik
          · have : i = m + 1 := by omega
            subst this
            refine ⟨by rw [HLET.out]; omega, fun _ => ?_⟩
            rw [Nat.add_sub_cancel, ← HE1.out, ← HE2.out]
            simp at ht
            exact bytes_ext (by rw [← Lib.toList_data, ← Lib.toList_data, ht])
        go_wp2_with fail
        go_roundw
        case rel => exact ⟨m + 1 + 1, by omega, by go_num, HGN.out, HBY.out⟩
        case measure => simp [intOf]; omega

set_option maxRecDepth 100000 in
set_option maxHeartbeats 1000000 in
/-- spec.IsPath -/
theorem specIsPath_any (B : ByteArray) (A : Option Addr) (cap : Nat) (es : List (ByteArray × ByteArray)) (p : ByteArray) (w : World) (hs : B.size ≤ maxLen) (hE : EdgesIn w w.heap.size A es) (hl : es.length ≤ 1099511627776) (hp : p.size ≤ 1099511627776) :
    Calls Tryz.prog 48 #[.agg #[.string B, .slice A es.length cap], .string p] w (BoolPost (pathV B es p) w) := by
  have hl2 : es.length ≤ maxLen := by unfold maxLen; omega
  have HL := Lib.hid hl; have HL2 := Lib.hid hl2; have HM := Lib.hid hs
  clear hl hl2 hs
  have hb1 : Below w.heap.size w (w.alloc (.cells #[.string B, .slice A es.length cap] 31)) := (Below.refl _ _).alloc (Nat.le_refl _) _
  have t1 := Two.made w B A es.length cap 31
  have hz1 : (w.alloc (.cells #[.string B, .slice A es.length cap] 31)).heap.size = w.heap.size + 1 := by simp
  obtain ⟨bv, hbv⟩ : ∃ bv, decB (Valid B.data.toList (ebs es)) = bv := ⟨_, rfl⟩
  have HBV := Lib.hid hbv
  clear hbv
  cases bv with
  | false =>
    have HQ : Hid (pathV B es p = false) := Lib.hid (decB_f fun h => decB_not.1 HBV.out h.1)
    clear hp
    go_enter Tryz.func48, Tryz.ntmps48
    go_wp2_with fail
    refine (specValid_any B A cap es _ HM.out ((hE.below hb1).more hb1.size) HL2.out).mono ?_
    rw [HBV.out]
    rintro e w2 ⟨rfl, hb2⟩
    have hb2' := hb1.trans (hb2.mono hb1.size)
    clear hb2 t1
    go_wp2_with fail
    go_ret
    exact ⟨by rw [HQ.out]; rfl, hb2'⟩
  | true =>
    obtain ⟨pv, hpv⟩ : ∃ pv, decB (PathOk es p.data.toList) = pv := ⟨_, rfl⟩
    have HQ : Hid (pathV B es p = pv) := Lib.hid (by
      rw [← hpv]
      exact decB_congr ⟨fun h => h.2, fun h => ⟨decB_iff.1 HBV.out, h⟩⟩)
    have HPV := Lib.hid hpv
    clear hpv
    go_enter Tryz.func48, Tryz.ntmps48
    go_wp2_with fail
    refine (specValid_any B A cap es _ HM.out ((hE.below hb1).more hb1.size) HL2.out).mono ?_
    rw [HBV.out]
    rintro e w2 ⟨rfl, hb2⟩
    have hb2' := hb1.trans (hb2.mono hb1.size)
    have t2 := t1.below hb2 (by omega)
    have hd0 := t2.1; have hd1 := t2.2
    clear hb2 t1 t2
    go_wp2_with fail
    refine (l2Path_any B A cap es p _ ((hE.below hb2').more hb2'.size) HL.out hp).mono ?_
    rw [HPV.out]
    rintro e w3 ⟨rfl, hb3⟩
    have hb3' := hb2'.trans (hb3.mono hb2'.size)
    clear hb3 hd0 hd1
    go_wp2_with fail
    go_ret
    exact ⟨by rw [HQ.out]; rfl, hb3'⟩

end Go.Proofs.YtpeafheljcjlhaaGreat

namespace Go.Proofs.YtpeafheljcjlhaaGreat
open Go.RowKit

/-- the block that the first edge leaves, and those to which so many come -/
def trail (es : List (ByteArray × ByteArray)) (l : List UInt8) (k : Nat) : List UInt8 := (edgeOf es (l.getD 0 0)).1.data.toList ++ (l.take k).flatMap fun c => (edgeOf es c).2.data.toList
theorem trail_succ {es : List (ByteArray × ByteArray)} {l : List UInt8} {k : Nat} (h : k < l.length) : trail es l (k + 1) = trail es l k ++ (edgeOf es (l.getD k 0)).2.data.toList := by
  have hg : l.getD k 0 = l[k] := by simp [List.getD, h]
  rw [hg]
  simp only [trail, List.take_succ_eq_append_getElem h, List.flatMap_append, List.flatMap_cons, List.flatMap_nil, List.append_nil, List.append_assoc]
theorem trail_zero (es : List (ByteArray × ByteArray)) (l : List UInt8) : trail es l 0 = (edgeOf es (l.getD 0 0)).1.data.toList := by simp [trail]

theorem edgeOf_size {es : List (ByteArray × ByteArray)} (hS : ∀ e ∈ es, e.1.size ≤ 1099511627776 ∧ e.2.size ≤ 1099511627776) (c : UInt8) : (edgeOf es c).1.size ≤ 1099511627776 ∧ (edgeOf es c).2.size ≤ 1099511627776 := by
  unfold edgeOf
  by_cases h : c.toNat - 97 < es.length
  · simp only [List.getD, List.getElem?_eq_getElem h, Option.getD_some]
    exact hS _ (List.getElem_mem h)
  · simp only [List.getD, List.getElem?_eq_none (Nat.le_of_not_lt h), Option.getD_none]
    exact ⟨by decide, by decide⟩
theorem trail_length {es : List (ByteArray × ByteArray)} (hS : ∀ e ∈ es, e.1.size ≤ 1099511627776 ∧ e.2.size ≤ 1099511627776) (l : List UInt8) : ∀ k, k ≤ l.length → (trail es l k).length ≤ (k + 1) * 1099511627776
  | 0, _ => by
    rw [trail_zero]
    have := (edgeOf_size hS (l.getD 0 0)).1
    simp at this ⊢
    omega
  | k + 1, h => by
    rw [trail_succ (by omega), List.length_append]
    have h1 := trail_length hS l k (by omega)
    have h2 := (edgeOf_size hS (l.getD k 0)).2
    have h3 : (edgeOf es (l.getD k 0)).2.data.toList.length = (edgeOf es (l.getD k 0)).2.size := by simp
    omega

/-- the blocks of a path, if it is one and not empty -/
noncomputable def blocksV (B : ByteArray) (es : List (ByteArray × ByteArray)) (p : ByteArray) : ByteArray × Bool :=
  textV (pathV B es p = true ∧ 0 < p.size) (trail es p.data.toList p.size)

theorem str_more {s t : ByteArray} {l m : List UInt8} (h : s.data.toList = l) (k : t.data.toList = m) : (s ++ t).data.toList = l ++ m := by
  rw [Go.Joins.data_append, h, k]

set_option maxRecDepth 100000 in
set_option maxHeartbeats 4000000 in
/-- impl.BlocksOf -/
theorem implBlocksOf_any (B : ByteArray) (A : Option Addr) (cap : Nat) (es : List (ByteArray × ByteArray)) (p : ByteArray) (w : World) (hs : B.size ≤ maxLen) (hE : EdgesIn w w.heap.size A es) (hl : es.length ≤ 1099511627776) (hS : ∀ e ∈ es, e.1.size ≤ 1099511627776 ∧ e.2.size ≤ 1099511627776) (hp : p.size ≤ 1099511627776) :
    Calls Tryz.prog 59 #[.agg #[.string B, .slice A es.length cap], .string p] w (TextPost (blocksV B es p) w) := by
  have HL := Lib.hid hl; have HM := Lib.hid hs; have HSZ := Lib.hid hS; have HP := Lib.hid hp
  clear hl hs hS hp
  have hb1 : Below w.heap.size w (w.alloc (.cells #[.string B, .slice A es.length cap] 31)) := (Below.refl _ _).alloc (Nat.le_refl _) _
  have t1 := Two.made w B A es.length cap 31
  have hz1 : (w.alloc (.cells #[.string B, .slice A es.length cap] 31)).heap.size = w.heap.size + 1 := by simp
  by_cases h0 : 0 < p.size
  case neg =>
    have HQ : Hid (blocksV B es p = (⟨#[]⟩, false)) := Lib.hid (textV_no fun h => h0 h.2)
    have hpe : p = ⟨#[]⟩ := bytes_ext (by simp; exact Array.eq_empty_of_size_eq_zero (show p.size = 0 by omega))
    subst hpe
    clear t1 hz1 h0
    go_enter Tryz.func59, Tryz.ntmps59
    go_wp2_with fail
    go_ret2
    exact ⟨by rw [HQ.out]; rfl, hb1⟩
  have hne : ¬ p.toList = [] := fun h => by
    have := congrArg List.length h
    have e1 : p.data.toList.length = p.size := by simp
    rw [Lib.toList_data, e1, List.length_nil] at this
    omega
  have hne1 : (p.toList == []) = false := by simp [hne]
  have hne2 : p.toList.isEmpty = false := by
    cases hq : p.toList with
    | nil => exact absurd hq hne
    | cons => rfl
  obtain ⟨bv, hbv⟩ : ∃ bv, pathV B es p = bv := ⟨_, rfl⟩
  have HBV := Lib.hid hbv
  clear hbv
  cases bv with
  | false =>
    have HQ : Hid (blocksV B es p = (⟨#[]⟩, false)) := Lib.hid (textV_no fun h => by rw [HBV.out] at h; exact absurd h.1 (by simp))
    go_enter Tryz.func59, Tryz.ntmps59
    go_wp2_with fail
    refine (implIsPath_any B A cap es p _ HM.out ((hE.below hb1).more hb1.size) HL.out HP.out).mono ?_
    rw [HBV.out]
    rintro e w2 ⟨rfl, hb2⟩
    have hb2' := hb1.trans (hb2.mono hb1.size)
    clear hb2 t1
    go_wp2_with fail
    go_ret2
    exact ⟨by rw [HQ.out]; rfl, hb2'⟩
  | true =>
  have HOK : Hid (Valid B.data.toList (ebs es) ∧ PathOk es p.data.toList) := Lib.hid (decB_iff.1 HBV.out)
  have HQ : Hid (blocksV B es p = (⟨(trail es p.data.toList p.size).toArray⟩, true)) := Lib.hid (textV_yes ⟨HBV.out, h0⟩)
  have hp60 : p.size ≤ 60 := by have := HOK.out.2.1; simpa using this
  have HGO : Hid (∀ i, i < p.size → Goes es p.data.toList i) := Lib.hid fun i hi => HOK.out.2.2 i (by simpa using hi)
  go_enter Tryz.func59, Tryz.ntmps59
  go_wp2_with fail
  refine (implIsPath_any B A cap es p _ HM.out ((hE.below hb1).more hb1.size) HL.out HP.out).mono ?_
  rw [HBV.out]
  rintro e w2 ⟨rfl, hb2⟩
  have t2 := t1.below hb2 (by omega)
  have hz2 : w.heap.size + 1 ≤ w2.heap.size := by have := hb2.size; omega
  have hb2' := hb1.trans (hb2.mono hb1.size)
  clear hb2 t1 hb1 hz1
  have hgo0 := (HGO.out 0 h0).1
  obtain ⟨j, hj, hjx⟩ := eIdx_some hgo0
  have HE0 := Lib.hid (edgeOf_at hj hjx)
  have HX : Hid (eIdx es.length (p.extract 0 1).data.toList = j) := Lib.hid (by have := letter_at (p := p) (i := 0) h0; rw [Nat.zero_add] at this; rw [this, hjx])
  obtain ⟨eb, eo, rfl, hlow, h1, h2⟩ := (hE.below hb2') j hj
  have hS : ∀ W, Below w2.heap.size w2 W → (W.cell? ⟨w.heap.size, 0, none⟩ = some (.string B) ∧ W.cell? ⟨w.heap.size, 1, none⟩ = some (.slice (some ⟨eb, eo, none⟩) es.length cap) ∧ W.cell? ⟨eb, eo + j * 2, none⟩ = some (.string es[j].1) ∧ Below w2.heap.size w2 W) :=
    fun W h => ⟨(h.cell (by simp only; omega)).trans t2.1, (h.cell (by simp only; omega)).trans t2.2, (h.cell (by simp only; omega)).trans h1, h⟩
  have HSS := Lib.hid hS; have HT2 := Lib.hid t2; have HB2 := Lib.hid hb2'
  clear hS hgo0 hjx h1 h2 t2 hb2'
  have a1 : (1 : Int) ≤ (p.size : Int) := by omega
  have a2 : 1 ≤ p.size := by omega
  go_wp2_with fail
  go_region_held3 (fun W => W.cell? ⟨w.heap.size, 0, none⟩ = some (.string B) ∧ W.cell? ⟨w.heap.size, 1, none⟩ = some (.slice (some ⟨eb, eo, none⟩) es.length cap) ∧ W.cell? ⟨eb, eo + j * 2, none⟩ = some (.string es[j].1) ∧ Below w2.heap.size w2 W)
    (first
      | exact HSS.out _ (Below.refl _ _).drew
      | exact HSS.out _ ((Below.refl _ _).drew.trans hb4))
    (first
      | (go_at_call 66; refine (edgeIndex_any _ _ es.length cap _ _ HL.out).mono ?_; rw [HX.out]; rintro e w4 ⟨rfl, hb4⟩))
  rename_i hHeld
  have HB4 := Lib.hid hHeld.2.2.2
  clear hHeld HSS hb4 a1 a2
  go_wp2_with fail
  have hz4 : w.heap.size + 1 ≤ w4.heap.size := by have := HB4.out.size; omega
  have HT4 := Lib.hid (HT2.out.below HB4.out (by omega))
  have HBW := Lib.hid (HB2.out.trans (HB4.out.mono HB2.out.size))
  clear HT2 HB4 HB2 hz2 hlow
  have HS0 : Hid (es[j].1.data.toList = trail es p.data.toList 0) := Lib.hid (by rw [trail_zero, HE0.out])
  go_loopw [6, 27] (fun a c wr => ∃ (k : Nat) (s : ByteArray), k ≤ p.size ∧ c = .int .i64 k ∧ a = .string s ∧ s.data.toList = trail es p.data.toList k ∧ Below w4.heap.size w4 wr) (fun _ c _ => p.size - (intOf c).toNat)
  case atStart => exact ⟨0, _, Nat.zero_le _, rfl, rfl, HS0.out, Below.refl _ _⟩
  case round =>
    clear HS0 HE0 HX
    obtain ⟨k, s, hk, rfl, rfl, hsv, hb⟩ := hrel
    have HSV := Lib.hid hsv; have HB := Lib.hid hb
    have tr := HT4.out.below hb (by omega)
    have hzr := hb.size
    have hsl : s.size ≤ (k + 1) * 1099511627776 := by
      have h := trail_length HSZ.out p.data.toList k (by simp; omega)
      rw [← hsv] at h
      simpa using h
    clear hsv hb
    by_cases hlt : k < p.size
    case neg =>
      have hkp : k = p.size := by omega
      subst hkp
      have hse : s = ⟨(trail es p.data.toList p.size).toArray⟩ := str_ext HSV.out
      subst hse
      clear tr hsl
      go_wp2_with fail
      go_ret2
      exact ⟨by rw [HQ.out]; rfl, HBW.out.trans (HB.out.mono (by omega))⟩
    obtain ⟨i, hi, hix⟩ := eIdx_some (HGO.out k hlt).1
    have HEI := Lib.hid (edgeOf_at hi hix)
    have HX : Hid (eIdx es.length (p.extract k (k + 1)).data.toList = i) := Lib.hid (by rw [letter_at hlt, hix])
    have hbw := HBW.out.trans (HB.out.mono (show w.heap.size ≤ w4.heap.size by omega))
    obtain ⟨fb, fo, hfe, hlow, h1, h2⟩ := (hE.below hbw) i hi
    injection hfe with hfe
    injection hfe with hf1 hf2 _
    subst hf1; subst hf2
    have hS : ∀ W, Below wr.heap.size wr W → (W.cell? ⟨w.heap.size, 0, none⟩ = some (.string B) ∧ W.cell? ⟨w.heap.size, 1, none⟩ = some (.slice (some ⟨eb, eo, none⟩) es.length cap) ∧ W.cell? ⟨eb, eo + i * 2 + 1, none⟩ = some (.string es[i].2) ∧ Below wr.heap.size wr W) :=
      fun W h => ⟨(h.cell (by simp only; omega)).trans tr.1, (h.cell (by simp only; omega)).trans tr.2, (h.cell (by simp only; omega)).trans h2, h⟩
    have HSS := Lib.hid hS
    have hpl : es[i].2.size ≤ 1099511627776 := (HSZ.out _ (List.getElem_mem hi)).2
    have hadd : ¬ 9223372036854775807 < s.size + es[i].2.size := by omega
    have hix' : (i : Int) < (es.length : Int) := by omega
    clear hS tr hix hbw h1 h2 hsl hpl
    have a1 : (0 : Int) ≤ (k : Int) := by omega
    have a2 : (k : Int) < (p.size : Int) := by omega
    have a4 : (0 : Int) ≤ (k : Int) + 1 := by omega
    have a5 : ((k : Int) + 1).toNat = k + 1 := by omega
    have a6 : (k : Int) + 1 ≤ (p.size : Int) := by omega
    have a7 : k + 1 ≤ p.size := by omega
    have a8 : (k : Int) ≤ (k : Int) + 1 := by omega
    have a3 : IntKind.i64.wrap ((k : Int) + 1) = (k : Int) + 1 := IntWalk.i64_in _ (by omega)
    go_wp2_with fail
    go_region_held3 (fun W => W.cell? ⟨w.heap.size, 0, none⟩ = some (.string B) ∧ W.cell? ⟨w.heap.size, 1, none⟩ = some (.slice (some ⟨eb, eo, none⟩) es.length cap) ∧ W.cell? ⟨eb, eo + i * 2 + 1, none⟩ = some (.string es[i].2) ∧ Below wr.heap.size wr W)
      (first
        | exact HSS.out _ (Below.refl _ _).drew
        | exact HSS.out _ ((Below.refl _ _).drew.trans hb5))
      (first
        | (go_at_call 66; refine (edgeIndex_any _ _ es.length cap _ _ HL.out).mono ?_; rw [HX.out]; rintro e w5 ⟨rfl, hb5⟩))
    rename_i hHeld
    have HB5 := Lib.hid hHeld.2.2.2
    clear hHeld HSS hb5 a1 a2 a3 a4 a5 a6 a7 a8 hadd
    go_wp2_with fail
    go_roundw
    case rel => exact ⟨k + 1, _, by omega, by go_num, rfl, by rw [trail_succ (by simp; omega)]; exact str_more HSV.out (by rw [HEI.out]), HB.out.trans (HB5.out.mono (by omega))⟩
    case measure => simp [intOf]; omega

end Go.Proofs.YtpeafheljcjlhaaGreat

namespace Go.Proofs.YtpeafheljcjlhaaGreat
open Go.RowKit

set_option maxRecDepth 100000 in
/-- strings.HasPrefix, of a text that is not too long -/
theorem hasPrefix_any (s t : ByteArray) (w : World) (h : t.size ≤ s.size) (_ : s.size ≤ maxLen) :
    Calls Tryz.prog 60 #[.string s, .string t] w fun e w' => e = .returned (.bool ((s.extract 0 t.size).toList == t.toList)) ∧ w = w' := by
  have hin : Calls Tryz.prog 100 #[.string s, .string t] w fun e w' => e = .returned (.bool ((s.extract 0 t.size).toList == t.toList)) ∧ w = w' := by
    have h1 : (s.size : Int) ≥ (t.size : Int) := by omega
    have h2 : decide ((s.size : Int) ≥ (t.size : Int)) = true := by simpa using h1
    have h3 : decide (t.size ≤ s.size) = true := by simpa using h
    have h4 : (t.size : Int) ≤ (s.size : Int) := by omega
    go_enter Tryz.func100, Tryz.ntmps100
    go_wp2_with fail
    go_ret
    exact ⟨rfl, rfl⟩
  go_enter Tryz.func60, Tryz.ntmps60
  go_wp2_with fail
  refine hin.mono ?_
  rintro e w' ⟨rfl, rfl⟩
  go_wp2_with fail
  go_ret
  exact ⟨rfl, rfl⟩

set_option maxRecDepth 100000 in
/-- strings.HasSuffix, of a text that is not too long -/
theorem hasSuffix_any (s t : ByteArray) (w : World) (h : t.size ≤ s.size) (hm : s.size ≤ maxLen) :
    Calls Tryz.prog 62 #[.string s, .string t] w fun e w' => e = .returned (.bool ((s.extract (s.size - t.size) s.size).toList == t.toList)) ∧ w = w' := by
  unfold maxLen at hm
  have hin : Calls Tryz.prog 101 #[.string s, .string t] w fun e w' => e = .returned (.bool ((s.extract (s.size - t.size) s.size).toList == t.toList)) ∧ w = w' := by
    have h1 : (s.size : Int) ≥ (t.size : Int) := by omega
    have h2 : decide ((s.size : Int) ≥ (t.size : Int)) = true := by simpa using h1
    have h3 : decide (t.size ≤ s.size) = true := by simpa using h
    have h4 : (t.size : Int) ≤ (s.size : Int) := by omega
    obtain ⟨d, hd⟩ : ∃ d : Nat, s.size - t.size = d := ⟨_, rfl⟩
    have h5 : (s.size : Int) - (t.size : Int) = (d : Int) := by omega
    have h6 : (d : Int) ≤ (s.size : Int) := by omega
    have h7 : d ≤ s.size := by omega
    rw [hd]
    clear hd
    go_enter Tryz.func101, Tryz.ntmps101
    go_wp2_with fail
    go_ret
    exact ⟨rfl, rfl⟩
  go_enter Tryz.func62, Tryz.ntmps62
  go_wp2_with fail
  refine hin.mono ?_
  rintro e w' ⟨rfl, rfl⟩
  go_wp2_with fail
  go_ret
  exact ⟨rfl, rfl⟩

/-- whether a text is a run of a net -/
noncomputable def runV (B : ByteArray) (es : List (ByteArray × ByteArray)) (p : ByteArray) : Bool :=
  decB (pathV B es p = true ∧ 0 < p.size ∧ (edgeB es (p.extract 0 1)).1.toList = (B.extract 0 1).toList ∧ (edgeB es (p.extract (p.size - 1) p.size)).2.toList = (B.extract (B.size - 1) B.size).toList)

theorem runV_of {B : ByteArray} {es : List (ByteArray × ByteArray)} {p : ByteArray} (h : pathV B es p = true) (h0 : 0 < p.size) :
    runV B es p = (((edgeB es (p.extract 0 1)).1.toList == (B.extract 0 1).toList) && ((edgeB es (p.extract (p.size - 1) p.size)).2.toList == (B.extract (B.size - 1) B.size).toList)) := by
  by_cases c1 : (edgeB es (p.extract 0 1)).1.toList = (B.extract 0 1).toList
  · by_cases c2 : (edgeB es (p.extract (p.size - 1) p.size)).2.toList = (B.extract (B.size - 1) B.size).toList
    · unfold runV; rw [decB_t ⟨h, h0, c1, c2⟩]; simp [c1, c2]
    · unfold runV; rw [decB_f fun q => c2 q.2.2.2]; simp [c2]
  · unfold runV; rw [decB_f fun q => c1 q.2.2.1]; simp [c1]

/-- edges of a net lead from one letter to one -/
theorem edge_sizes {B : ByteArray} {es : List (ByteArray × ByteArray)} (h : Valid B.data.toList (ebs es)) : ∀ e ∈ es, e.1.size = 1 ∧ e.2.size = 1 := by
  intro e he
  obtain ⟨x, y, hx, hy, _, _⟩ := lets_of h.1.2 e he
  have h1 : e.1.data.toList.length = e.1.size := by simp
  have h2 : e.2.data.toList.length = e.2.size := by simp
  rw [hx] at h1; rw [hy] at h2
  simp at h1 h2
  exact ⟨h1.symm, h2.symm⟩
theorem edgeOf_one {B : ByteArray} {es : List (ByteArray × ByteArray)} (h : Valid B.data.toList (ebs es)) {c : UInt8} (hc : 0 ≤ eIdx es.length [c]) : ∃ x y, (edgeOf es c).1.data.toList = [x] ∧ (edgeOf es c).2.data.toList = [y] := by
  obtain ⟨k, hk, he⟩ := eIdx_some hc
  rw [edgeOf_at hk he]
  obtain ⟨x, y, hx, hy, _, _⟩ := lets_of h.1.2 es[k] (List.getElem_mem hk)
  exact ⟨x, y, hx, hy⟩

/-- the blocks of a path begin where its first edge leaves, and end where its last one comes -/
theorem trail_ends {B : ByteArray} {es : List (ByteArray × ByteArray)} {p t : ByteArray} (h : Valid B.data.toList (ebs es)) (hp : PathOk es p.data.toList) (h0 : 0 < p.size) (ht : t.data.toList = trail es p.data.toList p.size) :
    2 ≤ t.size ∧ t.extract 0 1 = (edgeB es (p.extract 0 1)).1 ∧ t.extract (t.size - 1) t.size = (edgeB es (p.extract (p.size - 1) p.size)).2 := by
  obtain ⟨n, hn⟩ : ∃ n, p.size = n + 1 := ⟨p.size - 1, by omega⟩
  have hlen : p.data.toList.length = p.size := by simp
  have g0 := (hp.2 0 (by omega)).1
  have gn := (hp.2 n (by omega)).1
  obtain ⟨x, _, hx, _⟩ := edgeOf_one h g0
  obtain ⟨_, y, _, hy⟩ := edgeOf_one h gn
  have e0 : edgeB es (p.extract 0 1) = edgeOf es (p.data.toList.getD 0 0) := by
    have := edgeB_at (es := es) (p := p) (i := 0) h0 g0
    rwa [Nat.zero_add] at this
  have en : edgeB es (p.extract (p.size - 1) p.size) = edgeOf es (p.data.toList.getD n 0) := by
    have := edgeB_at (es := es) (p := p) (i := n) (by omega) gn
    rw [hn, Nat.add_sub_cancel]
    exact this
  have htl : t.data.toList.length = t.size := by simp
  have h1 : t.data.toList = trail es p.data.toList n ++ [y] := by rw [ht, hn, trail_succ (by omega), hy]
  have h2 : t.data.toList = x :: ((p.data.toList.take p.size).flatMap fun c => (edgeOf es c).2.data.toList) := by rw [ht, trail, hx]; rfl
  have h3 : trail es p.data.toList n = x :: ((p.data.toList.take n).flatMap fun c => (edgeOf es c).2.data.toList) := by rw [trail, hx]; rfl
  have hsz : t.size = (trail es p.data.toList n).length + 1 := by rw [← htl, h1]; simp
  have hsz1 : 1 ≤ (trail es p.data.toList n).length := by rw [h3]; simp
  refine ⟨by omega, bytes_ext ?_, bytes_ext ?_⟩
  · rw [Lib.extract_data, h2, e0, hx]; simp
  · rw [Lib.extract_data, en, hy, h1, show t.size - (t.size - 1) = 1 by omega, show t.size - 1 = (trail es p.data.toList n).length by omega, List.drop_left]
    rfl

end Go.Proofs.YtpeafheljcjlhaaGreat

namespace Go.Proofs.YtpeafheljcjlhaaGreat
open Go.RowKit

set_option maxRecDepth 100000 in
set_option maxHeartbeats 4000000 in
/-- spec.IsRun -/
theorem specIsRun_any (B : ByteArray) (A : Option Addr) (cap : Nat) (es : List (ByteArray × ByteArray)) (p : ByteArray) (w : World) (hs : B.size ≤ maxLen) (hE : EdgesIn w w.heap.size A es) (hl : es.length ≤ 1099511627776) (_ : ∀ e ∈ es, e.1.size ≤ 1099511627776 ∧ e.2.size ≤ 1099511627776) (hp : p.size ≤ 1099511627776) :
    Calls Tryz.prog 27 #[.agg #[.string B, .slice A es.length cap], .string p] w (BoolPost (runV B es p) w) := by
  have HL := Lib.hid hl; have HM := Lib.hid hs; have HP := Lib.hid hp
  clear hl hs
  have hb0 : Below w.heap.size w (w.alloc (.cells #[.string B, .slice A es.length cap] 31)) := (Below.refl _ _).alloc (Nat.le_refl _) _
  have t0 := Two.made w B A es.length cap 31
  have hz0 : (w.alloc (.cells #[.string B, .slice A es.length cap] 31)).heap.size = w.heap.size + 1 := by simp
  obtain ⟨bv, hbv⟩ : ∃ bv, pathV B es p = bv := ⟨_, rfl⟩
  have HBV := Lib.hid hbv
  cases bv with
  | false =>
    have HQ : Hid (runV B es p = false) := Lib.hid (decB_f fun h => by rw [hbv] at h; exact absurd h.1 (by simp))
    clear hbv hp
    go_enter Tryz.func27, Tryz.ntmps27
    go_wp2
    generalize hW0 : w.alloc (.cells #[.string B, .slice A es.length cap] 31) = W0 at hb0 t0 hz0 ⊢
    clear hW0
    have x0 : ∀ x : After W0, x.W.cell? ⟨w.heap.size, 0, none⟩ = some (.string B) := fun x => x.cell (by simp only; omega) t0.1
    have x1 : ∀ x : After W0, x.W.cell? ⟨w.heap.size, 1, none⟩ = some (.slice A es.length cap) := fun x => x.cell (by simp only; omega) t0.2
    have xE : ∀ x : After W0, EdgesIn x.W x.W.heap.size A es := fun x => ((hE.below hb0).below (x.h.mono hb0.size)).more (by have := x.h.size; have := hb0.size; omega)
    have XE := Lib.hid xE; clear xE t0
    have HZ := Lib.hid hz0; clear hz0
    refine wp_region_below (by kernel_rfl) (by kernel_rfl) ?_
    repeat (go_big_quiet_step ((go_at_call 48; exact After.call ((specIsPath_any _ _ _ _ _ _ HM.out (XE.out _) HL.out HP.out).mono fun _ _ ⟨he, hw⟩ => ⟨he.trans (by rw [HBV.out]), hw⟩))))
    refine wpQuiet_nil ?_
    rintro _ ⟨x, rfl⟩
    clear x0 x1
    go_wp2
    go_ret
    exact ⟨by rw [HQ.out]; rfl, hb0.trans (x.h.mono hb0.size)⟩
  | true =>
  by_cases h0 : 0 < p.size
  case neg =>
    have HQ : Hid (runV B es p = false) := Lib.hid (decB_f fun h => h0 h.2.1)
    have hpe : p = ⟨#[]⟩ := bytes_ext (by simp; exact Array.eq_empty_of_size_eq_zero (show p.size = 0 by omega))
    subst hpe
    clear hbv hp h0
    go_enter Tryz.func27, Tryz.ntmps27
    go_wp2
    generalize hW0 : w.alloc (.cells #[.string B, .slice A es.length cap] 31) = W0 at hb0 t0 hz0 ⊢
    clear hW0
    have x0 : ∀ x : After W0, x.W.cell? ⟨w.heap.size, 0, none⟩ = some (.string B) := fun x => x.cell (by simp only; omega) t0.1
    have x1 : ∀ x : After W0, x.W.cell? ⟨w.heap.size, 1, none⟩ = some (.slice A es.length cap) := fun x => x.cell (by simp only; omega) t0.2
    have xE : ∀ x : After W0, EdgesIn x.W x.W.heap.size A es := fun x => ((hE.below hb0).below (x.h.mono hb0.size)).more (by have := x.h.size; have := hb0.size; omega)
    have XE := Lib.hid xE; clear xE t0
    have HZ := Lib.hid hz0; clear hz0
    refine wp_region_below (by kernel_rfl) (by kernel_rfl) ?_
    repeat (go_big_quiet_step ((go_at_call 48; exact After.call ((specIsPath_any _ _ _ _ _ _ HM.out (XE.out _) HL.out HP.out).mono fun _ _ ⟨he, hw⟩ => ⟨he.trans (by rw [HBV.out]), hw⟩))))
    refine wpQuiet_nil ?_
    rintro _ ⟨x, rfl⟩
    clear x0 x1
    go_wp2
    go_ret
    exact ⟨by rw [HQ.out]; rfl, hb0.trans (x.h.mono hb0.size)⟩
  have hvp : Valid B.data.toList (ebs es) ∧ PathOk es p.data.toList := decB_iff.1 hbv
  have hB2 : 2 ≤ B.size := by have := hvp.1.1.1.1; simpa using this
  have hB1 : 1 ≤ B.size := by omega
  have hne : ¬ p.toList = [] := fun h => by
    have := congrArg List.length h
    have e1 : p.data.toList.length = p.size := by simp
    rw [Lib.toList_data, e1, List.length_nil] at this
    omega
  have hne1 : (p.toList == []) = false := by simp [hne]
  have hne3 : (p.toList != []) = true := by simp [hne]
  have hne2 : p.toList.isEmpty = false := by
    cases hq : p.toList with
    | nil => exact absurd hq hne
    | cons => rfl
  obtain ⟨n, hn⟩ : ∃ n, p.size = n + 1 := ⟨p.size - 1, by omega⟩
  have hlen : p.data.toList.length = p.size := by simp
  have HX1 : Hid (0 ≤ eIdx es.length (p.extract 0 1).data.toList) := Lib.hid (by
    have := letter_at (p := p) (i := 0) h0
    rw [Nat.zero_add] at this
    rw [this]
    exact (hvp.2.2 0 (by omega)).1)
  have HX2 : Hid (0 ≤ eIdx es.length (p.extract n p.size).data.toList) := Lib.hid (by
    have := letter_at (p := p) (i := n) (by omega)
    rw [← hn] at this
    rw [this]
    exact (hvp.2.2 n (by omega)).1)
  obtain ⟨q1, hq1⟩ : ∃ q1, ((edgeB es (p.extract 0 1)).1.toList == (B.extract 0 1).toList) = q1 := ⟨_, rfl⟩
  obtain ⟨q2, hq2⟩ : ∃ q2, ((edgeB es (p.extract n p.size)).2.toList == (B.extract (B.size - 1) B.size).toList) = q2 := ⟨_, rfl⟩
  have HQ : Hid (runV B es p = (q1 && q2)) := Lib.hid (by rw [runV_of hbv h0, show p.size - 1 = n by omega, hq1, hq2])
  have a1 : (1 : Int) ≤ (p.size : Int) := by omega
  have a2 : 1 ≤ p.size := by omega
  have a3 : IntKind.i64.wrap ((p.size : Int) - 1) = (n : Int) := by rw [IntWalk.i64_in _ (by omega)]; omega
  have a4 : (0 : Int) ≤ (n : Int) := by omega
  have a5 : (n : Int) ≤ (p.size : Int) := by omega
  have a6 : n ≤ p.size := by omega
  have e1 := edge_from; have e2 := edge_to
  have HZ : Hid ((w.alloc (.cells #[.string B, .slice A es.length cap] 31)).heap.size = w.heap.size + 1) := Lib.hid hz0
  clear hbv hvp hB2 hn hlen hp h0 hz0
  cases q1 with
  | false =>
    go_enter Tryz.func27, Tryz.ntmps27
    go_wp2
    generalize hW0 : w.alloc (.cells #[.string B, .slice A es.length cap] 31) = W0 at hb0 t0 HZ ⊢
    clear hW0
    have x0 : ∀ x : After W0, x.W.cell? ⟨w.heap.size, 0, none⟩ = some (.string B) := fun x => x.cell (by have := HZ.out; simp only; omega) t0.1
    have x1 : ∀ x : After W0, x.W.cell? ⟨w.heap.size, 1, none⟩ = some (.slice A es.length cap) := fun x => x.cell (by have := HZ.out; simp only; omega) t0.2
    have xE : ∀ x : After W0, EdgesIn x.W x.W.heap.size A es := fun x => ((hE.below hb0).below (x.h.mono hb0.size)).more (Nat.le_trans hb0.size x.h.size)
    have XE := Lib.hid xE; clear xE t0
    refine wp_region_below (by kernel_rfl) (by kernel_rfl) ?_
    repeat (go_big_quiet_step ((first
      | (go_at_call 48; exact After.call ((specIsPath_any _ _ _ _ _ _ HM.out (XE.out _) HL.out HP.out).mono fun _ _ ⟨he, hw⟩ => ⟨he.trans (by rw [HBV.out]), hw⟩))
      | (go_at_call 49; exact After.call (l1Entry_any _ _ _ hB1 HM.out))
      | (go_at_call 47; exact After.call (l2Edge_b _ _ _ _ _ _ (XE.out _) HL.out HX1.out)))))
    refine wpQuiet_nil ?_
    rintro _ ⟨x, rfl⟩
    clear x0 x1 a1 a2 a3 a4 a5 a6 e1 e2
    go_wp2
    go_ret
    exact ⟨by rw [HQ.out]; rfl, hb0.trans (x.h.mono hb0.size)⟩
  | true =>
    go_enter Tryz.func27, Tryz.ntmps27
    go_wp2
    generalize hW0 : w.alloc (.cells #[.string B, .slice A es.length cap] 31) = W0 at hb0 t0 HZ ⊢
    clear hW0
    have x0 : ∀ x : After W0, x.W.cell? ⟨w.heap.size, 0, none⟩ = some (.string B) := fun x => x.cell (by have := HZ.out; simp only; omega) t0.1
    have x1 : ∀ x : After W0, x.W.cell? ⟨w.heap.size, 1, none⟩ = some (.slice A es.length cap) := fun x => x.cell (by have := HZ.out; simp only; omega) t0.2
    have xE : ∀ x : After W0, EdgesIn x.W x.W.heap.size A es := fun x => ((hE.below hb0).below (x.h.mono hb0.size)).more (Nat.le_trans hb0.size x.h.size)
    have XE := Lib.hid xE; clear xE t0
    refine wp_region_below (by kernel_rfl) (by kernel_rfl) ?_
    repeat (go_big_quiet_step ((first
      | (go_at_call 48; exact After.call ((specIsPath_any _ _ _ _ _ _ HM.out (XE.out _) HL.out HP.out).mono fun _ _ ⟨he, hw⟩ => ⟨he.trans (by rw [HBV.out]), hw⟩))
      | (go_at_call 49; exact After.call (l1Entry_any _ _ _ hB1 HM.out))
      | (go_at_call 50; exact After.call (l1Exit_any _ _ _ hB1 HM.out))
      | (go_at_call 47; first | with_reducible exact After.call (l2Edge_b _ _ _ _ _ _ (XE.out _) HL.out HX1.out) | with_reducible exact After.call (l2Edge_b _ _ _ _ _ _ (XE.out _) HL.out HX2.out)))))
    refine wpQuiet_nil ?_
    rintro _ ⟨x, rfl⟩
    clear x0 x1 a1 a2 a3 a4 a5 a6 e1 e2
    go_wp2
    go_ret
    exact ⟨by rw [HQ.out, ← hq2]; rfl, hb0.trans (x.h.mono hb0.size)⟩

end Go.Proofs.YtpeafheljcjlhaaGreat

namespace Go.Proofs.YtpeafheljcjlhaaGreat
open Go.RowKit

set_option maxRecDepth 100000 in
set_option maxHeartbeats 4000000 in
/-- impl.IsRun -/
theorem implIsRun_any (B : ByteArray) (A : Option Addr) (cap : Nat) (es : List (ByteArray × ByteArray)) (p : ByteArray) (w : World) (hs : B.size ≤ maxLen) (hE : EdgesIn w w.heap.size A es) (hl : es.length ≤ 1099511627776) (hS : ∀ e ∈ es, e.1.size ≤ 1099511627776 ∧ e.2.size ≤ 1099511627776) (hp : p.size ≤ 1099511627776) :
    Calls Tryz.prog 31 #[.agg #[.string B, .slice A es.length cap], .string p] w (BoolPost (runV B es p) w) := by
  have HL := Lib.hid hl; have HM := Lib.hid hs; have HSZ := Lib.hid hS; have HP := Lib.hid hp
  clear hl hs hS hp
  have hb1 : Below w.heap.size w (w.alloc (.cells #[.string B, .slice A es.length cap] 31)) := (Below.refl _ _).alloc (Nat.le_refl _) _
  have t1 := Two.made w B A es.length cap 31
  have hz1 : (w.alloc (.cells #[.string B, .slice A es.length cap] 31)).heap.size = w.heap.size + 1 := by simp
  by_cases hok : pathV B es p = true ∧ 0 < p.size
  case neg =>
    have HQ : Hid (runV B es p = false) := Lib.hid (decB_f fun h => hok ⟨h.1, h.2.1⟩)
    have HBL : Hid (blocksV B es p = (⟨#[]⟩, false)) := Lib.hid (textV_no hok)
    clear hok
    go_enter Tryz.func31, Tryz.ntmps31
    go_wp2_with fail
    refine (implBlocksOf_any B A cap es p _ HM.out ((hE.below hb1).more hb1.size) HL.out HSZ.out HP.out).mono ?_
    rw [HBL.out]
    rintro e w2 ⟨rfl, hb2⟩
    have hb2' := hb1.trans (hb2.mono hb1.size)
    clear hb2 t1
    go_wp2_with fail
    go_ret
    exact ⟨by rw [HQ.out]; rfl, hb2'⟩
  obtain ⟨hpv, h0⟩ := hok
  have hvp : Valid B.data.toList (ebs es) ∧ PathOk es p.data.toList := decB_iff.1 hpv
  obtain ⟨t, ht⟩ : ∃ t : ByteArray, t.data.toList = trail es p.data.toList p.size := ⟨⟨(trail es p.data.toList p.size).toArray⟩, rfl⟩
  have hte : (⟨(trail es p.data.toList p.size).toArray⟩ : ByteArray) = t := (str_ext ht).symm
  obtain ⟨ht2, hte1, hte2⟩ := trail_ends hvp.1 hvp.2 h0 ht
  have htm : t.size ≤ maxLen := by
    have := trail_length HSZ.out p.data.toList p.size (by simp)
    have h60 := hvp.2.1
    rw [← ht] at this
    simp at this h60
    unfold maxLen
    omega
  have hB := valid_sizes hvp.1
  have hB2 : 2 ≤ B.size := by have := hvp.1.1.1.1; simpa using this
  have HBL : Hid (blocksV B es p = (t, true)) := Lib.hid (by rw [← hte]; exact textV_yes ⟨hpv, h0⟩)
  obtain ⟨q1, hq1⟩ : ∃ q1, ((t.extract 0 1).toList == (B.extract 0 1).toList) = q1 := ⟨_, rfl⟩
  obtain ⟨q2, hq2⟩ : ∃ q2, ((t.extract (t.size - 1) t.size).toList == (B.extract (B.size - 1) B.size).toList) = q2 := ⟨_, rfl⟩
  have HQ : Hid (runV B es p = (q1 && q2)) := Lib.hid (by rw [runV_of hpv h0, ← hte1, ← hte2, hq1, hq2])
  have hx1 : (B.extract 0 1).size = 1 := by simp; omega
  have hx2 : (B.extract (B.size - 1) B.size).size = 1 := by simp; omega
  have HPRE : Hid (∀ W : World, Calls Tryz.prog 60 #[.string t, .string (B.extract 0 1)] W fun e w' => e = .returned (.bool q1) ∧ W = w') := Lib.hid fun W => by
    refine (hasPrefix_any t (B.extract 0 1) W (by omega) htm).mono ?_
    rintro e w' ⟨rfl, rfl⟩
    rw [hx1, hq1]
    exact ⟨rfl, rfl⟩
  have HSUF : Hid (∀ W : World, Calls Tryz.prog 62 #[.string t, .string (B.extract (B.size - 1) B.size)] W fun e w' => e = .returned (.bool q2) ∧ W = w') := Lib.hid fun W => by
    refine (hasSuffix_any t (B.extract (B.size - 1) B.size) W (by omega) htm).mono ?_
    rintro e w' ⟨rfl, rfl⟩
    rw [hx2, hq2]
    exact ⟨rfl, rfl⟩
  have hB1 : 1 ≤ B.size := by omega
  clear hq1 hq2 hte hte1 hte2 ht htm ht2 hvp hpv h0 hB hB2 hx1 hx2
  go_enter Tryz.func31, Tryz.ntmps31
  go_wp2_with fail
  refine (implBlocksOf_any B A cap es p _ HM.out ((hE.below hb1).more hb1.size) HL.out HSZ.out HP.out).mono ?_
  rw [HBL.out]
  rintro e w2 ⟨rfl, hb2⟩
  have tt2 := t1.below hb2 (by omega)
  have hz2 : w.heap.size + 1 ≤ w2.heap.size := by have := hb2.size; omega
  have hb2' := hb1.trans (hb2.mono hb1.size)
  have hd0 := tt2.1; have hd1 := tt2.2
  clear hb2 t1 hb1 hz1
  go_wp2_with fail
  refine (entryOf_any B _ _ hB1 HM.out).mono ?_
  rintro e w3 ⟨rfl, hb3⟩
  have tt3 := tt2.below hb3 (by omega)
  have hb3' := hb2'.trans (hb3.mono hb2'.size)
  clear hb3 hd0 hd1 tt2 hb2'
  have hd0 := tt3.1; have hd1 := tt3.2
  go_wp2_with fail
  refine (HPRE.out _).mono ?_
  rintro e w4 ⟨rfl, rfl⟩
  cases q1 with
  | false =>
    go_wp2_with fail
    go_ret
    exact ⟨by rw [HQ.out]; rfl, hb3'⟩
  | true =>
    go_wp2_with fail
    refine (exitOf_any B _ _ hB1 HM.out).mono ?_
    rintro e w5 ⟨rfl, hb5⟩
    have hb5' := hb3'.trans (hb5.mono hb3'.size)
    clear hb5 hd0 hd1
    go_wp2_with fail
    refine (HSUF.out _).mono ?_
    rintro e w6 ⟨rfl, rfl⟩
    go_wp2_with fail
    go_ret
    exact ⟨by rw [HQ.out]; rfl, hb5'⟩

end Go.Proofs.YtpeafheljcjlhaaGreat
