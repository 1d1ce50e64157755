/- impl.NetValid: whatever the net. -/
import Derived.Test.YtpeafheljcjlhaaGreatReach
import Derived.Test.YtpeafheljcjlhaaGreatTurn
namespace Go.Proofs.YtpeafheljcjlhaaGreat
open Go.RowKit

theorem nodup_rev {l : List UInt8} (h : l.Nodup) : l.reverse.Nodup := List.pairwise_reverse.2 (h.imp fun h e => h e.symm)

theorem blocksOk_rev {l : List UInt8} (h : BlocksOk l) : BlocksOk l.reverse :=
  ⟨by simpa using h.1, by simpa using h.2.1, fun b hb => h.2.2.1 b (by simpa using hb), nodup_rev h.2.2.2⟩

theorem index_rev {l : List UInt8} (hn : l.Nodup) {c : UInt8} (hc : c ∈ l) : Lib.indexByte l.reverse c = (l.length : Int) - 1 - Lib.indexByte l c := by
  have h0 := indexByte_nonneg.2 hc
  have hlt := indexByte_lt (l := l) (c := c)
  obtain ⟨k, hk⟩ := Int.eq_ofNat_of_zero_le h0
  have hget := indexByte_get hc
  rw [hk] at hget hlt ⊢
  simp only [Int.toNat_natCast] at hget
  have hkl : k < l.length := by omega
  have : l.reverse[l.length - 1 - k]? = some c := by
    rw [List.getElem?_reverse (by omega)]
    rw [show l.length - 1 - (l.length - 1 - k) = k by omega]; exact hget
  rw [indexByte_of_get (nodup_rev hn) this]; omega

theorem edgesOk_rev {l : List UInt8} (hb : BlocksOk l) {E : Eds} (h : EdgesOk l E) : EdgesOk l.reverse (flip E) := by
  refine ⟨by simpa [flip] using h.1, fun e he => ?_⟩
  have he' : (e.2, e.1) ∈ E := mem_flip.1 he
  obtain ⟨h1, h2, h3, h4⟩ := h.2 _ he'
  simp only at h1 h2 h3 h4
  obtain ⟨x, hx, hxm, hxe⟩ := bIdx_some h1
  obtain ⟨y, hy, hym, hye⟩ := bIdx_some h2
  have e1 : bIdx l.reverse e.1 = (l.length : Int) - 1 - bIdx l e.1 := by rw [hye, hy]; exact index_rev hb.2.2.2 hym
  have e2 : bIdx l.reverse e.2 = (l.length : Int) - 1 - bIdx l e.2 := by rw [hxe, hx]; exact index_rev hb.2.2.2 hxm
  have l1 := indexByte_lt (l := l) (c := y)
  have l2 := indexByte_lt (l := l) (c := x)
  refine ⟨?_, ?_, ?_, ?_⟩
  · rw [e1, hye]; omega
  · rw [e2, hxe]; omega
  · rw [e1]; simp; omega
  · rw [e2]; omega

theorem entry_rev (l : List UInt8) : entry l.reverse = exit_ l := by
  unfold entry exit_
  rw [List.headD_eq_head?_getD, List.getLastD_eq_getLast?, List.head?_reverse]

theorem allFrom_rev {l : List UInt8} {E : Eds} {s : UInt8} : AllFrom l.reverse E s ↔ AllFrom l E s :=
  ⟨fun h b hb => h b (by simpa using hb), fun h b hb => h b (by simpa using hb)⟩

theorem ebs_swap (es : List (ByteArray × ByteArray)) : ebs (es.map fun e => (e.2, e.1)) = flip (ebs es) := by simp [ebs, flip]

set_option maxRecDepth 100000 in
set_option maxHeartbeats 2000000 in
/-- impl.NetValid -/
theorem valid_any (B : ByteArray) (A : Option Addr) (cap : Nat) (es : List (ByteArray × ByteArray)) (w : World) (hs : B.size ≤ maxLen) (hE : EdgesIn w w.heap.size A es) (hl : es.length ≤ maxLen) :
    Calls Tryz.prog 55 #[.agg #[.string B, .slice A es.length cap]] w fun e w' => e = .returned (.bool (decB (Valid B.data.toList (ebs es)))) ∧ Below w.heap.size w w' := by
  have hb0 : Below w.heap.size w (w.alloc (.cells #[.string B, .slice A es.length cap] 31)) := (Below.refl _ _).alloc (Nat.le_refl _) _
  have hc0 : (w.alloc (.cells #[.string B, .slice A es.length cap] 31)).cell? ⟨w.heap.size, 0, none⟩ = some (.string B) := by go_simp
  have hc1 : (w.alloc (.cells #[.string B, .slice A es.length cap] 31)).cell? ⟨w.heap.size, 1, none⟩ = some (.slice A es.length cap) := by go_simp
  have hz0 : w.heap.size < (w.alloc (.cells #[.string B, .slice A es.length cap] 31)).heap.size := by simp
  by_cases hbo : BlocksOk B.data.toList
  case neg =>
    have HD : Hid (false = decB (Valid B.data.toList (ebs es))) := Lib.hid (by symm; exact decB_f fun h => hbo h.1.1)
    have HB : Hid (decB (BlocksOk B.data.toList) = false) := Lib.hid (decB_f hbo)
    clear hbo
    go_enter Tryz.func55, Tryz.ntmps55
    go_wp2_with (go_at_call 89; refine (blocksValid_any _ _ hs).mono ?_; rw [HB.out]; rintro e w' ⟨rfl, rfl⟩)
    go_ret
    exact ⟨ret_bool HD.out, hb0⟩
  have HB : Hid (decB (BlocksOk B.data.toList) = true) := Lib.hid (decB_t hbo)
  have HBO := Lib.hid hbo
  by_cases heo : EdgesOk B.data.toList (ebs es)
  case neg =>
    have HD : Hid (false = decB (Valid B.data.toList (ebs es))) := Lib.hid (by symm; exact decB_f fun h => heo h.1.2)
    have HEO : Hid (decB (EdgesOk B.data.toList (ebs es)) = false) := Lib.hid (decB_f heo)
    have h8 : B.size ≤ 8 := by have := hbo.2.1; simpa using this
    clear hbo heo
    go_enter Tryz.func55, Tryz.ntmps55
    go_wp2_with (first
      | (go_at_call 89; refine (blocksValid_any _ _ hs).mono ?_; rw [HB.out]; rintro e w' ⟨rfl, rfl⟩)
      | (go_at_call 90; refine (edgesValid_any _ _ _ _ _ h8 ((hE.below hb0).more hb0.size) hl).mono ?_; rw [HEO.out]; rintro e w2 ⟨rfl, hb2⟩))
    go_ret
    exact ⟨ret_bool HD.out, hb0.trans (hb2.mono hb0.size)⟩
  have HEO : Hid (decB (EdgesOk B.data.toList (ebs es)) = true) := Lib.hid (decB_t heo)
  have HEE := Lib.hid heo
  have h8 : B.size ≤ 8 := by have := hbo.2.1; simpa using this
  have h16 : es.length ≤ 16 := by have := heo.1; simpa [ebs] using this
  by_cases ha : AllFrom B.data.toList (ebs es) (entry B.data.toList)
  case neg =>
    have HD : Hid (false = decB (Valid B.data.toList (ebs es))) := Lib.hid (by symm; exact decB_f fun h => ha h.2.1)
    have HA : Hid (decB (AllFrom B.data.toList (ebs es) (entry B.data.toList)) = false) := Lib.hid (decB_f ha)
    clear hbo heo ha
    go_enter Tryz.func55, Tryz.ntmps55
    go_wp2_with fail
    refine (blocksValid_any _ _ hs).mono ?_
    rw [HB.out]
    rintro e w' ⟨rfl, rfl⟩
    go_wp2_with fail
    refine (edgesValid_any _ _ _ _ _ h8 ((hE.below hb0).more hb0.size) hl).mono ?_
    rw [HEO.out]
    rintro e w2 ⟨rfl, hb2⟩
    have hb2' := hb0.trans (hb2.mono hb0.size)
    have hd0 := (hb2.cell (p := ⟨w.heap.size, 0, none⟩) hz0).trans hc0
    have hd1 := (hb2.cell (p := ⟨w.heap.size, 1, none⟩) hz0).trans hc1
    have hz2 := hb2.size
    clear hb2 hc0 hc1
    go_wp2_with fail
    refine (reachesAll_any _ _ _ _ _ HBO.out ((hE.below hb2').more hb2'.size) HEE.out).mono ?_
    rw [HA.out]
    rintro e w3 ⟨rfl, hb3⟩
    have hb3' := hb2'.trans (hb3.mono hb2'.size)
    have he0 := (hb3.cell (p := ⟨w.heap.size, 0, none⟩) (by simp only; omega)).trans hd0
    have he1 := (hb3.cell (p := ⟨w.heap.size, 1, none⟩) (by simp only; omega)).trans hd1
    clear hb3 hd0 hd1
    go_wp2_with fail
    go_ret
    exact ⟨ret_bool HD.out, hb3'⟩
  have HA : Hid (decB (AllFrom B.data.toList (ebs es) (entry B.data.toList)) = true) := Lib.hid (decB_t ha)
  have HV : Hid (Valid B.data.toList (ebs es) ↔ AllFrom B.data.toList (flip (ebs es)) (exit_ B.data.toList)) := Lib.hid ⟨fun h => h.2.2, fun h => ⟨⟨hbo, heo⟩, ha, h⟩⟩
  clear hbo heo ha
  go_enter Tryz.func55, Tryz.ntmps55
  go_wp2_with fail
  refine (blocksValid_any _ _ hs).mono ?_
  rw [HB.out]
  rintro e w' ⟨rfl, rfl⟩
  go_wp2_with fail
  refine (edgesValid_any _ _ _ _ _ h8 ((hE.below hb0).more hb0.size) hl).mono ?_
  rw [HEO.out]
  rintro e w2 ⟨rfl, hb2⟩
  have hb2' := hb0.trans (hb2.mono hb0.size)
  have hd0 := (hb2.cell (p := ⟨w.heap.size, 0, none⟩) hz0).trans hc0
  have hd1 := (hb2.cell (p := ⟨w.heap.size, 1, none⟩) hz0).trans hc1
  have hz2 := hb2.size
  clear hb2 hc0 hc1
  go_wp2_with fail
  refine (reachesAll_any _ _ _ _ _ HBO.out ((hE.below hb2').more hb2'.size) HEE.out).mono ?_
  rw [HA.out]
  rintro e w3 ⟨rfl, hb3⟩
  have hb3' := hb2'.trans (hb3.mono hb2'.size)
  have he0 := (hb3.cell (p := ⟨w.heap.size, 0, none⟩) (by simp only; omega)).trans hd0
  have he1 := (hb3.cell (p := ⟨w.heap.size, 1, none⟩) (by simp only; omega)).trans hd1
  clear hb3 hd0 hd1
  go_wp2_with fail
  refine (turned_any B A cap es _ (by omega) ((hE.below hb3').more hb3'.size) (by omega)).mono ?_
  rintro e w4 ⟨rb, g, rfl, hrb, hg, hE4, hb4⟩
  have hb4' := hb3'.trans (hb4.mono hb3'.size)
  have HRB := Lib.hid hrb
  clear hrb hb4 he0 he1
  have hbk : BlocksOk rb.data.toList := by rw [HRB.out]; exact blocksOk_rev HBO.out
  have hek : EdgesOk rb.data.toList (ebs (es.map fun e => (e.2, e.1))) := by rw [HRB.out, ebs_swap]; exact edgesOk_rev HBO.out HEE.out
  have hr := reachesAll_any rb (some ⟨g, 0, none⟩) es.length (es.map fun e => (e.2, e.1)) w4 hbk hE4 hek
  rw [List.length_map] at hr
  have HR := Lib.hid hr; clear hr hbk hek
  have HF : Hid (decB (AllFrom rb.data.toList (ebs (es.map fun e => (e.2, e.1))) (entry rb.data.toList)) = decB (Valid B.data.toList (ebs es))) := Lib.hid (by
    refine decB_congr ?_
    rw [HRB.out, ebs_swap, entry_rev, allFrom_rev]; exact HV.out.symm)
  go_wp2_with fail
  refine HR.out.mono ?_
  rw [HF.out]
  rintro e w5 ⟨rfl, hb5⟩
  go_wp2_with fail
  go_ret
  exact ⟨rfl, hb4'.trans (hb5.mono hb4'.size)⟩

end Go.Proofs.YtpeafheljcjlhaaGreat
