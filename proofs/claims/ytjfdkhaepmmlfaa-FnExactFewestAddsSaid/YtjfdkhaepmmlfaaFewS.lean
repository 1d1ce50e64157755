/- How many edges add something, by the model: spec.l6Few. -/
import Derived.Test.YtjfdkhaepmmlfaaHgtsS
import Derived.Test.YtjfdkhaepmmlfaaZ6W
import Derived.Test.YtjfdkhaepmmlfaaZ6V
import Derived.Deep.RegionHeld3
namespace Go.Proofs.Ytjfdkhaepmmlfaa
open Go.RowKit

set_option maxRecDepth 100000 in
set_option maxHeartbeats 8000000 in
/-- spec.l6Few -/
theorem l6Few_any (B : ByteArray) (A : Option Addr) (cap : Nat) (es : List (ByteArray × ByteArray)) (b : ByteArray) (F : Nat → Nat) (AV : Option Addr) (cv : Nat) (w : World) (hs : B.size ≤ maxLen) (hE : EdgesIn w w.heap.size A es) (hl : es.length ≤ 1099511627776) (ht : treeV B es b = true) (hF : ∀ k, F k ≤ 4294967296)
    (hX : IntsIn w w.heap.size AV ((List.range es.length).map fun k => ((F k : Nat) : Int))) :
    Calls Try.prog 65 #[.agg #[.string B, .slice A es.length cap], .string b, .slice AV es.length cv] w (IntPost ((cntK ((List.range es.length).map (stpE F (hgtB B es b F) es)) : Nat) : Int) w) := by
  obtain ⟨hV, _, _, _, _, _, _⟩ := tree_pack ht
  have h8 := (valid_sizes hV).1
  have h16 := (valid_sizes hV).2
  have hlb : B.data.toList.length = B.size := by simp
  have htm := tame_of (F := F) ht hF
  have hEO := hV.1.2
  obtain ⟨G, hG⟩ : ∃ G : UInt8 → Int, hgtB B es b F = G := ⟨_, rfl⟩
  have hlm : (B.data.toList.map G).length = B.size := by rw [List.length_map, hlb]
  have FH : Hid (∀ W : World, EdgesIn W W.heap.size A es → IntsIn W W.heap.size AV ((List.range es.length).map fun k => ((F k : Nat) : Int)) → Calls Try.prog 100 #[.agg #[.string B, .slice A es.length cap], .string b, .slice AV es.length cv] W fun e w' => ∃ g, e = .returned (.slice (some ⟨g, 0, none⟩) B.size B.size) ∧ IntsIn w' w'.heap.size (some ⟨g, 0, none⟩) (B.data.toList.map G) ∧ Below W.heap.size W w') := Lib.hid fun W h h2 => by
    have h3 := l6Heights_any B A cap es b F AV cv W hs h hl ht hF h2
    rw [hG] at h3
    unfold IntsPost at h3
    rw [hlm] at h3
    exact h3
  rw [hG] at htm ⊢
  have HTM : Hid (∀ x ∈ B.data.toList, -34359738368 ≤ G x ∧ G x ≤ 34359738368) := Lib.hid htm.hgt
  have HEO := Lib.hid hEO; have HFF := Lib.hid hF; have HX := Lib.hid hX; have HE := Lib.hid hE
  have FB : Hid (∀ z ∈ B.data.toList, ∃ j : Nat, j < B.size ∧ B.data.toList[j]? = some z ∧ ∀ W : World, Calls Try.prog 96 #[.string B, .int .u8 (z.toNat : Int)] W fun e w' => e = .returned (.int .i64 (j : Int)) ∧ Below W.heap.size W w') := Lib.hid fun z hz => by
    obtain ⟨j, hj⟩ := Int.eq_ofNat_of_zero_le (indexByte_nonneg.2 hz)
    have hlt := indexByte_lt (l := B.data.toList) (c := z)
    have hgt := indexByte_get hz
    rw [hj] at hgt
    refine ⟨j, by omega, by simpa using hgt, fun W => (find_any B z W hs).mono ?_⟩
    rintro e w' ⟨rfl, rfl⟩
    exact ⟨by rw [hj], Below.refl _ _⟩
  obtain ⟨w1, hw1⟩ : ∃ w1, w.alloc (.cells #[.string B, .slice A es.length cap] 30) = w1 := ⟨_, rfl⟩
  have hb1 : Below w.heap.size w w1 := by rw [← hw1]; exact (Below.refl _ _).alloc (Nat.le_refl _) _
  have t1 := Two.made w B A es.length cap 30
  rw [hw1] at t1
  have hz1 : w1.heap.size = w.heap.size + 1 := by rw [← hw1]; simp
  have HW1 := Lib.hid hw1
  clear ht hV h8 hlb htm hEO hG hlm hF hX hs hl hE hw1
  go_enter Try.func65, Try.ntmps65
  go_wp2_with fail
  rw [HW1.out]
  have d0 := t1.1; have d1 := t1.2
  go_wp2_with fail
  refine (FH.out _ ((HE.out.below hb1).more hb1.size) ((HX.out.below hb1).more hb1.size)).mono ?_
  rintro e w2 ⟨g, rfl, hgt, hb2⟩
  have hb2' := hb1.trans (hb2.mono hb1.size)
  have t2 := t1.below hb2 (by omega)
  have hz2 := hb2.size
  have HT2 := Lib.hid t2; have HB2' := Lib.hid hb2'; have HGT := Lib.hid hgt
  have e0 := t2.1; have e1 := t2.2
  clear d0 d1 t1 hb1 hb2 hb2' t2 hgt FH
  go_wp2_with fail
  clear e0 e1
  go_loopw [7, 18] (fun o c wr => ∃ (k q : Nat), k ≤ es.length ∧ c = .int .i64 k ∧ o = .int .i64 q ∧ q ≤ k ∧ Hid (q = cntK ((List.range k).map (stpE F G es))) ∧ Below w2.heap.size w2 wr) (fun _ c _ => es.length - (intOf c).toNat)
  case atStart => exact ⟨0, 0, Nat.zero_le _, rfl, rfl, Nat.zero_le _, Lib.hid rfl, Below.refl _ _⟩
  case round =>
    obtain ⟨k, q, hk, rfl, rfl, hqk, HQ, hb⟩ := hrel
    have hbw := HB2'.out.trans (hb.mono HB2'.out.size)
    by_cases hlt : k < es.length
    case neg =>
      have hkn : k = es.length := by omega
      subst hkn
      have HV : Hid (((q : Nat) : Int) = ((cntK ((List.range es.length).map (stpE F G es)) : Nat) : Int)) := Lib.hid (by rw [HQ.out])
      go_wp2_with fail
      go_ret
      exact ⟨ret_int HV.out, hbw⟩
    obtain ⟨ea, eb', hal, hbl, _⟩ := edK_at HEO.out hlt
    obtain ⟨x, hx⟩ : ∃ x, (edK es k).a = x := ⟨_, rfl⟩
    obtain ⟨y, hy⟩ : ∃ y, (edK es k).b = y := ⟨_, rfl⟩
    rw [hx] at ea hal
    rw [hy] at eb' hbl
    obtain ⟨ja, ja1, ja2, FX⟩ := FB.out x hal
    obtain ⟨jb, jb1, jb2, FY⟩ := FB.out y hbl
    have FX := Lib.hid FX; have FY := Lib.hid FY
    have gA := HTM.out x hal; have gB := HTM.out y hbl
    obtain ⟨qb, qo, rfl, hlow, q1, q2⟩ := (HE.out.below hbw) k hlt
    obtain ⟨xt, hxt⟩ : ∃ xt, es[k].1 = xt := ⟨_, rfl⟩
    obtain ⟨yt, hyt⟩ : ∃ yt, es[k].2 = yt := ⟨_, rfl⟩
    rw [hxt] at q1 ea
    rw [hyt] at q2 eb'
    obtain ⟨lx, xx⟩ := byteH (y := xt) (i := 0) (c := x) (by rw [ea]; rfl)
    obtain ⟨ly, xy⟩ := byteH (y := yt) (i := 0) (c := y) (by rw [eb']; rfl)
    have lx2 : (0 : Int) < (xt.size : Int) := by omega
    have ly2 : (0 : Int) < (yt.size : Int) := by omega
    obtain ⟨vb, vo, hAV, hvl, hvc⟩ := HX.out k (by simpa using hlt)
    obtain ⟨fk, hfk⟩ : ∃ fk : Int, ((F k : Nat) : Int) = fk := ⟨_, rfl⟩
    have hf2 := HFF.out k
    have f0 : 0 ≤ fk := by omega
    have f1 : fk ≤ 4294967296 := by omega
    rw [List.getElem_map, List.getElem_range, hfk] at hvc
    have hvw : wr.cell? ⟨vb, vo + k, none⟩ = some (.int .i64 fk) := (hbw.cell hvl).trans hvc
    subst hAV
    obtain ⟨g1, o1, hA1, hgl, hga⟩ := HGT.out ja (by rw [List.length_map]; simpa using ja1)
    injection hA1 with hA1
    injection hA1 with hA1 hA2
    subst hA1; subst hA2
    obtain ⟨_, _, hA1, _, hgb⟩ := HGT.out jb (by rw [List.length_map]; simpa using jb1)
    injection hA1 with hA1
    injection hA1 with hA1 hA2
    subst hA1; subst hA2
    have hja : B.data.toList[ja]'(by simpa using ja1) = x := (List.getElem?_eq_some_iff.1 ja2).2
    have hjb : B.data.toList[jb]'(by simpa using jb1) = y := (List.getElem?_eq_some_iff.1 jb2).2
    rw [List.getElem_map, hja, Nat.zero_add] at hga
    rw [List.getElem_map, hjb, Nat.zero_add] at hgb
    have hgaw := (hb.cell hgl).trans hga
    have hgbw := (hb.cell (p := ⟨g, jb, none⟩) hgl).trans hgb
    have hst : stpE F G es k = fk + G x - G y := by unfold stpE; rw [hx, hy, hfk]
    obtain ⟨ga, hgae⟩ : ∃ ga, G x = ga := ⟨_, rfl⟩
    obtain ⟨gb, hgbe⟩ : ∃ gb, G y = gb := ⟨_, rfl⟩
    rw [hgae] at hgaw gA hst
    rw [hgbe] at hgbw gB hst
    have HNX : Hid (cntK ((List.range (k + 1)).map (stpE F G es)) = q + if fk + ga - gb = 0 then 0 else 1) := Lib.hid (by
      rw [List.range_succ, List.map_append, List.map_singleton, cntK_snoc, ← HQ.out, hst])
    have h16' : k < 16 := by omega
    have z1 : IntKind.i64.wrap (fk + ga) = fk + ga := IntWalk.i64_in _ (by omega)
    have z2 : IntKind.i64.wrap ((q : Int) + 1) = ((q + 1 : Nat) : Int) := by rw [IntWalk.i64_in _ (by omega)]; omega
    have i1 : (0 : Int) ≤ (ja : Int) := by omega
    have i2 : (ja : Int) < (B.size : Int) := by omega
    have i3 : (0 : Int) ≤ (jb : Int) := by omega
    have i4 : (jb : Int) < (B.size : Int) := by omega
    have i5 : (0 : Int) ≤ (k : Int) := by omega
    have i6 : (k : Int) < (es.length : Int) := by omega
    obtain ⟨wa, hwa⟩ : ∃ wa, wr.alloc (.cells #[.string xt, .string yt] 104) = wa := ⟨_, rfl⟩
    have hza : wa.heap.size = wr.heap.size + 1 := by rw [← hwa]; simp
    have hba : Below wr.heap.size wr wa := by rw [← hwa]; exact (Below.refl _ _).alloc (Nat.le_refl _) _
    have hm0 : wa.cell? ⟨wr.heap.size, 0, none⟩ = some (.string xt) := by rw [← hwa]; go_simp
    have hm1 : wa.cell? ⟨wr.heap.size, 1, none⟩ = some (.string yt) := by rw [← hwa]; go_simp
    have hnet := (HT2.out.below hb (by omega)).1
    have hzr := hb.size
    have HSS : Hid (∀ W, Below wa.heap.size wa W → (W.cell? ⟨w.heap.size, 0, none⟩ = some (.string B) ∧ W.cell? ⟨wr.heap.size, 0, none⟩ = some (.string xt) ∧ W.cell? ⟨wr.heap.size, 1, none⟩ = some (.string yt) ∧ W.cell? ⟨vb, vo + k, none⟩ = some (.int .i64 fk) ∧ W.cell? ⟨g, ja, none⟩ = some (.int .i64 ga) ∧ W.cell? ⟨g, jb, none⟩ = some (.int .i64 gb))) := Lib.hid fun W h =>
      have hh := hba.trans (h.mono (by omega))
      ⟨(hh.cell (by simp only; omega)).trans hnet, (h.cell (by simp only; omega)).trans hm0, (h.cell (by simp only; omega)).trans hm1, (hh.cell (by simp only; omega)).trans hvw, (hh.cell (by simp only; omega)).trans hgaw, (hh.cell (by simp only; omega)).trans hgbw⟩
    have HWA := Lib.hid hwa; have HBA := Lib.hid hba; have HZA := Lib.hid hza; have HBB := Lib.hid hb
    clear hx hy ea eb' hal hbl ja1 ja2 jb1 jb2 hxt hyt hvl hvc hf2 hfk hga hgb hja hjb hgaw hgbw hst hgae hgbe hvw hwa hba hm0 hm1 hnet hza hlow hgl gA gB hbw
    by_cases hne : fk + ga = gb
    · have n1 : ((fk + ga) != gb) = false := by rw [bne_eq_false_iff_eq]; exact hne
      have HN : Hid (q = cntK ((List.range (k + 1)).map (stpE F G es))) := Lib.hid (by rw [HNX.out, if_pos (by omega)]; omega)
      clear hne
      go_wp2_with fail
      rw [HWA.out]
      go_region_held3 (fun W => W.cell? ⟨w.heap.size, 0, none⟩ = some (.string B) ∧ W.cell? ⟨wr.heap.size, 0, none⟩ = some (.string xt) ∧ W.cell? ⟨wr.heap.size, 1, none⟩ = some (.string yt) ∧ W.cell? ⟨vb, vo + k, none⟩ = some (.int .i64 fk) ∧ W.cell? ⟨g, ja, none⟩ = some (.int .i64 ga) ∧ W.cell? ⟨g, jb, none⟩ = some (.int .i64 gb))
        (first
          | exact HSS.out _ (Below.refl _ _).drew
          | exact HSS.out _ HB2.out
          | exact HSS.out _ HB3.out)
        (first
          | (go_at_call 96
             have hq := HB2; clear hq
             go_must (
             (with_reducible refine (FY.out _).mono ?_)
             rintro e w4 ⟨rfl, hb4⟩
             have HB3 : Hid (Below wa.heap.size wa w4) := Lib.hid (HB2.out.trans (hb4.mono HB2.out.size))
             clear hb4))
          | (go_at_call 96
             go_must (
             (with_reducible refine (FX.out _).mono ?_)
             rintro e w3 ⟨rfl, hb3⟩
             have HB2 : Hid (Below wa.heap.size wa w3) := Lib.hid ((Below.refl _ _).drew.trans hb3)
             clear hb3)))
      all_goals
        rename_i hHeld
        clear hHeld
        have HBF : Hid (Below w2.heap.size w2 w4) := Lib.hid ((HBB.out.trans (HBA.out.mono HBB.out.size)).trans (HB3.out.mono (by have := HBB.out.size; have := HBA.out.size; omega)))
        go_wp2_with fail
        go_roundw
        case rel => exact ⟨k + 1, q, by omega, by go_num, rfl, by omega, HN.out, HBF.out⟩
        case measure => simp [intOf]; omega
    · have n1 : ((fk + ga) != gb) = true := by rw [bne_iff_ne]; exact hne
      have HN : Hid (q + 1 = cntK ((List.range (k + 1)).map (stpE F G es))) := Lib.hid (by rw [HNX.out, if_neg (by omega)])
      clear hne
      go_wp2_with fail
      rw [HWA.out]
      go_region_held3 (fun W => W.cell? ⟨w.heap.size, 0, none⟩ = some (.string B) ∧ W.cell? ⟨wr.heap.size, 0, none⟩ = some (.string xt) ∧ W.cell? ⟨wr.heap.size, 1, none⟩ = some (.string yt) ∧ W.cell? ⟨vb, vo + k, none⟩ = some (.int .i64 fk) ∧ W.cell? ⟨g, ja, none⟩ = some (.int .i64 ga) ∧ W.cell? ⟨g, jb, none⟩ = some (.int .i64 gb))
        (first
          | exact HSS.out _ (Below.refl _ _).drew
          | exact HSS.out _ HB2.out
          | exact HSS.out _ HB3.out)
        (first
          | (go_at_call 96
             have hq := HB2; clear hq
             go_must (
             (with_reducible refine (FY.out _).mono ?_)
             rintro e w4 ⟨rfl, hb4⟩
             have HB3 : Hid (Below wa.heap.size wa w4) := Lib.hid (HB2.out.trans (hb4.mono HB2.out.size))
             clear hb4))
          | (go_at_call 96
             go_must (
             (with_reducible refine (FX.out _).mono ?_)
             rintro e w3 ⟨rfl, hb3⟩
             have HB2 : Hid (Below wa.heap.size wa w3) := Lib.hid ((Below.refl _ _).drew.trans hb3)
             clear hb3)))
      all_goals
        rename_i hHeld
        clear hHeld
        have HBF : Hid (Below w2.heap.size w2 w4) := Lib.hid ((HBB.out.trans (HBA.out.mono HBB.out.size)).trans (HB3.out.mono (by have := HBB.out.size; have := HBA.out.size; omega)))
        go_wp2_with fail
        go_roundw
        case rel => exact ⟨k + 1, q + 1, by omega, by go_num, by first | rfl | exact congrArg (Value.int IntKind.i64) z2, by omega, HN.out, HBF.out⟩
        case measure => simp [intOf]; omega

end Go.Proofs.Ytjfdkhaepmmlfaa
