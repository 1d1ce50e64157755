/- The net of a text, by the program: the walk. -/
import Derived.Test.YtghdjmjodgbghaaDoorReadN
namespace Go.Proofs.YtghdjmjodgbghaaDoor
open Go.RowKit

set_option maxRecDepth 100000 in
set_option maxHeartbeats 4000000 in
/-- impl.readNet -/
theorem readNet_any (t : ByteArray) (w : World) (ht : t.size ≤ 1048576) (hE : Errs w) :
    Calls Tryd.prog 11 #[.string t] w (NetErr (parseQ t) w) := by
  have hb1 : Below w.heap.size w (w.alloc (.cells #[.string ⟨#[]⟩, .slice none 0 0] 24)) := (Below.refl _ _).alloc (Nat.le_refl _) _
  have hr1 : (w.alloc (.cells #[.string ⟨#[]⟩, .slice none 0 0] 24)).rowIs w.heap.size 24 2 (fun i => if i = 0 then .string ⟨#[]⟩ else .slice none 0 0) := by
    refine World.rowIs_alloc w #[.string ⟨#[]⟩, .slice none 0 0] 24 (fun i => if i = 0 then .string ⟨#[]⟩ else .slice none 0 0) (fun i hi => by
      match i, hi with
      | 0, _ => rfl
      | 1, _ => rfl)
  have hz1 : (w.alloc (.cells #[.string ⟨#[]⟩, .slice none 0 0] 24)).heap.size = w.heap.size + 1 := by simp
  have hE1 : Errs (w.alloc (.cells #[.string ⟨#[]⟩, .slice none 0 0] 24)) := hE.below hb1
  obtain ⟨i, hi⟩ : ∃ i, Lib.indexByte t.data.toList 58 = i := ⟨_, rfl⟩
  have HI := Lib.hid hi
  have HX2 : Hid (2 ≤ w.heap.size) := Lib.hid hE.choose_spec.choose_spec.2.2
  have HTZ := Lib.hid ht; have HR1 := Lib.hid hr1; have HE1 := Lib.hid hE1
  clear ht hr1 hE1 hE
  by_cases h0 : 0 ≤ i
  case neg =>
    have HQ : Hid (parseQ t = (⟨#[]⟩, [], false)) := Lib.hid (parse_none (by rw [hi]; exact h0))
    have HCV : Hid (cutV t 58 = .tuple #[.string t, .string ⟨#[]⟩, .bool false]) := Lib.hid (by rw [cutV, if_neg (by rw [hi]; exact h0)])
    clear hi h0
    go_enter Tryd.func11, Tryd.ntmps11
    go_wp2_with fail
    refine (cut_one t 58 _ HTZ.out).mono ?_
    rw [HCV.out]
    rintro e w2 ⟨rfl, hb2⟩
    have hE2 := HE1.out.below hb2
    have hr2 := HR1.out.of_block (hb2.block w.heap.size (by omega))
    obtain ⟨x0, y0, hx0, hy0, hx2⟩ := hE2
    have r0 := hr2.cell (i := 0) (by omega); have r1 := hr2.cell (i := 1) (by omega)
    have rf0 := hr2.frozen 0; have rf1 := hr2.frozen 1
    have HB2 := Lib.hid (hb1.trans (hb2.mono hb1.size))
    have hz2 := hb2.size
    have hs0 : (((w2.setCell ⟨w.heap.size, 0, none⟩ (.string ⟨#[]⟩)).setCell ⟨w.heap.size, 1, none⟩ (.slice none 0 0)).drew).cell? ⟨0, 0, none⟩ = some (.iface 75 x0) :=
      (World.cell?_of_block (a := ⟨0, 0, none⟩) ((Below.heap_setCell _ _ _ _ (by have := HX2.out; simp only; omega)).trans (Below.heap_setCell _ _ _ _ (by have := HX2.out; simp only; omega)))).trans hx0
    clear hb2 hr2 hb1
    go_wp2_with fail
    go_region
    all_goals
      go_wp2_with fail
      refine bodyPost_ret (v := .tuple #[.agg #[.string ⟨#[]⟩, .slice none 0 0], .iface 75 x0]) (by simp [results, Tryd.results11, go_sem, r0, r1]) rfl ?_
      rw [HQ.out]
      exact ⟨none, 0, _, rfl, .inr ⟨⟨x0, rfl⟩, rfl⟩, fun k hk => absurd hk (by simp), by first | exact (HB2.out.drew.setCell (by simp only; omega) _).setCell (by simp only; omega) _ | exact ((HB2.out.setCell (by simp only; omega) _).setCell (by simp only; omega) _).drew, .inl ⟨rfl, rfl⟩⟩
  obtain ⟨k, rfl⟩ : ∃ k : Nat, i = k := ⟨i.toNat, by omega⟩
  obtain ⟨bs, hbs⟩ : ∃ bs, t.extract 0 k = bs := ⟨_, rfl⟩
  obtain ⟨rest, hrest⟩ : ∃ rest, t.extract (k + 1) t.size = rest := ⟨_, rfl⟩
  have HCV : Hid (cutV t 58 = .tuple #[.string bs, .string rest, .bool true]) := Lib.hid (by rw [cutV, if_pos (by rw [hi]; omega), hi, ← hbs, ← hrest]; rfl)
  have HBS := Lib.hid hbs; have HREST := Lib.hid hrest
  have HBZ : Hid (bs.size ≤ 1048576 ∧ rest.size ≤ 1048576) := Lib.hid (by
    have := HTZ.out
    rw [← hbs, ← hrest]; simp; omega)
  clear hi h0 hbs hrest
  go_enter Tryd.func11, Tryd.ntmps11
  go_wp2_with fail
  refine (cut_one t 58 _ HTZ.out).mono ?_
  rw [HCV.out]
  rintro e w2 ⟨rfl, hb2⟩
  have hE2 := HE1.out.below hb2
  have hr2 := HR1.out.of_block (hb2.block w.heap.size (by omega))
  have hb2' := hb1.trans (hb2.mono hb1.size)
  have hz2 : w.heap.size + 1 ≤ w2.heap.size := by have := hb2.size; omega
  have HR2 := Lib.hid hr2; have HE2 := Lib.hid hE2
  clear hb2 hr2 hE2 hb1 HR1 HE1 hz1
  go_wp2_with fail
  refine (readEdges_any rest _ HBZ.out.2 HE2.out).mono ?_
  rintro e w3 (⟨hg, ⟨x, rfl⟩, hb3⟩ | ⟨hg, A, cap, rfl, hE3, hO3, hb3⟩)
  · have HQ : Hid (parseQ t = (⟨#[]⟩, [], false)) := Lib.hid (parse_bad HI.out (by rw [HREST.out]; exact hg))
    have hr3 := HR2.out.of_block (hb3.block w.heap.size (by omega))
    have r0 := hr3.cell (i := 0) (by omega); have r1 := hr3.cell (i := 1) (by omega)
    have rf0 := hr3.frozen 0; have rf1 := hr3.frozen 1
    have HB3 := Lib.hid (hb2'.trans (hb3.mono hb2'.size))
    have hz3 := hb3.size
    clear hb3 hr3 hb2'
    go_wp2_with fail
    refine bodyPost_ret (v := .tuple #[.agg #[.string ⟨#[]⟩, .slice none 0 0], .iface 75 x]) (by simp [results, Tryd.results11, go_sem, r0, r1]) rfl ?_
    rw [HQ.out]
    exact ⟨none, 0, _, rfl, .inr ⟨⟨x, rfl⟩, rfl⟩, fun k hk => absurd hk (by simp), (HB3.out.setCell (by simp only; omega) _).setCell (by simp only; omega) _, .inl ⟨rfl, rfl⟩⟩
  obtain ⟨es, hes⟩ : ∃ es, rds rest (rest.size / 3) = es := ⟨_, rfl⟩
  have hel : es.length ≤ 16 := by rw [← hes, rds_length]; have := hg.1; omega
  have hg' : Good (t.extract (k + 1) t.size) := by rw [HREST.out]; exact hg
  have HES : Hid (rds (t.extract (k + 1) t.size) ((t.extract (k + 1) t.size).size / 3) = es) := Lib.hid (by rw [HREST.out]; exact hes)
  rw [hes] at hE3 hO3
  rw [hes]
  have HG := Lib.hid hg'
  have hr3 := HR2.out.of_block (hb3.block w.heap.size (by omega))
  have hE3' := HE2.out.below hb3
  have hb3' := hb2'.trans (hb3.mono hb2'.size)
  have hz3 : w.heap.size + 1 ≤ w3.heap.size := Nat.le_trans hz2 hb3.size
  -- the net lies in a variable
  have hba : Below w3.heap.size w3 (w3.alloc (.cells #[.string bs, .slice A es.length cap] 24)) := (Below.refl _ _).alloc (Nat.le_refl _) _
  have tn := Two.made w3 bs A es.length cap 24
  have hE4 := hE3.below hba
  have hO4 := hO3.below hba
  have hE4' := hE3'.below hba
  have hr4 := hr3.of_block (hba.block w.heap.size (by omega))
  have hba' := hb3'.trans (hba.mono hb3'.size)
  have hz4 : (w3.alloc (.cells #[.string bs, .slice A es.length cap] 24)).heap.size = w3.heap.size + 1 := by simp
  have hd0 := tn.1; have hd1 := tn.2
  have HR4 := Lib.hid hr4; have HE4 := Lib.hid hE4; have HO4 := Lib.hid hO4; have HEE4 := Lib.hid hE4'; have HB4 := Lib.hid hba'; have HTN := Lib.hid tn
  clear hes hg hg' hE3 hO3 hr3 hE3' hb3' hba hE4 hO4 hE4' hr4 hba' tn hb3 hb2' HR2 HE2
  go_wp2_with fail
  refine (valid_any bs A cap es _ (by have := HBZ.out.1; unfold maxLen; omega) (HE4.out.more (by omega)) (by unfold maxLen; omega)).mono ?_
  rintro e w5 ⟨rfl, hb5⟩
  have hr5 := HR4.out.of_block (hb5.block w.heap.size (by omega))
  have r0 := hr5.cell (i := 0) (by omega); have r1 := hr5.cell (i := 1) (by omega)
  have rf0 := hr5.frozen 0; have rf1 := hr5.frozen 1
  have t5 := HTN.out.below hb5 (by omega)
  have d0 := t5.1; have d1 := t5.2
  have HE5 := Lib.hid (HE4.out.below (hb5.mono (by omega)))
  have HO5 := Lib.hid (HO4.out.below hb5)
  have hE5 := HEE4.out.below hb5
  obtain ⟨x0, y0, hx0, hy0, hx2⟩ := hE5
  have HB5 := Lib.hid (HB4.out.trans (hb5.mono HB4.out.size))
  have hz5 : w.heap.size + 2 ≤ w5.heap.size := by have := hb5.size; omega
  have hz6 : w3.heap.size + 1 ≤ w5.heap.size := by have := hb5.size; omega
  clear hd0 hd1 hb5 hr5 t5
  by_cases hv : Valid bs.data.toList (ebs es)
  · have HQ : Hid (parseQ t = (bs, es, true)) := Lib.hid (by
      have h := parse_yes HI.out HG.out (by rw [HES.out, HBS.out]; exact hv)
      rw [HES.out, HBS.out] at h
      exact h)
    rw [decB_t hv]
    clear hv hx0 hy0
    go_wp2_with fail
    refine bodyPost_ret (v := .tuple #[.agg #[.string bs, .slice A es.length cap], .nilIface]) (by simp [results, Tryd.results11, go_sem, r0, r1]) rfl ?_
    rw [HQ.out]
    have hg6 : w5.grownBy ((w5.setCell ⟨w.heap.size, 0, none⟩ (.string bs)).setCell ⟨w.heap.size, 1, none⟩ (.slice A es.length cap)) (some w.heap.size) :=
      only_setCell_at (only_setCell_at (World.grownBy.refl w5 _))
    have hne6 := HO5.out.ne (c := w.heap.size) (by omega)
    exact ⟨A, cap, _, rfl, .inl ⟨rfl, rfl⟩, ((HE5.out.more (by omega)).grown hg6 (Nat.le_refl _) hne6).more hg6.size, (HB5.out.setCell (by simp only; omega) _).setCell (by simp only; omega) _, (HO5.out.grown hg6 hne6).mono (by omega)⟩
  · have HQ : Hid (parseQ t = (⟨#[]⟩, [], false)) := Lib.hid (parse_not HI.out (by rw [HES.out, HBS.out]; exact hv))
    rw [decB_f hv]
    have hs0 : (((w5.setCell ⟨w.heap.size, 0, none⟩ (.string ⟨#[]⟩)).setCell ⟨w.heap.size, 1, none⟩ (.slice none 0 0)).drew).cell? ⟨1, 0, none⟩ = some (.iface 75 y0) :=
      (World.cell?_of_block (a := ⟨1, 0, none⟩) ((Below.heap_setCell _ _ _ _ (by have := HX2.out; simp only; omega)).trans (Below.heap_setCell _ _ _ _ (by have := HX2.out; simp only; omega)))).trans hy0
    clear hv
    go_wp2_with fail
    go_region
    all_goals
      go_wp2_with fail
      refine bodyPost_ret (v := .tuple #[.agg #[.string ⟨#[]⟩, .slice none 0 0], .iface 75 y0]) (by simp [results, Tryd.results11, go_sem, r0, r1]) rfl ?_
      rw [HQ.out]
      exact ⟨none, 0, _, rfl, .inr ⟨⟨y0, rfl⟩, rfl⟩, fun k hk => absurd hk (by simp), by first | exact (HB5.out.drew.setCell (by simp only; omega) _).setCell (by simp only; omega) _ | exact ((HB5.out.setCell (by simp only; omega) _).setCell (by simp only; omega) _).drew, .inl ⟨rfl, rfl⟩⟩

set_option maxRecDepth 100000 in
set_option maxHeartbeats 4000000 in
/-- impl.ParseNet -/
theorem implParse_any (t : ByteArray) (w : World) (ht : t.size ≤ 1048576) (hE : Errs w) :
    Calls Tryd.prog 5 #[.string t] w (OwnPost (parseQ t) w) := by
  have hb1 : Below w.heap.size w (w.alloc (.cells #[.string ⟨#[]⟩, .slice none 0 0] 24)) := (Below.refl _ _).alloc (Nat.le_refl _) _
  have hr1 : (w.alloc (.cells #[.string ⟨#[]⟩, .slice none 0 0] 24)).rowIs w.heap.size 24 2 (fun i => if i = 0 then .string ⟨#[]⟩ else .slice none 0 0) := by
    refine World.rowIs_alloc w #[.string ⟨#[]⟩, .slice none 0 0] 24 (fun i => if i = 0 then .string ⟨#[]⟩ else .slice none 0 0) (fun i hi => by
      match i, hi with
      | 0, _ => rfl
      | 1, _ => rfl)
  have hz1 : (w.alloc (.cells #[.string ⟨#[]⟩, .slice none 0 0] 24)).heap.size = w.heap.size + 1 := by simp
  have HE1 : Hid (Errs (w.alloc (.cells #[.string ⟨#[]⟩, .slice none 0 0] 24))) := Lib.hid (hE.below hb1)
  have HTZ := Lib.hid ht; have HR1 := Lib.hid hr1
  obtain ⟨qb, qe, qo, hq⟩ : ∃ qb qe qo, parseQ t = (qb, qe, qo) := ⟨_, _, _, rfl⟩
  rw [hq]
  have HQ := Lib.hid hq
  clear ht hr1 hE hq
  go_enter Tryd.func5, Tryd.ntmps5
  go_wp2_with fail
  refine (readNet_any t _ HTZ.out HE1.out).mono ?_
  rw [HQ.out]
  rintro e w2 ⟨A, cap, er, rfl, her, hE2, hb2, hO2⟩
  simp only at hE2 hO2 her
  have hz2 : w.heap.size + 1 ≤ w2.heap.size := by have := hb2.size; omega
  have hr2 := HR1.out.of_block (hb2.block w.heap.size (by omega))
  have hb2' := hb1.trans (hb2.mono hb1.size)
  have hba : Below w2.heap.size w2 (w2.alloc (.cells #[.string qb, .slice A qe.length cap] 24)) := (Below.refl _ _).alloc (Nat.le_refl _) _
  have tn := Two.made w2 qb A qe.length cap 24
  have hr3 := hr2.of_block (hba.block w.heap.size (by omega))
  have hz3 : (w2.alloc (.cells #[.string qb, .slice A qe.length cap] 24)).heap.size = w2.heap.size + 1 := by simp
  have hd0 := tn.1; have hd1 := tn.2
  have r0 := hr3.cell (i := 0) (by omega); have r1 := hr3.cell (i := 1) (by omega)
  have rf0 := hr3.frozen 0; have rf1 := hr3.frozen 1
  have hO3 := hO2.below hba
  rw [hz1] at hO3
  have HO3 := Lib.hid hO3
  have HE3 := Lib.hid ((hE2.below hba).more hba.size)
  have HB3 := Lib.hid (hb2'.trans (hba.mono hb2'.size))
  clear hb1 HR1 HE1 hE2 hb2 hO2 hr2 hb2' hba tn hr3 hz1 hO3
  rcases her with ⟨rfl, rfl⟩ | ⟨⟨x, rfl⟩, rfl⟩
  all_goals
    go_wp2_with fail
    generalize hW3 : w2.alloc (.cells #[.string qb, .slice A qe.length cap] 24) = w3 at hz3 hd0 hd1 r0 r1 rf0 rf1 HO3 HE3 HB3 ⊢
    clear hW3
    go_region
    all_goals
      go_wp2_with fail
      have hg6 : w3.grownBy ((w3.setCell ⟨w.heap.size, 0, none⟩ (.string qb)).setCell ⟨w.heap.size, 1, none⟩ (.slice A qe.length cap)) (some w.heap.size) :=
        only_setCell_at (only_setCell_at (World.grownBy.refl w3 _))
      have hg7 : w3.grownBy ((w3.setCell ⟨w.heap.size, 0, none⟩ (.string qb)).setCell ⟨w.heap.size, 1, none⟩ (.slice A qe.length cap)).drew (some w.heap.size) := ⟨hg6.os, hg6.tape, hg6.output, hg6.size, hg6.block⟩
      have hne6 := HO3.out.ne (c := w.heap.size) (by omega)
      have hbe := ((HB3.out.setCell (p := ⟨w.heap.size, 0, none⟩) (by simp only; omega) (.string qb)).setCell (p := ⟨w.heap.size, 1, none⟩) (by simp only; omega) (.slice A qe.length cap)).drew
      first
      | (refine bodyPost_ret (v := .tuple #[.agg #[.string qb, .slice A qe.length cap], .bool true]) (by simp [results, Tryd.results5, go_sem, r0, r1]) rfl ?_
         exact ⟨A, cap, rfl, (HE3.out.grown hg7 (Nat.le_refl _) hne6).more hg7.size, hbe, (HO3.out.grown hg7 hne6).mono (by omega)⟩)
      | (refine bodyPost_ret (v := .tuple #[.agg #[.string qb, .slice A qe.length cap], .bool false]) (by simp [results, Tryd.results5, go_sem, r0, r1]) rfl ?_
         exact ⟨A, cap, rfl, (HE3.out.grown hg7 (Nat.le_refl _) hne6).more hg7.size, hbe, (HO3.out.grown hg7 hne6).mono (by omega)⟩)

end Go.Proofs.YtghdjmjodgbghaaDoor
