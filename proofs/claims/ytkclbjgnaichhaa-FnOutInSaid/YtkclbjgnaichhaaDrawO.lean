/- The reader of drawn bytes: a net and a block's name, drawn: spec.DrawOutOf (by what l1Some hands back). -/
import Derived.Test.YtkclbjgnaichhaaDrawE
namespace Go.Proofs.Ytkclbjgnaichhaa
open Go.RowKit

set_option maxRecDepth 100000 in
set_option maxHeartbeats 1000000 in
/-- spec.DrawOutOf -/
theorem drawOut_any (HS : SomeCon) (A : Option Addr) (cap : Nat) (xs : List UInt8) (w : World) (hb : BytesIn w w.heap.size A xs) (hl : xs.length ≤ 1048576) (hcap : xs.length ≤ cap) :
    Calls Try.prog 7 #[.slice A xs.length cap] w (DrawnNT w) := by
  obtain ⟨W1, hW1⟩ : ∃ W1, w.alloc (.cells #[.string ⟨#[]⟩, .slice none 0 0] 25) = W1 := ⟨_, rfl⟩
  have hres1 : ResAt w.heap.size W1 := by
    rw [← hW1]
    exact ⟨(fun i => if i = 0 then .string ⟨#[]⟩ else .slice none 0 0), World.rowIs_alloc w #[.string ⟨#[]⟩, .slice none 0 0] 25 (fun i => if i = 0 then .string ⟨#[]⟩ else .slice none 0 0) (fun i hi => by
      match i, hi with
      | 0, _ => rfl
      | 1, _ => rfl), fun s h => by cases h⟩
  have hb1 : Below w.heap.size w W1 := by rw [← hW1]; exact (Below.refl _ _).alloc (Nat.le_refl _) _
  have hz1 : W1.heap.size = w.heap.size + 1 := by rw [← hW1]; simp
  have HBY : Hid (BytesIn W1 W1.heap.size A xs) := Lib.hid ((hb.below hb1).more hb1.size)
  have HRES1 := Lib.hid hres1; have HB1 := Lib.hid hb1; have HSC := Lib.hid HS
  clear hb hres1 hb1 HS
  go_enter Try.func7, Try.ntmps7
  go_wp2_with fail
  refine (open16_any A cap xs W1 HBY.out hl hcap).mono ?_
  rintro e w2 ⟨rfl, ⟨c, hrd2⟩, hb2⟩
  obtain ⟨R, hRe⟩ : ∃ R, W1.heap.size = R := ⟨_, rfl⟩
  rw [hRe] at hrd2
  have hR2 : R < w2.heap.size := hrd2.row.lt
  have HB2 := Lib.hid (HB1.out.trans (hb2.mono HB1.out.size))
  have HRES2 := Lib.hid (HRES1.out.below hb2)
  have hRU : w.heap.size < R := by omega
  obtain ⟨ys, hys⟩ : ∃ ys, xs.take 2000 = ys := ⟨_, rfl⟩
  rw [hys] at hrd2
  have HRD2 := Lib.hid hrd2
  clear hb2 hrd2 HBY HB1 HRES1 hW1 hys
  rw [hRe]
  clear hRe hz1
  go_wp2_with fail
  refine (HSC.out R R A c ys 0 w2 HRD2.out (by omega) hR2).mono ?_
  rintro e w3 ⟨⟨B, A', cap', es, rfl, hfn, hE3⟩, ⟨p3, hp3, hrd3⟩, hg3⟩
  have hba : Below w3.heap.size w3 (w3.alloc (.cells #[.string B, .slice A' es.length cap'] 25)) := (Below.refl _ _).alloc (Nat.le_refl _) _
  have tn := Two.made w3 B A' es.length cap' 25
  have hzw : w.heap.size ≤ w2.heap.size := HB2.out.size
  have hz3 : w2.heap.size ≤ w3.heap.size := hg3.size
  have HB3 : Hid (Below w.heap.size w (w3.alloc (.cells #[.string B, .slice A' es.length cap'] 25))) := Lib.hid ((HB2.out.trans (below_of_grown hg3 hzw (by omega))).trans (hba.mono (by omega)))
  have HRES3 : Hid (ResAt w.heap.size (w3.alloc (.cells #[.string B, .slice A' es.length cap'] 25))) := Lib.hid ((HRES2.out.block (hg3.block _ HRES2.out.lt (by intro e; injection e with e; omega))).below hba)
  have HRD3 : Hid (Rd (w3.alloc (.cells #[.string B, .slice A' es.length cap'] 25)) R R A c ys p3) := Lib.hid (hrd3.below hba (by omega))
  have HE3 : Hid (EdgesIn (w3.alloc (.cells #[.string B, .slice A' es.length cap'] 25)) (w3.alloc (.cells #[.string B, .slice A' es.length cap'] 25)).heap.size A' es) := Lib.hid ((hE3.below hba).more hba.size)
  have HFN := Lib.hid hfn
  have HVU : Hid (w.heap.size ≠ w3.heap.size) := Lib.hid (by omega)
  have hd0 := tn.1; have hd1 := tn.2
  have hzv : w3.heap.size < (w3.alloc (.cells #[.string B, .slice A' es.length cap'] 25)).heap.size := by simp
  have hRV : R < w3.heap.size := by omega
  clear hba tn hfn hE3 hrd3 hg3
  go_wp2_with fail
  generalize hW4 : w3.alloc (.cells #[.string B, .slice A' es.length cap'] 25) = w4 at HB3 HRES3 HRD3 HE3 hd0 hd1 hzv ⊢
  clear hW4
  obtain ⟨V, hV⟩ : ∃ V, w3.heap.size = V := ⟨_, rfl⟩
  rw [hV] at HVU hd0 hd1 hzv hRV ⊢
  clear hV
  have HEN : Hid (Calls Try.prog 28 #[.pointer (some ⟨R, 0, none⟩)] w4.drew fun e w' => ShortT e ∧ w4.grownBy w' (some R)) := Lib.hid (by
    refine (bname_any R R A c ys p3 w4.drew (HRD3.out.below (Below.refl _ _).drew (by omega : R < w4.heap.size)) (by omega) (by show R < w4.heap.size; omega)).mono ?_
    rintro e w' ⟨h1, _, h2⟩
    exact ⟨h1, ⟨h2.os, h2.tape, h2.output, h2.size, h2.block⟩⟩)
  go_region_held3 (fun W => W.cell? ⟨V, 0, none⟩ = some (.string B) ∧ W.cell? ⟨V, 1, none⟩ = some (.slice A' es.length cap'))
    (first
      | exact ⟨hd0, hd1⟩
      | exact ⟨hk0, hk1⟩
      | exact ⟨(keep_set HVU.out _ _).trans hd0, (keep_set HVU.out _ _).trans hd1⟩
      | exact ⟨(keep_set HVU.out _ _).trans hk0, (keep_set HVU.out _ _).trans hk1⟩)
    (first
      | (go_at_call 28
         go_must (
         refine HEN.out.mono ?_
         rintro e w5 ⟨⟨s, hs, rfl⟩, hg5⟩
         have hk0 : w5.cell? ⟨V, 0, none⟩ = some (.string B) := (World.cell?_of_block (hg5.block V hzv (by intro e; injection e with e; omega))).trans hd0
         have hk1 : w5.cell? ⟨V, 1, none⟩ = some (.slice A' es.length cap') := (World.cell?_of_block (hg5.block V hzv (by intro e; injection e with e; omega))).trans hd1
         have hres5 : ResAt w.heap.size w5 := HRES3.out.block (hg5.block _ HRES3.out.lt (by intro e; injection e with e; omega))
         obtain ⟨f, hrf, hf1⟩ := hres5.row
         have r0 := hrf.cell (i := 0) (by omega); have r1 := hrf.cell (i := 1) (by omega)
         have rf0 := hrf.frozen 0; have rf1 := hrf.frozen 1
         have HRF := Lib.hid hrf; have HF1 := Lib.hid hf1; have HG5 := Lib.hid hg5
         clear hres5 hrf hf1 hg5)))
  rename_i hHeld
  clear hHeld
  have HE5 : Hid (EdgesIn w5 w5.heap.size A' es) := Lib.hid (edges_set HE3.out HRD3.out.row (fun s e => by simp at e) HG5.out)
  have HB5 : Hid (Below w.heap.size w w5) := Lib.hid (HB3.out.trans (below_of_grown HG5.out (by omega) (by omega)))
  go_wp2_with fail
  refine bodyPost_ret (v := .tuple #[.agg #[.string B, .slice A' es.length cap'], .string s]) (by simp [results, Try.results7, go_sem, r0, r1]) rfl ?_
  refine ⟨B, A', cap', es, s, rfl, HFN.out, hs, ?_, ?_⟩
  · exact edges_set HE5.out HRF.out HF1.out (only_setCell_at (only_setCell_at (World.grownBy.refl w5 _)))
  · exact (HB5.out.setCell (by simp only; omega) _).setCell (by simp only; omega) _

end Go.Proofs.Ytkclbjgnaichhaa
