/- The reader of drawn bytes: a net that is mostly valid, drawn: spec.l1Some. -/
import Derived.Test.YtkclbjgnaichhaaSomeP
namespace Go.Proofs.Ytkclbjgnaichhaa
open Go.RowKit

set_option maxRecDepth 100000 in
set_option maxHeartbeats 4000000 in
/-- spec.l1Some -/
theorem some_any (R M : Nat) (A : Option Addr) (cap : Nat) (xs : List UInt8) (p : Nat) (w : World) (hr : Rd w R M A cap xs p) (hp : p ≤ 800) (hR : R < w.heap.size) :
    Calls Try.prog 27 #[.pointer (some ⟨R, 0, none⟩)] w (SomePost R M A cap xs p w) := by
  obtain ⟨W1, hW1⟩ : ∃ W1, w.alloc (.cells #[.string ⟨#[]⟩, .slice none 0 0] 25) = W1 := ⟨_, rfl⟩
  have hres1 : ResAt w.heap.size W1 := by
    rw [← hW1]
    exact ⟨(fun i => if i = 0 then .string ⟨#[]⟩ else .slice none 0 0), World.rowIs_alloc w #[.string ⟨#[]⟩, .slice none 0 0] 25 (fun i => if i = 0 then .string ⟨#[]⟩ else .slice none 0 0) (fun i hi => by
      match i, hi with
      | 0, _ => rfl
      | 1, _ => rfl), fun s h => by cases h⟩
  have hb1 : Below w.heap.size w W1 := by rw [← hW1]; exact (Below.refl _ _).alloc (Nat.le_refl _) _
  have hz1 : W1.heap.size = w.heap.size + 1 := by rw [← hW1]; simp
  have hrd1 : Rd W1 R M A cap xs p := hr.below hb1 hR
  have HRES1 := Lib.hid hres1; have HRD1 := Lib.hid hrd1
  have HGR1 : Hid (∀ w2, W1.grownBy w2 (some R) → w.grownBy w2 (some R)) := Lib.hid fun w2 h => by rw [← hW1] at h; exact grown_alloc h
  clear hr hres1 hrd1 hb1
  go_enter Try.func27, Try.ntmps27
  go_wp2_with fail
  refine (good_any R M A cap xs p W1 HRD1.out (by omega) (by omega)).mono ?_
  rintro e w2 ⟨⟨B, A', cap', es, rfl, hsm, hE2⟩, ⟨p2, hp2, hrd2⟩, hg2⟩
  have hz2 : w.heap.size + 1 ≤ w2.heap.size := by have := hg2.size; omega
  have hba : Below w2.heap.size w2 (w2.alloc (.cells #[.string B, .slice A' es.length cap'] 25)) := (Below.refl _ _).alloc (Nat.le_refl _) _
  have tn := Two.made w2 B A' es.length cap' 25
  have HST2 : Hid (SomeSt w R M w2.heap.size A cap xs B A' cap' es p2 (w2.alloc (.cells #[.string B, .slice A' es.length cap'] 25))) := Lib.hid
    ⟨⟨p2, Nat.le_refl _, hrd2.below hba (by omega)⟩, tn.1, tn.2, (hE2.below hba).more hba.size, grown_below (HGR1.out _ hg2) hba, hR, by omega, by simp⟩
  have HRES2 : Hid (ResAt w.heap.size (w2.alloc (.cells #[.string B, .slice A' es.length cap'] 25))) := Lib.hid ((HRES1.out.of hg2 hR).below hba)
  have HSM := Lib.hid hsm
  have hzv : w2.heap.size < (w2.alloc (.cells #[.string B, .slice A' es.length cap'] 25)).heap.size := by simp
  have hd0 := tn.1; have hd1 := tn.2
  clear hba tn hsm hrd2 hE2 hg2 hW1
  go_wp2_with fail
  generalize hW3 : w2.alloc (.cells #[.string B, .slice A' es.length cap'] 25) = w3 at HST2 HRES2 hzv hd0 hd1 ⊢
  clear hW3
  obtain ⟨V, hV⟩ : ∃ V, w2.heap.size = V := ⟨_, rfl⟩
  rw [hV] at HST2 hzv hd0 hd1 hz2 ⊢
  clear hV hd0 hd1
  obtain ⟨p3, hp3, hrd3⟩ := HST2.out.rd
  refine (pick_any R M A cap xs p3 30 w3 hrd3 (by omega) (by omega)).mono ?_
  rintro e w4 ⟨⟨k, hk, rfl⟩, hrd4, hg4⟩
  have hst4 : SomeSt w R M V A cap xs B A' cap' es (p2 + 1) w4 := by
    have h := HST2.out
    have hVc : ∀ i, w4.cell? ⟨V, i, none⟩ = w3.cell? ⟨V, i, none⟩ := fun i => World.cell?_of_block (hg4.block V h.ltV (by intro e; injection e with e; omega))
    exact ⟨⟨p3 + 1, by omega, hrd4⟩, (hVc 0).trans h.net0, (hVc 1).trans h.net1, edges_set h.edges hrd3.row (fun s e => by simp at e) hg4, grown_trans h.grown hg4, h.lowR, h.lowV, Nat.lt_of_lt_of_le h.ltV hg4.size⟩
  have hres4 : ResAt w.heap.size w4 := HRES2.out.of hg4 hR
  have HST := Lib.hid hst4; have HRES := Lib.hid hres4
  have hz4 : w.heap.size + 1 ≤ w4.heap.size := by have := hres4.lt; omega
  have hd0 := hst4.net0; have hd1 := hst4.net1
  clear hrd3 hrd4 hg4 hst4 hres4 HST2 HRES2 HRD1 HRES1 HGR1
  have HVU : Hid (w.heap.size ≠ V) := Lib.hid (by omega)
  have HSZ : Hid (w.heap.size ≤ w4.heap.size) := Lib.hid (by omega)
  have HM1 : Hid (∀ (W : World) (X : Nat), X = W.heap.size → w.heap.size ≤ W.heap.size → StrsAt w.heap.size X [⟨#[65]⟩, ⟨#[66]⟩, ⟨#[90]⟩, ⟨#[]⟩, ⟨#[65, 66]⟩] (W.alloc (.cells #[.string ⟨#[65]⟩, .string ⟨#[66]⟩, .string ⟨#[90]⟩, .string ⟨#[]⟩, .string ⟨#[65, 66]⟩] 9))) := Lib.hid fun W X e h => by subst e; exact StrsAt.made [⟨#[65]⟩, ⟨#[66]⟩, ⟨#[90]⟩, ⟨#[]⟩, ⟨#[65, 66]⟩] h
  have HM2 : Hid (∀ (W : World) (X : Nat), X = W.heap.size → w.heap.size ≤ W.heap.size → StrsAt w.heap.size X [⟨#[66]⟩, ⟨#[65]⟩, ⟨#[]⟩, ⟨#[68]⟩] (W.alloc (.cells #[.string ⟨#[66]⟩, .string ⟨#[65]⟩, .string ⟨#[]⟩, .string ⟨#[68]⟩] 9))) := Lib.hid fun W X e h => by subst e; exact StrsAt.made [⟨#[66]⟩, ⟨#[65]⟩, ⟨#[]⟩, ⟨#[68]⟩] h
  have HM3 : Hid (∀ (W : World) (X : Nat), X = W.heap.size → w.heap.size ≤ W.heap.size → StrsAt w.heap.size X [⟨#[]⟩, ⟨#[65]⟩, ⟨#[65, 65]⟩, ⟨#[65, 66, 67, 68, 69, 70, 71, 72, 73]⟩, ⟨#[66, 65]⟩, ⟨#[97, 98]⟩] (W.alloc (.cells #[.string ⟨#[]⟩, .string ⟨#[65]⟩, .string ⟨#[65, 65]⟩, .string ⟨#[65, 66, 67, 68, 69, 70, 71, 72, 73]⟩, .string ⟨#[66, 65]⟩, .string ⟨#[97, 98]⟩] 9))) := Lib.hid fun W X e h => by subst e; exact StrsAt.made [⟨#[]⟩, ⟨#[65]⟩, ⟨#[65, 65]⟩, ⟨#[65, 66, 67, 68, 69, 70, 71, 72, 73]⟩, ⟨#[66, 65]⟩, ⟨#[97, 98]⟩] h
  by_cases k0 : k = 0
  · subst k0
    clear hk
    obtain ⟨i0, hi, hi0, hi1, hi2⟩ := info_parts edgeInfo
    have HI := Lib.hid hi; have HI0 := Lib.hid hi0; have HI1 := Lib.hid hi1; have HI2 := Lib.hid hi2
    have HM0 : Hid (∀ (W : World) (X : Nat), X = W.heap.size → V + 1 ≤ W.heap.size → NoneAt (V + 1) X (W.alloc (.cells #[] 46))) := Lib.hid fun W X e h => by subst e; exact NoneAt.made h
    have HSZZ : Hid (V + 1 ≤ w4.heap.size) := Lib.hid HST.out.ltV
    clear hi hi0 hi1 hi2
    have h17 := HSM.out.2.1
    go_wp2_with fail
    go_region_held3 (fun W => W.cell? ⟨V, 0, none⟩ = some (.string B) ∧ W.cell? ⟨V, 1, none⟩ = some (.slice A' es.length cap'))
      (first | exact ⟨HC8.out.net0, HC8.out.net1⟩ | exact ⟨(keep_set HVU.out _ _).trans HC8.out.net0, (keep_set HVU.out _ _).trans HC8.out.net1⟩ | with_reducible exact ⟨(HST7.out).net0, (HST7.out).net1⟩ | with_reducible exact ⟨((HST7.out.alloc _)).net0, ((HST7.out.alloc _)).net1⟩ | with_reducible exact ⟨(((HST7.out.alloc _).alloc _)).net0, (((HST7.out.alloc _).alloc _)).net1⟩ | with_reducible exact ⟨((((HST7.out.alloc _).alloc _).alloc _)).net0, ((((HST7.out.alloc _).alloc _).alloc _)).net1⟩ | with_reducible exact ⟨(HST6.out).net0, (HST6.out).net1⟩ | with_reducible exact ⟨((HST6.out.alloc _)).net0, ((HST6.out.alloc _)).net1⟩ | with_reducible exact ⟨(((HST6.out.alloc _).alloc _)).net0, (((HST6.out.alloc _).alloc _)).net1⟩ | with_reducible exact ⟨((((HST6.out.alloc _).alloc _).alloc _)).net0, ((((HST6.out.alloc _).alloc _).alloc _)).net1⟩ | with_reducible exact ⟨(HST5.out).net0, (HST5.out).net1⟩ | with_reducible exact ⟨((HST5.out.alloc _)).net0, ((HST5.out.alloc _)).net1⟩ | with_reducible exact ⟨(((HST5.out.alloc _).alloc _)).net0, (((HST5.out.alloc _).alloc _)).net1⟩ | with_reducible exact ⟨((((HST5.out.alloc _).alloc _).alloc _)).net0, ((((HST5.out.alloc _).alloc _).alloc _)).net1⟩ | with_reducible exact ⟨(HST.out.drew).net0, (HST.out.drew).net1⟩ | with_reducible exact ⟨((HST.out.alloc _).drew).net0, ((HST.out.alloc _).drew).net1⟩ | with_reducible exact ⟨(((HST.out.alloc _).alloc _).drew).net0, (((HST.out.alloc _).alloc _).drew).net1⟩ | with_reducible exact ⟨((((HST.out.alloc _).alloc _).alloc _).drew).net0, ((((HST.out.alloc _).alloc _).alloc _).drew).net1⟩)
      (first
        | (have hguard := HST7.out
           clear hguard
           refine step_append_ownD rfl (.tmp 15) (.tmp 23) 23 rfl (V + 1) 46 i0 (.agg #[.string ⟨#[]⟩, .string ⟨#[]⟩]) 2 32 Try.underlying23 HI.out HI0.out HI1.out HI2.out rfl (by decide) v5 es.length (cellsD es) rfl (HOWN7.out.alloc _).own ⟨w7.heap.size, 0, none⟩ 1 1 [.string s6, .string s7] rfl rfl (cells_two w7 s6 s7) (ones_two s6 s7) (by unfold maxLen; omega) (by omega) (own_low HST7.out) ?_
           go_must (
           intro v8 w8 hown8 hgr8
           have HC8 : Hid (After8 w R M V B (.slice A' es.length cap') A cap xs (p2 + 1 + 1 + 1) v8 (es ++ [(s6, s7)]) w8) := Lib.hid (after8 (HST7.out.alloc _) (HRES7.out.alloc _) (HOWN7.out.alloc _) hgr8 hown8)
           obtain ⟨g8, c8, rfl⟩ := HC8.out.form
           obtain ⟨f8, hrf8, hf8⟩ := HC8.out.res.row
           have r0 := hrf8.cell (i := 0) (by omega); have r1 := hrf8.cell (i := 1) (by omega)
           have rf0 := hrf8.frozen 0; have rf1 := hrf8.frozen 1
           clear hown8 hgr8))
        | (go_at_call 56
           have hguard := HST6.out
           clear hguard
           refine (of_some [⟨#[66]⟩, ⟨#[65]⟩, ⟨#[]⟩, ⟨#[68]⟩] (w := w) (R := R) (M := M) (V := V) (A := A) (cap := cap) (xs := xs) (B := B) (A' := A') (cap' := cap') (es := es) (q := p2 + 1 + 1) ?_ ?_ (by omega) (by decide) (by decide) 4 rfl).mono ?_
           · (first | with_reducible exact HST7.out | with_reducible exact (HST7.out.alloc _) | with_reducible exact ((HST7.out.alloc _).alloc _) | with_reducible exact (((HST7.out.alloc _).alloc _).alloc _) | with_reducible exact HST6.out | with_reducible exact (HST6.out.alloc _) | with_reducible exact ((HST6.out.alloc _).alloc _) | with_reducible exact (((HST6.out.alloc _).alloc _).alloc _) | with_reducible exact HST5.out | with_reducible exact (HST5.out.alloc _) | with_reducible exact ((HST5.out.alloc _).alloc _) | with_reducible exact (((HST5.out.alloc _).alloc _).alloc _) | with_reducible exact HST.out.drew | with_reducible exact (HST.out.alloc _).drew | with_reducible exact ((HST.out.alloc _).alloc _).drew | with_reducible exact (((HST.out.alloc _).alloc _).alloc _).drew)
           · ((try with_reducible refine StrsAt.drew ?_); (repeat (first | with_reducible exact HM2.out _ _ (by first | rfl | simp) (by first | with_reducible exact HSZ7.out | with_reducible exact HSZ6.out | with_reducible exact HSZ5.out | with_reducible exact HSZ.out | (have := HSZ7.out; simp; omega) | (have := HSZ6.out; simp; omega) | (have := HSZ5.out; simp; omega) | (have := HSZ.out; simp; omega)) | with_reducible refine StrsAt.below ?_ HB5.out | with_reducible refine StrsAt.of ?_ HG6.out hR | with_reducible refine StrsAt.alloc ?_ _ | with_reducible refine StrsAt.drew ?_)))
           go_must (
           rintro e w7 ⟨⟨s7, hs7, rfl⟩, hst7, hg7⟩
           have HRES7 : Hid (ResAt w.heap.size w7) := Lib.hid (by (first | with_reducible exact (HRES7.out).of hg7 hR | with_reducible exact ((HRES7.out.alloc _)).of hg7 hR | with_reducible exact (((HRES7.out.alloc _).alloc _)).of hg7 hR | with_reducible exact ((((HRES7.out.alloc _).alloc _).alloc _)).of hg7 hR | with_reducible exact (HRES6.out).of hg7 hR | with_reducible exact ((HRES6.out.alloc _)).of hg7 hR | with_reducible exact (((HRES6.out.alloc _).alloc _)).of hg7 hR | with_reducible exact ((((HRES6.out.alloc _).alloc _).alloc _)).of hg7 hR | with_reducible exact (HRES5.out).of hg7 hR | with_reducible exact ((HRES5.out.alloc _)).of hg7 hR | with_reducible exact (((HRES5.out.alloc _).alloc _)).of hg7 hR | with_reducible exact ((((HRES5.out.alloc _).alloc _).alloc _)).of hg7 hR | with_reducible exact (HRES.out.drew).of hg7 hR | with_reducible exact ((HRES.out.alloc _).drew).of hg7 hR | with_reducible exact (((HRES.out.alloc _).alloc _).drew).of hg7 hR | with_reducible exact ((((HRES.out.alloc _).alloc _).alloc _).drew).of hg7 hR))
           have HOWN7 : Hid (OwnAt (V + 1) v5 es w7) := Lib.hid (by (first | with_reducible exact (HOWN7.out).of hg7 (Nat.lt_succ_of_le (Nat.le_of_lt (Nat.lt_of_lt_of_le hR HST.out.lowV))) | with_reducible exact ((HOWN7.out.alloc _)).of hg7 (Nat.lt_succ_of_le (Nat.le_of_lt (Nat.lt_of_lt_of_le hR HST.out.lowV))) | with_reducible exact (((HOWN7.out.alloc _).alloc _)).of hg7 (Nat.lt_succ_of_le (Nat.le_of_lt (Nat.lt_of_lt_of_le hR HST.out.lowV))) | with_reducible exact ((((HOWN7.out.alloc _).alloc _).alloc _)).of hg7 (Nat.lt_succ_of_le (Nat.le_of_lt (Nat.lt_of_lt_of_le hR HST.out.lowV))) | with_reducible exact (HOWN6.out).of hg7 (Nat.lt_succ_of_le (Nat.le_of_lt (Nat.lt_of_lt_of_le hR HST.out.lowV))) | with_reducible exact ((HOWN6.out.alloc _)).of hg7 (Nat.lt_succ_of_le (Nat.le_of_lt (Nat.lt_of_lt_of_le hR HST.out.lowV))) | with_reducible exact (((HOWN6.out.alloc _).alloc _)).of hg7 (Nat.lt_succ_of_le (Nat.le_of_lt (Nat.lt_of_lt_of_le hR HST.out.lowV))) | with_reducible exact ((((HOWN6.out.alloc _).alloc _).alloc _)).of hg7 (Nat.lt_succ_of_le (Nat.le_of_lt (Nat.lt_of_lt_of_le hR HST.out.lowV))) | with_reducible exact (HOWN5.out).of hg7 (Nat.lt_succ_of_le (Nat.le_of_lt (Nat.lt_of_lt_of_le hR HST.out.lowV))) | with_reducible exact ((HOWN5.out.alloc _)).of hg7 (Nat.lt_succ_of_le (Nat.le_of_lt (Nat.lt_of_lt_of_le hR HST.out.lowV))) | with_reducible exact (((HOWN5.out.alloc _).alloc _)).of hg7 (Nat.lt_succ_of_le (Nat.le_of_lt (Nat.lt_of_lt_of_le hR HST.out.lowV))) | with_reducible exact ((((HOWN5.out.alloc _).alloc _).alloc _)).of hg7 (Nat.lt_succ_of_le (Nat.le_of_lt (Nat.lt_of_lt_of_le hR HST.out.lowV))) | with_reducible exact (HOWN.out.drew).of hg7 (Nat.lt_succ_of_le (Nat.le_of_lt (Nat.lt_of_lt_of_le hR HST.out.lowV))) | with_reducible exact ((HOWN.out.alloc _).drew).of hg7 (Nat.lt_succ_of_le (Nat.le_of_lt (Nat.lt_of_lt_of_le hR HST.out.lowV))) | with_reducible exact (((HOWN.out.alloc _).alloc _).drew).of hg7 (Nat.lt_succ_of_le (Nat.le_of_lt (Nat.lt_of_lt_of_le hR HST.out.lowV))) | with_reducible exact ((((HOWN.out.alloc _).alloc _).alloc _).drew).of hg7 (Nat.lt_succ_of_le (Nat.le_of_lt (Nat.lt_of_lt_of_le hR HST.out.lowV)))))
           have HST7 := Lib.hid hst7; have HG7 := Lib.hid hg7; have HS7 := Lib.hid hs7
           have HSZ7 : Hid (w.heap.size ≤ w7.heap.size) := Lib.hid HST7.out.grown.size
           clear hst7 hg7 hs7))
        | (go_at_call 56
           fail_if_success (have hguard := HST6.out)
           refine (of_some [⟨#[65]⟩, ⟨#[66]⟩, ⟨#[90]⟩, ⟨#[]⟩, ⟨#[65, 66]⟩] (w := w) (R := R) (M := M) (V := V) (A := A) (cap := cap) (xs := xs) (B := B) (A' := A') (cap' := cap') (es := es) (q := p2 + 1) ?_ ?_ (by omega) (by decide) (by decide) 5 rfl).mono ?_
           · (first | with_reducible exact HST7.out | with_reducible exact (HST7.out.alloc _) | with_reducible exact ((HST7.out.alloc _).alloc _) | with_reducible exact (((HST7.out.alloc _).alloc _).alloc _) | with_reducible exact HST6.out | with_reducible exact (HST6.out.alloc _) | with_reducible exact ((HST6.out.alloc _).alloc _) | with_reducible exact (((HST6.out.alloc _).alloc _).alloc _) | with_reducible exact HST5.out | with_reducible exact (HST5.out.alloc _) | with_reducible exact ((HST5.out.alloc _).alloc _) | with_reducible exact (((HST5.out.alloc _).alloc _).alloc _) | with_reducible exact HST.out.drew | with_reducible exact (HST.out.alloc _).drew | with_reducible exact ((HST.out.alloc _).alloc _).drew | with_reducible exact (((HST.out.alloc _).alloc _).alloc _).drew)
           · ((try with_reducible refine StrsAt.drew ?_); (repeat (first | with_reducible exact HM1.out _ _ (by first | rfl | simp) (by first | with_reducible exact HSZ7.out | with_reducible exact HSZ6.out | with_reducible exact HSZ5.out | with_reducible exact HSZ.out | (have := HSZ7.out; simp; omega) | (have := HSZ6.out; simp; omega) | (have := HSZ5.out; simp; omega) | (have := HSZ.out; simp; omega)) | with_reducible refine StrsAt.below ?_ HB5.out | with_reducible refine StrsAt.of ?_ HG6.out hR | with_reducible refine StrsAt.alloc ?_ _ | with_reducible refine StrsAt.drew ?_)))
           go_must (
           rintro e w6 ⟨⟨s6, hs6, rfl⟩, hst6, hg6⟩
           have HRES6 : Hid (ResAt w.heap.size w6) := Lib.hid (by (first | with_reducible exact (HRES7.out).of hg6 hR | with_reducible exact ((HRES7.out.alloc _)).of hg6 hR | with_reducible exact (((HRES7.out.alloc _).alloc _)).of hg6 hR | with_reducible exact ((((HRES7.out.alloc _).alloc _).alloc _)).of hg6 hR | with_reducible exact (HRES6.out).of hg6 hR | with_reducible exact ((HRES6.out.alloc _)).of hg6 hR | with_reducible exact (((HRES6.out.alloc _).alloc _)).of hg6 hR | with_reducible exact ((((HRES6.out.alloc _).alloc _).alloc _)).of hg6 hR | with_reducible exact (HRES5.out).of hg6 hR | with_reducible exact ((HRES5.out.alloc _)).of hg6 hR | with_reducible exact (((HRES5.out.alloc _).alloc _)).of hg6 hR | with_reducible exact ((((HRES5.out.alloc _).alloc _).alloc _)).of hg6 hR | with_reducible exact (HRES.out.drew).of hg6 hR | with_reducible exact ((HRES.out.alloc _).drew).of hg6 hR | with_reducible exact (((HRES.out.alloc _).alloc _).drew).of hg6 hR | with_reducible exact ((((HRES.out.alloc _).alloc _).alloc _).drew).of hg6 hR))
           have HOWN6 : Hid (OwnAt (V + 1) v5 es w6) := Lib.hid (by (first | with_reducible exact (HOWN7.out).of hg6 (Nat.lt_succ_of_le (Nat.le_of_lt (Nat.lt_of_lt_of_le hR HST.out.lowV))) | with_reducible exact ((HOWN7.out.alloc _)).of hg6 (Nat.lt_succ_of_le (Nat.le_of_lt (Nat.lt_of_lt_of_le hR HST.out.lowV))) | with_reducible exact (((HOWN7.out.alloc _).alloc _)).of hg6 (Nat.lt_succ_of_le (Nat.le_of_lt (Nat.lt_of_lt_of_le hR HST.out.lowV))) | with_reducible exact ((((HOWN7.out.alloc _).alloc _).alloc _)).of hg6 (Nat.lt_succ_of_le (Nat.le_of_lt (Nat.lt_of_lt_of_le hR HST.out.lowV))) | with_reducible exact (HOWN6.out).of hg6 (Nat.lt_succ_of_le (Nat.le_of_lt (Nat.lt_of_lt_of_le hR HST.out.lowV))) | with_reducible exact ((HOWN6.out.alloc _)).of hg6 (Nat.lt_succ_of_le (Nat.le_of_lt (Nat.lt_of_lt_of_le hR HST.out.lowV))) | with_reducible exact (((HOWN6.out.alloc _).alloc _)).of hg6 (Nat.lt_succ_of_le (Nat.le_of_lt (Nat.lt_of_lt_of_le hR HST.out.lowV))) | with_reducible exact ((((HOWN6.out.alloc _).alloc _).alloc _)).of hg6 (Nat.lt_succ_of_le (Nat.le_of_lt (Nat.lt_of_lt_of_le hR HST.out.lowV))) | with_reducible exact (HOWN5.out).of hg6 (Nat.lt_succ_of_le (Nat.le_of_lt (Nat.lt_of_lt_of_le hR HST.out.lowV))) | with_reducible exact ((HOWN5.out.alloc _)).of hg6 (Nat.lt_succ_of_le (Nat.le_of_lt (Nat.lt_of_lt_of_le hR HST.out.lowV))) | with_reducible exact (((HOWN5.out.alloc _).alloc _)).of hg6 (Nat.lt_succ_of_le (Nat.le_of_lt (Nat.lt_of_lt_of_le hR HST.out.lowV))) | with_reducible exact ((((HOWN5.out.alloc _).alloc _).alloc _)).of hg6 (Nat.lt_succ_of_le (Nat.le_of_lt (Nat.lt_of_lt_of_le hR HST.out.lowV))) | with_reducible exact (HOWN.out.drew).of hg6 (Nat.lt_succ_of_le (Nat.le_of_lt (Nat.lt_of_lt_of_le hR HST.out.lowV))) | with_reducible exact ((HOWN.out.alloc _).drew).of hg6 (Nat.lt_succ_of_le (Nat.le_of_lt (Nat.lt_of_lt_of_le hR HST.out.lowV))) | with_reducible exact (((HOWN.out.alloc _).alloc _).drew).of hg6 (Nat.lt_succ_of_le (Nat.le_of_lt (Nat.lt_of_lt_of_le hR HST.out.lowV))) | with_reducible exact ((((HOWN.out.alloc _).alloc _).alloc _).drew).of hg6 (Nat.lt_succ_of_le (Nat.le_of_lt (Nat.lt_of_lt_of_le hR HST.out.lowV)))))
           have HST6 := Lib.hid hst6; have HG6 := Lib.hid hg6; have HS6 := Lib.hid hs6
           have HSZ6 : Hid (w.heap.size ≤ w6.heap.size) := Lib.hid HST6.out.grown.size
           clear hst6 hg6 hs6))
        | (refine step_first (w0 := V + 1) rfl (.tmp 12) (.tmp 14) 23 rfl i0 (.agg #[.string ⟨#[]⟩, .string ⟨#[]⟩]) Try.underlying23 HI.out HI0.out HI1.out HI2.out rfl rfl rfl (by (try with_reducible refine NoneAt.drew ?_); (repeat (first | with_reducible exact HM0.out _ _ (by first | rfl | simp) (by first | with_reducible exact HSZZ.out | (have := HSZZ.out; simp; omega)) | with_reducible refine NoneAt.alloc ?_ _))) (by (first | with_reducible exact (HST7.out).edges | with_reducible exact ((HST7.out.alloc _)).edges | with_reducible exact (((HST7.out.alloc _).alloc _)).edges | with_reducible exact ((((HST7.out.alloc _).alloc _).alloc _)).edges | with_reducible exact (HST6.out).edges | with_reducible exact ((HST6.out.alloc _)).edges | with_reducible exact (((HST6.out.alloc _).alloc _)).edges | with_reducible exact ((((HST6.out.alloc _).alloc _).alloc _)).edges | with_reducible exact (HST5.out).edges | with_reducible exact ((HST5.out.alloc _)).edges | with_reducible exact (((HST5.out.alloc _).alloc _)).edges | with_reducible exact ((((HST5.out.alloc _).alloc _).alloc _)).edges | with_reducible exact (HST.out.drew).edges | with_reducible exact ((HST.out.alloc _).drew).edges | with_reducible exact (((HST.out.alloc _).alloc _).drew).edges | with_reducible exact ((((HST.out.alloc _).alloc _).alloc _).drew).edges)) h17 (by first | with_reducible exact HSZZ.out | (have := HSZZ.out; simp; omega)) ?_
           go_must (
           intro v5 w5 hown5 hb5
           have HST5 : Hid (SomeSt w R M V A cap xs B A' cap' es (p2 + 1) w5) := Lib.hid (SomeSt.below (by (first | with_reducible exact HST7.out | with_reducible exact (HST7.out.alloc _) | with_reducible exact ((HST7.out.alloc _).alloc _) | with_reducible exact (((HST7.out.alloc _).alloc _).alloc _) | with_reducible exact HST6.out | with_reducible exact (HST6.out.alloc _) | with_reducible exact ((HST6.out.alloc _).alloc _) | with_reducible exact (((HST6.out.alloc _).alloc _).alloc _) | with_reducible exact HST5.out | with_reducible exact (HST5.out.alloc _) | with_reducible exact ((HST5.out.alloc _).alloc _) | with_reducible exact (((HST5.out.alloc _).alloc _).alloc _) | with_reducible exact HST.out.drew | with_reducible exact (HST.out.alloc _).drew | with_reducible exact ((HST.out.alloc _).alloc _).drew | with_reducible exact (((HST.out.alloc _).alloc _).alloc _).drew)) hb5)
           have HRES5 : Hid (ResAt w.heap.size w5) := Lib.hid (ResAt.below (by (first | with_reducible exact HRES7.out | with_reducible exact (HRES7.out.alloc _) | with_reducible exact ((HRES7.out.alloc _).alloc _) | with_reducible exact (((HRES7.out.alloc _).alloc _).alloc _) | with_reducible exact HRES6.out | with_reducible exact (HRES6.out.alloc _) | with_reducible exact ((HRES6.out.alloc _).alloc _) | with_reducible exact (((HRES6.out.alloc _).alloc _).alloc _) | with_reducible exact HRES5.out | with_reducible exact (HRES5.out.alloc _) | with_reducible exact ((HRES5.out.alloc _).alloc _) | with_reducible exact (((HRES5.out.alloc _).alloc _).alloc _) | with_reducible exact HRES.out.drew | with_reducible exact (HRES.out.alloc _).drew | with_reducible exact ((HRES.out.alloc _).alloc _).drew | with_reducible exact (((HRES.out.alloc _).alloc _).alloc _).drew)) hb5)
           have HOWN5 := Lib.hid hown5; have HB5 := Lib.hid hb5
           have HSZ5 : Hid (w.heap.size ≤ w5.heap.size) := Lib.hid HST5.out.grown.size
           clear hown5 hb5)))
    all_goals
      rename_i hHeld
      clear hHeld
      have hs6 := HS6.out; have hs7 := HS7.out
      have z6 : s6.size ≤ 2 := by simp at hs6; rcases hs6 with rfl | rfl | rfl | rfl | rfl <;> decide
      have z7 : s7.size ≤ 2 := by simp at hs7; rcases hs7 with rfl | rfl | rfl | rfl <;> decide
      have HFN : Hid (FairNet B (es ++ [(s6, s7)])) := Lib.hid ⟨HSM.out.1, by simp; omega, fun e he => by
        rcases List.mem_append.1 he with he | he
        · exact HSM.out.2.2 e he
        · simp at he; subst he; exact ⟨z6, z7⟩⟩
      clear hs6 hs7
      go_wp2_with fail
      refine bodyPost_ret (v := .agg #[.string B, .slice (some ⟨g8, 0, none⟩) (es.length + 1) c8]) (by simp [results, Try.results27, go_sem, r0, r1]) rfl ?_
      obtain ⟨p', hp', hrd'⟩ := HC8.out.rd
      have := some_close (p := p) (cap' := c8) HC8.out.res (HC8.out.edges rfl) ⟨p', by omega, hrd'⟩ HC8.out.grown hR HFN.out (.string B) (.slice (some ⟨g8, 0, none⟩) (es.length + 1) c8)
      simpa using this
  by_cases k1 : k = 1
  · subst k1
    clear hk k0
    go_wp2_with fail
    go_region_held3 (fun W => W.cell? ⟨V, 1, none⟩ = some (.slice A' es.length cap'))
      (first | exact (keep_set HVU.out _ _).trans HST6.out.net1 | with_reducible exact (HST7.out).net1 | with_reducible exact ((HST7.out.alloc _)).net1 | with_reducible exact (((HST7.out.alloc _).alloc _)).net1 | with_reducible exact ((((HST7.out.alloc _).alloc _).alloc _)).net1 | with_reducible exact (HST6.out).net1 | with_reducible exact ((HST6.out.alloc _)).net1 | with_reducible exact (((HST6.out.alloc _).alloc _)).net1 | with_reducible exact ((((HST6.out.alloc _).alloc _).alloc _)).net1 | with_reducible exact (HST5.out).net1 | with_reducible exact ((HST5.out.alloc _)).net1 | with_reducible exact (((HST5.out.alloc _).alloc _)).net1 | with_reducible exact ((((HST5.out.alloc _).alloc _).alloc _)).net1 | with_reducible exact (HST.out.drew).net1 | with_reducible exact ((HST.out.alloc _).drew).net1 | with_reducible exact (((HST.out.alloc _).alloc _).drew).net1 | with_reducible exact ((((HST.out.alloc _).alloc _).alloc _).drew).net1)
      (first
        | (go_at_call 56
           refine (of_some [⟨#[]⟩, ⟨#[65]⟩, ⟨#[65, 65]⟩, ⟨#[65, 66, 67, 68, 69, 70, 71, 72, 73]⟩, ⟨#[66, 65]⟩, ⟨#[97, 98]⟩] (w := w) (R := R) (M := M) (V := V) (A := A) (cap := cap) (xs := xs) (B := B) (A' := A') (cap' := cap') (es := es) (q := p2 + 1) ?_ ?_ (by omega) (by decide) (by decide) 6 rfl).mono ?_
           · (first | with_reducible exact HST7.out | with_reducible exact (HST7.out.alloc _) | with_reducible exact ((HST7.out.alloc _).alloc _) | with_reducible exact (((HST7.out.alloc _).alloc _).alloc _) | with_reducible exact HST6.out | with_reducible exact (HST6.out.alloc _) | with_reducible exact ((HST6.out.alloc _).alloc _) | with_reducible exact (((HST6.out.alloc _).alloc _).alloc _) | with_reducible exact HST5.out | with_reducible exact (HST5.out.alloc _) | with_reducible exact ((HST5.out.alloc _).alloc _) | with_reducible exact (((HST5.out.alloc _).alloc _).alloc _) | with_reducible exact HST.out.drew | with_reducible exact (HST.out.alloc _).drew | with_reducible exact ((HST.out.alloc _).alloc _).drew | with_reducible exact (((HST.out.alloc _).alloc _).alloc _).drew)
           · ((try with_reducible refine StrsAt.drew ?_); (repeat (first | with_reducible exact HM3.out _ _ (by first | rfl | simp) (by first | with_reducible exact HSZ7.out | with_reducible exact HSZ6.out | with_reducible exact HSZ5.out | with_reducible exact HSZ.out | (have := HSZ7.out; simp; omega) | (have := HSZ6.out; simp; omega) | (have := HSZ5.out; simp; omega) | (have := HSZ.out; simp; omega)) | with_reducible refine StrsAt.below ?_ HB5.out | with_reducible refine StrsAt.of ?_ HG6.out hR | with_reducible refine StrsAt.alloc ?_ _ | with_reducible refine StrsAt.drew ?_)))
           go_must (
           rintro e w6 ⟨⟨s6, hs6, rfl⟩, hst6, hg6⟩
           have hres6 : ResAt w.heap.size w6 := by (first | with_reducible exact (HRES7.out).of hg6 hR | with_reducible exact ((HRES7.out.alloc _)).of hg6 hR | with_reducible exact (((HRES7.out.alloc _).alloc _)).of hg6 hR | with_reducible exact ((((HRES7.out.alloc _).alloc _).alloc _)).of hg6 hR | with_reducible exact (HRES6.out).of hg6 hR | with_reducible exact ((HRES6.out.alloc _)).of hg6 hR | with_reducible exact (((HRES6.out.alloc _).alloc _)).of hg6 hR | with_reducible exact ((((HRES6.out.alloc _).alloc _).alloc _)).of hg6 hR | with_reducible exact (HRES5.out).of hg6 hR | with_reducible exact ((HRES5.out.alloc _)).of hg6 hR | with_reducible exact (((HRES5.out.alloc _).alloc _)).of hg6 hR | with_reducible exact ((((HRES5.out.alloc _).alloc _).alloc _)).of hg6 hR | with_reducible exact (HRES.out.drew).of hg6 hR | with_reducible exact ((HRES.out.alloc _).drew).of hg6 hR | with_reducible exact (((HRES.out.alloc _).alloc _).drew).of hg6 hR | with_reducible exact ((((HRES.out.alloc _).alloc _).alloc _).drew).of hg6 hR)
           obtain ⟨f, hrf, hf1⟩ := hres6.row
           have r0 := hrf.cell (i := 0) (by omega); have r1 := hrf.cell (i := 1) (by omega)
           have rf0 := hrf.frozen 0; have rf1 := hrf.frozen 1
           have HRES6 := Lib.hid hres6
           have HST6 := Lib.hid hst6; have HS6 := Lib.hid hs6
           clear hst6 hg6 hs6 hres6)))
    rename_i hHeld
    clear hHeld
    have hs6 := HS6.out
    have z6 : s6.size ≤ 16 := by simp at hs6; rcases hs6 with rfl | rfl | rfl | rfl | rfl | rfl <;> decide
    have HFN : Hid (FairNet s6 es) := Lib.hid ⟨z6, HSM.out.fair.2⟩
    clear hs6
    go_wp2_with fail
    refine bodyPost_ret (v := .agg #[.string s6, .slice A' es.length cap']) (by simp [results, Try.results27, go_sem, r0, r1]) rfl ?_
    obtain ⟨p', hp', hrd'⟩ := HST6.out.rd
    exact some_close HRES6.out HST6.out.edges ⟨p', by omega, hrd'⟩ HST6.out.grown hR HFN.out _ _
  have e0 : ((k : Int) == 0) = false := by rw [beq_eq_false_iff_ne]; omega
  have e1 : ((k : Int) == 1) = false := by rw [beq_eq_false_iff_ne]; omega
  obtain ⟨f, hrf, hf1⟩ := HRES.out.row
  have r0 := hrf.cell (i := 0) (by omega); have r1 := hrf.cell (i := 1) (by omega)
  have rf0 := hrf.frozen 0; have rf1 := hrf.frozen 1
  clear hk k0 k1
  go_wp2_with fail
  refine bodyPost_ret (v := .agg #[.string B, .slice A' es.length cap']) (by simp [results, Try.results27, go_sem, r0, r1]) rfl ?_
  obtain ⟨p', hp', hrd'⟩ := HST.out.rd
  exact some_close HRES.out HST.out.edges ⟨p', by omega, hrd'⟩ HST.out.grown hR HSM.out.fair _ _

end Go.Proofs.Ytkclbjgnaichhaa
