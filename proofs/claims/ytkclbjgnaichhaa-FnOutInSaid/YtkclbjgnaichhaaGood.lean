/- The reader of drawn bytes: a net drawn, of bounded sizes. -/
import Derived.Test.YtkclbjgnaichhaaGoodD
namespace Go.Proofs.Ytkclbjgnaichhaa
open Go.RowKit

/-- what is handed back: some net of bounded sizes; the reader goes on -/
def GoodPost (R M : Nat) (A : Option Addr) (cap : Nat) (xs : List UInt8) (p : Nat) (w : World) (e : Ending) (w' : World) : Prop :=
  (∃ B A' cap' es, e = .returned (.agg #[.string B, .slice A' es.length cap']) ∧ SmallNet B es ∧ EdgesIn w' w'.heap.size A' es) ∧ (∃ p', p' ≤ p + 100 ∧ Rd w' R M A cap xs p') ∧ w.grownBy w' (some R)
theorem grown_low {w w1 w2 : World} {R : Nat} (h : w.grownBy w1 (some R)) (k : Below w.heap.size w1 w2) : w.grownBy w2 (some R) :=
  ⟨k.os.trans h.os, k.tape.trans h.tape, k.output.trans h.output, Nat.le_trans h.size k.size, fun b hb hne => (k.block b hb).trans (h.block b hb hne)⟩

theorem grown_trans {w w1 w2 : World} {R : Nat} (h : w.grownBy w1 (some R)) (k : w1.grownBy w2 (some R)) : w.grownBy w2 (some R) :=
  ⟨k.os.trans h.os, k.tape.trans h.tape, k.output.trans h.output, Nat.le_trans h.size k.size, fun b hb hne => (k.block b (Nat.lt_of_lt_of_le hb h.size) hne).trans (h.block b hb hne)⟩
theorem ints_cells (w : World) (ts : List Nat) (i : Nat) (h : i < ts.length) : (w.alloc (.cells (ts.map (fun x : Nat => Value.int .i64 (x : Int))).toArray 3)).cell? ⟨w.heap.size, i, none⟩ = some (.int .i64 ((ts[i] : Nat) : Int)) := by
  have hr := World.rowIs_alloc w (ts.map (fun x : Nat => Value.int .i64 (x : Int))).toArray 3 (fun i => (ts.map (fun x : Nat => Value.int .i64 (x : Int))).getD i (.bool true)) (fun i hi => by
    have hi' : i < ts.length := by simpa using hi
    simp [hi'])
  rw [hr.cell (i := i) (by simpa using h)]
  simp [h]

set_option maxRecDepth 100000 in
set_option maxHeartbeats 8000000 in
/-- spec.l1Good, with ways back -/
theorem good_any (R M : Nat) (A : Option Addr) (cap : Nat) (xs : List UInt8) (p : Nat) (w : World) (hr : Rd w R M A cap xs p) (hp : p ≤ 1000) (hR : R < w.heap.size) :
    Calls Try.prog 54 #[.pointer (some ⟨R, 0, none⟩), .bool true] w (GoodPost R M A cap xs p w) := by
  obtain ⟨W1, hW1⟩ : ∃ W1, w.alloc (.cells #[.string ⟨#[]⟩, .slice none 0 0] 25) = W1 := ⟨_, rfl⟩
  have hr1 : W1.rowIs w.heap.size 25 2 (fun i => if i = 0 then .string ⟨#[]⟩ else .slice none 0 0) := by
    rw [← hW1]
    refine World.rowIs_alloc w #[.string ⟨#[]⟩, .slice none 0 0] 25 (fun i => if i = 0 then .string ⟨#[]⟩ else .slice none 0 0) (fun i hi => by
      match i, hi with
      | 0, _ => rfl
      | 1, _ => rfl)
  have hb1 : Below w.heap.size w W1 := by rw [← hW1]; exact (Below.refl _ _).alloc (Nat.le_refl _) _
  have hz1 : W1.heap.size = w.heap.size + 1 := by rw [← hW1]; simp
  have hrd1 : Rd W1 R M A cap xs p := hr.below hb1 hR
  have HR1 := Lib.hid hr1; have HRD1 := Lib.hid hrd1
  have HGR1 : Hid (∀ w2, W1.grownBy w2 (some R) → w.grownBy w2 (some R)) := Lib.hid fun w2 h => by rw [← hW1] at h; exact grown_alloc h
  clear hr hr1 hrd1 hb1
  go_enter Try.func54, Try.ntmps54
  go_wp2_with fail
  refine (pick_any R M A cap xs p 3 W1 HRD1.out (by omega) (by omega)).mono ?_
  rintro e w2 ⟨⟨k, hk, rfl⟩, hrd2, hg2⟩
  have HRD2 := Lib.hid hrd2; have HG2 := Lib.hid (HGR1.out _ hg2)
  have HR2 := Lib.hid (HR1.out.of_block (hg2.block w.heap.size (by omega) (by intro e; injection e with e; omega)))
  have hz2 : w.heap.size + 1 ≤ w2.heap.size := by have := hg2.size; omega
  clear hrd2 hg2 hW1
  by_cases hk0 : k = 0
  · subst hk0
    clear hk
    go_wp2_with fail
    refine (pick_any R M A cap xs (p + 1) 11 w2 HRD2.out (by omega) (by omega)).mono ?_
    rintro e w3 ⟨⟨j, hj, rfl⟩, hrd3, hg3⟩
    have HRD3 := Lib.hid hrd3
    have HG3 : Hid (w.grownBy w3 (some R)) := Lib.hid ⟨hg3.os.trans HG2.out.os, hg3.tape.trans HG2.out.tape, hg3.output.trans HG2.out.output, Nat.le_trans HG2.out.size hg3.size, fun b hb hne => (hg3.block b (Nat.lt_of_lt_of_le hb HG2.out.size) hne).trans (HG2.out.block b hb hne)⟩
    have HR3 := Lib.hid (HR2.out.of_block (hg3.block w.heap.size (by omega) (by intro e; injection e with e; omega)))
    have hz3 : w.heap.size + 1 ≤ w3.heap.size := by have := hg3.size; omega
    have hj11 : j ≤ 1000 := by omega
    clear hrd3 hg3 hj
    go_wp2_with fail
    refine (known_any j w3 hj11).mono ?_
    rintro e w4 ⟨B, A4, cap4, es, rfl, hsm, hE4, hb4⟩
    have hba : Below w4.heap.size w4 (w4.alloc (.cells #[.string B, .slice A4 es.length cap4] 25)) := (Below.refl _ _).alloc (Nat.le_refl _) _
    have tn := Two.made w4 B A4 es.length cap4 25
    have hz4 := hb4.size
    have hr4 := (HR3.out.of_block (hb4.block w.heap.size (by omega))).of_block (hba.block w.heap.size (by omega))
    have HR4 := Lib.hid hr4
    have r0 := hr4.cell (i := 0) (by omega); have r1 := hr4.cell (i := 1) (by omega)
    have rf0 := hr4.frozen 0; have rf1 := hr4.frozen 1
    have hd0 := tn.1; have hd1 := tn.2
    have HE4 := Lib.hid ((hE4.below hba).more hba.size)
    have HRD4 := Lib.hid ((HRD3.out.below hb4 (by omega)).below hba (by omega))
    have HG4 := Lib.hid (grown_below (grown_below HG3.out hb4) hba)
    have HSM := Lib.hid hsm
    clear hba tn hr4 hE4 hb4 hsm
    go_wp2_with fail
    generalize hW5 : w4.alloc (.cells #[.string B, .slice A4 es.length cap4] 25) = w5 at HR4 r0 r1 rf0 rf1 hd0 hd1 HE4 HRD4 HG4 ⊢
    clear hW5
    have hg6 : w5.grownBy ((w5.setCell ⟨w.heap.size, 0, none⟩ (.string B)).setCell ⟨w.heap.size, 1, none⟩ (.slice A4 es.length cap4)) (some w.heap.size) :=
      only_setCell_at (only_setCell_at (World.grownBy.refl w5 _))
    have hb6 : Below w.heap.size w5 ((w5.setCell ⟨w.heap.size, 0, none⟩ (.string B)).setCell ⟨w.heap.size, 1, none⟩ (.slice A4 es.length cap4)) := ((Below.refl _ _).setCell (by simp only; omega) _).setCell (by simp only; omega) _
    refine bodyPost_ret (v := .agg #[.string B, .slice A4 es.length cap4]) (by simp [results, Try.results54, go_sem, r0, r1]) rfl ?_
    exact ⟨⟨B, A4, cap4, es, rfl, HSM.out, edges_set HE4.out HR4.out (fun s h => by cases h) hg6⟩, ⟨p + 2, by omega, HRD4.out.below hb6 hR⟩, grown_low HG4.out hb6⟩
  have hki : ((k : Int) == 0) = false := by rw [beq_eq_false_iff_ne]; omega
  clear hk hk0
  obtain ⟨W3, hW3⟩ : ∃ W3, w2.alloc (.cells #[.int .i64 4, .int .i64 5, .int .i64 3, .int .i64 6, .int .i64 2, .int .i64 7, .int .i64 8] 3) = W3 := ⟨_, rfl⟩
  have hb3 : Below w2.heap.size w2 W3 := by rw [← hW3]; exact (Below.refl _ _).alloc (Nat.le_refl _) _
  have hz3 : W3.heap.size = w2.heap.size + 1 := by rw [← hW3]; simp
  have hc3 : ∀ i, (h : i < [4, 5, 3, 6, 2, 7, 8].length) → W3.cell? ⟨w2.heap.size, i, none⟩ = some (.int .i64 (([4, 5, 3, 6, 2, 7, 8][i] : Nat) : Int)) := fun i h => by
    rw [← hW3]; exact ints_cells w2 [4, 5, 3, 6, 2, 7, 8] i h
  have HRD3 := Lib.hid (HRD2.out.below hb3 (by omega))
  have HG3 := Lib.hid (grown_below HG2.out hb3)
  have HR3 := Lib.hid (HR2.out.of_block (hb3.block w.heap.size (by omega)))
  have hnum := num_any R M A cap xs (p + 1) w2.heap.size 7 [4, 5, 3, 6, 2, 7, 8] W3 HRD3.out (by omega) (by decide) (by decide) (by omega) (by omega) hc3
  have HNUM : Hid (Calls Try.prog 68 #[.pointer (some ⟨R, 0, none⟩), .slice (some ⟨w2.heap.size, 0, none⟩) 7 7] W3
      fun e w' => DrawnI [4, 5, 3, 6, 2, 7, 8] e ∧ Rd w' R M A cap xs (p + 2) ∧ W3.grownBy w' (some R)) := Lib.hid hnum
  clear hnum hc3 hb3
  go_wp2_with fail
  refine HNUM.out.mono ?_
  rintro e w4 ⟨⟨sz, hsz, rfl⟩, hrd4, hg4⟩
  have hsz2 : 2 ≤ sz ∧ sz ≤ 8 := by simp at hsz; omega
  have HRD4 := Lib.hid hrd4
  have HG4 := Lib.hid (grown_trans HG3.out hg4)
  have HR4 := Lib.hid (HR3.out.of_block (hg4.block w.heap.size (by omega) (by intro e; injection e with e; omega)))
  have hz4 : w.heap.size + 2 ≤ w4.heap.size := by have := hg4.size; omega
  clear hrd4 hg4 hsz hW3 HNUM
  have hszi : (sz : Int) ≤ 8 := by omega
  have hsz8 : sz ≤ 8 := hsz2.2
  obtain ⟨B, hB⟩ : ∃ B, (⟨#[65, 66, 67, 68, 69, 70, 71, 72]⟩ : ByteArray).extract 0 sz = B := ⟨_, rfl⟩
  have HBZ : Hid (B.size = sz) := Lib.hid (by rw [← hB]; simp; show min sz 8 = sz; omega)
  obtain ⟨V, hV⟩ : ∃ V, w4.heap.size = V := ⟨_, rfl⟩
  obtain ⟨W5, hW5⟩ : ∃ W5, ((w4.alloc (.cells #[] 46)).alloc (.cells #[.string B, .slice (some ⟨w4.heap.size, 0, none⟩) 0 0] 25)).alloc (.cells #[.string B, .slice (some ⟨w4.heap.size, 0, none⟩) 0 0] 83) = W5 := ⟨_, rfl⟩
  have hb5 : Below w4.heap.size w4 W5 := by rw [← hW5]; exact (((Below.refl _ _).alloc (Nat.le_refl _) _).alloc (by simp) _).alloc (by simp; omega) _
  have hz5 : W5.heap.size = V + 3 := by rw [← hW5, ← hV]; simp
  have HAD5 : Hid (Adder W5 (V + 2) V B []) := Lib.hid (by
    refine ⟨V, 0, ?_, rfl, .inr ⟨V, 0, #[], rfl, Nat.le_refl _, ?_, by simp, by simp, by simp, by simp [cellsD]⟩⟩
    · have h := World.rowIs_alloc ((w4.alloc (.cells #[] 46)).alloc (.cells #[.string B, .slice (some ⟨w4.heap.size, 0, none⟩) 0 0] 25)) #[.string B, .slice (some ⟨w4.heap.size, 0, none⟩) 0 0] 83 (fun i => if i = 0 then .string B else .slice (some ⟨V, 0, none⟩) 0 0) (fun i hi => by
        match i, hi with
        | 0, _ => rfl
        | 1, _ => rw [← hV]; rfl)
      rw [World.size_alloc, World.size_alloc, hW5, hV] at h
      exact h
    · rw [← hW5]
      exact alloc_old _ _ (alloc_old _ _ (alloc_at _ _ hV)))
  have HRD5 := Lib.hid (HRD4.out.below hb5 (by omega))
  have HG5 := Lib.hid (grown_below HG4.out hb5)
  have HR5 := Lib.hid (HR4.out.of_block (hb5.block w.heap.size (by omega)))
  rw [hV] at hW5
  go_wp2_with fail
  clear hb5
  try rw [hW5]
  clear hW5
  rw [hV] at hz4
  go_loopw [10] (fun a wr => ∃ (i p' : Nat) (es : List (ByteArray × ByteArray)), a = .int .i64 (i : Int) ∧ 1 ≤ i ∧ i ≤ sz ∧ p' ≤ p + 2 + 2 * i ∧ Rd wr R M A cap xs p' ∧ FewOnes es ∧ Adder wr (V + 2) V B es ∧ w.grownBy wr (some R) ∧ V + 3 ≤ wr.heap.size ∧
    wr.rowIs w.heap.size 25 2 (fun i => if i = 0 then .string ⟨#[]⟩ else .slice none 0 0)) (fun a _ => sz - (intOf a).toNat)
  case atStart => exact ⟨1, p + 2, [], rfl, by omega, by omega, by omega, HRD5.out, ⟨by simp, fun e he => by simp at he⟩, HAD5.out, HG5.out, by omega, HR5.out⟩
  case round =>
    clear HAD5 HRD5 HG5 HR5
    obtain ⟨i, p1, es, rfl, hi1, hi2, hp1, hrd, hfo, had, hgr, hzr, hro⟩ := hrel
    have HRD := Lib.hid hrd; have HFO := Lib.hid hfo; have HAD := Lib.hid had; have HGR := Lib.hid hgr; have HRO := Lib.hid hro
    clear hrd hfo had hgr hro
    by_cases hlt : i < sz
    case neg =>
      have hii : ¬ ((i : Int) < (sz : Int)) := by omega
      clear hlt
      obtain ⟨W10, hW10⟩ : ∃ W10, wr.alloc (.cells #[.int .i64 2, .int .i64 1, .int .i64 3, .int .i64 0, .int .i64 4] 3) = W10 := ⟨_, rfl⟩
      have hb10 : Below wr.heap.size wr W10 := by rw [← hW10]; exact (Below.refl _ _).alloc (Nat.le_refl _) _
      have hz10 : W10.heap.size = wr.heap.size + 1 := by rw [← hW10]; simp
      have hc10 : ∀ i, (h : i < [2, 1, 3, 0, 4].length) → W10.cell? ⟨wr.heap.size, i, none⟩ = some (.int .i64 (([2, 1, 3, 0, 4][i] : Nat) : Int)) := fun i h => by
        rw [← hW10]; exact ints_cells wr [2, 1, 3, 0, 4] i h
      have HRD10 := Lib.hid (HRD.out.below hb10 (by omega))
      have HGR10 := Lib.hid (grown_below HGR.out hb10)
      have HRO10 := Lib.hid (HRO.out.of_block (hb10.block w.heap.size (by omega)))
      have HAD10 := Lib.hid (HAD.out.below (B0 := 0) hb10 (by omega))
      have hnum := num_any R M A cap xs p1 wr.heap.size 5 [2, 1, 3, 0, 4] W10 HRD10.out (by omega) (by decide) (by decide) (by omega) (by omega) hc10
      have HNUM : Hid (Calls Try.prog 68 #[.pointer (some ⟨R, 0, none⟩), .slice (some ⟨wr.heap.size, 0, none⟩) 5 5] W10
          fun e w' => DrawnI [2, 1, 3, 0, 4] e ∧ Rd w' R M A cap xs (p1 + 1) ∧ W10.grownBy w' (some R)) := Lib.hid hnum
      clear hnum hc10 hb10
      go_wp2_with fail
      refine HNUM.out.mono ?_
      rintro e w11 ⟨⟨mm, hmm, rfl⟩, hrd11, hg11⟩
      have hm4 : mm ≤ 4 := by simp at hmm; omega
      have HRD11 := Lib.hid hrd11
      have HGR11 := Lib.hid (grown_trans HGR10.out hg11)
      have HRO11 := Lib.hid (HRO10.out.of_block (hg11.block w.heap.size (by omega) (by intro e; injection e with e; omega)))
      have HAD11 := Lib.hid (HAD10.out.grown hg11 (by omega) (by omega) (by omega))
      have hz11 : V + 3 ≤ w11.heap.size := by have := hg11.size; omega
      obtain ⟨s1, hs1⟩ : ∃ s1, sz = s1 + 1 := ⟨sz - 1, by omega⟩
      have z2 : IntKind.i64.wrap ((sz : Int) - 1) = (s1 : Int) := by rw [IntWalk.i64_in _ (by omega)]; omega
      have HS1 : Hid (sz = s1 + 1 ∧ 1 ≤ s1) := Lib.hid (by omega)
      have HP1 : Hid (p1 ≤ p + 18) := Lib.hid (by omega)
      clear hrd11 hg11 hmm hW10 HNUM hs1 hp1
      go_wp2_with fail
      go_loopw [65] (fun a wr => ∃ (j p2 : Nat) (es : List (ByteArray × ByteArray)), a = .int .i64 (j : Int) ∧ j ≤ mm ∧ p2 ≤ p + 20 + 3 * j ∧ Rd wr R M A cap xs p2 ∧ FewOnes es ∧ Adder wr (V + 2) V B es ∧ w.grownBy wr (some R) ∧ V + 3 ≤ wr.heap.size ∧
        wr.rowIs w.heap.size 25 2 (fun i => if i = 0 then .string ⟨#[]⟩ else .slice none 0 0)) (fun a _ => mm - (intOf a).toNat)
      case atStart => exact ⟨0, p1 + 1, es, rfl, by omega, by have := HP1.out; omega, HRD11.out, HFO.out, HAD11.out, HGR11.out, hz11, HRO11.out⟩
      case round =>
        clear HRD11 HAD11 HGR11 HRO11 HRD HFO HAD HGR HRO HRD10 HAD10 HGR10 HRO10
        obtain ⟨j, p2, es2, rfl, hj, hp2, hrd, hfo, had, hgr, hzr2, hro⟩ := hrel
        have HRD := Lib.hid hrd; have HFO := Lib.hid hfo; have HAD := Lib.hid had; have HGR := Lib.hid hgr; have HRO := Lib.hid hro
        clear hrd hfo had hgr hro
        by_cases hlt : j < mm
        case neg =>
          have hii2 : ¬ ((j : Int) < (mm : Int)) := by omega
          clear hlt
          obtain ⟨g, c, hrowF, hEF⟩ := HAD.out.edges
          have c0 := hrowF.cell (i := 0) (by omega); have c1 := hrowF.cell (i := 1) (by omega)
          simp only [if_true] at c0
          have e10 : (1 : Nat) = 0 ↔ False := by simp
          simp only [e10, if_false] at c1
          have HROWF := Lib.hid hrowF; have HEF := Lib.hid hEF
          have h8 : B.size ≤ maxLen := by have := HBZ.out; unfold maxLen; omega
          have h16 : es2.length ≤ maxLen := by have := HFO.out.1; unfold maxLen; omega
          clear e10 hrowF hEF
          go_wp2_with fail
          refine (specValid_any B (some ⟨g, 0, none⟩) c es2 wr h8 HEF.out h16).mono ?_
          rintro e w12 ⟨rfl, hb12⟩
          have HRD12 := Lib.hid (HRD.out.below hb12 (by omega))
          have HGR12 := Lib.hid (grown_below HGR.out hb12)
          have hro12 := HRO.out.of_block (hb12.block w.heap.size (by omega))
          have HRO12 := Lib.hid hro12
          have hz12 : V + 3 ≤ w12.heap.size := by have := hb12.size; omega
          have hrF12 := HROWF.out.of_block (hb12.block (V + 2) (by omega))
          have u0 := hrF12.cell (i := 0) (by omega); have u1 := hrF12.cell (i := 1) (by omega)
          simp only [if_true] at u0
          have e10 : (1 : Nat) = 0 ↔ False := by simp
          simp only [e10, if_false] at u1
          have HE12 := Lib.hid ((HEF.out.below hb12).more hb12.size)
          have r0 := hro12.cell (i := 0) (by omega); have r1 := hro12.cell (i := 1) (by omega)
          have rf0 := hro12.frozen 0; have rf1 := hro12.frozen 1
          clear e10 hro12 hrF12 hb12 c0 c1
          by_cases hv : Valid B.data.toList (ebs es2)
          · rw [decB_t hv]
            clear hv
            go_wp2_with fail
            have hg6 : w12.grownBy ((w12.setCell ⟨w.heap.size, 0, none⟩ (.string B)).setCell ⟨w.heap.size, 1, none⟩ (.slice (some ⟨g, 0, none⟩) es2.length c)) (some w.heap.size) :=
              only_setCell_at (only_setCell_at (World.grownBy.refl w12 _))
            have hb6 : Below w.heap.size w12 ((w12.setCell ⟨w.heap.size, 0, none⟩ (.string B)).setCell ⟨w.heap.size, 1, none⟩ (.slice (some ⟨g, 0, none⟩) es2.length c)) := ((Below.refl _ _).setCell (by simp only; omega) _).setCell (by simp only; omega) _
            refine bodyPost_ret (v := .agg #[.string B, .slice (some ⟨g, 0, none⟩) es2.length c]) (by simp [results, Try.results54, go_sem, r0, r1]) rfl ?_
            exact ⟨⟨B, _, c, es2, rfl, ⟨by have := HBZ.out; omega, by have := HFO.out.1; omega, fun e he => by have := HFO.out.2 e he; omega⟩, edges_set HE12.out HRO12.out (fun s h => by cases h) hg6⟩, ⟨p2, by omega, HRD12.out.below hb6 hR⟩, grown_low HGR12.out hb6⟩
          · rw [decB_f hv]
            clear hv
            go_wp2_with fail
            refine (known_any 0 w12 (by omega)).mono ?_
            rintro e w13 ⟨B4, A4, cap4, es4, rfl, hsm, hE4, hb4⟩
            have hr4 := HRO12.out.of_block (hb4.block w.heap.size (by omega))
            have HR4' := Lib.hid hr4
            have HRD13 := Lib.hid (HRD12.out.below hb4 (by omega))
            have HG13 := Lib.hid (grown_below HGR12.out hb4)
            have HSM := Lib.hid hsm; have HE4 := Lib.hid hE4
            have hz13 := hb4.size
            clear r0 r1 rf0 rf1 hsm hE4 hb4
            have r0 := hr4.cell (i := 0) (by omega); have r1 := hr4.cell (i := 1) (by omega)
            have rf0 := hr4.frozen 0; have rf1 := hr4.frozen 1
            clear hr4
            go_wp2_with fail
            have hg6 : w13.grownBy ((w13.setCell ⟨w.heap.size, 0, none⟩ (.string B4)).setCell ⟨w.heap.size, 1, none⟩ (.slice A4 es4.length cap4)) (some w.heap.size) :=
              only_setCell_at (only_setCell_at (World.grownBy.refl w13 _))
            have hb6 : Below w.heap.size w13 ((w13.setCell ⟨w.heap.size, 0, none⟩ (.string B4)).setCell ⟨w.heap.size, 1, none⟩ (.slice A4 es4.length cap4)) := ((Below.refl _ _).setCell (by simp only; omega) _).setCell (by simp only; omega) _
            refine bodyPost_ret (v := .agg #[.string B4, .slice A4 es4.length cap4]) (by simp [results, Try.results54, go_sem, r0, r1]) rfl ?_
            exact ⟨⟨B4, A4, cap4, es4, rfl, HSM.out, edges_set HE4.out HR4'.out (fun s h => by cases h) hg6⟩, ⟨p2, by omega, HRD13.out.below hb6 hR⟩, grown_low HG13.out hb6⟩
        have hii2 : (j : Int) < (mm : Int) := by omega
        have HJ := Lib.hid hlt
        have z9 : IntKind.i64.wrap ((j : Int) + 1) = (j : Int) + 1 := IntWalk.i64_in _ (by omega)
        clear hlt
        go_wp2_with fail
        refine (pick_any R M A cap xs p2 s1 wr HRD.out (by omega) (by have := HS1.out; omega)).mono ?_
        rintro e w12 ⟨⟨i2, hi2', rfl⟩, hrd12, hg12⟩
        have HI2 : Hid (i2 < s1 ∧ i2 < B.size) := Lib.hid (by have := HS1.out; have := HBZ.out; omega)
        have HRD12 := Lib.hid hrd12
        have HAD12 := Lib.hid (HAD.out.grown hg12 (by omega) (by omega) (by omega))
        have HGR12 := Lib.hid (grown_trans HGR.out hg12)
        have HRO12 := Lib.hid (HRO.out.of_block (hg12.block w.heap.size (by omega) (by intro e; injection e with e; omega)))
        have hz12 : V + 3 ≤ w12.heap.size := by have := hg12.size; omega
        clear hrd12 hg12 hi2'
        go_wp2_with fail
        refine (pick_any R M A cap xs (p2 + 1) 3 w12 HRD12.out (by omega) (by omega)).mono ?_
        rintro e w13 ⟨⟨k3, hk3, rfl⟩, hrd13, hg13⟩
        have HRD13 := Lib.hid hrd13
        have HAD13 := Lib.hid (HAD12.out.grown hg13 (by omega) (by omega) (by omega))
        have HGR13 := Lib.hid (grown_trans HGR12.out hg13)
        have HRO13 := Lib.hid (HRO12.out.of_block (hg13.block w.heap.size (by omega) (by intro e; injection e with e; omega)))
        have hz13 : V + 3 ≤ w13.heap.size := by have := hg13.size; omega
        clear hrd13 hg13
        by_cases hk30 : k3 = 0
        · subst hk30
          clear hk3
          go_wp2_with fail
          refine (pick_any R M A cap xs (p2 + 2) s1 w13 HRD13.out (by omega) (by have := HS1.out; omega)).mono ?_
          rintro e w14 ⟨⟨k4, hk4, rfl⟩, hrd14, hg14⟩
          obtain ⟨t4, ht4⟩ : ∃ t4, 1 + k4 = t4 := ⟨_, rfl⟩
          have y4 : IntKind.i64.wrap (1 + (k4 : Int)) = (t4 : Int) := by rw [IntWalk.i64_in _ (by have := HS1.out; omega)]; omega
          have HT4 : Hid (t4 < B.size) := Lib.hid (by have := HS1.out; have := HBZ.out; omega)
          have HRD14 := Lib.hid hrd14
          have HAD14 := Lib.hid (HAD13.out.grown hg14 (by omega) (by omega) (by omega))
          have HGR14 := Lib.hid (grown_trans HGR13.out hg14)
          have HRO14 := Lib.hid (HRO13.out.of_block (hg14.block w.heap.size (by omega) (by intro e; injection e with e; omega)))
          have hz14 : V + 3 ≤ w14.heap.size := by have := hg14.size; omega
          clear hrd14 hg14 hk4 ht4
          go_wp2_with fail
          refine (put_any (V + 2) V B es2 i2 t4 w14 HAD14.out HFO.out (by omega) (by omega) HI2.out.2 HT4.out (by have := HBZ.out; omega)).mono ?_
          rintro e w15 ⟨rfl, ⟨es9, hfo9, had9⟩, hb9⟩
          have HRD9 := Lib.hid (HRD14.out.below hb9 (by omega)); have HFO9 := Lib.hid hfo9; have HAD9 := Lib.hid had9
          have HGR9 := Lib.hid (grown_low HGR14.out (hb9.mono (by omega)))
          have HRO9 := Lib.hid (HRO14.out.of_block (hb9.block w.heap.size (by omega)))
          have hz9 : V + 3 ≤ w15.heap.size := by have := hb9.size; omega
          clear hfo9 had9 hb9
          go_wp2_with fail
          go_roundw
          case rel => exact ⟨j + 1, p2 + 3, es9, by go_num, by have := HJ.out; omega, by omega, HRD9.out, HFO9.out, HAD9.out, HGR9.out, hz9, HRO9.out⟩
          case measure => simp [intOf]; have := HJ.out; omega
        · have hk3i : ((k3 : Int) == 0) = false := by rw [beq_eq_false_iff_ne]; omega
          obtain ⟨n5, hn5⟩ : ∃ n5, s1 = n5 + i2 := ⟨s1 - i2, by have := HI2.out; omega⟩
          have y5 : IntKind.i64.wrap ((s1 : Int) - (i2 : Int)) = (n5 : Int) := by rw [IntWalk.i64_in _ (by have := HS1.out; omega)]; omega
          have y6 : IntKind.i64.wrap ((i2 : Int) + 1) = (i2 : Int) + 1 := IntWalk.i64_in _ (by have := HI2.out; have := HS1.out; omega)
          have HN5 : Hid (1 ≤ n5 ∧ s1 = n5 + i2) := Lib.hid (by have := HI2.out; omega)
          have hn5b : n5 ≤ 100000 := by have := HS1.out; omega
          clear hk3 hk30 hn5
          go_wp2_with fail
          refine (pick_any R M A cap xs (p2 + 2) n5 w13 HRD13.out (by omega) hn5b).mono ?_
          rintro e w14 ⟨⟨k4, hk4, rfl⟩, hrd14, hg14⟩
          obtain ⟨t4, ht4⟩ : ∃ t4, i2 + 1 + k4 = t4 := ⟨_, rfl⟩
          have y4 : IntKind.i64.wrap ((i2 : Int) + 1 + (k4 : Int)) = (t4 : Int) := by rw [IntWalk.i64_in _ (by have := HS1.out; have := HN5.out; omega)]; omega
          have HT4 : Hid (t4 < B.size) := Lib.hid (by have := HS1.out; have := HBZ.out; have := HN5.out; omega)
          have HRD14 := Lib.hid hrd14
          have HAD14 := Lib.hid (HAD13.out.grown hg14 (by omega) (by omega) (by omega))
          have HGR14 := Lib.hid (grown_trans HGR13.out hg14)
          have HRO14 := Lib.hid (HRO13.out.of_block (hg14.block w.heap.size (by omega) (by intro e; injection e with e; omega)))
          have hz14 : V + 3 ≤ w14.heap.size := by have := hg14.size; omega
          clear hrd14 hg14 hk4 ht4
          go_wp2_with fail
          refine (put_any (V + 2) V B es2 i2 t4 w14 HAD14.out HFO.out (by omega) (by omega) HI2.out.2 HT4.out (by have := HBZ.out; omega)).mono ?_
          rintro e w15 ⟨rfl, ⟨es9, hfo9, had9⟩, hb9⟩
          have HRD9 := Lib.hid (HRD14.out.below hb9 (by omega)); have HFO9 := Lib.hid hfo9; have HAD9 := Lib.hid had9
          have HGR9 := Lib.hid (grown_low HGR14.out (hb9.mono (by omega)))
          have HRO9 := Lib.hid (HRO14.out.of_block (hb9.block w.heap.size (by omega)))
          have hz9 : V + 3 ≤ w15.heap.size := by have := hb9.size; omega
          clear hfo9 had9 hb9
          go_wp2_with fail
          go_roundw
          case rel => exact ⟨j + 1, p2 + 3, es9, by go_num, by have := HJ.out; omega, by omega, HRD9.out, HFO9.out, HAD9.out, HGR9.out, hz9, HRO9.out⟩
          case measure => simp [intOf]; have := HJ.out; omega
    have hii : (i : Int) < (sz : Int) := by omega
    go_wp2_with fail
    refine (pick_any R M A cap xs p1 i wr HRD.out (by omega) (by omega)).mono ?_
    rintro e w6 ⟨⟨k1, hk1, rfl⟩, hrd6, hg6⟩
    have hk1i : k1 < B.size ∧ i < B.size := by have := HBZ.out; omega
    have HK1 := Lib.hid hk1i
    have hz6 : V + 3 ≤ w6.heap.size := by have := hg6.size; omega
    have HRD6 := Lib.hid hrd6
    have HAD6 := Lib.hid (HAD.out.grown hg6 (by omega) (by omega) (by omega))
    have HGR6 := Lib.hid (grown_trans HGR.out hg6)
    have HRO6 := Lib.hid (HRO.out.of_block (hg6.block w.heap.size (by omega) (by intro e; injection e with e; omega)))
    clear hrd6 hg6 hk1 hk1i
    go_wp2_with fail
    refine (put_any (V + 2) V B es k1 i w6 HAD6.out HFO.out (by omega) (by omega) HK1.out.1 HK1.out.2 (by have := HBZ.out; omega)).mono ?_
    rintro e w7 ⟨rfl, ⟨es7, hfo7, had7⟩, hb7⟩
    have HRD7 := Lib.hid (HRD6.out.below hb7 (by omega)); have HFO7 := Lib.hid hfo7; have HAD7 := Lib.hid had7
    have HGR7 := Lib.hid (grown_low HGR6.out (hb7.mono (by omega)))
    have HRO7 := Lib.hid (HRO6.out.of_block (hb7.block w.heap.size (by omega)))
    have hz7 : V + 3 ≤ w7.heap.size := by have := hb7.size; omega
    have z1 : IntKind.i64.wrap ((i : Int) + 1) = (i : Int) + 1 := IntWalk.i64_in _ (by omega)
    obtain ⟨s1, hs1⟩ : ∃ s1, sz = s1 + 1 := ⟨sz - 1, by omega⟩
    have z2 : IntKind.i64.wrap ((sz : Int) - 1) = (s1 : Int) := by rw [IntWalk.i64_in _ (by omega)]; omega
    have HS1 := Lib.hid hs1
    have HI := Lib.hid hlt
    clear hfo7 had7 hb7
    by_cases h2 : i < s1
    case neg =>
      have h2i : ¬ ((i : Int) < (s1 : Int)) := by omega
      clear h2 hs1 hlt
      go_wp2_with fail
      go_roundw
      case rel => exact ⟨i + 1, p1 + 1, es7, by go_num, by omega, by have := HI.out; omega, by omega, HRD7.out, HFO7.out, HAD7.out, HGR7.out, hz7, HRO7.out⟩
      case measure => simp [intOf]; have := HI.out; omega
    have h2i : (i : Int) < (s1 : Int) := by omega
    obtain ⟨n2, hn2⟩ : ∃ n2, s1 = n2 + i := ⟨s1 - i, by omega⟩
    have z3 : IntKind.i64.wrap ((s1 : Int) - (i : Int)) = (n2 : Int) := by rw [IntWalk.i64_in _ (by omega)]; omega
    have HN2 : Hid (1 ≤ n2 ∧ s1 = n2 + i) := Lib.hid (by omega)
    have hn2b : n2 ≤ 100000 := by omega
    clear h2 hs1 hn2 hlt
    go_wp2_with fail
    refine (pick_any R M A cap xs (p1 + 1) n2 w7 HRD7.out (by omega) hn2b).mono ?_
    rintro e w8 ⟨⟨k2, hk2, rfl⟩, hrd8, hg8⟩
    obtain ⟨t2, ht2⟩ : ∃ t2, i + 1 + k2 = t2 := ⟨_, rfl⟩
    have z4 : IntKind.i64.wrap ((i : Int) + 1 + (k2 : Int)) = (t2 : Int) := by rw [IntWalk.i64_in _ (by have := HN2.out; have := HS1.out; omega)]; omega
    have HT2 : Hid (t2 < B.size ∧ i < B.size) := Lib.hid (by have := HN2.out; have := HS1.out; have := HBZ.out; omega)
    have HRD8 := Lib.hid hrd8
    have HAD8 := Lib.hid (HAD7.out.grown hg8 (by omega) (by omega) (by omega))
    have HGR8 := Lib.hid (grown_trans HGR7.out hg8)
    have HRO8 := Lib.hid (HRO7.out.of_block (hg8.block w.heap.size (by omega) (by intro e; injection e with e; omega)))
    have hz8 : V + 3 ≤ w8.heap.size := by have := hg8.size; omega
    clear hrd8 hg8 hk2 ht2
    go_wp2_with fail
    refine (put_any (V + 2) V B es7 i t2 w8 HAD8.out HFO7.out (by omega) (by omega) HT2.out.2 HT2.out.1 (by have := HBZ.out; omega)).mono ?_
    rintro e w9 ⟨rfl, ⟨es9, hfo9, had9⟩, hb9⟩
    have HRD9 := Lib.hid (HRD8.out.below hb9 (by omega)); have HFO9 := Lib.hid hfo9; have HAD9 := Lib.hid had9
    have HGR9 := Lib.hid (grown_low HGR8.out (hb9.mono (by omega)))
    have HRO9 := Lib.hid (HRO8.out.of_block (hb9.block w.heap.size (by omega)))
    have hz9 : V + 3 ≤ w9.heap.size := by have := hb9.size; omega
    clear hfo9 had9 hb9
    go_wp2_with fail
    go_roundw
    case rel => exact ⟨i + 1, p1 + 2, es9, by go_num, by omega, by have := HI.out; omega, by omega, HRD9.out, HFO9.out, HAD9.out, HGR9.out, hz9, HRO9.out⟩
    case measure => simp [intOf]; have := HI.out; omega

end Go.Proofs.Ytkclbjgnaichhaa
