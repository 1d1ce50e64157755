/- How many paths there are from each block, by the program: the whole map. -/
import Derived.Test.YtghdjmjodgbghaaCountI
import Derived.Test.YtghdjmjodgbghaaEntry
import Derived.Deep.RegionHeld3
namespace Go.Proofs.Ytghdjmjodgbghaa
open Go.RowKit

/-- what is handed back: a map that has the counts of all blocks that can be come to -/
def MapPost (E : Eds) (e0 t : UInt8) (w : World) (e : Ending) (w' : World) : Prop :=
  ∃ M f, e = .returned (.map (some M)) ∧ w.heap.size ≤ M ∧ NumsIs w' M f ∧ Below w.heap.size w w' ∧ ∀ b, Way E e0 b → f b = some ((cntE E t b : Nat) : Int)

theorem counted_all {E : Eds} {t e0 : UInt8} {f : UInt8 → Option Int} (h : Counted E t f) (h0 : f e0 ≠ none) {b : UInt8} (hw : Way E e0 b) : f b = some ((cntE E t b : Nat) : Int) := by
  have hn : f b ≠ none := by
    induction hw with
    | refl => exact h0
    | step _ he ih => exact h.closed _ ih _ he
  cases hf : f b with
  | none => exact absurd hf hn
  | some v => rw [h.agree b v hf]

set_option maxRecDepth 100000 in
set_option maxHeartbeats 4000000 in
/-- impl.countsToExit -/
theorem countsToExit_any (B : ByteArray) (A : Option Addr) (cap : Nat) (es : List (ByteArray × ByteArray)) (O : List UInt8) (e0 t : UInt8) (w : World) (hE : EdgesIn w w.heap.size A es) (hL : Lead B es O e0 t) (hBm : B.size ≤ maxLen) :
    Calls Try.prog 40 #[.agg #[.string B, .slice A es.length cap]] w (MapPost (ebs es) e0 t w) := by
  have hB1 := hL.one
  have HM := Lib.hid hBm
  have hmm := @run_makeMap Try.prog
  obtain ⟨W1, hW1⟩ : ∃ W1, W1 = (w.alloc (.cells #[.string B, .slice A es.length cap] 29)).alloc (.map #[] 0) := ⟨_, rfl⟩
  have hb1 : Below w.heap.size w W1 := by rw [hW1]; exact ((Below.refl _ _).alloc (Nat.le_refl _) _).alloc (by simp) _
  have t1 : Two W1 w.heap.size B A es.length cap := by rw [hW1]; exact ⟨by go_simp, by go_simp⟩
  have hz1 : W1.heap.size = w.heap.size + 2 := by rw [hW1]; simp
  have hn1 : NumsIs W1 (w.heap.size + 1) (fun _ => none) := by
    have := NumsIs.new (w.alloc (.cells #[.string B, .slice A es.length cap] 29))
    rw [World.size_alloc] at this
    rw [hW1]; exact this
  have c0 := t1.1; have c1 := t1.2
  rw [hW1] at c0 c1
  clear hBm
  go_enter Try.func40, Try.ntmps40
  go_wp2_with fail
  rw [← hW1]
  clear hmm c0 c1 hW1
  refine (exitOf_any B _ _ hB1 HM.out).mono ?_
  rintro e w2 ⟨rfl, hb2⟩
  rw [hL.last]
  have t2 := t1.below hb2 (by omega)
  have hn2 := hn1.below hb2 (by omega)
  have hb2' := hb1.trans (hb2.mono hb1.size)
  have hz2 := hb2.size
  clear hb2 t1 hn1 hb1
  obtain ⟨w3, hrun, hset3, hg3⟩ := hn2.update (P := Try.prog) (kt := 9) (t := 49) (e := 3) Try.underlying9 Try.underlying49 t 1
  have HSET := Lib.hid hset3; have HG := Lib.hid hg3
  have hz3 := hg3.size
  clear hset3 hg3 hn2
  go_wp2_with fail
  clear hrun
  obtain ⟨W4, hW4⟩ : ∃ W4, (w3.alloc (.cells #[.map (some (w.heap.size + 1))] 49)).alloc (.cells #[.func (.func 71) #[] #[.pointer (some ⟨w3.heap.size, 0, none⟩), .pointer (some ⟨w.heap.size, 0, none⟩), .pointer (some ⟨w3.heap.size + 1, 0, none⟩)]] 76) = W4 := ⟨_, rfl⟩
  have hb4 : Below w3.heap.size w3 W4 := by rw [← hW4]; exact ((Below.refl _ _).alloc (Nat.le_refl _) _).alloc (by simp) _
  have hz4 : W4.heap.size = w3.heap.size + 2 := by rw [← hW4]; simp
  have m4 : W4.cell? ⟨w3.heap.size, 0, none⟩ = some (.map (some (w.heap.size + 1))) := by rw [← hW4]; clear hW4; go_simp
  have g4 : W4.cell? ⟨w3.heap.size + 1, 0, none⟩ = some (.func (.func 71) #[] #[.pointer (some ⟨w3.heap.size, 0, none⟩), .pointer (some ⟨w.heap.size, 0, none⟩), .pointer (some ⟨w3.heap.size + 1, 0, none⟩)]) := by rw [← hW4]; clear hW4; go_simp
  have t4 : Two W4 w.heap.size B A es.length cap := (t2.grown HG.out (by omega) (by intro e; injection e with e; omega)).below hb4 (by omega)
  have hH : HomeC W4 w.heap.size (w.heap.size + 1) w3.heap.size (w3.heap.size + 1) B A es.length cap := ⟨t4, m4, g4, by omega, by omega, by omega, by omega⟩
  have hbw : Below w.heap.size w W4 := (hb2'.grown HG.out (by omega) (fun q e => by injection e with e; omega)).trans (hb4.mono (by omega))
  have HN4 : Hid (NumsIs W4 (w.heap.size + 1) (fun y => if y = t then some 1 else none)) := Lib.hid (HSET.out.below hb4 (by omega))
  have HC4 : Hid (Counted (ebs es) t (fun y => if y = t then some (1 : Int) else none)) := Lib.hid (by
    refine ⟨fun y v hy => ?_, fun y hy z hz => ?_, by simp⟩
    · by_cases e : y = t
      · subst e; simp only [if_true] at hy; injection hy with hy; rw [cntE_at, ← hy]; rfl
      · rw [if_neg e] at hy; cases hy
    · by_cases e : y = t
      · subst e; exact absurd hz (hL.no z)
      · rw [if_neg e] at hy; exact absurd rfl hy)
  obtain ⟨r, htr, hr7⟩ := topo_at hL.topo hL.eight hL.ent
  have HTR := Lib.hid htr
  have HH := Lib.hid hH; have HBW := Lib.hid hbw
  rw [hW4]
  have c0 := t4.1; have c1 := t4.2
  clear hW4 hb2' t2 hb4 m4 t4 hH hbw htr HSET HG
  obtain ⟨C, hC⟩ : ∃ C, w3.heap.size = C := ⟨_, rfl⟩
  rw [hC] at g4 HH hz4 ⊢
  have hS : ∀ W, Below W4.heap.size W4 W → (W.cell? ⟨w.heap.size, 0, none⟩ = some (.string B) ∧ W.cell? ⟨w.heap.size, 1, none⟩ = some (.slice A es.length cap) ∧ W.cell? ⟨C + 1, 0, none⟩ = some (.func (.func 71) #[] #[.pointer (some ⟨C, 0, none⟩), .pointer (some ⟨w.heap.size, 0, none⟩), .pointer (some ⟨C + 1, 0, none⟩)])) :=
    fun W h => ⟨(h.cell (by simp only; omega)).trans c0, (h.cell (by simp only; omega)).trans c1, (h.cell (by simp only; omega)).trans g4⟩
  have HSS := Lib.hid hS
  have HCALL : Hid (∀ W, Below W4.heap.size W4 W → Calls Try.prog 71 #[.string ⟨#[e0]⟩, .pointer (some ⟨C, 0, none⟩), .pointer (some ⟨w.heap.size, 0, none⟩), .pointer (some ⟨C + 1, 0, none⟩)] W (CountedPost (ebs es) t e0 (w.heap.size + 1) (fun y => if y = t then some 1 else none) W)) := Lib.hid fun W h => by
    have hg : W4.grownBy W (some (w.heap.size + 1)) := ⟨h.os, h.tape, h.output, h.size, fun i hi _ => h.block i hi⟩
    refine countFrom_in w.heap.size (w.heap.size + 1) C (C + 1) B A cap es O e0 t hL (r.length + 1) r e0 _ W (by omega) hr7 HTR.out (HH.out.keep hg) ?_ (HN4.out.below h (by omega)) HC4.out
    exact (hE.below HBW.out).below (h.mono (by omega))
  have HFST := Lib.hid hL.first
  clear hS c0 c1 g4
  go_region_held3 (fun W => W.cell? ⟨w.heap.size, 0, none⟩ = some (.string B) ∧ W.cell? ⟨w.heap.size, 1, none⟩ = some (.slice A es.length cap) ∧ W.cell? ⟨C + 1, 0, none⟩ = some (.func (.func 71) #[] #[.pointer (some ⟨C, 0, none⟩), .pointer (some ⟨w.heap.size, 0, none⟩), .pointer (some ⟨C + 1, 0, none⟩)]))
    (first | exact HSS.out _ (Below.refl _ _).drew | exact HSS.out _ ((Below.refl _ _).drew.trans hb6) | exact hk7)
    (first
      | (go_at_call 41; refine (entryOf_any B _ _ hB1 HM.out).mono ?_; rw [HFST.out]; rintro e w6 ⟨rfl, hb6⟩)
      | (go_at_call 71; refine (HCALL.out _ ((Below.refl _ _).drew.trans hb6)).mono ?_; rintro e w7 ⟨rfl, f7, hn7, hc7, hle7, hb7, hg7⟩
         have hk7 : w7.cell? ⟨w.heap.size, 0, none⟩ = some (.string B) ∧ w7.cell? ⟨w.heap.size, 1, none⟩ = some (.slice A es.length cap) ∧ w7.cell? ⟨C + 1, 0, none⟩ = some (.func (.func 71) #[] #[.pointer (some ⟨C, 0, none⟩), .pointer (some ⟨w.heap.size, 0, none⟩), .pointer (some ⟨C + 1, 0, none⟩)]) := by
           have hx := hb6.size
           have h6 := HSS.out _ ((Below.refl _ _).drew.trans hb6)
           exact ⟨(World.cell?_of_block (hg7.block w.heap.size (by simp at hx; omega) (by intro e; injection e with e; omega))).trans h6.1, (World.cell?_of_block (hg7.block w.heap.size (by simp at hx; omega) (by intro e; injection e with e; omega))).trans h6.2.1, (World.cell?_of_block (hg7.block (C + 1) (by simp at hx; omega) (by intro e; injection e with e; omega))).trans h6.2.2⟩))
  have hbF : Below w.heap.size w w7 := by
    have h6 := HBW.out.trans (((Below.refl W4.heap.size W4).drew.trans hb6).mono (by have := HBW.out.size; omega))
    exact h6.grown hg7 h6.size (fun q e => by injection e with e; omega)
  have hcm := (World.cell?_of_block (a := ⟨C, 0, none⟩) (hg7.block C (by have := hb6.size; simp at this; omega) (by intro e; injection e with e; omega))).trans ((((Below.refl W4.heap.size W4).drew.trans hb6).cell (p := ⟨C, 0, none⟩) (by simp only; omega)).trans HH.out.map)
  have hall : ∀ b, Way (ebs es) e0 b → f7 b = some ((cntE (ebs es) t b : Nat) : Int) := fun b hb => counted_all hc7 hb7 hb
  have HALL := Lib.hid hall; have HBF := Lib.hid hbF; have HN7 := Lib.hid hn7
  clear hn7 hc7 hle7 hb7 hg7 hk7 hb6 hall hbF HSS HCALL
  go_wp2_with fail
  go_ret
  exact ⟨_, f7, rfl, by omega, HN7.out, HBF.out, HALL.out⟩

end Go.Proofs.Ytghdjmjodgbghaa
