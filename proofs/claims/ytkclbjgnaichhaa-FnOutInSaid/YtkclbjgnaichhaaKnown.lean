/- The reader of drawn bytes: a known net. -/
import Derived.Test.YtkclbjgnaichhaaParseW
import Derived.Test.YtkclbjgnaichhaaPick
namespace Go.Proofs.Ytkclbjgnaichhaa
open Go.RowKit

/-- a net of bounded sizes -/
def SmallNet (B : ByteArray) (es : List (ByteArray × ByteArray)) : Prop := B.size ≤ 16 ∧ es.length ≤ 17 ∧ ∀ e ∈ es, e.1.size ≤ 2 ∧ e.2.size ≤ 2
/-- what is handed back: some net of bounded sizes -/
def SomeNet (w : World) (e : Ending) (w' : World) : Prop :=
  ∃ B A cap es, e = .returned (.agg #[.string B, .slice A es.length cap]) ∧ SmallNet B es ∧ EdgesIn w' w'.heap.size A es ∧ Below w.heap.size w w'

/-- edges that lie in memory do not lie in a net's variable -/
theorem edges_off {W : World} {M b : Nat} {T : TypeId} {f : Nat → Value} {A : Option Addr} {es : List (ByteArray × ByteArray)} (hE : EdgesIn W M A es) (hr : W.rowIs b T 2 f) (h1 : ∀ s, f 1 ≠ .string s) (i : Nat) (hi : i < es.length) : ∀ a, A = some a → some a.block ≠ some b := by
  intro a ha e
  obtain ⟨b', o, hA, hl, q1, q2⟩ := hE i hi
  rw [hA] at ha
  injection ha with ha
  subst ha
  injection e with e
  simp only at e
  subst e
  obtain ⟨cc, hcc, hsz, hf⟩ := hr
  simp [World.cell?, hcc] at q2
  have hlt := (Array.getElem?_eq_some_iff.1 q2).1
  have h0 : o + i * 2 + 1 = 1 := by omega
  rw [h0, hf 1 (by omega)] at q2
  injection q2 with q2
  exact h1 _ q2
theorem edges_set {W W' : World} {b : Nat} {T : TypeId} {f : Nat → Value} {A : Option Addr} {es : List (ByteArray × ByteArray)} (hE : EdgesIn W W.heap.size A es) (hr : W.rowIs b T 2 f) (h1 : ∀ s, f 1 ≠ .string s) (hg : W.grownBy W' (some b)) : EdgesIn W' W'.heap.size A es := by
  by_cases h0 : es.length = 0
  · intro i hi; omega
  · exact (hE.grown hg (Nat.le_refl _) (edges_off hE hr h1 0 (by omega))).more hg.size

theorem parse_small (t : ByteArray) : SmallNet (parseQ t).1 (parseQ t).2.1 := by
  unfold parseQ
  split
  · rename_i h
    have hx := h.choose_spec
    obtain ⟨h1, h2⟩ := valid_sizes hx.1
    refine ⟨by simp only; omega, by simp only; omega, fun e he => ?_⟩
    obtain ⟨x, y, e1, e2, _⟩ := hx.ones e he
    rw [← size_toList, ← size_toList, e1, e2]
    exact ⟨by simp, by simp⟩
  · exact ⟨by show 0 ≤ 16; omega, by simp, fun e he => by simp at he⟩

theorem getD_at (a : Array Value) (i : Nat) (h : i < a.size) : a[i]? = some (a.getD i (.bool true)) := by simp [h]

theorem known_cells (w : World) (i : Nat) (hi : i < 11) : ∃ t : ByteArray, (w.alloc (.cells #[.string ⟨#[65, 66, 67, 68, 58, 32, 65, 66, 32, 65, 67, 32, 66, 68, 32, 67, 68]⟩, .string ⟨#[65, 66, 58, 32, 65, 66]⟩, .string ⟨#[65, 66, 67, 68, 69, 70, 58, 32, 65, 66, 32, 65, 67, 32, 66, 67, 32, 66, 68, 32, 67, 68, 32, 68, 69, 32, 68, 70, 32, 69, 70]⟩, .string ⟨#[65, 66, 67, 68, 58, 32, 65, 66, 32, 66, 67, 32, 67, 66, 32, 67, 68]⟩, .string ⟨#[65, 66, 67, 68, 58, 32, 65, 66, 32, 65, 67, 32, 66, 68, 32, 66, 68, 32, 67, 68, 32, 65, 68]⟩, .string ⟨#[65, 66, 67, 68, 69, 58, 32, 65, 66, 32, 66, 67, 32, 67, 68, 32, 68, 66, 32, 68, 69, 32, 67, 69]⟩, .string ⟨#[65, 66, 58, 32, 65, 66, 32, 65, 66, 32, 65, 66]⟩, .string ⟨#[65, 66, 67, 68, 69, 58, 32, 65, 66, 32, 65, 67, 32, 66, 68, 32, 67, 68, 32, 68, 69, 32, 68, 66]⟩, .string ⟨#[65, 66, 67, 58, 32, 65, 66, 32, 66, 66, 32, 66, 67]⟩, .string ⟨#[65, 66, 67, 68, 69, 70, 71, 58, 32, 65, 66, 32, 65, 67, 32, 66, 68, 32, 67, 68, 32, 68, 69, 32, 68, 70, 32, 69, 71, 32, 70, 71]⟩, .string ⟨#[65, 72, 68, 58, 32, 65, 72, 32, 65, 72, 32, 72, 68, 32, 72, 68]⟩] 9)).cell? ⟨w.heap.size, i, none⟩ = some (.string t) ∧ t.size ≤ 100 := by
  have hr := World.rowIs_alloc w #[.string ⟨#[65, 66, 67, 68, 58, 32, 65, 66, 32, 65, 67, 32, 66, 68, 32, 67, 68]⟩, .string ⟨#[65, 66, 58, 32, 65, 66]⟩, .string ⟨#[65, 66, 67, 68, 69, 70, 58, 32, 65, 66, 32, 65, 67, 32, 66, 67, 32, 66, 68, 32, 67, 68, 32, 68, 69, 32, 68, 70, 32, 69, 70]⟩, .string ⟨#[65, 66, 67, 68, 58, 32, 65, 66, 32, 66, 67, 32, 67, 66, 32, 67, 68]⟩, .string ⟨#[65, 66, 67, 68, 58, 32, 65, 66, 32, 65, 67, 32, 66, 68, 32, 66, 68, 32, 67, 68, 32, 65, 68]⟩, .string ⟨#[65, 66, 67, 68, 69, 58, 32, 65, 66, 32, 66, 67, 32, 67, 68, 32, 68, 66, 32, 68, 69, 32, 67, 69]⟩, .string ⟨#[65, 66, 58, 32, 65, 66, 32, 65, 66, 32, 65, 66]⟩, .string ⟨#[65, 66, 67, 68, 69, 58, 32, 65, 66, 32, 65, 67, 32, 66, 68, 32, 67, 68, 32, 68, 69, 32, 68, 66]⟩, .string ⟨#[65, 66, 67, 58, 32, 65, 66, 32, 66, 66, 32, 66, 67]⟩, .string ⟨#[65, 66, 67, 68, 69, 70, 71, 58, 32, 65, 66, 32, 65, 67, 32, 66, 68, 32, 67, 68, 32, 68, 69, 32, 68, 70, 32, 69, 71, 32, 70, 71]⟩, .string ⟨#[65, 72, 68, 58, 32, 65, 72, 32, 65, 72, 32, 72, 68, 32, 72, 68]⟩] 9 (fun i => (#[.string ⟨#[65, 66, 67, 68, 58, 32, 65, 66, 32, 65, 67, 32, 66, 68, 32, 67, 68]⟩, .string ⟨#[65, 66, 58, 32, 65, 66]⟩, .string ⟨#[65, 66, 67, 68, 69, 70, 58, 32, 65, 66, 32, 65, 67, 32, 66, 67, 32, 66, 68, 32, 67, 68, 32, 68, 69, 32, 68, 70, 32, 69, 70]⟩, .string ⟨#[65, 66, 67, 68, 58, 32, 65, 66, 32, 66, 67, 32, 67, 66, 32, 67, 68]⟩, .string ⟨#[65, 66, 67, 68, 58, 32, 65, 66, 32, 65, 67, 32, 66, 68, 32, 66, 68, 32, 67, 68, 32, 65, 68]⟩, .string ⟨#[65, 66, 67, 68, 69, 58, 32, 65, 66, 32, 66, 67, 32, 67, 68, 32, 68, 66, 32, 68, 69, 32, 67, 69]⟩, .string ⟨#[65, 66, 58, 32, 65, 66, 32, 65, 66, 32, 65, 66]⟩, .string ⟨#[65, 66, 67, 68, 69, 58, 32, 65, 66, 32, 65, 67, 32, 66, 68, 32, 67, 68, 32, 68, 69, 32, 68, 66]⟩, .string ⟨#[65, 66, 67, 58, 32, 65, 66, 32, 66, 66, 32, 66, 67]⟩, .string ⟨#[65, 66, 67, 68, 69, 70, 71, 58, 32, 65, 66, 32, 65, 67, 32, 66, 68, 32, 67, 68, 32, 68, 69, 32, 68, 70, 32, 69, 71, 32, 70, 71]⟩, .string ⟨#[65, 72, 68, 58, 32, 65, 72, 32, 65, 72, 32, 72, 68, 32, 72, 68]⟩] : Array Value).getD i (.bool true)) (fun i hi => getD_at _ i hi)
  have hc := hr.cell (i := i) hi
  have h : i = 0 ∨ i = 1 ∨ i = 2 ∨ i = 3 ∨ i = 4 ∨ i = 5 ∨ i = 6 ∨ i = 7 ∨ i = 8 ∨ i = 9 ∨ i = 10 := by omega
  rcases h with rfl | rfl | rfl | rfl | rfl | rfl | rfl | rfl | rfl | rfl | rfl
  all_goals exact ⟨_, hc, by decide⟩

set_option maxRecDepth 100000 in
set_option maxHeartbeats 4000000 in
/-- spec.l1Known -/
theorem known_any (k : Nat) (w : World) (hk : k ≤ 1000) :
    Calls Try.prog 66 #[.int .i64 (k : Int)] w (SomeNet w) := by
  obtain ⟨i, hi⟩ : ∃ i, k % 11 = i := ⟨_, rfl⟩
  have hil : i < 11 := by omega
  have hii : (i : Int) < 11 := by omega
  have hm : (k : Int) % 11 = (i : Int) := by omega
  have hb1 : Below w.heap.size w (w.alloc (.cells #[.string ⟨#[]⟩, .slice none 0 0] 25)) := (Below.refl _ _).alloc (Nat.le_refl _) _
  have hr1 : (w.alloc (.cells #[.string ⟨#[]⟩, .slice none 0 0] 25)).rowIs w.heap.size 25 2 (fun i => if i = 0 then .string ⟨#[]⟩ else .slice none 0 0) := by
    refine World.rowIs_alloc w #[.string ⟨#[]⟩, .slice none 0 0] 25 (fun i => if i = 0 then .string ⟨#[]⟩ else .slice none 0 0) (fun i hi => by
      match i, hi with
      | 0, _ => rfl
      | 1, _ => rfl)
  have hz1 : (w.alloc (.cells #[.string ⟨#[]⟩, .slice none 0 0] 25)).heap.size = w.heap.size + 1 := by simp
  obtain ⟨t, hc, ht⟩ := known_cells (w.alloc (.cells #[.string ⟨#[]⟩, .slice none 0 0] 25)) i hil
  rw [hz1] at hc
  obtain ⟨W2, hW2⟩ : ∃ W2, (w.alloc (.cells #[.string ⟨#[]⟩, .slice none 0 0] 25)).alloc (.cells #[.string ⟨#[65, 66, 67, 68, 58, 32, 65, 66, 32, 65, 67, 32, 66, 68, 32, 67, 68]⟩, .string ⟨#[65, 66, 58, 32, 65, 66]⟩, .string ⟨#[65, 66, 67, 68, 69, 70, 58, 32, 65, 66, 32, 65, 67, 32, 66, 67, 32, 66, 68, 32, 67, 68, 32, 68, 69, 32, 68, 70, 32, 69, 70]⟩, .string ⟨#[65, 66, 67, 68, 58, 32, 65, 66, 32, 66, 67, 32, 67, 66, 32, 67, 68]⟩, .string ⟨#[65, 66, 67, 68, 58, 32, 65, 66, 32, 65, 67, 32, 66, 68, 32, 66, 68, 32, 67, 68, 32, 65, 68]⟩, .string ⟨#[65, 66, 67, 68, 69, 58, 32, 65, 66, 32, 66, 67, 32, 67, 68, 32, 68, 66, 32, 68, 69, 32, 67, 69]⟩, .string ⟨#[65, 66, 58, 32, 65, 66, 32, 65, 66, 32, 65, 66]⟩, .string ⟨#[65, 66, 67, 68, 69, 58, 32, 65, 66, 32, 65, 67, 32, 66, 68, 32, 67, 68, 32, 68, 69, 32, 68, 66]⟩, .string ⟨#[65, 66, 67, 58, 32, 65, 66, 32, 66, 66, 32, 66, 67]⟩, .string ⟨#[65, 66, 67, 68, 69, 70, 71, 58, 32, 65, 66, 32, 65, 67, 32, 66, 68, 32, 67, 68, 32, 68, 69, 32, 68, 70, 32, 69, 71, 32, 70, 71]⟩, .string ⟨#[65, 72, 68, 58, 32, 65, 72, 32, 65, 72, 32, 72, 68, 32, 72, 68]⟩] 9) = W2 := ⟨_, rfl⟩
  rw [hW2] at hc
  have hb2 : Below (w.heap.size + 1) (w.alloc (.cells #[.string ⟨#[]⟩, .slice none 0 0] 25)) W2 := by rw [← hW2]; exact (Below.refl _ _).alloc (by simp) _
  have HR2 := Lib.hid (hr1.of_block (hb2.block w.heap.size (by omega)))
  have HB2 := Lib.hid (hb1.trans (hb2.mono (by omega)))
  have hz2 : W2.heap.size = w.heap.size + 2 := by rw [← hW2]; simp
  obtain ⟨qb, qe, qo, hq⟩ : ∃ qb qe qo, parseQ t = (qb, qe, qo) := ⟨_, _, _, rfl⟩
  have hsm := parse_small t
  rw [hq] at hsm
  have HSM := Lib.hid hsm; have HQ := Lib.hid hq
  clear hi hsm hq hb1 hr1 hz1 hb2
  go_enter Try.func66, Try.ntmps66
  go_wp2_with fail
  refine (specParseNet_any t W2 (by omega)).mono ?_
  rw [HQ.out]
  rintro e w3 ⟨A, cap, rfl, hE3, hb3⟩
  simp only at hE3
  have hba : Below w3.heap.size w3 (w3.alloc (.cells #[.string qb, .slice A qe.length cap] 25)) := (Below.refl _ _).alloc (Nat.le_refl _) _
  have tn := Two.made w3 qb A qe.length cap 25
  have hz3 : w.heap.size + 2 ≤ w3.heap.size := by have := hb3.size; omega
  have hr4 := (HR2.out.of_block (hb3.block w.heap.size (by omega))).of_block (hba.block w.heap.size (by omega))
  have r0 := hr4.cell (i := 0) (by omega); have r1 := hr4.cell (i := 1) (by omega)
  have rf0 := hr4.frozen 0; have rf1 := hr4.frozen 1
  have hd0 := tn.1; have hd1 := tn.2
  have HR4 := Lib.hid hr4
  have HE4 := Lib.hid ((hE3.below hba).more hba.size)
  have HB4 := Lib.hid ((HB2.out.trans (hb3.mono HB2.out.size)).trans (hba.mono (by have := HB2.out.size; omega)))
  clear hba tn hr4 hE3 hb3 hW2 hc
  go_wp2_with fail
  have hg6 : (w3.alloc (.cells #[.string qb, .slice A qe.length cap] 25)).grownBy (((w3.alloc (.cells #[.string qb, .slice A qe.length cap] 25)).setCell ⟨w.heap.size, 0, none⟩ (.string qb)).setCell ⟨w.heap.size, 1, none⟩ (.slice A qe.length cap)) (some w.heap.size) :=
    only_setCell_at (only_setCell_at (World.grownBy.refl _ _))
  refine bodyPost_ret (v := .agg #[.string qb, .slice A qe.length cap]) (by simp [results, Try.results66, go_sem, r0, r1]) rfl ?_
  refine ⟨qb, A, cap, qe, rfl, HSM.out, ?_, (HB4.out.setCell (by simp only; omega) _).setCell (by simp only; omega) _⟩
  exact edges_set HE4.out HR4.out (fun s h => by cases h) hg6

end Go.Proofs.Ytkclbjgnaichhaa
