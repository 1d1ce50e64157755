/- Marks that came in, read. -/
import Derived.Test.YtgenhkmlnflnfaaDoorMkB
import Derived.Lib.SmallJoins
import Derived.Deep.Strs
namespace Go.Proofs.YtgenhkmlnflnfaaDoor
open Go.ChangeShapes Go.WideShapes Go.ChangeAt Go.RowKit Go.Deep Go.Joins

variable {H : Type} {enc : TypeId × Value → H} {W : World} {spare : Nat → Bool} {held : Bool}

theorem addr_none (b o n : Nat) : (⟨b, o, none⟩ : Addr).add n = ⟨b, o + n, none⟩ := by
  unfold Addr.add
  split
  · rename_i h; subst h; rfl
  · rfl

set_option maxRecDepth 100000 in
/-- a mark that came in, read -/
theorem open_mark {n : Nat} {cs : List Value} {x : DataW H × List MemPlace} (h : DataW.trod enc Tryd.prog W 0 spare held n 31 cs = some x) :
    ∃ m : Mk, cs = [.string m.1, .int .i64 m.2.1, .bool m.2.2] ∧ m.1.size ≤ maxLen ∧ (Lit.int .i64 m.2.1).wf = true := by
  obtain ⟨y0, y1, y2, m, _, hl, h0, h1, h2⟩ := trod_struct3 Tryd.underlying31 h
  have hc : Tryd.prog.cellsOf 31 = 3 := by kernel_rfl
  have hs : Tryd.prog.cellsOf 9 = 1 := by kernel_rfl
  have hi : Tryd.prog.cellsOf 3 = 1 := by kernel_rfl
  have hb : Tryd.prog.cellsOf 4 = 1 := by kernel_rfl
  rw [hc] at hl
  match cs, hl with
  | [c0, c1, c2], _ =>
    simp only [hs, hi, hb] at h0 h1 h2
    obtain ⟨s0, e0, _, q0⟩ := DataW.trod_string Tryd.underlying9 h0
    obtain ⟨s1, e1, _, q1⟩ := DataW.trod_int Tryd.underlying3 h1
    obtain ⟨s2, e2, _⟩ := DataW.trod_bool Tryd.underlying4 h2
    simp at e0 e1 e2
    exact ⟨(s0, s1, s2), by rw [e0, e1, e2], q0, q1⟩

set_option maxRecDepth 100000 in
/-- marks that came in, read -/
theorem open_markS {v : Value} {d : DataW H} {p : List MemPlace} (hv : Value.okWide Tryd.prog W .any 0 22 v) (h : DataW.Trod enc Tryd.prog W 0 spare held 22 v d p) :
    ∃ (A : Option Addr) (cap : Nat) (ms : List Mk), v = .slice A ms.length cap ∧ MarksIn W W.heap.size A ms ∧ ms.length ≤ maxLen ∧ ∀ m ∈ ms, m.1.size ≤ maxLen ∧ (Lit.int .i64 m.2.1).wf = true := by
  obtain ⟨a0, len0, cap0, rfl⟩ := okWide_slice Tryd.underlying22 hv
  obtain ⟨fuel, hf⟩ := h
  have hc : Tryd.prog.cellsOf 31 = 3 := by kernel_rfl
  rcases open_slice Tryd.underlying22 hf with ⟨e1, _⟩ | ⟨a, len, cap, m, k, D, Pl, e1, _, hl, hm, hmm, _, hel⟩
  · simp [Value.cells] at e1
    obtain ⟨rfl, rfl, rfl⟩ := e1
    exact ⟨none, 0, [], rfl, fun k hk => absurd hk (by simp), by simp, by simp⟩
  · simp [Value.cells] at e1
    obtain ⟨rfl, rfl, rfl⟩ := e1
    have hlm : len0 ≤ m := by rw [hmm]; split <;> omega
    have key : ∀ i, i < len0 → ∃ q : Mk, q.1.size ≤ maxLen ∧ (Lit.int .i64 q.2.1).wf = true ∧ W.cell? (a.add (i * 3)) = some (.string q.1) ∧ W.cell? ((a.add (i * 3)).add 1) = some (.int .i64 q.2.1) ∧ W.cell? ((a.add (i * 3)).add 2) = some (.bool q.2.2) := by
      intro i hi
      obtain ⟨cs', hcs, ht⟩ := hel i (by omega)
      obtain ⟨q, rfl, q0, q1⟩ := open_mark ht
      rw [hc] at hcs
      obtain ⟨_, _, hg⟩ := World.cells?_some hcs
      refine ⟨q, q0, q1, ?_, ?_, ?_⟩
      · have := hg 0 (by omega); simpa [Addr.add] using this
      · have := hg 1 (by omega); simpa using this
      · have := hg 2 (by omega); simpa using this
    obtain ⟨f, hf⟩ := choose_lt key
    obtain ⟨b, o, sp⟩ := a
    refine ⟨some ⟨b, o, sp⟩, cap0, (List.range len0).map f, by simp, ?_, by simp; omega, ?_⟩
    · intro i hi
      have hi' : i < len0 := by simpa using hi
      have hsp : sp = none := by
        obtain ⟨_, _, c0, _⟩ := hf 0 (by omega)
        have := World.cell?_spot c0
        simpa [Addr.add] using this
      subst hsp
      obtain ⟨_, _, c0, c1, c2⟩ := hf i hi'
      rw [addr_none] at c0 c1 c2
      rw [addr_none] at c1 c2
      have q : ((List.range len0).map f)[i] = f i := by simp
      rw [q]
      exact ⟨b, o, rfl, World.block_lt_of_cell? W ⟨b, o + i * 3, none⟩ c0, c0, c1, c2⟩
    · intro e he
      obtain ⟨i, hi, rfl⟩ := List.mem_map.1 he
      obtain ⟨q0, q1, _, _⟩ := hf i (by simpa using hi)
      exact ⟨q0, q1⟩

end Go.Proofs.YtgenhkmlnflnfaaDoor
