/- The net that came in, read: its blocks and its edges as they lie in memory. -/
import Derived.Test.YtpeafheljcjlhaaGreatNet1
import Derived.Lib.SmallJoins
namespace Go.Proofs.YtpeafheljcjlhaaGreat
open Go.ChangeShapes Go.WideShapes Go.ChangeAt Go.RowKit Go.Deep Go.Joins

variable {H : Type} {enc : TypeId × Value → H} {W : World} {spare : Nat → Bool} {held : Bool}

theorem add_none (b o n : Nat) : (⟨b, o, none⟩ : Addr).add n = ⟨b, o + n, none⟩ := by
  unfold Addr.add
  split
  · rename_i h; subst h; rfl
  · rfl

set_option maxRecDepth 100000 in
/-- an edge that came in, read -/
theorem open_edge {n : Nat} {cs : List Value} {x : DataW H × List MemPlace} (h : DataW.trod enc Tryz.prog W 0 spare held n 76 cs = some x) :
    ∃ a b : ByteArray, cs = [.string a, .string b] ∧ a.size ≤ maxLen ∧ b.size ≤ maxLen := by
  obtain ⟨y0, y1, m, _, hl, h0, h1⟩ := trod_struct2 Tryz.underlying76 h
  have hc : Tryz.prog.cellsOf 76 = 2 := by kernel_rfl
  have hs : Tryz.prog.cellsOf 9 = 1 := by kernel_rfl
  rw [hc] at hl
  match cs, hl with
  | [c0, c1], _ =>
    simp only [hs] at h0 h1
    obtain ⟨s0, e0, _, q0⟩ := DataW.trod_string Tryz.underlying9 h0
    obtain ⟨s1, e1, _, q1⟩ := DataW.trod_string Tryz.underlying9 h1
    simp at e0 e1
    exact ⟨s0, s1, by rw [e0, e1], q0, q1⟩

set_option maxRecDepth 100000 in
/-- a net that came in, read -/
theorem open_net {v : Value} {d : DataW H} {p : List MemPlace} (hv : Value.okWide Tryz.prog W .any 0 24 v) (h : DataW.Trod enc Tryz.prog W 0 spare held 24 v d p) :
    ∃ (B : ByteArray) (A : Option Addr) (cap : Nat) (es : List (ByteArray × ByteArray)), v = .agg #[.string B, .slice A es.length cap] ∧ B.size ≤ maxLen ∧ EdgesIn W W.heap.size A es ∧ es.length ≤ maxLen ∧ ∀ e ∈ es, e.1.size ≤ maxLen ∧ e.2.size ≤ maxLen := by
  obtain ⟨v0, v1, y0, y1, n, rfl, _, _, h0, h1⟩ := open_agg2 Tryz.underlying24 (by kernel_rfl) (by kernel_rfl) hv h
  obtain ⟨B, e0, _, hB⟩ := DataW.trod_string Tryz.underlying9 h0
  injection e0 with e0 _
  subst e0
  have hc : Tryz.prog.cellsOf 76 = 2 := by kernel_rfl
  rcases open_slice Tryz.underlying22 h1 with ⟨e1, _⟩ | ⟨a, len, cap, m, k, D, Pl, e1, _, hl, hm, hmm, _, hel⟩
  · injection e1 with e1 _
    subst e1
    exact ⟨B, none, 0, [], rfl, hB, fun k hk => absurd hk (by simp), by simp, by simp⟩
  · injection e1 with e1 _
    subst e1
    have hlm : len ≤ m := by rw [hmm]; split <;> omega
    have key : ∀ i, i < len → ∃ q : ByteArray × ByteArray, q.1.size ≤ maxLen ∧ q.2.size ≤ maxLen ∧ W.cell? (a.add (i * 2)) = some (.string q.1) ∧ W.cell? ((a.add (i * 2)).add 1) = some (.string q.2) := by
      intro i hi
      obtain ⟨cs', hcs, ht⟩ := hel i (by omega)
      obtain ⟨s0, s1, rfl, q0, q1⟩ := open_edge ht
      rw [hc] at hcs
      obtain ⟨_, _, hg⟩ := World.cells?_some hcs
      refine ⟨(s0, s1), q0, q1, ?_, ?_⟩
      · have := hg 0 (by omega); simpa [Addr.add] using this
      · have := hg 1 (by omega); simpa using this
    obtain ⟨f, hf⟩ := choose_lt key
    obtain ⟨b, o, sp⟩ := a
    refine ⟨B, some ⟨b, o, sp⟩, cap, (List.range len).map f, by simp, hB, ?_, by simp; omega, ?_⟩
    · intro i hi
      have hi' : i < len := by simpa using hi
      have hsp : sp = none := by
        obtain ⟨_, _, c0, _⟩ := hf 0 (by omega)
        have := World.cell?_spot c0
        simpa [Addr.add] using this
      subst hsp
      obtain ⟨_, _, c0, c1⟩ := hf i hi'
      rw [add_none] at c0 c1
      rw [add_none] at c1
      have q : ((List.range len).map f)[i] = f i := by simp
      rw [q]
      exact ⟨b, o, rfl, World.block_lt_of_cell? W ⟨b, o + i * 2, none⟩ c0, c0, c1⟩
    · intro e he
      obtain ⟨i, hi, rfl⟩ := List.mem_map.1 he
      obtain ⟨q0, q1, _, _⟩ := hf i (by simpa using hi)
      exact ⟨q0, q1⟩

end Go.Proofs.YtpeafheljcjlhaaGreat
