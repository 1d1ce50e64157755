/- The net of a text, by the model. -/
import Derived.Test.YtkclbjgnaichhaaCut16
import Derived.Test.YtkclbjgnaichhaaFormatS
import Derived.Test.YtkclbjgnaichhaaAppend
import Derived.Deep.RegionLaw
import Derived.BigRegion
namespace Go.Proofs.Ytkclbjgnaichhaa
open Go.RowKit

/-- the edge that a part of a text tells -/
def pe (s : ByteArray) : ByteArray × ByteArray := (s.extract 0 1, s.extract 1 s.size)
/-- the edges of so many parts -/
def pes (ts : List ByteArray) (k : Nat) : List (ByteArray × ByteArray) := ((ts.drop 1).take k).map pe
/-- the blocks that the first part tells -/
def pb (ts : List ByteArray) : ByteArray := (ts.getD 0 ⟨#[]⟩).extract 0 ((ts.getD 0 ⟨#[]⟩).size - 1)
theorem size_toList (b : ByteArray) : b.data.toList.length = b.size := by simp

/-- what the parts of a net's text are -/
theorem parts_of {t : List UInt8} {B : ByteArray} {es : List (ByteArray × ByteArray)} (h : TextOf t B es) {ts : List ByteArray} (hc : ts.map (·.data.toList) = cutL 32 t) :
    1 ≤ (ts.getD 0 ⟨#[]⟩).size ∧ B = pb ts ∧ (∀ s ∈ ts.drop 1, s.size = 2) ∧ es = (ts.drop 1).map pe := by
  rw [h.cut] at hc
  match ts, hc with
  | [], hc => simp at hc
  | s :: r, hc =>
    simp only [List.map_cons, List.cons.injEq] at hc
    have hz : s.size = B.size + 1 := by rw [← size_toList, hc.1]; simp
    refine ⟨by simp only [List.getD_cons_zero]; omega, ?_, ?_, ?_⟩
    · refine bytes_ext ?_
      unfold pb
      simp only [List.getD_cons_zero]
      rw [Lib.extract_data, hc.1, hz]
      simp
    · intro u hu
      simp only [List.drop_one, List.tail_cons] at hu
      obtain ⟨i, hi, rfl⟩ := List.getElem_of_mem hu
      have h2 := congrArg (fun l => l[i]?) hc.2
      simp only [List.getElem?_map, List.getElem?_eq_getElem hi, Option.map_some] at h2
      have hie : i < es.length := by
        have := congrArg List.length hc.2
        simp at this; omega
      rw [List.getElem?_eq_getElem hie, Option.map_some] at h2
      injection h2 with h2
      obtain ⟨x, y, e1, e2, _⟩ := h.ones es[i] (List.getElem_mem hie)
      rw [e1, e2] at h2
      rw [← size_toList, h2]; rfl
    · simp only [List.drop_one, List.tail_cons]
      refine List.ext_getElem? fun i => ?_
      have h2 := congrArg (fun l => l[i]?) hc.2
      simp only [List.getElem?_map] at h2 ⊢
      cases hr : r[i]? with
      | none =>
        rw [hr] at h2
        cases he : es[i]? with
        | none => rfl
        | some e => rw [he] at h2; simp at h2
      | some u =>
        rw [hr] at h2
        cases he : es[i]? with
        | none => rw [he] at h2; simp at h2
        | some e =>
          rw [he] at h2
          simp only [Option.map_some, Option.some.injEq] at h2 ⊢
          obtain ⟨x, y, e1, e2, _⟩ := h.ones e (List.mem_of_getElem? he)
          rw [e1, e2] at h2
          have hz2 : u.size = 2 := by rw [← size_toList, h2]; rfl
          unfold pe
          refine Prod.ext (bytes_ext ?_) (bytes_ext ?_)
          · rw [Lib.extract_data, h2, e1]; rfl
          · rw [Lib.extract_data, h2, e2, hz2]; rfl

/-- a text that the net reads back to is that of the net -/
theorem text_of {t : ByteArray} {B : ByteArray} {es : List (ByteArray × ByteArray)} (h : fmtV B es = t) (hne : t.data.toList ≠ []) : TextOf t.data.toList B es := by
  by_cases hv : Valid B.data.toList (ebs es)
  · rw [fmtV_yes hv] at h
    exact ⟨hv, by rw [← h]⟩
  · rw [fmtV_no hv] at h
    exact absurd (by rw [← h]) hne
theorem text_fmt {t : ByteArray} {B : ByteArray} {es : List (ByteArray × ByteArray)} (h : TextOf t.data.toList B es) : fmtV B es = t := by
  rw [fmtV_yes h.1]
  exact bytes_ext (by rw [h.2])

/-- the cells of edges -/
def cellsP (es : List (ByteArray × ByteArray)) : List Value := es.flatMap fun e => [.string e.1, .string e.2]
theorem cellsP_snoc (es : List (ByteArray × ByteArray)) (e : ByteArray × ByteArray) : cellsP (es ++ [e]) = cellsP es ++ [.string e.1, .string e.2] := by simp [cellsP]
theorem cellsP_length (es : List (ByteArray × ByteArray)) : (cellsP es).length = es.length * 2 := by
  induction es with
  | nil => rfl
  | cons e es ih => simp only [cellsP, List.flatMap_cons, List.length_append, List.length_cons, List.length_nil] at ih ⊢; omega
theorem cellsP_at {es : List (ByteArray × ByteArray)} : ∀ {i : Nat}, (hi : i < es.length) → (cellsP es)[i * 2]? = some (.string es[i].1) ∧ (cellsP es)[i * 2 + 1]? = some (.string es[i].2) := by
  induction es with
  | nil => intro i hi; simp at hi
  | cons e es ih =>
    intro i hi
    cases i with
    | zero => exact ⟨rfl, rfl⟩
    | succ i =>
      obtain ⟨h1, h2⟩ := ih (i := i) (by simpa using hi)
      have e1 : (i + 1) * 2 = i * 2 + 2 := by omega
      have e2 : cellsP (e :: es) = .string e.1 :: .string e.2 :: cellsP es := rfl
      rw [e1, e2]
      exact ⟨h1, h2⟩
theorem own_edgesP {w : World} {base : Nat} {v : Value} {es : List (ByteArray × ByteArray)} (h : w.ownsRow base 46 2 v es.length (cellsP es)) :
    ∃ A cap, v = .slice A es.length cap ∧ EdgesIn w w.heap.size A es ∧ OwnEdges w base A es.length := by
  rcases h.2 with ⟨rfl, h0⟩ | ⟨g, cap, cur, rfl, hb, hg, hn, hc, hs, htake⟩
  · exact ⟨none, 0, by rw [h0], fun k hk => absurd hk (by omega), .inl ⟨h0, rfl⟩⟩
  · have hlt : g < w.heap.size := (Array.getElem?_eq_some_iff.1 hg).1
    refine ⟨_, cap, rfl, fun k hk => ⟨g, 0, rfl, hlt, ?_, ?_⟩, .inr ⟨g, cur.size, fun i => cur.getD i (.bool true), rfl, hb, hlt, by omega, cur, hg, rfl, fun i hi => by simp [hi]⟩⟩
    · have := h.cells (g := g) rfl (k * 2) (.string es[k].1) (cellsP_at hk).1
      rw [add_none] at this
      exact this
    · have := h.cells (g := g) rfl (k * 2 + 1) (.string es[k].2) (cellsP_at hk).2
      rw [add_none] at this
      simpa [Nat.add_assoc] using this

end Go.Proofs.Ytkclbjgnaichhaa
