/- The net of a text, by the program. -/
import Derived.Test.YtghdjmjodgbghaaDoorReadW
import Derived.Test.YtghdjmjodgbghaaDoorCutS
namespace Go.Proofs.YtghdjmjodgbghaaDoor
open Go.RowKit

theorem index_at (l : List UInt8) (c : UInt8) : ∀ k : Nat, Lib.indexByte l c = k → l[k]? = some c := by
  induction l with
  | nil => intro k h; simp [Lib.indexByte] at h
  | cons b l ih =>
    intro k h
    unfold Lib.indexByte at h
    split at h
    · rename_i hb
      have : k = 0 := by omega
      subst this
      simp at hb
      simp [hb]
    · split at h
      · omega
      · rename_i h2
        have hne : Lib.indexByte l c ≠ -1 := by simpa using h2
        have hlo := ih (k - 1) (by omega)
        obtain ⟨j, rfl⟩ : ∃ j, k = j + 1 := ⟨k - 1, by
          have : 0 ≤ Lib.indexByte l c ∨ Lib.indexByte l c < 0 := by omega
          rcases this with h3 | h3
          · omega
          · exfalso
            have hk0 : k = 0 ∨ 0 < k := by omega
            rcases hk0 with h4 | h4
            · subst h4
              have : Lib.indexByte l c = -1 := by omega
              exact hne this
            · omega⟩
        simpa using hlo

/-- where the sign lies in a net's text, and what lies behind it -/
theorem text_at {t B : ByteArray} {es : List (ByteArray × ByteArray)} (h : TextOf t.data.toList B es) :
    Lib.indexByte t.data.toList 58 = (B.size : Int) ∧ B = t.extract 0 B.size ∧ (t.extract (B.size + 1) t.size).data.toList = tailF es ∧ es.length ≤ 16 ∧ ∀ e ∈ es, e.1.size = 1 ∧ e.2.size = 1 := by
  have ht := h.2
  rw [fmt_tail] at ht
  have hBl : B.data.toList.length = B.size := size_toList B
  have htl : t.data.toList.length = t.size := size_toList t
  have hz : t.size = B.size + 1 + (tailF es).length := by rw [← htl, ht]; simp; omega
  refine ⟨?_, ?_, ?_, (valid_sizes h.1).2, fun e he => ?_⟩
  · refine find_at _ _ B.size (by rw [htl]; omega) ?_ fun j hj => ?_
    · have : t.data.toList[B.size]? = some 58 := by
        rw [ht, List.append_assoc, List.getElem?_append_right (by omega), hBl]; simp
      exact (List.getElem?_eq_some_iff.1 this).2
    · rw [ht, List.append_assoc, List.getElem?_append_left (by omega)]
      intro hx
      exact h.blocks.2 (List.mem_of_getElem? hx)
  · refine bytes_ext ?_
    rw [Lib.extract_data, ht, ← hBl]; simp
  · rw [Lib.extract_data, hz, ht, ← hBl]
    have e1 : (B.data.toList ++ [58] ++ tailF es).drop (B.data.toList.length + 1) = tailF es := by
      rw [List.drop_append_of_le_length (by simp)]
      rw [List.drop_of_length_le (by simp)]
      rfl
    rw [e1, List.take_of_length_le (by omega)]
  · obtain ⟨x, y, e1, e2, _⟩ := h.ones e he
    rw [← size_toList, ← size_toList, e1, e2]
    exact ⟨rfl, rfl⟩

/-- a text with a sign, parted -/
theorem text_parts {t : ByteArray} {k : Nat} (h : Lib.indexByte t.data.toList 58 = (k : Int)) : t.data.toList = (t.extract 0 k).data.toList ++ [58] ++ (t.extract (k + 1) t.size).data.toList := by
  have hlt := index_lt _ _ k h
  have hat := index_at _ _ k h
  have htl : t.data.toList.length = t.size := size_toList t
  have e : t.data.toList[k] = 58 := (List.getElem?_eq_some_iff.1 hat).2
  rw [Lib.extract_data, Lib.extract_data]
  have h1 := List.take_append_drop k t.data.toList
  rw [List.drop_eq_getElem_cons hlt, e] at h1
  have h2 : ((t.data.toList.drop (k + 1)).take (t.size - (k + 1))) = t.data.toList.drop (k + 1) := List.take_of_length_le (by rw [List.length_drop]; omega)
  rw [h2]
  simp only [List.drop_zero, Nat.sub_zero, List.append_assoc, List.singleton_append]
  exact h1.symm

theorem parse_none {t : ByteArray} (h : ¬ 0 ≤ Lib.indexByte t.data.toList 58) : parseQ t = (⟨#[]⟩, [], false) :=
  parseQ_no fun B es hx => h (by rw [(text_at hx).1]; omega)
theorem parse_bad {t : ByteArray} {k : Nat} (h : Lib.indexByte t.data.toList 58 = (k : Int)) (hg : ¬ Good (t.extract (k + 1) t.size)) : parseQ t = (⟨#[]⟩, [], false) :=
  parseQ_no fun B es hx => by
    obtain ⟨h1, _, h3, h4, h5⟩ := text_at hx
    have hk : B.size = k := by omega
    rw [hk] at h3
    exact hg (tail_good es _ h5 h3 h4).1
theorem parse_not {t : ByteArray} {k : Nat} (h : Lib.indexByte t.data.toList 58 = (k : Int)) (hv : ¬ Valid (t.extract 0 k).data.toList (ebs (rds (t.extract (k + 1) t.size) ((t.extract (k + 1) t.size).size / 3)))) : parseQ t = (⟨#[]⟩, [], false) :=
  parseQ_no fun B es hx => by
    obtain ⟨h1, h2, h3, h4, h5⟩ := text_at hx
    have hk : B.size = k := by omega
    rw [hk] at h3 h2
    have h6 := (tail_good es _ h5 h3 h4).2
    rw [h6, ← h2] at hv
    exact hv hx.1
theorem parse_yes {t : ByteArray} {k : Nat} (h : Lib.indexByte t.data.toList 58 = (k : Int)) (hg : Good (t.extract (k + 1) t.size)) (hv : Valid (t.extract 0 k).data.toList (ebs (rds (t.extract (k + 1) t.size) ((t.extract (k + 1) t.size).size / 3)))) :
    parseQ t = (t.extract 0 k, rds (t.extract (k + 1) t.size) ((t.extract (k + 1) t.size).size / 3), true) := by
  refine parseQ_yes ⟨hv, ?_⟩
  rw [fmt_tail, (good_tail hg _ (Nat.le_refl _)).1, List.take_of_length_le (by rw [size_toList]; have := hg.2.1; omega)]
  exact text_parts h

/-- what is handed back: a net and no error, or an error -/
def NetErr (q : NetQ) (w : World) (e : Ending) (w' : World) : Prop :=
  ∃ A cap er, e = .returned (.tuple #[.agg #[.string q.1, .slice A q.2.1.length cap], er]) ∧ (er = .nilIface ∧ q.2.2 = true ∨ (∃ x, er = .iface 75 x) ∧ q.2.2 = false) ∧ EdgesIn w' w'.heap.size A q.2.1 ∧ Below w.heap.size w w' ∧ OwnEdges w' w.heap.size A q.2.1.length

end Go.Proofs.YtghdjmjodgbghaaDoor
