/- The edges of a text, by the program. -/
import Derived.Test.YtghdjmjodgbghaaDoorParseS
import Derived.BigQuiet
namespace Go.Proofs.YtghdjmjodgbghaaDoor
open Go.RowKit

/-- the errors that the program hands out, as they lie -/
def Errs (W : World) : Prop := ∃ x y : Value, W.cell? ⟨0, 0, none⟩ = some (.iface 75 x) ∧ W.cell? ⟨1, 0, none⟩ = some (.iface 75 y) ∧ 2 ≤ W.heap.size
theorem Errs.below {W W' : World} (h : Errs W) (k : Below W.heap.size W W') : Errs W' := by
  obtain ⟨x, y, h1, h2, h3⟩ := h
  exact ⟨x, y, (k.cell (by simp only; omega)).trans h1, (k.cell (by simp only; omega)).trans h2, Nat.le_trans h3 k.size⟩

/-- an edge as it is read -/
def rd (s : ByteArray) (k : Nat) : ByteArray × ByteArray := (s.extract (3 * k + 1) (3 * k + 2), s.extract (3 * k + 2) (3 * k + 3))
def rds (s : ByteArray) (k : Nat) : List (ByteArray × ByteArray) := (List.range k).map (rd s)
theorem rds_succ (s : ByteArray) (k : Nat) : rds s (k + 1) = rds s k ++ [rd s k] := by simp [rds, List.range_succ]
theorem rds_length (s : ByteArray) (k : Nat) : (rds s k).length = k := by simp [rds]
/-- a text that edges can be read from -/
def Good (s : ByteArray) : Prop := s.size ≤ 48 ∧ s.size % 3 = 0 ∧ ∀ i, i < s.size / 3 → s.data.toList[3 * i]? = some 32

theorem tail_len (es : List (ByteArray × ByteArray)) (h : ∀ e ∈ es, e.1.size = 1 ∧ e.2.size = 1) : (tailF es).length = 3 * es.length := by
  induction es with
  | nil => rfl
  | cons e es ih =>
    have h1 := h e (by simp)
    have h2 := ih fun x hx => h x (by simp [hx])
    have e1 : e.1.data.toList.length = 1 := by simpa using h1.1
    have e2 : e.2.data.toList.length = 1 := by simpa using h1.2
    unfold tailF at h2 ⊢
    rw [List.flatMap_cons, List.length_append, h2]
    simp only [List.length_append, List.length_cons, List.length_nil, e1, e2]
    omega
theorem tail_snoc (es : List (ByteArray × ByteArray)) (e : ByteArray × ByteArray) : tailF (es ++ [e]) = tailF es ++ ([32] ++ e.1.data.toList ++ e.2.data.toList) := by simp [tailF]

/-- what is read from a good text is what it tells -/
theorem good_tail {s : ByteArray} (h : Good s) : ∀ k, k ≤ s.size / 3 → tailF (rds s k) = s.data.toList.take (3 * k) ∧ ∀ e ∈ rds s k, e.1.size = 1 ∧ e.2.size = 1
  | 0, _ => by simp [rds, tailF]
  | k + 1, hk => by
    obtain ⟨h1, h2⟩ := good_tail h k (by omega)
    have hl : s.data.toList.length = s.size := size_toList s
    have hz : 3 * k + 3 ≤ s.size := by have := h.2.1; omega
    have e0 : s.data.toList[3 * k]? = some 32 := h.2.2 k (by omega)
    have e1 := extract_one (o := s) (i := 3 * k + 1) (by omega)
    have e2 := extract_one (o := s) (i := 3 * k + 2) (by omega)
    constructor
    · rw [rds_succ, tail_snoc, h1]
      unfold rd
      simp only
      rw [e1, e2, show 3 * (k + 1) = 3 * k + 1 + 1 + 1 by omega,
        List.take_succ_eq_append_getElem (by omega), List.take_succ_eq_append_getElem (by omega), List.take_succ_eq_append_getElem (by omega)]
      have e3 : s.data.toList[3 * k]'(by omega) = 32 := by
        rw [List.getElem?_eq_getElem (by omega)] at e0
        injection e0
      rw [e3]
      simp only [List.append_assoc, List.singleton_append]
      rfl
    · intro e he
      rw [rds_succ] at he
      rcases List.mem_append.1 he with he | he
      · exact h2 e he
      · simp at he
        subst he
        unfold rd
        simp only
        rw [← size_toList, ← size_toList, e1, e2]
        exact ⟨rfl, rfl⟩

/-- a text that tells edges is good, and they are read -/
theorem tail_good : ∀ (es : List (ByteArray × ByteArray)) (s : ByteArray), (∀ e ∈ es, e.1.size = 1 ∧ e.2.size = 1) → s.data.toList = tailF es → es.length ≤ 16 → Good s ∧ rds s (s.size / 3) = es := by
  intro es s h1 h2 h3
  have hl := tail_len es h1
  rw [← h2, size_toList] at hl
  have hk : s.size / 3 = es.length := by omega
  have key : ∀ k, k ≤ es.length → (∀ i, i < k → s.data.toList[3 * i]? = some 32) ∧ rds s k = es.take k := by
    intro k
    induction k with
    | zero => intro _; exact ⟨fun i h => absurd h (by omega), by simp [rds]⟩
    | succ k ih =>
      intro hk
      obtain ⟨i1, i2⟩ := ih (by omega)
      have hsz := h1 es[k] (List.getElem_mem (by omega))
      obtain ⟨x, hx⟩ : ∃ x, es[k].1.data.toList = [x] := by
        have : es[k].1.data.toList.length = 1 := by rw [size_toList]; exact hsz.1
        exact List.length_eq_one_iff.1 this
      obtain ⟨y, hy⟩ : ∃ y, es[k].2.data.toList = [y] := by
        have : es[k].2.data.toList.length = 1 := by rw [size_toList]; exact hsz.2
        exact List.length_eq_one_iff.1 this
      have hsplit : s.data.toList = tailF (es.take k) ++ ([32, x, y] ++ tailF (es.drop (k + 1))) := by
        have e : es = es.take k ++ (es[k] :: es.drop (k + 1)) := by rw [← List.drop_eq_getElem_cons (by omega : k < es.length), List.take_append_drop]
        have e2 : tailF es = tailF (es.take k ++ (es[k] :: es.drop (k + 1))) := congrArg tailF e
        rw [h2, e2]
        simp only [tailF, List.flatMap_append, List.flatMap_cons, hx, hy]
        simp
      have hpl : (tailF (es.take k)).length = 3 * k := by
        rw [tail_len _ fun e he => h1 e (List.mem_of_mem_take he)]
        simp; omega
      have g0 : s.data.toList[3 * k]? = some 32 := by rw [hsplit, List.getElem?_append_right (by omega), hpl]; simp
      have g1 : s.data.toList[3 * k + 1]? = some x := by rw [hsplit, List.getElem?_append_right (by omega), hpl]; simp
      have g2 : s.data.toList[3 * k + 2]? = some y := by rw [hsplit, List.getElem?_append_right (by omega), hpl]; simp
      refine ⟨fun i hi => ?_, ?_⟩
      · by_cases hik : i < k
        · exact i1 i hik
        · have : i = k := by omega
          subst this; exact g0
      · rw [rds_succ, i2, List.take_succ_eq_append_getElem (by omega)]
        congr 1
        have hb1 : 3 * k + 1 < s.size := by have := (List.getElem?_eq_some_iff.1 g1).1; rwa [size_toList] at this
        have hb2 : 3 * k + 2 < s.size := by have := (List.getElem?_eq_some_iff.1 g2).1; rwa [size_toList] at this
        have f1 : (rd s k).1 = es[k].1 := bytes_ext (by
          unfold rd; simp only
          rw [extract_one hb1, hx]
          have := (List.getElem?_eq_some_iff.1 g1).2
          exact congrArg (fun z => [z]) this)
        have f2 : (rd s k).2 = es[k].2 := bytes_ext (by
          unfold rd; simp only
          rw [extract_one hb2, hy]
          have := (List.getElem?_eq_some_iff.1 g2).2
          exact congrArg (fun z => [z]) this)
        exact congrArg (fun z => [z]) (Prod.ext f1 f2)
  obtain ⟨k1, k2⟩ := key es.length (Nat.le_refl _)
  rw [hk]
  exact ⟨⟨by omega, by omega, fun i hi => k1 i (by omega)⟩, by rw [k2, List.take_length]⟩

end Go.Proofs.YtghdjmjodgbghaaDoor
