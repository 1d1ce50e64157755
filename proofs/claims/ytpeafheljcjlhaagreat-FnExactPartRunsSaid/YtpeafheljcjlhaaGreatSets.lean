/- Sets of letters, the keys texts of one: deleting, counting. -/
import Derived.Test.YtpeafheljcjlhaaGreatMaps
import Derived.Test.YtpeafheljcjlhaaGreatNetQ
import Derived.Laws.StructEq
namespace Go.Proofs.YtpeafheljcjlhaaGreat
open Go.RowKit Go.Instr Go.ChangeMaps

/-- one letter as a key -/
def encL (x : UInt8) : Value := .string ⟨#[x]⟩

theorem map_eraseIdx' {α β : Type} (f : α → β) : ∀ (l : List α) (i : Nat), (l.eraseIdx i).map f = (l.map f).eraseIdx i
  | [], i => by cases i <;> rfl
  | a :: l, 0 => rfl
  | a :: l, i + 1 => by simp only [List.eraseIdx_cons_succ, List.map_cons, map_eraseIdx' f l i]

/-- where a letter is found -/
theorem find_letter {P : Program} {kt : TypeId} (hk : P.underlying kt = some .string) (x : UInt8) (w : World) (es : List MapEntry) (xs : List UInt8) (he : es.map (·.key) = xs.map encL) (hv : ∀ e ∈ es, e.val = .bool true) :
    (findKey kt (encL x) es).run P w = .ok (if x ∈ xs then some (xs.idxOf x, .bool true) else none) w := by
  have main : ∀ (es : List MapEntry) (xs : List UInt8) (i : Nat), es.map (·.key) = xs.map encL → (∀ e ∈ es, e.val = .bool true) →
      findNow .string (encL x) es i = some (if x ∈ xs then some (i + xs.idxOf x, .bool true) else none) := by
    intro es
    induction es with
    | nil => intro xs i he _; cases xs with
      | nil => simp [findNow]
      | cons => simp at he
    | cons e es ih =>
      intro xs i he hv
      cases xs with
      | nil => simp at he
      | cons y ys =>
        simp at he
        have hi := ih ys (i + 1) (by simpa using he.2) (fun e he => hv e (by simp [he]))
        have hv0 := hv e (by simp)
        by_cases hxy : x = y
        · subst hxy
          have hs : sameNow .string (encL x) e.key = some true := by
            rw [he.1]
            simp only [sameNow, encL, beq_toListBytes]
            simp
          simp [findNow, hs, hv0]
        · have hs : sameNow .string (encL x) e.key = some false := by
            rw [he.1]
            simp only [sameNow, encL, beq_toListBytes, Lib.toList_data]
            simp [hxy]
          simp only [findNow, hs]
          rw [hi]
          have hyx : (y == x) = false := by rw [beq_eq_false_iff_ne]; exact fun e => hxy e.symm
          simp only [List.mem_cons, hxy, false_or, List.idxOf_cons, hyx, cond_false]
          split <;> simp [Nat.add_assoc, Nat.add_comm 1]
  have h := main es xs 0 he hv
  simp [findKey, run_underlying hk, h]

theorem keyL {P : Program} {kt : TypeId} (hk : P.underlying kt = some .string) : KeyEq P kt encL where
  check b x w := by rw [show (10000 : Nat) = 9999 + 1 from rfl, checkKey]; simp [run_underlying hk, encL]
  find x w es xs he hv := by
    have h := find_letter hk x w es xs he hv
    refine ⟨fun hx => ?_, fun hx => ?_⟩
    · rw [if_pos hx] at h; exact ⟨_, h⟩
    · rw [if_neg hx] at h; exact h

section
variable {P : Program} {kt : TypeId}

theorem SetAt.delete {t e k : TypeId} {w : World} {m : Nat} {xs : List UInt8} (h : SetAt w m (xs.map encL)) (hk : P.underlying kt = some .string) (ht : P.underlying t = some (.map kt e)) (x : UInt8) (ty : TypeId) :
    ∃ w', (Builtin.delete_ #[t, k] ty #[.map (some m), encL x]).run P w = .ok (.tuple #[]) w' ∧ SetAt w' m ((xs.erase x).map encL) ∧ w.grownBy w' (some m) := by
  obtain ⟨es, clock, hb, hke, hv⟩ := h
  have hf := find_letter hk x w es.toList xs hke hv
  have hc := (keyL (P := P) hk).check es.isEmpty x w
  by_cases hx : x ∈ xs
  · rw [if_pos hx] at hf
    refine ⟨setBlock w m (.map (es.eraseIdxIfInBounds (xs.idxOf x)) clock), ?_, ⟨_, _, heap_setBlock_same hb _, ?_, ?_⟩, ⟨rfl, rfl, rfl, by simp [setBlock], fun i _ hi => heap_setBlock_other hb _ (fun e => hi (by rw [e]))⟩⟩
    · simp [Builtin.delete_, run_underlying ht, MapKept.run_getObj_map hb, hc, hf, MapKept.run_setObj_map _ hb, Result.andThen, setBlock]
    · have hi : xs.idxOf x < xs.length := List.idxOf_lt_length_iff.2 hx
      have hl : es.size = xs.length := by have := congrArg List.length hke; simpa using this
      rw [Array.eraseIdxIfInBounds, dif_pos (by omega), Array.toList_eraseIdx, map_eraseIdx', hke, List.erase_eq_eraseIdx_of_idxOf rfl, map_eraseIdx']
    · intro e he
      rw [Array.eraseIdxIfInBounds] at he
      split at he
      · rw [Array.toList_eraseIdx] at he
        exact hv e (List.mem_of_mem_eraseIdx he)
      · exact hv e he
  · rw [if_neg hx] at hf
    refine ⟨setBlock w m (.map es clock), ?_, ⟨_, _, heap_setBlock_same hb _, ?_, hv⟩, ⟨rfl, rfl, rfl, by simp [setBlock], fun i _ hi => heap_setBlock_other hb _ (fun e => hi (by rw [e]))⟩⟩
    · simp [Builtin.delete_, run_underlying ht, MapKept.run_getObj_map hb, hc, hf, MapKept.run_setObj_map _ hb, Result.andThen, setBlock]
    · rw [List.erase_of_not_mem hx]; exact hke

theorem SetAt.len {t e : TypeId} {w : World} {m : Nat} {xs : List UInt8} (h : SetAt w m (xs.map encL)) (ht : P.underlying t = some (.map kt e)) (ty : TypeId) :
    (Builtin.len_ #[t] ty #[.map (some m)]).run P w = .ok (.int .i64 xs.length) w := by
  obtain ⟨es, clock, hb, hke, _⟩ := h
  have hl : es.size = xs.length := by have := congrArg List.length hke; simpa using this
  simp [Builtin.len_, run_underlying ht, MapKept.run_getObj_map hb, Result.andThen, goInt, hl]
theorem SetAt.below {w w' : World} {m : Nat} {ks : List Value} {B : Nat} (h : SetAt w m ks) (hb : Below B w w') (hm : m < B) : SetAt w' m ks := by
  obtain ⟨es, clock, hbk, hk, hv⟩ := h
  exact ⟨es, clock, (hb.block m hm).trans hbk, hk, hv⟩
theorem SetAt.lt {w : World} {m : Nat} {ks : List Value} (h : SetAt w m ks) : m < w.heap.size := by
  obtain ⟨es, clock, hbk, _⟩ := h
  exact (Array.getElem?_eq_some_iff.1 hbk).1
end

end Go.Proofs.YtpeafheljcjlhaaGreat
