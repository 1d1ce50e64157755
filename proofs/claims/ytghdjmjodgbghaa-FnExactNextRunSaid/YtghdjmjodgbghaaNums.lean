/- A map from letters to numbers, of the program's own. -/
import Derived.Test.YtghdjmjodgbghaaSets
namespace Go.Proofs.Ytghdjmjodgbghaa
open Go.RowKit Go.Instr Go.ChangeMaps

/-- what stands at a letter -/
def lookN : List (UInt8 × Int) → UInt8 → Option Int
  | [], _ => none
  | d :: D, x => if x = d.1 then some d.2 else lookN D x
def setN : List (UInt8 × Int) → UInt8 → Int → List (UInt8 × Int)
  | [], x, v => [(x, v)]
  | d :: D, x, v => if x = d.1 then (x, v) :: D else d :: setN D x v
theorem lookN_set (x : UInt8) (v : Int) (y : UInt8) : ∀ D : List (UInt8 × Int), lookN (setN D x v) y = if y = x then some v else lookN D y
  | [] => by simp [setN, lookN]
  | d :: D => by
    have ih := lookN_set x v y D
    unfold setN
    by_cases hx : x = d.1
    · rw [if_pos hx]
      simp only [lookN]
      by_cases hy : y = x
      · rw [if_pos hy, if_pos hy]
      · rw [if_neg hy, if_neg hy, if_neg (fun e => hy (e.trans hx.symm))]
    · rw [if_neg hx]
      simp only [lookN]
      by_cases hy : y = d.1
      · rw [if_pos hy, if_pos hy, if_neg (fun e => hx (e.symm.trans hy))]
      · rw [if_neg hy, if_neg hy, ih]

/-- block m is a map whose keys are letters, whose elements are numbers: what stands at each letter -/
def NumsIs (w : World) (m : Nat) (f : UInt8 → Option Int) : Prop :=
  ∃ (es : Array MapEntry) (clock : Nat) (D : List (UInt8 × Int)), w.heap[m]? = some (.map es clock) ∧ es.toList.map (·.key) = D.map (fun d => encL d.1) ∧ es.toList.map (·.val) = D.map (fun d => .int .i64 d.2) ∧ ∀ x, lookN D x = f x

theorem find_num (x : UInt8) : ∀ (es : List MapEntry) (D : List (UInt8 × Int)) (i : Nat), es.map (·.key) = D.map (fun d => encL d.1) → es.map (·.val) = D.map (fun d => .int .i64 d.2) →
    (lookN D x = none → findNow .string (encL x) es i = some none ∧ ∀ v, setN D x v = D ++ [(x, v)]) ∧
    (∀ c, lookN D x = some c → ∃ j, j < es.length ∧ findNow .string (encL x) es i = some (some (i + j, .int .i64 c)) ∧ (es[j]?.map (·.key)) = some (encL x) ∧ ∀ v, setN D x v = D.set j (x, v)) := by
  intro es
  induction es with
  | nil =>
    intro D i hk _
    cases D with
    | nil => exact ⟨fun _ => ⟨rfl, fun v => rfl⟩, fun c h => by simp [lookN] at h⟩
    | cons => simp at hk
  | cons e es ih =>
    intro D i hk hv
    cases D with
    | nil => simp at hk
    | cons d D =>
      simp only [List.map_cons, List.cons.injEq] at hk hv
      obtain ⟨h1, h2⟩ := ih D (i + 1) hk.2 hv.2
      by_cases hx : x = d.1
      · have hs : sameNow .string (encL x) e.key = some true := by
          rw [hk.1, ← hx]; simp only [sameNow, encL, beq_toListBytes]; simp
        simp only [lookN, if_pos hx, findNow, hs, setN]
        refine ⟨fun h => (by cases h), fun c hc => ⟨0, by simp, ?_, by simp [hk.1, ← hx], fun v => by simp⟩⟩
        injection hc with hc
        rw [hv.1, hc]; rfl
      · have hs : sameNow .string (encL x) e.key = some false := by
          rw [hk.1]; simp only [sameNow, encL, beq_toListBytes, Lib.toList_data]; simp [hx]
        simp only [lookN, if_neg hx, findNow, hs, setN]
        refine ⟨fun h => ⟨(h1 h).1, fun v => by rw [(h1 h).2 v]; rfl⟩, fun c hc => ?_⟩
        obtain ⟨j, q1, q2, q3, q4⟩ := h2 c hc
        exact ⟨j + 1, by simp; omega, by rw [q2, show i + 1 + j = i + (j + 1) by omega], by simpa using q3, fun v => by rw [q4 v]; rfl⟩

section
variable {P : Program} {kt : TypeId}

theorem NumsIs.lookup {t e : TypeId} {w : World} {m : Nat} {f : UInt8 → Option Int} (h : NumsIs w m f) (hk : P.underlying kt = some .string) (ht : P.underlying t = some (.map kt e)) (hz : (zeroValue e).run P w = .ok (.int .i64 0) w) (x : UInt8) :
    (Instr.lookup t (.map (some m)) (.string ⟨#[x]⟩) false).run P w = .ok (.int .i64 ((f x).getD 0)) w := by
  obtain ⟨es, clock, D, hb, h1, h2, h3⟩ := h
  obtain ⟨q1, q2⟩ := find_num x es.toList D 0 h1 h2
  have hc := (keyL (P := P) hk).check es.isEmpty x w
  rw [show (encL x) = .string ⟨#[x]⟩ from rfl] at hc
  rw [← h3 x]
  cases hl : lookN D x with
  | none =>
    have hf : (findKey kt (.string ⟨#[x]⟩) es.toList).run P w = .ok none w := by
      have := (q1 hl).1
      rw [show (encL x) = .string ⟨#[x]⟩ from rfl] at this
      simp [findKey, run_underlying hk, this]
    simp [Instr.lookup, run_underlying ht, MapKept.run_getObj_map hb, hc, hf, hz, Result.andThen]
  | some c =>
    obtain ⟨j, _, hj, _, _⟩ := q2 c hl
    have hf : (findKey kt (.string ⟨#[x]⟩) es.toList).run P w = .ok (some (0 + j, .int .i64 c)) w := by
      rw [show (encL x) = .string ⟨#[x]⟩ from rfl] at hj
      simp [findKey, run_underlying hk, hj]
    simp [Instr.lookup, run_underlying ht, MapKept.run_getObj_map hb, hc, hf, Result.andThen]

theorem NumsIs.lookup2 {t e : TypeId} {w : World} {m : Nat} {f : UInt8 → Option Int} (h : NumsIs w m f) (hk : P.underlying kt = some .string) (ht : P.underlying t = some (.map kt e)) (hz : (zeroValue e).run P w = .ok (.int .i64 0) w) (x : UInt8) :
    (Instr.lookup t (.map (some m)) (.string ⟨#[x]⟩) true).run P w = .ok (.tuple #[.int .i64 ((f x).getD 0), .bool (f x).isSome]) w := by
  obtain ⟨es, clock, D, hb, h1, h2, h3⟩ := h
  obtain ⟨q1, q2⟩ := find_num x es.toList D 0 h1 h2
  have hc := (keyL (P := P) hk).check es.isEmpty x w
  rw [show (encL x) = .string ⟨#[x]⟩ from rfl] at hc
  rw [← h3 x]
  cases hl : lookN D x with
  | none =>
    have hf : (findKey kt (.string ⟨#[x]⟩) es.toList).run P w = .ok none w := by
      have := (q1 hl).1
      rw [show (encL x) = .string ⟨#[x]⟩ from rfl] at this
      simp [findKey, run_underlying hk, this]
    simp [Instr.lookup, run_underlying ht, MapKept.run_getObj_map hb, hc, hf, hz, Result.andThen]
  | some c =>
    obtain ⟨j, _, hj, _, _⟩ := q2 c hl
    have hf : (findKey kt (.string ⟨#[x]⟩) es.toList).run P w = .ok (some (0 + j, .int .i64 c)) w := by
      rw [show (encL x) = .string ⟨#[x]⟩ from rfl] at hj
      simp [findKey, run_underlying hk, hj]
    simp [Instr.lookup, run_underlying ht, MapKept.run_getObj_map hb, hc, hf, Result.andThen]

theorem NumsIs.update {t e : TypeId} {w : World} {m : Nat} {f : UInt8 → Option Int} (h : NumsIs w m f) (hk : P.underlying kt = some .string) (ht : P.underlying t = some (.map kt e)) (x : UInt8) (v : Int) :
    ∃ w', (Instr.mapUpdate t (.map (some m)) (.string ⟨#[x]⟩) (.int .i64 v)).run P w = .ok () w' ∧ NumsIs w' m (fun y => if y = x then some v else f y) ∧ w.grownBy w' (some m) := by
  obtain ⟨es, clock, D, hb, h1, h2, h3⟩ := h
  obtain ⟨q1, q2⟩ := find_num x es.toList D 0 h1 h2
  have hc := (keyL (P := P) hk).check false x w
  rw [show (encL x) = .string ⟨#[x]⟩ from rfl] at hc
  have hlook : ∀ y, lookN (setN D x v) y = if y = x then some v else f y := fun y => by rw [lookN_set, h3]
  cases hl : lookN D x with
  | none =>
    obtain ⟨hf0, hset⟩ := q1 hl
    have hf : (findKey kt (.string ⟨#[x]⟩) es.toList).run P w = .ok none w := by
      rw [show (encL x) = .string ⟨#[x]⟩ from rfl] at hf0
      simp [findKey, run_underlying hk, hf0]
    refine ⟨setBlock w m (.map (es.push { key := .string ⟨#[x]⟩, val := .int .i64 v, born := clock }) (clock + 1)), ?_, ⟨_, _, D ++ [(x, v)], heap_setBlock_same hb _, ?_, ?_, fun y => by rw [← hset v]; exact hlook y⟩, ⟨rfl, rfl, rfl, by simp [setBlock], fun i _ hi => heap_setBlock_other hb _ (fun e => hi (by rw [e]))⟩⟩
    · simp [Instr.mapUpdate, run_underlying ht, MapKept.run_getObj_map hb, hc, hf, MapKept.run_setObj_map _ hb, Result.andThen, setBlock]
    · simp [h1, encL]
    · simp [h2]
  | some c =>
    obtain ⟨j, hjl, hj, hjk, hset⟩ := q2 c hl
    have hf : (findKey kt (.string ⟨#[x]⟩) es.toList).run P w = .ok (some (0 + j, .int .i64 c)) w := by
      rw [show (encL x) = .string ⟨#[x]⟩ from rfl] at hj
      simp [findKey, run_underlying hk, hj]
    have hold : ((es[j]?).map (·.key)).getD (.string ⟨#[x]⟩) = .string ⟨#[x]⟩ := by
      rw [Array.getElem?_toList] at hjk
      rw [hjk]; rfl
    have hst : ∀ W, (keyThatStays (.string ⟨#[x]⟩) (.string ⟨#[x]⟩)).run P W = .ok (.string ⟨#[x]⟩) W := fun W => MapKept.run_keyThatStays (d := .string) (k := .string ⟨#[x]⟩) trivial
    refine ⟨setBlock w m (.map (es.modify j fun e => { e with key := .string ⟨#[x]⟩, val := .int .i64 v }) clock), ?_, ⟨_, _, D.set j (x, v), heap_setBlock_same hb _, ?_, ?_, fun y => by rw [← hset v]; exact hlook y⟩, ⟨rfl, rfl, rfl, by simp [setBlock], fun i _ hi => heap_setBlock_other hb _ (fun e => hi (by rw [e]))⟩⟩
    · simp [Instr.mapUpdate, run_underlying ht, MapKept.run_getObj_map hb, hc, hf, hold, hst, MapKept.run_setObj_map _ hb, Result.andThen, setBlock]
    · have hlen : es.toList.length = D.length := by have := congrArg List.length h1; simpa using this
      refine List.ext_getElem? fun i => ?_
      have hi := congrArg (fun l => l[i]?) h1
      simp only [List.getElem?_map] at hi
      simp only [List.getElem?_map, Array.toList_modify, List.getElem?_modify, List.getElem?_set]
      by_cases hij : j = i
      · subst hij
        have h5 : j < D.length := by omega
        have h6 : j < es.toList.length := hjl
        simp [List.getElem?_eq_getElem h6, encL, h5]
      · simp only [if_neg hij]
        simpa using hi
    · have hlen : es.toList.length = D.length := by have := congrArg List.length h1; simpa using this
      refine List.ext_getElem? fun i => ?_
      have hi := congrArg (fun l => l[i]?) h2
      simp only [List.getElem?_map] at hi
      simp only [List.getElem?_map, Array.toList_modify, List.getElem?_modify, List.getElem?_set]
      by_cases hij : j = i
      · subst hij
        have h5 : j < D.length := by omega
        have h6 : j < es.toList.length := hjl
        simp [List.getElem?_eq_getElem h6, h5]
      · simp only [if_neg hij]
        simpa using hi

theorem NumsIs.new (w : World) : NumsIs (w.alloc (.map #[] 0)) w.heap.size (fun _ => none) := ⟨#[], 0, [], heap_alloc_new _ _, rfl, rfl, fun _ => rfl⟩
theorem NumsIs.of_block {w w' : World} {m : Nat} {f : UInt8 → Option Int} (h : NumsIs w m f) (hb : w'.heap[m]? = w.heap[m]?) : NumsIs w' m f := by
  obtain ⟨es, clock, D, h0, rest⟩ := h
  exact ⟨es, clock, D, hb.trans h0, rest⟩
theorem NumsIs.below {w w' : World} {m : Nat} {f : UInt8 → Option Int} {B : Nat} (h : NumsIs w m f) (hb : Below B w w') (hm : m < B) : NumsIs w' m f := h.of_block (hb.block m hm)
theorem NumsIs.lt {w : World} {m : Nat} {f : UInt8 → Option Int} (h : NumsIs w m f) : m < w.heap.size := by
  obtain ⟨es, clock, D, h0, _⟩ := h
  exact (Array.getElem?_eq_some_iff.1 h0).1
theorem NumsIs.grown {w w' : World} {m : Nat} {f : UInt8 → Option Int} {row : Option Nat} (h : NumsIs w m f) (hg : w.grownBy w' row) (hr : some m ≠ row) : NumsIs w' m f := h.of_block (hg.block m h.lt hr)
end

end Go.Proofs.Ytghdjmjodgbghaa
