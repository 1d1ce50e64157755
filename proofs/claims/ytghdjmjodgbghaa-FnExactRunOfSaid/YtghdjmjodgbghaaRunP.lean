/- The run of a number: the last edge whose value is not above it, and on. -/
import Derived.Test.YtghdjmjodgbghaaValS
namespace Go.Proofs.Ytghdjmjodgbghaa
open Go.RowKit

theorem valE_small {B : ByteArray} {es : List (ByteArray × ByteArray)} {O : List UInt8} (h : Acy B es O) {k : Nat} (hk : k < es.length) : valE (ebs es) (exit_ B.data.toList) k ≤ 4294967296 := by
  obtain ⟨x, y, he, _, _, hx, _⟩ := edge_letters h.F.lets hk
  obtain ⟨r, h1, h2⟩ := h.at_ hx
  rw [valE_eq he]
  exact sumC_few (by rw [ebs_len]; exact h.F.few) h1 h2 (by have := h.F.few; omega)

/-- the last of some numbers that fit -/
def lastO (q : Nat → Bool) (l : List Nat) : Option Nat := (l.filter q).getLast?
theorem lastO_nil (q : Nat → Bool) : lastO q [] = none := rfl
theorem lastO_yes {q : Nat → Bool} {l : List Nat} {x : Nat} (h : q x = true) : lastO q (l ++ [x]) = some x := by simp [lastO, h]
theorem lastO_no {q : Nat → Bool} {l : List Nat} {x : Nat} (h : q x = false) : lastO q (l ++ [x]) = lastO q l := by simp [lastO, h]
theorem lastO_mem {q : Nat → Bool} {l : List Nat} {x : Nat} (h : lastO q l = some x) : x ∈ l ∧ q x = true := by
  have := List.mem_of_getLast? h
  exact List.mem_filter.1 this
theorem lastO_has {q : Nat → Bool} {l : List Nat} {x : Nat} (h : x ∈ l) (hq : q x = true) : ∃ y, lastO q l = some y := by
  have hm : x ∈ l.filter q := List.mem_filter.2 ⟨h, hq⟩
  cases hl : l.filter q with
  | nil => rw [hl] at hm; simp at hm
  | cons a r => exact ⟨_, by unfold lastO; rw [hl]; exact List.getLast?_eq_some_getLast (by simp)⟩

/-- the last edge from a block whose value is not above a number -/
def lastE (es : List (ByteArray × ByteArray)) (t b : UInt8) (m : Nat) : Option Nat := lastO (fun k => decide (valE (ebs es) t k ≤ m)) (outsOf es b)
/-- where an edge leads -/
def toE (es : List (ByteArray × ByteArray)) (k : Nat) : UInt8 := ((ebs es).getD k ([], [])).2.headD 0
/-- the edges of a run by its number, so many at most -/
def runE (es : List (ByteArray × ByteArray)) (t : UInt8) : Nat → UInt8 → Nat → List UInt8
  | 0, _, _ => []
  | f + 1, b, m => if b = t then [] else match lastE es t b m with
    | none => []
    | some k => nameOf k :: runE es t f (toE es k) (m - valE (ebs es) t k)
theorem runE_end (es : List (ByteArray × ByteArray)) (t : UInt8) (f m : Nat) : runE es t f t m = [] := by
  cases f with
  | zero => rfl
  | succ f => simp [runE]
theorem runE_go {es : List (ByteArray × ByteArray)} {t b : UInt8} {f m k : Nat} (hb : b ≠ t) (h : lastE es t b m = some k) : runE es t (f + 1) b m = nameOf k :: runE es t f (toE es k) (m - valE (ebs es) t k) := by
  rw [runE, if_neg hb, h]
theorem runE_len (es : List (ByteArray × ByteArray)) (t : UInt8) : ∀ (f : Nat) (b : UInt8) (m : Nat), (runE es t f b m).length ≤ f
  | 0, _, _ => by simp [runE]
  | f + 1, b, m => by
    unfold runE
    split
    · simp
    · split
      · simp
      · have := runE_len es t f
        simp only [List.length_cons]
        rename_i k _
        have := this (toE es k) (m - valE (ebs es) t k)
        omega

/-- there is such an edge, and it leads nearer to the exit -/
theorem lastE_some {B : ByteArray} {es : List (ByteArray × ByteArray)} {O : List UInt8} (hA : Acy B es O) {b : UInt8} (hb : b ∈ B.data.toList) (hbt : b ≠ exit_ B.data.toList) (m : Nat) :
    ∃ k, lastE es (exit_ B.data.toList) b m = some k ∧ k < es.length ∧ valE (ebs es) (exit_ B.data.toList) k ≤ m ∧ (ebs es)[k]? = some ([b], [toE es k]) ∧ toE es k ∈ B.data.toList ∧ es.getD k (⟨#[]⟩, ⟨#[]⟩) = (⟨#[b]⟩, ⟨#[toE es k]⟩) := by
  obtain ⟨i, y, hi⟩ := hA.out b hb hbt
  have hm := outs_has hi
  have hpos : 0 < (outsOf es b).length := List.length_pos_of_mem hm
  obtain ⟨k0, hk0⟩ : ∃ k0, (outsOf es b)[0] = k0 := ⟨_, rfl⟩
  have hk0m : k0 ∈ outsOf es b := hk0 ▸ List.getElem_mem hpos
  obtain ⟨hk0l, y0, hy0, _⟩ := outsOf_mem hA.F.lets hk0m
  have hv0 : valE (ebs es) (exit_ B.data.toList) k0 = 0 := by
    rw [valE_eq hy0, ← sumC_outs hA.F.lets _ b hpos hk0]
    rfl
  obtain ⟨k, hk⟩ := lastO_has (q := fun k => decide (valE (ebs es) (exit_ B.data.toList) k ≤ m)) hk0m (by simp [hv0])
  obtain ⟨h1, h2⟩ := lastO_mem hk
  obtain ⟨hkl, y2, hy2, hy3, hyl⟩ := outsOf_mem hA.F.lets h1
  have ht : toE es k = y2 := by
    unfold toE
    rw [List.getD_eq_getElem?_getD, hy2]; rfl
  obtain ⟨x, y', he, e1, e2, hx, _⟩ := edge_letters hA.F.lets hkl
  rw [hy2] at he
  injection he with he
  injection he with he1 he2
  injection he1 with he1
  subst he1
  refine ⟨k, hk, hkl, by simpa using h2, by rw [ht]; exact hy2, by rw [ht]; exact hyl, ?_⟩
  rw [ht, List.getD_eq_getElem?_getD, List.getElem?_eq_getElem hkl, Option.getD_some]
  exact Prod.ext e1 hy3

/-- the run of a number, or none -/
noncomputable def runOfV (B : ByteArray) (es : List (ByteArray × ByteArray)) (m : Int) : ByteArray × Bool :=
  if acycV B es = true ∧ 0 ≤ m ∧ m < runsV B es then (⟨(runE es (exit_ B.data.toList) 8 (entry B.data.toList) m.toNat).toArray⟩, true) else (⟨#[]⟩, false)

/-- where a walk stands: so many edges behind it, and the rest of them -/
structure RunAt (B : ByteArray) (es : List (ByteArray × ByteArray)) (t : UInt8) (tot : List UInt8) (p : ByteArray) (b : UInt8) (m : Nat) : Prop where
  sz : p.size ≤ 7
  tot : p.data.toList ++ runE es t (8 - p.size) b m = tot
  mem : b ∈ B.data.toList
  topo : ∃ r, Topo (ebs es) (b :: r) ∧ r.length ≤ 7 ∧ p.size + r.length ≤ 7
theorem RunAt.start {B : ByteArray} {es : List (ByteArray × ByteArray)} {O : List UInt8} (hA : Acy B es O) (m : Nat) : RunAt B es (exit_ B.data.toList) (runE es (exit_ B.data.toList) 8 (entry B.data.toList) m) ⟨#[]⟩ (entry B.data.toList) m := by
  obtain ⟨r, h1, h2⟩ := hA.at_ hA.F.ent
  have e0 : (⟨#[]⟩ : ByteArray).size = 0 := rfl
  exact ⟨by omega, by rw [e0]; rfl, hA.F.ent, r, h1, h2, by omega⟩
theorem RunAt.done {B : ByteArray} {es : List (ByteArray × ByteArray)} {t : UInt8} {tot : List UInt8} {p : ByteArray} {m : Nat} (h : RunAt B es t tot p t m) : p = ⟨tot.toArray⟩ := by
  have := h.tot
  rw [runE_end, List.append_nil] at this
  exact bytes_ext (by rw [this])
theorem RunAt.step {B : ByteArray} {es : List (ByteArray × ByteArray)} {tot : List UInt8} {p : ByteArray} {b : UInt8} {m k : Nat} {t : UInt8} (h : RunAt B es t tot p b m) (hbt : b ≠ t)
    (hk : lastE es t b m = some k) (he : (ebs es)[k]? = some ([b], [toE es k])) (hm : toE es k ∈ B.data.toList) : RunAt B es t tot (p ++ ⟨#[nameOf k]⟩) (toE es k) (m - valE (ebs es) t k) ∧ p.size ≤ 6 := by
  obtain ⟨r, h1, h2, h3⟩ := h.topo
  obtain ⟨r2, g1, g2, g3⟩ := topo_to h1 h2 (List.mem_of_getElem? he)
  have hz : (p ++ ⟨#[nameOf k]⟩ : ByteArray).size = p.size + 1 := by
    rw [ByteArray.size_append]; rfl
  refine ⟨⟨by rw [hz]; omega, ?_, hm, r2, g1, g2, by rw [hz]; omega⟩, by omega⟩
  have ht := h.tot
  have e : 8 - p.size = (8 - (p.size + 1)) + 1 := by omega
  rw [e, runE_go hbt hk] at ht
  rw [hz, ← ht, Go.Joins.data_append]
  simp

end Go.Proofs.Ytghdjmjodgbghaa
