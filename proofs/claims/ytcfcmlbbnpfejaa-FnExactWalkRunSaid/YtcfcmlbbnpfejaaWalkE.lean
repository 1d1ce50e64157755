/- A walk that numbers pick, as lists; numbers as they lie in memory. -/
import Derived.Test.YtcfcmlbbnpfejaaOrderV
import Derived.Test.YtcfcmlbbnpfejaaBfs
namespace Go.Proofs.Ytcfcmlbbnpfejaa
open Go.RowKit

/-- numbers as they lie in memory -/
def IntsIn (w : World) (B : Nat) (A : Option Addr) (xs : List Int) : Prop :=
  ∀ k, (h : k < xs.length) → ∃ b o, A = some ⟨b, o, none⟩ ∧ b < B ∧ w.cell? ⟨b, o + k, none⟩ = some (.int .i64 xs[k])
theorem IntsIn.below {w w' : World} {B : Nat} {A : Option Addr} {xs : List Int} (h : IntsIn w B A xs) (hb : Below B w w') : IntsIn w' B A xs := by
  intro k hk
  obtain ⟨b, o, e, hl, h1⟩ := h k hk
  exact ⟨b, o, e, hl, (hb.cell hl).trans h1⟩
theorem IntsIn.more {w : World} {B B' : Nat} {A : Option Addr} {xs : List Int} (h : IntsIn w B A xs) (hb : B ≤ B') : IntsIn w B' A xs := by
  intro k hk
  obtain ⟨b, o, e, hl, h1⟩ := h k hk
  exact ⟨b, o, e, by omega, h1⟩

/-- the place, among the edges of a block, that a number picks -/
def pickAt (es : List (ByteArray × ByteArray)) (b : UInt8) (k : Int) : Nat := (k % ((outsOf es b).length : Int)).toNat
/-- the edge that it picks -/
def pickE (es : List (ByteArray × ByteArray)) (b : UInt8) (k : Int) : Nat := (outsOf es b).getD (pickAt es b k) 0

/-- from a block on, by numbers: none if one that is looked at is negative -/
def walkE (es : List (ByteArray × ByteArray)) (t : UInt8) : List Int → UInt8 → List UInt8 → Option (UInt8 × List UInt8)
  | [], b, p => some (b, p)
  | k :: ks, b, p => if b = t ∨ 30 ≤ p.length then some (b, p) else if k < 0 then none else walkE es t ks (tgt es (pickE es b k)) (p ++ [nameOf (pickE es b k)])
theorem walkE_stop {es : List (ByteArray × ByteArray)} {t b : UInt8} {p : List UInt8} (ks : List Int) (h : b = t ∨ 30 ≤ p.length) : walkE es t ks b p = some (b, p) := by
  cases ks with
  | nil => rfl
  | cons k ks => simp only [walkE]; rw [if_pos h]
theorem walkE_none {es : List (ByteArray × ByteArray)} {t b : UInt8} {p : List UInt8} {k : Int} {ks : List Int} (h : ¬ (b = t ∨ 30 ≤ p.length)) (hk : k < 0) : walkE es t (k :: ks) b p = none := by
  simp only [walkE]; rw [if_neg h, if_pos hk]
theorem walkE_go {es : List (ByteArray × ByteArray)} {t b : UInt8} {p : List UInt8} {k : Int} {ks : List Int} (h : ¬ (b = t ∨ 30 ≤ p.length)) (hk : ¬ k < 0) : walkE es t (k :: ks) b p = walkE es t ks (tgt es (pickE es b k)) (p ++ [nameOf (pickE es b k)]) := by
  simp only [walkE]; rw [if_neg h, if_neg hk]

/-- the whole run, of a net that is one, if no number that is looked at is negative -/
noncomputable def walkV (B : ByteArray) (es : List (ByteArray × ByteArray)) (xs : List Int) : ByteArray × Bool :=
  match walkE es (exit_ B.data.toList) xs (entry B.data.toList) [] with
  | some (b, p) => textV (Valid B.data.toList (ebs es)) (p ++ pathE (ebs es) b (exit_ B.data.toList))
  | none => (⟨#[]⟩, false)
theorem walkV_no {B : ByteArray} {es : List (ByteArray × ByteArray)} {xs : List Int} (h : ¬ Valid B.data.toList (ebs es)) : walkV B es xs = (⟨#[]⟩, false) := by
  unfold walkV; split
  · exact textV_no h
  · rfl
theorem walkV_yes {B : ByteArray} {es : List (ByteArray × ByteArray)} {xs : List Int} {b : UInt8} {p : List UInt8} (h : Valid B.data.toList (ebs es)) (hw : walkE es (exit_ B.data.toList) xs (entry B.data.toList) [] = some (b, p)) : walkV B es xs = (⟨(p ++ pathE (ebs es) b (exit_ B.data.toList)).toArray⟩, true) := by
  unfold walkV; rw [hw]; exact textV_yes h
theorem walkV_none {B : ByteArray} {es : List (ByteArray × ByteArray)} {xs : List Int} (hw : walkE es (exit_ B.data.toList) xs (entry B.data.toList) [] = none) : walkV B es xs = (⟨#[]⟩, false) := by
  unfold walkV; rw [hw]

theorem pathE_len8 (E : Eds) (s t : UInt8) : (pathE E s t).length ≤ 8 := by
  unfold pathE
  cases h : (bfs E s 8).find? (fun x => x.1 == t) with
  | none => simp
  | some x => exact bfs_plen 8 x (List.mem_of_find?_eq_some h)

/-- each block but the exit is left by an edge -/
theorem outs_pos {B : ByteArray} {es : List (ByteArray × ByteArray)} (hv : Valid B.data.toList (ebs es)) {b : UInt8} (hb : b ∈ B.data.toList) (hne : b ≠ exit_ B.data.toList) : 0 < (outsOf es b).length := by
  have hw := hv.2.2 b hb
  cases hw with
  | refl => exact absurd rfl hne
  | step _ he =>
    obtain ⟨c, h1⟩ : ∃ c, ([b], [c]) ∈ ebs es := ⟨_, mem_flip.1 he⟩
    obtain ⟨i, hi⟩ := List.mem_iff_getElem?.1 h1
    have hlt : i < es.length := by have := (List.getElem?_eq_some_iff.1 hi).1; simpa [ebs] using this
    have ho : i ∈ outsOf es b := by
      refine List.mem_filter.2 ⟨by simpa using hlt, ?_⟩
      rw [outB_at hlt]
      have : (es[i].1.data.toList, es[i].2.data.toList) = ([b], [c]) := by
        simp only [ebs, List.getElem?_map, List.getElem?_eq_getElem hlt, Option.map_some] at hi
        injection hi
      injection this with h2 _
      rw [Lib.toList_data, Lib.toList_data, h2]; simp
    exact List.length_pos_of_mem ho

theorem pickAt_lt {es : List (ByteArray × ByteArray)} {b : UInt8} {k : Int} (h : 0 < (outsOf es b).length) : pickAt es b k < (outsOf es b).length ∧ k % ((outsOf es b).length : Int) = (pickAt es b k : Int) := by
  have h1 := Int.emod_nonneg k (show ((outsOf es b).length : Int) ≠ 0 by omega)
  have h2 := Int.emod_lt_of_pos k (show (0 : Int) < ((outsOf es b).length : Int) by omega)
  unfold pickAt
  omega
theorem pickE_mem {es : List (ByteArray × ByteArray)} {b : UInt8} {k : Int} (h : 0 < (outsOf es b).length) : pickE es b k ∈ outsOf es b := by
  have h1 := (pickAt_lt (k := k) h).1
  unfold pickE
  rw [List.getD_eq_getElem?_getD, List.getElem?_eq_getElem h1]
  exact List.getElem_mem h1

end Go.Proofs.Ytcfcmlbbnpfejaa
