/- The text of marks: pure. -/
import Derived.Test.YtgenhkmlnflnfaaDoorMkL
import Derived.Lib.ItoaNum
namespace Go.Proofs.YtgenhkmlnflnfaaDoor
open Go.RowKit

/-- what is done, as text -/
def deedT (a : ByteArray) (n : Int) : List UInt8 := if a.toList == [115, 101, 116] then [114, 61] ++ Lib.itoa n else if a.toList == [97, 100, 100] then [114, 43] ++ Lib.itoa n else if a.toList == [102, 105, 120] then [102] ++ Lib.itoa n else [45]
/-- a mark, as text -/
def fmL (m : Mk) : List UInt8 := deedT m.1 m.2.1 ++ (if m.2.2 then [99] else [])
def fmAt (ms : List Mk) (i : Nat) : List UInt8 := (if 0 < i then [32] else []) ++ fmL (ms.getD i (⟨#[]⟩, 0, false))
def fmTo (ms : List Mk) (k : Nat) : List UInt8 := ((List.range k).map (fmAt ms)).flatten
theorem fmTo_succ (ms : List Mk) (k : Nat) : fmTo ms (k + 1) = fmTo ms k ++ fmAt ms k := by
  unfold fmTo; rw [List.range_succ, List.map_append, List.flatten_append]; simp
def formatV (ms : List Mk) : List UInt8 := if ms.length = 0 then [45] else fmTo ms ms.length

theorem nDigits_le : ∀ (k u : Nat), 1 ≤ k → u < 10 ^ k → Lib.nDigits u ≤ k
  | 0, _, h, _ => absurd h (by omega)
  | 1, u, _, h => by rw [Lib.nDigits_small (by simpa using h)]; omega
  | k + 2, u, _, h => by
    rw [Lib.nDigits]
    split
    · omega
    · have := nDigits_le (k + 1) (u / 10) (by omega) (by rw [Nat.pow_succ] at h; omega)
      omega
theorem nDigits_20 {u : Nat} (h : u ≤ 9223372036854775808) : Lib.nDigits u ≤ 20 := nDigits_le 20 u (by omega) (by omega)
theorem itoa_len {n : Int} (h0 : -9223372036854775808 ≤ n) (h1 : n ≤ 9223372036854775807) : (Lib.itoa n).length ≤ 21 := by
  unfold Lib.itoa
  split
  · rw [List.length_cons, Lib.decDigits_length]
    have := nDigits_20 (u := n.natAbs) (by omega)
    omega
  · rw [Lib.decDigits_length]
    have := nDigits_20 (u := n.toNat) (by omega)
    omega
theorem deedT_len {a : ByteArray} {n : Int} (h0 : -9223372036854775808 ≤ n) (h1 : n ≤ 9223372036854775807) : 1 ≤ (deedT a n).length ∧ (deedT a n).length ≤ 23 := by
  have h := itoa_len h0 h1
  unfold deedT
  split
  · simp only [List.length_append, List.length_cons, List.length_nil]; omega
  · split
    · simp only [List.length_append, List.length_cons, List.length_nil]; omega
    · split
      · simp only [List.length_append, List.length_cons, List.length_nil]; omega
      · simp
/-- marks whose numbers are such -/
def MksWf (ms : List Mk) : Prop := ∀ m ∈ ms, -9223372036854775808 ≤ m.2.1 ∧ m.2.1 ≤ 9223372036854775807
theorem fmTo_len {ms : List Mk} (hw : MksWf ms) : ∀ k, k ≤ ms.length → k ≤ (fmTo ms k).length ∧ (fmTo ms k).length ≤ 25 * k
  | 0, _ => by simp [fmTo]
  | k + 1, h => by
    obtain ⟨h1, h2⟩ := fmTo_len hw k (by omega)
    rw [fmTo_succ, List.length_append]
    have hm : ms.getD k (⟨#[]⟩, 0, false) = ms[k] := by rw [List.getD_eq_getElem?_getD, List.getElem?_eq_getElem (by omega)]; rfl
    have hl := hw ms[k] (List.getElem_mem (by omega))
    have h3 := deedT_len (a := ms[k].1) hl.1 hl.2
    unfold fmAt fmL
    rw [hm]
    simp only [List.length_append]
    have e1 : (if 0 < k then ([32] : List UInt8) else []).length ≤ 1 := by split <;> simp
    have e2 : (if ms[k].2.2 = true then ([99] : List UInt8) else []).length ≤ 1 := by split <;> simp
    omega

end Go.Proofs.YtgenhkmlnflnfaaDoor
