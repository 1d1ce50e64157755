/- Blocks that are kept, in the order of a net: by the program. -/
import Derived.Test.YtpeafheljcjlhaaGreatNameS
import Derived.Test.YtpeafheljcjlhaaGreatValid
import Derived.Test.YtpeafheljcjlhaaGreatSpec2
import Derived.Test.YtpeafheljcjlhaaGreatPaths
namespace Go.Proofs.YtpeafheljcjlhaaGreat
open Go.RowKit

theorem size_mk (l : List UInt8) : (⟨l.toArray⟩ : ByteArray).size = l.length := by show l.toArray.size = _; simp

/-- the letters of a text that are kept, so many looked at -/
def kept (p : UInt8 → Bool) (l : List UInt8) (k : Nat) : List UInt8 := (l.take k).filter p
theorem take_snoc {l : List UInt8} {k : Nat} (h : k < l.length) : l.take (k + 1) = l.take k ++ [l.getD k 0] := by
  rw [List.take_succ_eq_append_getElem h]; simp [List.getD, h]
theorem kept_zero (p : UInt8 → Bool) (l : List UInt8) : kept p l 0 = [] := rfl
theorem kept_yes {p : UInt8 → Bool} {l : List UInt8} {k : Nat} (h : k < l.length) (hp : p (l.getD k 0) = true) : kept p l (k + 1) = kept p l k ++ [l.getD k 0] := by
  unfold kept
  rw [take_snoc h, List.filter_append, List.filter_cons_of_pos hp]; rfl
theorem kept_no {p : UInt8 → Bool} {l : List UInt8} {k : Nat} (h : k < l.length) (hp : p (l.getD k 0) = false) : kept p l (k + 1) = kept p l k := by
  unfold kept
  rw [take_snoc h, List.filter_append, List.filter_cons_of_neg (fun e => by rw [hp] at e; cases e)]; simp
theorem kept_all (p : UInt8 → Bool) {l : List UInt8} {k : Nat} (h : l.length ≤ k) : kept p l k = l.filter p := by
  unfold kept
  rw [List.take_of_length_le h]
theorem kept_length (p : UInt8 → Bool) (l : List UInt8) (k : Nat) : (kept p l k).length ≤ l.length :=
  Nat.le_trans (List.length_filter_le _ _) (by simp; omega)

end Go.Proofs.YtpeafheljcjlhaaGreat
