/- Early marks of values: what is known of them. -/
import Derived.Test.YtjfdkhaepmmlfaaMkE
import Derived.Test.YtjfdkhaepmmlfaaZ6S
namespace Go.Proofs.Ytjfdkhaepmmlfaa
open Go.RowKit

theorem plain_facts {B : ByteArray} {es : List (ByteArray × ByteArray)} (h : (valuesV B es).2 = true) : (valuesV B es).1.length = es.length ∧ es.length ≤ 16 ∧ 1 ≤ B.size ∧ B.size ≤ 8 := by
  unfold valuesV at h ⊢
  split at h
  · rename_i ha
    rw [if_pos ha]
    have hA := acy_v ha
    exact ⟨by simp, hA.F.few, hA.F.one, hA.F.eight⟩
  · exact absurd h (by simp)
theorem mksE_len (B : ByteArray) (es : List (ByteArray × ByteArray)) (q : List Int × Bool) : (earlyMks B es q).1.length ≤ es.length := by
  unfold earlyMks
  split
  · simp only; rw [mksV_len]; omega
  · simp
theorem PlainMarksLen {B : ByteArray} {es : List (ByteArray × ByteArray)} : (earlyMks B es (valuesV B es)).1.length ≤ 16 := by
  cases h : (valuesV B es).2 with
  | false => rw [earlyMks_no h]; simp
  | true => have h1 := (plain_facts h).2.1; have h2 := mksE_len B es (valuesV B es); omega

end Go.Proofs.Ytjfdkhaepmmlfaa
