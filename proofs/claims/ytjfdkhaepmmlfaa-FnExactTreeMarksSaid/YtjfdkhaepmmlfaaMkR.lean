/- Early marks of steps: what is known of them. -/
import Derived.Test.YtjfdkhaepmmlfaaMkE
import Derived.Test.YtjfdkhaepmmlfaaZ6P
namespace Go.Proofs.Ytjfdkhaepmmlfaa
open Go.RowKit

theorem tree_facts {B : ByteArray} {es : List (ByteArray × ByteArray)} {t : ByteArray} (h : (stpsV B es t).2 = true) : (stpsV B es t).1.length = es.length ∧ es.length ≤ 16 ∧ 1 ≤ B.size ∧ B.size ≤ 8 := by
  unfold stpsV at h ⊢
  split at h
  · rename_i ha
    rw [if_pos ha]
    have hA := acy_v (ask_yes ha).1
    exact ⟨by simp, hA.F.few, hA.F.one, hA.F.eight⟩
  · exact absurd h (by simp)
theorem mksE_lenT (B : ByteArray) (es : List (ByteArray × ByteArray)) (q : List Int × Bool) : (earlyMks B es q).1.length ≤ es.length := by
  unfold earlyMks
  split
  · simp only; rw [mksV_len]; omega
  · simp
theorem TreeMarksLen {B : ByteArray} {es : List (ByteArray × ByteArray)} {t : ByteArray} : (earlyMks B es (stpsV B es t)).1.length ≤ 16 := by
  cases h : (stpsV B es t).2 with
  | false => rw [earlyMks_no h]; simp
  | true => have h1 := (tree_facts h).2.1; have h2 := mksE_lenT B es (stpsV B es t); omega

end Go.Proofs.Ytjfdkhaepmmlfaa
