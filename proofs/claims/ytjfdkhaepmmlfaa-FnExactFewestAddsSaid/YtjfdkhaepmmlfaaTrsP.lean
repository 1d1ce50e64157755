/- All trees: labels that tell the same apart give the same trees. -/
import Derived.Test.YtjfdkhaepmmlfaaBstP
namespace Go.Proofs.Ytjfdkhaepmmlfaa
open Go.RowKit

theorem trs_same (E : Nat → Nat × Nat) (n : Nat) : ∀ (ks : List Nat), (∀ k ∈ ks, (E k).1 < n ∧ (E k).2 < n) → ∀ (f g : Nat → Nat) (m : Nat) (t : List UInt8), SameL n f g → trs E f ks m t = trs E g ks m t
  | [], _, f, g, m, t, _ => by cases m <;> rfl
  | k :: r, h, f, g, 0, t, hs => by rw [trs_zero, trs_zero]
  | k :: r, h, f, g, m + 1, t, hs => by
    obtain ⟨h1, h2⟩ := h k List.mem_cons_self
    have hr := fun x hx => h x (List.mem_cons_of_mem k hx)
    have e1 := trs_same E n r hr f g (m + 1) t hs
    have hj : SameL n (joinL f (E k).1 (E k).2) (joinL g (E k).1 (E k).2) := by
      intro i j hi hj
      have a := hs.join h1 h2 i j hi hj
      have b := (SameL.refl n g).join h1 h2 i j hi hj
      rw [a, b]
    have e2 := trs_same E n r hr _ _ m (t ++ [nameOf k]) hj
    have e3 := hs _ _ h1 h2
    rw [trs_step, trs_step, e1, e2]
    by_cases c : f (E k).1 = f (E k).2
    · rw [if_pos c, if_pos (e3.1 c)]
    · rw [if_neg c, if_neg (fun d => c (e3.2 d))]
theorem trs_joinR (E : Nat → Nat × Nat) (f : Nat → Nat) (p1 p2 n : Nat) (ks : List Nat) (m : Nat) (t : List UInt8) (h1 : p1 < n) (h2 : p2 < n) (h : ∀ k ∈ ks, (E k).1 < n ∧ (E k).2 < n) : trs E (joinL f p1 p2) ks m t = trs E (joinR f p1 p2) ks m t :=
  trs_same E n ks h _ _ m t ((SameL.refl n f).join h1 h2)

end Go.Proofs.Ytjfdkhaepmmlfaa
