/- An iterator over all trees of a net is made: impl.treesOf. -/
import Derived.Test.YtjfdkhaepmmlfaaTrsI
import Derived.Test.YtjfdkhaepmmlfaaZ6C
import Derived.Deep.RegionHeld3
namespace Go.Proofs.Ytjfdkhaepmmlfaa
open Go.RowKit

set_option maxRecDepth 100000 in
set_option maxHeartbeats 2000000 in
/-- impl.treesOf -/
theorem treesOf_any (B : ByteArray) (A : Option Addr) (n cap : Nat) (w : World) (h2 : 2 ≤ B.size) (h8 : B.size ≤ 8) : Calls Try.prog 37 #[.agg #[.string B, .slice A n cap]] w fun e w' => ∃ (b : Nat) (f : Nat → Nat), e = .returned (.func (.func 103) #[] #[.pointer (some ⟨b + 2, 0, none⟩), .pointer (some ⟨b, 0, none⟩), .pointer (some ⟨b + 3, 0, none⟩), .pointer (some ⟨b + 1, 0, none⟩)]) ∧ w.heap.size ≤ b ∧ SameL B.size (fresh B.size) f ∧ TrsBox w' b B A n cap f ⟨#[]⟩ 0 ∧ Below w.heap.size w w' := by
  obtain ⟨x, hx⟩ : ∃ x, B.size - 1 = x := ⟨_, rfl⟩
  have z2 : IntKind.i64.wrap ((B.size : Int) - 1) = (x : Int) := by rw [IntWalk.i64_in _ (by omega)]; omega
  obtain ⟨f, hf⟩ : ∃ f : Nat → Nat, (fun i => if i < B.size then i else 0) = f := ⟨_, rfl⟩
  have FL : Hid (∀ W : World, Calls Try.prog 70 #[.agg #[.string B, .slice A n cap]] W fun e w' => e = .returned (arrL f) ∧ Below W.heap.size W w') := Lib.hid fun W => by
    rw [← hf]; exact labelsOf_any B _ W h8
  have FJ : Hid (∀ W : World, Calls Try.prog 71 #[arrL f, .int .i64 x, .int .i64 ((0 : Nat) : Int)] W fun e w' => e = .returned (arrL (joinR f x 0)) ∧ Below W.heap.size W w') := Lib.hid fun W => joined_any f x 0 W (by omega) (by omega)
  have hsame : SameL B.size (fresh B.size) (joinR f x 0) := by
    intro i j hi hj
    have hp : ∀ i, i < B.size → fresh B.size i = joinR f x 0 i := fun i hi => by
      rw [← hf]
      unfold fresh joinL joinR
      simp only
      rw [if_pos hi, hx, if_pos (show x < B.size by omega), if_pos (show 0 < B.size by omega)]
    rw [hp i hi, hp j hj]
  obtain ⟨f', hf'⟩ : ∃ f', joinR f x 0 = f' := ⟨_, rfl⟩
  rw [hf'] at FJ hsame
  have FT : Hid (∀ W : World, Calls Try.prog 74 #[.agg #[.string B, .slice A n cap], arrL f', .string ⟨#[]⟩, .int .i64 ((0 : Nat) : Int)] W fun e w' => e = .returned (.func (.func 103) #[] #[.pointer (some ⟨W.heap.size + 2, 0, none⟩), .pointer (some ⟨W.heap.size, 0, none⟩), .pointer (some ⟨W.heap.size + 3, 0, none⟩), .pointer (some ⟨W.heap.size + 1, 0, none⟩)]) ∧ TrsBox w' W.heap.size B A n cap f' ⟨#[]⟩ 0 ∧ Below W.heap.size W w') := Lib.hid fun W => treesFrom_any B A n cap f' ⟨#[]⟩ 0 W
  unfold arrL at FL FJ FT
  have hb1 : Below w.heap.size w (w.alloc (.cells #[.string B, .slice A n cap] 30)) := (Below.refl _ _).alloc (Nat.le_refl _) _
  have t1 := Two.made w B A n cap 30
  obtain ⟨w1, hw1⟩ : ∃ w1, w.alloc (.cells #[.string B, .slice A n cap] 30) = w1 := ⟨_, rfl⟩
  have hz1 : w1.heap.size = w.heap.size + 1 := by rw [← hw1]; simp
  rw [hw1] at hb1 t1
  have HW1 := Lib.hid hw1; have HSAME := Lib.hid hsame
  have HSS : Hid (∀ W, Below w1.heap.size w1 W → (W.cell? ⟨w.heap.size, 0, none⟩ = some (.string B) ∧ W.cell? ⟨w.heap.size, 1, none⟩ = some (.slice A n cap))) := Lib.hid fun W h => ⟨(t1.below h (by omega)).1, (t1.below h (by omega)).2⟩
  clear hx hf hf' hsame hw1 h8
  go_enter Try.func37, Try.ntmps37
  go_wp2_with fail
  rw [HW1.out]
  have hd0 := t1.1; have hd1 := t1.2
  go_quiet (fail)
  go_wp2_with fail
  have HBD : Hid (Below w1.heap.size w1 (w1.drewN nq)) := Lib.hid (below_drewN (Below.refl _ _) _)
  obtain ⟨w2, hw2⟩ : ∃ w2, w1.drewN nq = w2 := ⟨_, rfl⟩
  rw [hw2] at HBD
  rw [hw2]
  clear hw2 hd0 hd1
  go_region_held3 (fun W => W.cell? ⟨w.heap.size, 0, none⟩ = some (.string B) ∧ W.cell? ⟨w.heap.size, 1, none⟩ = some (.slice A n cap))
    (first
      | exact HSS.out _ HBD.out.drew
      | exact HSS.out _ HB3.out
      | exact HSS.out _ HB4.out
      | exact HSS.out _ HB5.out)
    (first
      | (go_at_call 74
         go_must (
         (refine (FT.out _).mono ?_)
         rintro e w5 ⟨rfl, htb, hb5⟩
         have HB5 : Hid (Below w1.heap.size w1 w5) := Lib.hid (HB4.out.trans (hb5.mono HB4.out.size))
         have HTB := Lib.hid htb
         clear hb5 htb))
      | (go_at_call 71
         go_must (
         (refine (FJ.out _).mono ?_)
         rintro e w4 ⟨rfl, hb4⟩
         have HB4 : Hid (Below w1.heap.size w1 w4) := Lib.hid (HB3.out.trans (hb4.mono HB3.out.size))
         clear hb4))
      | (go_at_call 70
         go_must (
         (refine (FL.out _).mono ?_)
         rintro e w3 ⟨rfl, hb3⟩
         have HB3 : Hid (Below w1.heap.size w1 w3) := Lib.hid (HBD.out.drew.trans (hb3.mono (by exact HBD.out.size)))
         clear hb3)))
  all_goals
    go_wp2_with fail
    go_ret
    exact ⟨w4.heap.size, f', rfl, by have := HB4.out.size; omega, HSAME.out, HTB.out, hb1.trans (HB5.out.mono hb1.size)⟩

end Go.Proofs.Ytjfdkhaepmmlfaa
