/- Marks of a call's own: marked, and held. -/
import Derived.Test.YtjfdkhaepmmlfaaMkE
import Derived.Test.YtjfdkhaepmmlfaaMarks
namespace Go.Proofs.Ytjfdkhaepmmlfaa
open Go.RowKit

/-- the mark that a number gives -/
def mkNo (q : Nat) : Mk := (mark q, ((q : Nat) : Int) + 1, (((q : Nat) : Int) + 1 + 1) % 3 == 0)
def mkNos (m n : Nat) : List Mk := (List.range n).map fun i => mkNo (m + 3 * i)
theorem mkNos_len (m n : Nat) : (mkNos m n).length = n := by simp [mkNos]
theorem mkNos_at (m : Nat) {n i : Nat} (h : i < n) : (mkNos m n)[i]'(by rw [mkNos_len]; exact h) = mkNo (m + 3 * i) := by simp [mkNos]

set_option maxRecDepth 100000 in
set_option maxHeartbeats 2000000 in
/-- laws.markMarkS, over a row of marks of its own -/
theorem markMarkS_row (g n cap m : Nat) (f : Nat → Value) (w : World) (hr : w.rowIs g 78 (n * 3) f) (hn : n ≤ 1048576) (h1 : 1 ≤ m) (h2 : m ≤ 1048576) (hg : g < w.heap.size) :
    Calls Try.prog 21 #[.slice (some ⟨g, 0, none⟩) n cap, .int .i64 m] w fun e w' => e = .returned (.int .i64 (m + 3 * n : Nat)) ∧ MarksIn w' w'.heap.size (some ⟨g, 0, none⟩) (mkNos m n) ∧ w.grownBy w' (some g) := by
  have HM0 : Hid (MkMade w w g n 0 (fun i => mkNo (m + 3 * i))) := Lib.hid ⟨⟨f, hr⟩, hg, fun i hi => absurd hi (by omega), World.grownBy.refl w _⟩
  clear hr hg
  go_enter Try.func21, Try.ntmps21
  go_wp2_with fail
  go_loopw [1, 5] (fun a i wr => ∃ k q : Nat, k ≤ n ∧ q = m + 3 * k ∧ a = .int .i64 q ∧ i = .int .i64 k ∧ Hid (MkMade w wr g n k (fun i => mkNo (m + 3 * i)))) (fun _ i _ => n - (intOf i).toNat)
  case atStart => exact ⟨0, m, Nat.zero_le _, rfl, rfl, rfl, HM0⟩
  case round =>
    clear HM0
    obtain ⟨k, q, hk, hq, rfl, rfl, HM⟩ := hrel
    have HQ := Lib.hid hq
    have hqb : q ≤ 1099511627770 := by omega
    have hq1 : 1 ≤ q := by omega
    clear hq
    by_cases hlt : k < n
    · go_wp2_with fail
      refine (markText_any q hq1 (by omega) _).mono ?_
      rintro e w3 ⟨rfl, hb3⟩
      have HM3 := Lib.hid (HM.out.go hb3)
      obtain ⟨f5, hf5⟩ := HM3.out.row
      have hst1 := hf5.cell (i := k * 3) (by omega)
      have hst2 := hf5.cell (i := k * 3 + 1) (by omega)
      have hst3 := hf5.cell (i := k * 3 + 2) (by omega)
      have hsf1 := hf5.frozen (k * 3)
      have hsf2 := hf5.frozen (k * 3 + 1)
      have hsf3 := hf5.frozen (k * 3 + 2)
      have HM4 := Lib.hid (HM3.out.put (k := k) hlt (a := mark q) (x := (q : Int) + 1) (c := ((q : Int) + 1 + 1) % 3 == 0) (by rw [← HQ.out]; rfl))
      clear hb3 hf5
      go_wp2_with fail
      go_roundw
      case rel => exact ⟨k + 1, q + 3, by omega, by have := HQ.out; omega, by go_num, by go_num, HM4⟩
      case measure => simp [intOf]; omega
    · go_wp2_with fail
      go_ret
      have hkn : k = n := by omega
      subst hkn
      refine ⟨rtI (by rw [← HQ.out]), fun i hi => ?_, HM.out.grown⟩
      have hi' : i < k := by rw [mkNos_len] at hi; exact hi
      obtain ⟨c1, c2, c3⟩ := HM.out.done i hi'
      rw [mkNos_at m hi']
      exact ⟨g, 0, rfl, HM.out.lt, by rw [Nat.zero_add]; exact c1, by rw [Nat.zero_add]; exact c2, by rw [Nat.zero_add]; exact c3⟩

/-- laws.markMarkS, over no mark -/
theorem markMarkS_none (A : Option Addr) (cap m : Nat) (w : World) (_ : m ≤ 1048576) :
    Calls Try.prog 21 #[.slice A 0 cap, .int .i64 m] w fun e w' => e = .returned (.int .i64 m) ∧ Below w.heap.size w w' := by
  go_enter Try.func21, Try.ntmps21
  go_wp2_with fail
  go_loopw [1, 5] (fun a i wr => a = .int .i64 m ∧ i = .int .i64 0 ∧ Below w.heap.size w wr) (fun _ _ _ => 0)
  case atStart => exact ⟨rfl, rfl, Below.refl _ _⟩
  case round =>
    obtain ⟨rfl, rfl, hb⟩ := hrel
    go_wp2_with fail
    go_ret
    exact ⟨rfl, hb⟩

/-- laws.markMarkS, of a call's own marks -/
theorem markMarkS_own (A : Option Addr) (n cap m base : Nat) (w : World) (ho : OwnMks w base A n) (hn : n ≤ 1048576) (h1 : 1 ≤ m) (h2 : m ≤ 1048576) :
    Calls Try.prog 21 #[.slice A n cap, .int .i64 m] w fun e w' => e = .returned (.int .i64 (m + 3 * n : Nat)) ∧ MarksIn w' w'.heap.size A (mkNos m n) ∧ w.grownBy w' (rowOf A) := by
  rcases ho with ⟨rfl, rfl⟩ | ⟨g, f, rfl, hb, hg, hrow⟩
  · refine (markMarkS_none none cap m w h2).mono ?_
    rintro e w' ⟨rfl, hb⟩
    exact ⟨rfl, fun i hi => absurd hi (by simp [mkNos]), ⟨hb.os, hb.tape, hb.output, hb.size, fun i hi _ => hb.block i hi⟩⟩
  · exact markMarkS_row g n cap m f w hrow hn h1 h2 hg

set_option maxRecDepth 100000 in
set_option maxHeartbeats 2000000 in
/-- laws.heldMarkS, over marks that are marked -/
theorem heldMarkS_any (A : Option Addr) (n cap m : Nat) (w : World) (hE : MarksIn w w.heap.size A (mkNos m n)) (hn : n ≤ 1048576) (h1 : 1 ≤ m) (h2 : m ≤ 1048576) :
    Calls Try.prog 22 #[.slice A n cap, .int .i64 m] w fun e w' => e = .returned (.int .i64 (m + 3 * n : Nat)) ∧ Below w.heap.size w w' := by
  go_enter Try.func22, Try.ntmps22
  go_wp2_with fail
  go_loopw [1, 5] (fun a i wr => ∃ k q : Nat, k ≤ n ∧ q = m + 3 * k ∧ a = .int .i64 q ∧ i = .int .i64 k ∧ Below w.heap.size w wr) (fun _ i _ => n - (intOf i).toNat)
  case atStart => exact ⟨0, m, Nat.zero_le _, rfl, rfl, rfl, Below.refl _ _⟩
  case round =>
    obtain ⟨k, q, hk, hq, rfl, rfl, hb⟩ := hrel
    have HQ := Lib.hid hq; have HB := Lib.hid hb
    have hqb : q ≤ 1099511627770 := by omega
    have hq1 : 1 ≤ q := by omega
    have hz := hb.size
    by_cases hlt : k < n
    · obtain ⟨eb, eo, rfl, hlow, c1, c2, c3⟩ := (hE.below hb) k (by rw [mkNos_len]; exact hlt)
      rw [mkNos_at m hlt] at c1 c2 c3
      simp only [← hq, mkNo] at c1 c2 c3
      clear hq hb
      have t1 : ((mark q).toList != (mark q).toList) = false := by simp
      have t2 : ((q : Int) + 1 != (q : Int) + 1) = false := by simp
      obtain ⟨ct, hct⟩ : ∃ ct, (((q : Int) + 1 + 1) % 3 == 0) = ct := ⟨_, rfl⟩
      rw [hct] at c3
      have t3 : (ct != ct) = false := by simp
      have hS : ∀ W, Below wr.heap.size wr W → (W.cell? ⟨eb, eo + k * 3, none⟩ = some (.string (mark q)) ∧ Below wr.heap.size wr W) :=
        fun W h => ⟨(h.cell (by simp only; omega)).trans c1, h⟩
      have HSS := Lib.hid hS
      clear hS
      go_wp2_with fail
      go_region_held3 (fun W => W.cell? ⟨eb, eo + k * 3, none⟩ = some (.string (mark q)) ∧ Below wr.heap.size wr W)
        (first | exact HSS.out _ (Below.refl _ _).drew | exact HSS.out _ ((Below.refl _ _).drew.trans hb3))
        (first | (go_at_call 55; refine (markText_any q hq1 (by omega) _).mono ?_; rintro e w3 ⟨rfl, hb3⟩))
      rename_i hHeld
      have hb3' : Below wr.heap.size wr w3 := hHeld.2
      have d2 := (hb3'.cell (p := ⟨eb, eo + k * 3 + 1, none⟩) (by simp only; omega)).trans c2
      have d3 := (hb3'.cell (p := ⟨eb, eo + k * 3 + 2, none⟩) (by simp only; omega)).trans c3
      have HB3 := Lib.hid (HB.out.trans (hb3'.mono hz))
      clear hHeld hb3 hb3' c1 c2 c3 HSS
      go_wp2_with fail
      go_roundw
      case rel => exact ⟨k + 1, q + 3, by omega, by have := HQ.out; omega, by go_num, by go_num, HB3.out⟩
      case measure => simp [intOf]; omega
    · go_wp2_with fail
      go_ret
      have hkn : k = n := by omega
      subst hkn
      exact ⟨rtI (by rw [← HQ.out]), HB.out⟩

end Go.Proofs.Ytjfdkhaepmmlfaa
