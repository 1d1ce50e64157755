/- The same nets, as the laws see it. -/
import Derived.Test.YtpeafheljcjlhaaGreatNet1
import Derived.Test.YtpeafheljcjlhaaGreatMem
import Derived.Test.YtpeafheljcjlhaaGreatRegion
import Derived.Test.YtpeafheljcjlhaaGreatSpec1
import Derived.Deep.OwnRows
namespace Go.Proofs.YtpeafheljcjlhaaGreat
open Go.RowKit

/-- laws.eqEdge -/
theorem eqEdge_t (a b : ByteArray) (w : World) :
    Calls Tryz.prog 71 #[.agg #[.string a, .string b], .agg #[.string a, .string b]] w fun e w' => e = .returned (.bool true) ∧ Below w.heap.size w w' := by
  have q1 : (a.toList == a.toList) = true := by simp
  have q2 : (b.toList == b.toList) = true := by simp
  go_enter Tryz.func71, Tryz.ntmps71
  go_wp2
  go_ret
  exact ⟨rfl, ((Below.refl _ _).alloc (Nat.le_refl _) _).alloc (by simp) _⟩

set_option maxRecDepth 100000 in
set_option maxHeartbeats 2000000 in
/-- laws.eqEdgeS, at the same edges -/
theorem eqEdgeS_t (A A' : Option Addr) (cap cap' : Nat) (es : List (ByteArray × ByteArray)) (w : World) (hE : EdgesIn w w.heap.size A es) (hE' : EdgesIn w w.heap.size A' es) (hl : es.length ≤ 1099511627776) :
    Calls Tryz.prog 34 #[.slice A es.length cap, .slice A' es.length cap'] w fun e w' => e = .returned (.bool true) ∧ Below w.heap.size w w' := by
  have q0 : ((es.length : Int) != es.length) = false := by simp
  go_enter Tryz.func34, Tryz.ntmps34
  go_wp2
  go_loopw [5] (fun i wr => ∃ k : Nat, k ≤ es.length ∧ i = .int .i64 k ∧ Below w.heap.size w wr) (fun i _ => es.length - (intOf i).toNat)
  case atStart => exact ⟨0, Nat.zero_le _, rfl, Below.refl _ _⟩
  case round =>
    obtain ⟨k, hk, rfl, hb⟩ := hrel
    by_cases hlt : k < es.length
    · obtain ⟨b1, o1, rfl, hlow1, h1, h2⟩ := (hE.below hb) k hlt
      obtain ⟨b2, o2, rfl, hlow2, h3, h4⟩ := (hE'.below hb) k hlt
      have hsz := hb.size
      have x1 : ∀ x : After wr, x.W.cell? ⟨b1, o1 + k * 2, none⟩ = some (.string es[k].1) := fun x => x.cell (by simp only; omega) h1
      have x2 : ∀ x : After wr, x.W.cell? ⟨b1, o1 + k * 2 + 1, none⟩ = some (.string es[k].2) := fun x => x.cell (by simp only; omega) h2
      have x3 : ∀ x : After wr, x.W.cell? ⟨b2, o2 + k * 2, none⟩ = some (.string es[k].1) := fun x => x.cell (by simp only; omega) h3
      have x4 : ∀ x : After wr, x.W.cell? ⟨b2, o2 + k * 2 + 1, none⟩ = some (.string es[k].2) := fun x => x.cell (by simp only; omega) h4
      go_wp2
      refine wp_region_below (by kernel_rfl) (by kernel_rfl) ?_
      repeat (go_big_quiet_step ((go_at_call 71; exact After.call (eqEdge_t _ _ _))))
      refine wpQuiet_nil ?_
      rintro _ ⟨x, rfl⟩
      clear x1 x2 x3 x4
      go_wp2
      go_roundw
      case rel => exact ⟨k + 1, by omega, by go_num, hb.trans (x.h.mono hb.size)⟩
      case measure => simp [intOf]; omega
    · go_wp2
      go_ret
      exact ⟨rfl, hb⟩

/-- laws.eqNet, at the same net -/
theorem eqNet_t (B : ByteArray) (A A' : Option Addr) (cap cap' : Nat) (es : List (ByteArray × ByteArray)) (w : World) (hE : EdgesIn w w.heap.size A es) (hE' : EdgesIn w w.heap.size A' es) (hl : es.length ≤ 1099511627776) :
    Calls Tryz.prog 12 #[.agg #[.string B, .slice A es.length cap], .agg #[.string B, .slice A' es.length cap']] w fun e w' => e = .returned (.bool true) ∧ Below w.heap.size w w' := by
  have q1 : (B.toList == B.toList) = true := by simp
  have hb2 : Below w.heap.size w ((w.alloc (.cells #[.string B, .slice A es.length cap] 31)).alloc (.cells #[.string B, .slice A' es.length cap'] 31)) := ((Below.refl _ _).alloc (Nat.le_refl _) _).alloc (by simp) _
  go_enter Tryz.func12, Tryz.ntmps12
  go_wp2_with fail
  refine (eqEdgeS_t A A' cap cap' es _ ((hE.below hb2).more hb2.size) ((hE'.below hb2).more hb2.size) hl).mono ?_
  rintro e w3 ⟨rfl, hb3⟩
  go_wp2_with fail
  go_ret
  exact ⟨rfl, hb2.trans (hb3.mono hb2.size)⟩

end Go.Proofs.YtpeafheljcjlhaaGreat
