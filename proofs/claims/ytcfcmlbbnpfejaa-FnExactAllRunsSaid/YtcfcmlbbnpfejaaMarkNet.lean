/- A net that is marked, and read again. -/
import Derived.Test.YtcfcmlbbnpfejaaMarks
namespace Go.Proofs.Ytcfcmlbbnpfejaa
open Go.RowKit

theorem below_grown {w a b : World} {row : Option Nat} (h : Below w.heap.size w a) (k : a.grownBy b row) (_ : ∀ g, row = some g → g < w.heap.size) : w.grownBy b row :=
  ⟨k.os.trans h.os, k.tape.trans h.tape, k.output.trans h.output, Nat.le_trans h.size k.size, fun i hi hn => (k.block i (Nat.lt_of_lt_of_le hi h.size) hn).trans (h.block i hi)⟩

set_option maxRecDepth 100000 in
set_option maxHeartbeats 1000000 in
/-- laws.markNet, over a row of edges of its own -/
theorem markNet_any (B : ByteArray) (g n cap m r : Nat) (f : Nat → Value) (w : World) (hr : w.rowIs g 72 r f) (hnr : n * 2 ≤ r) (hn : n ≤ 1048576) (h1 : 1 ≤ m) (h2 : m ≤ 1048576) (hg : g < w.heap.size) :
    Calls Try.prog 55 #[.agg #[.string B, .slice (some ⟨g, 0, none⟩) n cap], .int .i64 m] w fun e w' => e = .returned (.int .i64 (m + 2 * n : Nat)) ∧ EdgesIn w' w'.heap.size (some ⟨g, 0, none⟩) (marked m n) ∧ w.grownBy w' (some g) := by
  have hb1 : Below w.heap.size w (w.alloc (.cells #[.string B, .slice (some ⟨g, 0, none⟩) n cap] 25)) := (Below.refl _ _).alloc (Nat.le_refl _) _
  have HR := Lib.hid (hr.alloc (.cells #[.string B, .slice (some ⟨g, 0, none⟩) n cap] 25))
  obtain ⟨r', hrr⟩ : ∃ r', m + 2 * n = r' := ⟨_, rfl⟩
  rw [hrr]
  have HRR := Lib.hid hrr
  clear hr hrr
  go_enter Try.func55, Try.ntmps55
  go_wp2_with fail
  refine (markEdgeS_any g n cap m r f _ HR.out hnr hn h1 h2 (by simp; omega)).mono ?_
  rw [HRR.out]
  rintro e w2 ⟨rfl, hE2, hg2⟩
  have hg2' := below_grown hb1 hg2 (fun g' e => by injection e with e; omega)
  clear hg2
  have HE2 := Lib.hid hE2
  clear hE2
  go_wp2_with fail
  go_ret
  exact ⟨rfl, HE2.out, hg2'⟩

set_option maxRecDepth 100000 in
set_option maxHeartbeats 1000000 in
/-- laws.markNet, of a net without edges -/
theorem markNet_none (B : ByteArray) (A : Option Addr) (cap m : Nat) (w : World) (_ : 1 ≤ m) (_ : m ≤ 1048576) :
    Calls Try.prog 55 #[.agg #[.string B, .slice A 0 cap], .int .i64 m] w fun e w' => e = .returned (.int .i64 m) ∧ Below w.heap.size w w' := by
  have hb1 : Below w.heap.size w (w.alloc (.cells #[.string B, .slice A 0 cap] 25)) := (Below.refl _ _).alloc (Nat.le_refl _) _
  have hnone : ∀ W : World, Calls Try.prog 113 #[.slice A 0 cap, .int .i64 m] W fun e w' => e = .returned (.int .i64 m) ∧ Below W.heap.size W w' := by
    intro W
    go_enter Try.func113, Try.ntmps113
    go_wp2_with fail
    go_loopw [1, 5] (fun a i wr => a = .int .i64 m ∧ i = .int .i64 0 ∧ wr = W) (fun _ _ _ => 0)
    case atStart => exact ⟨rfl, rfl, rfl⟩
    case round =>
      obtain ⟨rfl, rfl, rfl⟩ := hrel
      go_wp2_with fail
      go_ret
      exact ⟨rfl, Below.refl _ _⟩
  have HNO := Lib.hid hnone
  clear hnone
  go_enter Try.func55, Try.ntmps55
  go_wp2_with fail
  refine (HNO.out _).mono ?_
  rintro e w2 ⟨rfl, hb2⟩
  have hb2' := hb1.trans (hb2.mono hb1.size)
  go_wp2_with fail
  go_ret
  exact ⟨rfl, hb2'⟩

end Go.Proofs.Ytcfcmlbbnpfejaa
