/- The text of what a mark does: impl.deedText. -/
import Derived.Test.YtgenhkmlnflnfaaDoorFmI
namespace Go.Proofs.YtgenhkmlnflnfaaDoor
open Go.RowKit

theorem tS_yes (W : World) (v : Value) : (Instr.typeAssert (.iface 51 v) 46 51 true).run Tryd.prog W = .ok (.tuple #[v, .bool true]) W := by kernel_rfl
theorem tA_yes (W : World) (v : Value) : (Instr.typeAssert (.iface 52 v) 46 52 true).run Tryd.prog W = .ok (.tuple #[v, .bool true]) W := by kernel_rfl
theorem tF_yes (W : World) (v : Value) : (Instr.typeAssert (.iface 53 v) 46 53 true).run Tryd.prog W = .ok (.tuple #[v, .bool true]) W := by kernel_rfl
theorem tAS (W : World) (v : Value) : (Instr.typeAssert (.iface 52 v) 46 51 true).run Tryd.prog W = .ok (.tuple #[.agg #[.int .i64 0], .bool false]) W := by kernel_rfl
theorem tFS (W : World) (v : Value) : (Instr.typeAssert (.iface 53 v) 46 51 true).run Tryd.prog W = .ok (.tuple #[.agg #[.int .i64 0], .bool false]) W := by kernel_rfl
theorem tFA (W : World) (v : Value) : (Instr.typeAssert (.iface 53 v) 46 52 true).run Tryd.prog W = .ok (.tuple #[.agg #[.int .i64 0], .bool false]) W := by kernel_rfl
theorem tRS (W : World) (v : Value) : (Instr.typeAssert (.iface 55 v) 46 51 true).run Tryd.prog W = .ok (.tuple #[.agg #[.int .i64 0], .bool false]) W := by kernel_rfl
theorem tRA (W : World) (v : Value) : (Instr.typeAssert (.iface 55 v) 46 52 true).run Tryd.prog W = .ok (.tuple #[.agg #[.int .i64 0], .bool false]) W := by kernel_rfl
theorem tRF (W : World) (v : Value) : (Instr.typeAssert (.iface 55 v) 46 53 true).run Tryd.prog W = .ok (.tuple #[.agg #[.int .i64 0], .bool false]) W := by kernel_rfl

theorem txt_same {a b : ByteArray} (h : a.data.toList = b.data.toList) : a = b := by
  obtain ⟨⟨a⟩⟩ := a
  obtain ⟨⟨b⟩⟩ := b
  simp at h; rw [h]

set_option maxRecDepth 100000 in
set_option maxHeartbeats 2000000 in
/-- impl.deedText -/
theorem deedText_any (a : ByteArray) (n : Int) (h0 : -9223372036854775808 ≤ n) (h1 : n ≤ 9223372036854775807) (w : World) (hp : Pow w) :
    Calls Tryd.prog 14 #[deedV a n] w fun e w' => e = .returned (.string ⟨(deedT a n).toArray⟩) ∧ Below w.heap.size w w' := by
  have hlen := itoa_len h0 h1
  have FI : Hid (∀ W : World, Below w.heap.size w W → Calls Tryd.prog 19 #[.int .i64 n] W fun e w' => e = .returned (.string ⟨(Lib.itoa n).toArray⟩) ∧ Below W.heap.size W w') := Lib.hid fun W hW => itoa_any n h0 h1 W (hp.below hW)
  obtain ⟨il, hil⟩ : ∃ il, Lib.itoa n = il := ⟨_, rfl⟩
  rw [hil] at FI hlen
  obtain ⟨ib, hib⟩ : ∃ ib : ByteArray, (⟨il.toArray⟩ : ByteArray) = ib := ⟨_, rfl⟩
  rw [hib] at FI
  have hibs : ib.size ≤ 21 := by rw [← hib]; show il.toArray.size ≤ 21; simpa using hlen
  have hs2 : ∀ p : ByteArray, p.size ≤ 2 → ¬ 9223372036854775807 < p.size + ib.size := fun p hp => by omega
  have hs3 := hs2 ⟨#[114, 61]⟩ (by decide)
  have hs4 := hs2 ⟨#[114, 43]⟩ (by decide)
  have hs5 := hs2 ⟨#[102]⟩ (by decide)
  have HD : Hid ((⟨il.toArray⟩ : ByteArray) = ib) := Lib.hid hib
  have e1 := fun W v => tS_yes W v
  have e2 := fun W v => tA_yes W v
  have e3 := fun W v => tF_yes W v
  have e4 := fun W v => tAS W v
  have e5 := fun W v => tFS W v
  have e6 := fun W v => tFA W v
  have e7 := fun W v => tRS W v
  have e8 := fun W v => tRA W v
  have e9 := fun W v => tRF W v
  clear hs2 hib hlen
  rcases op_cases a with ⟨h3, h4, h5, h6⟩ | ⟨h3, h4, h5, h6⟩ | ⟨h3, h4, h5, h6⟩ | ⟨h3, h4, h5, h6⟩ | ⟨h3, h4, h5, h6⟩
  all_goals
    unfold deedV deedT
    rw [h3, h4, h5, hil]
    simp only [Bool.false_eq_true, if_true, if_false]
    clear h3 h4 h5 h6
    go_enter Tryd.func14, Tryd.ntmps14
    go_wp2_with (go_at_call 19; refine (FI.out _ (by first | exact (Below.refl _ _).alloc (Nat.le_refl _) _ | exact Below.refl _ _)).mono ?_; rintro e w2 ⟨rfl, hb2⟩)
    go_ret
    first
      | exact ⟨rfl, Below.refl _ _⟩
      | exact ⟨congrArg (fun q => Ending.returned (.string q)) (txt_same (by first | (rw [Go.Joins.data_append, ← HD.out]; done) | (rw [Go.Joins.data_append, ← HD.out]; rfl))), ((Below.refl _ _).alloc (Nat.le_refl _) _).trans (hb2.mono (by simp))⟩

end Go.Proofs.YtgenhkmlnflnfaaDoor
