/- CountMarks, by the program: what marks do. -/
import Derived.Test.YtjfdkhaepmmlfaaMkI
namespace Go.Proofs.Ytjfdkhaepmmlfaa
open Go.RowKit

/-- what a mark does with the register, as a value -/
def deedV (a : ByteArray) (n : Int) : Value :=
  if a.toList == [115, 101, 116] then .iface 128 (.agg #[.int .i64 n]) else if a.toList == [97, 100, 100] then .iface 129 (.agg #[.int .i64 n]) else if a.toList == [102, 105, 120] then .iface 130 (.agg #[.int .i64 n]) else .iface 132 (.agg #[])

/-- impl.deedOf -/
theorem deedOf_any (a : ByteArray) (n : Int) (c : Bool) (w : World) :
    Calls Try.prog 59 #[.agg #[.string a, .int .i64 n, .bool c]] w fun e w' => e = .returned (deedV a n) ∧ Below w.heap.size w w' := by
  have hb : Below w.heap.size w (w.alloc (.cells #[.string a, .int .i64 n, .bool c] 78)) := (Below.refl _ _).alloc (Nat.le_refl _) _
  have c1 : Try.prog.concrete 128 = true := by kernel_rfl
  have c2 : Try.prog.concrete 129 = true := by kernel_rfl
  have c3 : Try.prog.concrete 130 = true := by kernel_rfl
  have c4 : Try.prog.concrete 132 = true := by kernel_rfl
  rcases op_cases a with ⟨h3, h4, h5, h6⟩ | ⟨h3, h4, h5, h6⟩ | ⟨h3, h4, h5, h6⟩ | ⟨h3, h4, h5, h6⟩ | ⟨h3, h4, h5, h6⟩
  all_goals
    go_enter Try.func59, Try.ntmps59
    go_wp2
    go_ret
    exact ⟨by simp [deedV, h3, h4, h5], hb⟩

theorem assertS_yes (W : World) (v : Value) : (Instr.typeAssert (.iface 128 v) 92 128 true).run Try.prog W = .ok (.tuple #[v, .bool true]) W := by kernel_rfl
theorem assertA_yes (W : World) (v : Value) : (Instr.typeAssert (.iface 129 v) 92 129 true).run Try.prog W = .ok (.tuple #[v, .bool true]) W := by kernel_rfl
theorem assertSA (W : World) (v : Value) : (Instr.typeAssert (.iface 128 v) 92 129 true).run Try.prog W = .ok (.tuple #[.agg #[.int .i64 0], .bool false]) W := by kernel_rfl
theorem assertAS (W : World) (v : Value) : (Instr.typeAssert (.iface 129 v) 92 128 true).run Try.prog W = .ok (.tuple #[.agg #[.int .i64 0], .bool false]) W := by kernel_rfl
theorem assertFS (W : World) (v : Value) : (Instr.typeAssert (.iface 130 v) 92 128 true).run Try.prog W = .ok (.tuple #[.agg #[.int .i64 0], .bool false]) W := by kernel_rfl
theorem assertFA (W : World) (v : Value) : (Instr.typeAssert (.iface 130 v) 92 129 true).run Try.prog W = .ok (.tuple #[.agg #[.int .i64 0], .bool false]) W := by kernel_rfl
theorem assertRS (W : World) (v : Value) : (Instr.typeAssert (.iface 132 v) 92 128 true).run Try.prog W = .ok (.tuple #[.agg #[.int .i64 0], .bool false]) W := by kernel_rfl
theorem assertRA (W : World) (v : Value) : (Instr.typeAssert (.iface 132 v) 92 129 true).run Try.prog W = .ok (.tuple #[.agg #[.int .i64 0], .bool false]) W := by kernel_rfl

/-- impl.changes -/
theorem changes_any (a : ByteArray) (n : Int) (c : Bool) (w : World) :
    Calls Try.prog 58 #[deedV a n] w fun e w' => e = .returned (.bool (mkCh (a, n, c))) ∧ w = w' := by
  rcases op_cases a with ⟨h3, h4, h5, h6⟩ | ⟨h3, h4, h5, h6⟩ | ⟨h3, h4, h5, h6⟩ | ⟨h3, h4, h5, h6⟩ | ⟨h3, h4, h5, h6⟩
  all_goals
    have hv : mkCh (a, n, c) = (_ || _) := rfl
    simp only at hv
    rw [h3, h4] at hv
    rw [hv]
    unfold deedV
    rw [h3, h4, h5]
    clear hv
    have e1 := fun W v => assertS_yes W v
    have e2 := fun W v => assertA_yes W v
    have e3 := fun W v => assertSA W v
    have e4 := fun W v => assertAS W v
    have e5 := fun W v => assertFS W v
    have e6 := fun W v => assertFA W v
    have e7 := fun W v => assertRS W v
    have e8 := fun W v => assertRA W v
    go_enter Try.func58, Try.ntmps58
    go_wp2
    go_ret
    exact ⟨rfl, rfl⟩

set_option maxRecDepth 100000 in
set_option maxHeartbeats 4000000 in
/-- impl.CountMarks -/
theorem implCountMarks_any (A : Option Addr) (cap : Nat) (ms : List Mk) (w : World) (hE : MarksIn w w.heap.size A ms) (hl : ms.length ≤ 1099511627776) :
    Calls Try.prog 26 #[.slice A ms.length cap] w fun e w' => e = .returned (.int .i64 (cntM ms)) ∧ Below w.heap.size w w' := by
  have FC := Lib.hid (containsMk_any A cap ms w hE hl)
  cases hv : ms.all mkOk with
  | false =>
    have HN : Hid (cntM ms = -1) := Lib.hid (by unfold cntM; rw [hv]; rfl)
    rw [hv] at FC
    clear hv
    go_enter Try.func26, Try.ntmps26
    go_wp2_with fail
    refine FC.out.mono ?_
    rintro e w2 ⟨rfl, hb2⟩
    go_wp2_with fail
    go_ret
    exact ⟨rtI HN.out.symm, hb2⟩
  | true =>
    have HN : Hid (cntM ms = (mksN ms : Nat)) := Lib.hid (by unfold cntM; rw [hv]; rfl)
    rw [hv] at FC
    clear hv
    go_enter Try.func26, Try.ntmps26
    go_wp2_with fail
    refine FC.out.mono ?_
    rintro e w2 ⟨rfl, hb2⟩
    clear FC
    go_wp2_with fail
    go_loopw [3, 10] (fun v c wr => ∃ (k q : Nat), k ≤ ms.length ∧ c = .int .i64 k ∧ v = .int .i64 q ∧ q = mksN (ms.take k) ∧ Below w.heap.size w wr) (fun _ c _ => ms.length - (intOf c).toNat)
    case atStart => exact ⟨0, 0, Nat.zero_le _, rfl, rfl, by simp [mksN], hb2⟩
    case round =>
      obtain ⟨k, q, hk, rfl, rfl, hq, hb⟩ := hrel
      have HQ := Lib.hid hq
      have hqb : q ≤ 2 * 1099511627776 := by have := mksN_take_le ms k; omega
      clear hq hb2
      by_cases hlt : k < ms.length
      · obtain ⟨eb, eo, rfl, hlow, h1, h2, h3⟩ := (hE.below hb) k hlt
        have HT := Lib.hid (mksN_take hlt)
        obtain ⟨⟨a, n, c⟩, hm⟩ : ∃ m, ms[k] = m := ⟨_, rfl⟩
        rw [hm] at h1 h2 h3 HT
        simp only at h1 h2 h3
        clear hm
        have hba : Below wr.heap.size wr (wr.alloc (.cells #[.string a, .int .i64 n, .bool c] 78)) := (Below.refl _ _).alloc (Nat.le_refl _) _
        have HB : Hid (Below w.heap.size w (wr.alloc (.cells #[.string a, .int .i64 n, .bool c] 78))) := Lib.hid (hb.trans (hba.mono hb.size))
        have hz : (wr.alloc (.cells #[.string a, .int .i64 n, .bool c] 78)).heap.size = wr.heap.size + 1 := by simp
        have hcc : (wr.alloc (.cells #[.string a, .int .i64 n, .bool c] 78)).cell? ⟨wr.heap.size, 2, none⟩ = some (.bool c) := by go_simp
        have HC := Lib.hid hcc
        clear hba hcc
        obtain ⟨ch, hch⟩ : ∃ ch, mkCh (a, n, c) = ch := ⟨_, rfl⟩
        have HMN : Hid (mkN (a, n, c) = (if ch then 1 else 0) + (if c then 1 else 0)) := Lib.hid (by unfold mkN; rw [hch])
        have FD := Lib.hid (fun W => deedOf_any a n c W)
        have FH : Hid (∀ W : World, Calls Try.prog 58 #[deedV a n] W fun e w' => e = .returned (.bool ch) ∧ W = w') := Lib.hid fun W => by rw [← hch]; exact changes_any a n c W
        clear hch
        obtain ⟨D, hD⟩ : ∃ D, deedV a n = D := ⟨_, rfl⟩
        rw [hD] at FD FH
        clear hD
        go_wp2_with fail
        refine (FD.out _).mono ?_
        rintro e w3 ⟨rfl, hb3⟩
        have HB3 : Hid (Below w.heap.size w w3) := Lib.hid (HB.out.trans (hb3.mono HB.out.size))
        have hc3 : w3.cell? ⟨wr.heap.size, 2, none⟩ = some (.bool c) := (hb3.cell (by simp only; omega)).trans HC.out
        clear hb3 FD HC h1 h2 h3
        go_wp2_with fail
        refine (FH.out _).mono ?_
        rintro e w4 ⟨rfl, rfl⟩
        cases ch <;> cases c
        all_goals
          have HQ2 := Lib.hid (HT.out.trans (by rw [HMN.out]))
          simp only [Bool.false_eq_true, if_true, if_false] at HQ2
          clear FH HT HMN
          go_wp2_with fail
          go_roundw
          case rel => exact ⟨k + 1, mksN (ms.take (k + 1)), by omega, by go_num, by have := HQ2.out; have := HQ.out; first | (rw [this]; go_num; done) | (congr 1; omega) | (rw [HQ2.out, ← HQ.out]; go_num), rfl, HB3.out⟩
          case measure => simp [intOf]; omega
      · go_wp2_with fail
        go_ret
        exact ⟨rtI (by rw [HN.out, HQ.out, List.take_of_length_le (by omega)]), hb⟩

end Go.Proofs.Ytjfdkhaepmmlfaa
