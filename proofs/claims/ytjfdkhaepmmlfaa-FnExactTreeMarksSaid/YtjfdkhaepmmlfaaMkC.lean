/- CountMarks, by the program and by the model. -/
import Derived.Test.YtjfdkhaepmmlfaaMkB
namespace Go.Proofs.Ytjfdkhaepmmlfaa
open Go.RowKit

/-- whether a mark is one -/
def mkOk (m : Mk) : Bool := decide (-100000 ≤ m.2.1 ∧ m.2.1 ≤ 100000) && (if m.1.toList == [115, 101, 116] then true else if m.1.toList == [97, 100, 100] then true else if m.1.toList == [102, 105, 120] then m.2.2 else if m.1.toList == [] then m.2.1 == 0 else false)
/-- whether it sets the register or adds to it -/
def mkCh (m : Mk) : Bool := m.1.toList == [115, 101, 116] || m.1.toList == [97, 100, 100]
def mkN (m : Mk) : Nat := (if mkCh m then 1 else 0) + (if m.2.2 then 1 else 0)
def mksN (ms : List Mk) : Nat := (ms.map mkN).sum
/-- how much marks do -/
def cntM (ms : List Mk) : Int := if ms.all mkOk then (mksN ms : Nat) else -1

theorem mksN_take {ms : List Mk} {k : Nat} (h : k < ms.length) : mksN (ms.take (k + 1)) = mksN (ms.take k) + mkN ms[k] := by
  unfold mksN
  rw [List.take_succ_eq_append_getElem h]
  simp only [List.map_append, List.sum_append, List.map_cons, List.map_nil, List.sum_cons, List.sum_nil, Nat.add_zero]
theorem mksN_le (ms : List Mk) : mksN ms ≤ 2 * ms.length := by
  unfold mksN
  induction ms with
  | nil => simp
  | cons a l ih =>
    simp only [List.map_cons, List.sum_cons, List.length_cons]
    have : mkN a ≤ 2 := by unfold mkN; split <;> split <;> omega
    omega
theorem mksN_take_le (ms : List Mk) (k : Nat) : mksN (ms.take k) ≤ 2 * ms.length := by
  have := mksN_le (ms.take k)
  have := List.length_take_le' k ms
  omega

/-- the Ops: set, add, fix, empty, others -/
theorem op_cases (a : ByteArray) :
    ((a.toList == [115, 101, 116]) = true ∧ (a.toList == [97, 100, 100]) = false ∧ (a.toList == [102, 105, 120]) = false ∧ (a.toList == []) = false) ∨
    ((a.toList == [115, 101, 116]) = false ∧ (a.toList == [97, 100, 100]) = true ∧ (a.toList == [102, 105, 120]) = false ∧ (a.toList == []) = false) ∨
    ((a.toList == [115, 101, 116]) = false ∧ (a.toList == [97, 100, 100]) = false ∧ (a.toList == [102, 105, 120]) = true ∧ (a.toList == []) = false) ∨
    ((a.toList == [115, 101, 116]) = false ∧ (a.toList == [97, 100, 100]) = false ∧ (a.toList == [102, 105, 120]) = false ∧ (a.toList == []) = true) ∨
    ((a.toList == [115, 101, 116]) = false ∧ (a.toList == [97, 100, 100]) = false ∧ (a.toList == [102, 105, 120]) = false ∧ (a.toList == []) = false) := by
  obtain ⟨l, hl⟩ : ∃ l, a.toList = l := ⟨_, rfl⟩
  rw [hl]
  by_cases h1 : l = [115, 101, 116]
  · subst h1; exact .inl ⟨rfl, rfl, rfl, rfl⟩
  by_cases h2 : l = [97, 100, 100]
  · subst h2; exact .inr (.inl ⟨rfl, rfl, rfl, rfl⟩)
  by_cases h3 : l = [102, 105, 120]
  · subst h3; exact .inr (.inr (.inl ⟨rfl, rfl, rfl, rfl⟩))
  by_cases h4 : l = []
  · subst h4; exact .inr (.inr (.inr (.inl ⟨rfl, rfl, rfl, rfl⟩)))
  · exact .inr (.inr (.inr (.inr ⟨beq_eq_false_iff_ne.2 h1, beq_eq_false_iff_ne.2 h2, beq_eq_false_iff_ne.2 h3, beq_eq_false_iff_ne.2 h4⟩)))
/-- what a mark is worth, by its Op -/
def opOk (k1 k2 k3 k4 : Bool) (n : Int) (c : Bool) : Bool := if k1 then true else if k2 then true else if k3 then c else if k4 then n == 0 else false
theorem mkOk_in {a : ByteArray} {n : Int} {c k1 k2 k3 k4 : Bool} (h : -100000 ≤ n ∧ n ≤ 100000) (h1 : (a.toList == [115, 101, 116]) = k1) (h2 : (a.toList == [97, 100, 100]) = k2) (h3 : (a.toList == [102, 105, 120]) = k3) (h4 : (a.toList == []) = k4) : mkOk (a, n, c) = opOk k1 k2 k3 k4 n c := by
  unfold mkOk opOk
  simp only [h1, h2, h3, h4, decide_eq_true h, Bool.true_and]
theorem mkOk_out {a : ByteArray} {n : Int} {c : Bool} (h : ¬ (-100000 ≤ n ∧ n ≤ 100000)) : mkOk (a, n, c) = false := by
  unfold mkOk; rw [decide_eq_false h]; rfl

/-- spec.l1In -/
theorem inM_any (n lo hi : Int) (w : World) : Calls Try.prog 83 #[.int .i64 n, .int .i64 lo, .int .i64 hi] w fun e w' => e = .returned (.bool (decide (lo ≤ n ∧ n ≤ hi))) ∧ w = w' := by
  by_cases h1 : lo ≤ n
  · by_cases h2 : n ≤ hi
    · rw [decide_eq_true (show lo ≤ n ∧ n ≤ hi from ⟨h1, h2⟩)]
      go_enter Try.func83, Try.ntmps83
      go_wp2
      go_ret
      exact ⟨rfl, rfl⟩
    · rw [decide_eq_false (show ¬ (lo ≤ n ∧ n ≤ hi) from fun h => h2 h.2)]
      go_enter Try.func83, Try.ntmps83
      go_wp2
      go_ret
      exact ⟨rfl, rfl⟩
  · rw [decide_eq_false (show ¬ (lo ≤ n ∧ n ≤ hi) from fun h => h1 h.1)]
    go_enter Try.func83, Try.ntmps83
    go_wp2
    go_ret
    exact ⟨rfl, rfl⟩

/-- impl.isNoMark -/
theorem isNoMark_any (a : ByteArray) (n : Int) (c : Bool) (w : World) :
    Calls Try.prog 48 #[.agg #[.string a, .int .i64 n, .bool c]] w fun e w' => e = .returned (.bool (!mkOk (a, n, c))) ∧ Below w.heap.size w w' := by
  have hb : Below w.heap.size w (w.alloc (.cells #[.string a, .int .i64 n, .bool c] 78)) := (Below.refl _ _).alloc (Nat.le_refl _) _
  by_cases h1 : n < -100000
  · rw [mkOk_out (by omega)]
    go_enter Try.func48, Try.ntmps48
    go_wp2
    go_ret
    exact ⟨rfl, hb⟩
  by_cases h2 : 100000 < n
  · rw [mkOk_out (by omega)]
    go_enter Try.func48, Try.ntmps48
    go_wp2
    go_ret
    exact ⟨rfl, hb⟩
  have hd : -100000 ≤ n ∧ n ≤ 100000 := by omega
  rcases op_cases a with ⟨h3, h4, h5, h6⟩ | ⟨h3, h4, h5, h6⟩ | ⟨h3, h4, h5, h6⟩ | ⟨h3, h4, h5, h6⟩ | ⟨h3, h4, h5, h6⟩
  all_goals
    have hv := mkOk_in (c := c) hd h3 h4 h5 h6
    rw [hv]
    clear hv hd
    go_enter Try.func48, Try.ntmps48
    go_wp2
    go_ret
    exact ⟨rfl, hb⟩

/-- spec.l7Mark -/
theorem l7Mark_any (a : ByteArray) (n : Int) (c : Bool) (w : World) :
    Calls Try.prog 44 #[.agg #[.string a, .int .i64 n, .bool c]] w fun e w' => e = .returned (.bool (mkOk (a, n, c))) ∧ Below w.heap.size w w' := by
  have hb : Below w.heap.size w (w.alloc (.cells #[.string a, .int .i64 n, .bool c] 78)) := (Below.refl _ _).alloc (Nat.le_refl _) _
  by_cases hd : -100000 ≤ n ∧ n ≤ 100000
  · have hi : decide (-100000 ≤ n ∧ n ≤ 100000) = true := decide_eq_true hd
    rcases op_cases a with ⟨h3, h4, h5, h6⟩ | ⟨h3, h4, h5, h6⟩ | ⟨h3, h4, h5, h6⟩ | ⟨h3, h4, h5, h6⟩ | ⟨h3, h4, h5, h6⟩
    all_goals
      have hv := mkOk_in (c := c) hd h3 h4 h5 h6
      have h7 : (a.toList != [102, 105, 120]) = !(a.toList == [102, 105, 120]) := rfl
      rw [h5] at h7
      rw [hv]
      clear hv hd
      go_enter Try.func44, Try.ntmps44
      go_wp2_with (go_at_call 83; refine (inM_any _ _ _ _).mono ?_; rw [hi]; rintro e w' ⟨rfl, rfl⟩)
      go_ret
      exact ⟨rfl, hb⟩
  · have hi : decide (-100000 ≤ n ∧ n ≤ 100000) = false := decide_eq_false hd
    have hn0 : (n == 0) = false := by rw [beq_eq_false_iff_ne]; omega
    rw [mkOk_out hd]
    rcases op_cases a with ⟨h3, h4, h5, h6⟩ | ⟨h3, h4, h5, h6⟩ | ⟨h3, h4, h5, h6⟩ | ⟨h3, h4, h5, h6⟩ | ⟨h3, h4, h5, h6⟩
    all_goals
      clear hd
      go_enter Try.func44, Try.ntmps44
      go_wp2_with (go_at_call 83; refine (inM_any _ _ _ _).mono ?_; rw [hi]; rintro e w' ⟨rfl, rfl⟩)
      go_ret
      exact ⟨rfl, hb⟩

end Go.Proofs.Ytjfdkhaepmmlfaa
