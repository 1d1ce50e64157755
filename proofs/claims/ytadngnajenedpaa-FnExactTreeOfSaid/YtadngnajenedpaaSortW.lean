/- Places of numbers, the greatest number first, of equal ones the first place first: by the program. -/
import Derived.Test.YtadngnajenedpaaSortP
import Derived.Test.YtadngnajenedpaaIntsB
import Derived.BigRegion
import Derived.BigQuiet
import Derived.Deep.OwnRows
namespace Go.Proofs.Ytadngnajenedpaa
open Go.RowKit

/-- how two numbers compare -/
def cmpI (a b : Int) : Int := if a < b then -1 else if b < a then 1 else 0

set_option maxRecDepth 100000 in
/-- cmp.isNaN, of a number -/
theorem isNaN_any (a : Int) (w : World) :
    Calls Try.prog 103 #[.int .i64 a] w fun e w' => e = .returned (.bool false) ∧ w = w' := by
  have q : (a != a) = false := by simp
  go_enter Try.func103, Try.ntmps103
  go_wp2_with fail
  go_ret
  exact ⟨rfl, rfl⟩

set_option maxRecDepth 100000 in
set_option maxHeartbeats 1000000 in
/-- cmp.Compare, of numbers -/
theorem compare_any (a b : Int) (w : World) :
    Calls Try.prog 87 #[.int .i64 a, .int .i64 b] w fun e w' => e = .returned (.int .i64 (cmpI a b)) ∧ w = w' := by
  have HA := Lib.hid (isNaN_any a); have HB := Lib.hid (isNaN_any b)
  by_cases h1 : a < b
  · have HN : Hid (cmpI a b = -1) := Lib.hid (if_pos h1)
    go_enter Try.func87, Try.ntmps87
    go_wp2_with fail
    refine (HA.out _).mono ?_
    rintro e w2 ⟨rfl, rfl⟩
    go_wp2_with fail
    refine (HB.out _).mono ?_
    rintro e w2 ⟨rfl, rfl⟩
    go_wp2_with fail
    go_ret
    exact ⟨ret_int HN.out.symm, rfl⟩
  · by_cases h2 : b < a
    · have HN : Hid (cmpI a b = 1) := Lib.hid ((if_neg h1).trans (if_pos h2))
      go_enter Try.func87, Try.ntmps87
      go_wp2_with fail
      refine (HA.out _).mono ?_
      rintro e w2 ⟨rfl, rfl⟩
      go_wp2_with fail
      refine (HB.out _).mono ?_
      rintro e w2 ⟨rfl, rfl⟩
      go_wp2_with fail
      go_ret
      exact ⟨ret_int HN.out.symm, rfl⟩
    · have HN : Hid (cmpI a b = 0) := Lib.hid ((if_neg h1).trans (if_neg h2))
      go_enter Try.func87, Try.ntmps87
      go_wp2_with fail
      refine (HA.out _).mono ?_
      rintro e w2 ⟨rfl, rfl⟩
      go_wp2_with fail
      refine (HB.out _).mono ?_
      rintro e w2 ⟨rfl, rfl⟩
      go_wp2_with fail
      go_ret
      exact ⟨ret_int HN.out.symm, rfl⟩

set_option maxRecDepth 100000 in
set_option maxHeartbeats 1000000 in
/-- impl.heaviestFirst$1 -/
theorem heavier_any (X pb po n pcap a b : Nat) (u v : Int) (w : World) (hX : w.cell? ⟨X, 0, none⟩ = some (.slice (some ⟨pb, po, none⟩) n pcap)) (ha : a < n) (hb : b < n) (ca : w.cell? ⟨pb, po + a, none⟩ = some (.int .i64 u)) (cb : w.cell? ⟨pb, po + b, none⟩ = some (.int .i64 v)) :
    Calls Try.prog 86 #[.int .i64 a, .int .i64 b, .pointer (some ⟨X, 0, none⟩)] w fun e w' => e = .returned (.int .i64 (cmpI v u)) ∧ Below w.heap.size w w' := by
  have a1 : (0 : Int) ≤ (a : Int) := by omega
  have a2 : (a : Int) < (n : Int) := by omega
  have b1 : (0 : Int) ≤ (b : Int) := by omega
  have b2 : (b : Int) < (n : Int) := by omega
  have HC := Lib.hid (compare_any v u)
  go_enter Try.func86, Try.ntmps86
  go_wp2_with fail
  go_quiet ((go_at_call 87; exact Calls.quiet_of_same ((HC.out _).mono fun _ _ ⟨h, h'⟩ => ⟨h, h'.symm⟩)))
  go_wp2_with fail
  go_ret
  exact ⟨rfl, below_drewN (Below.refl _ _) _⟩

/-- a row of places -/
def PlacesAt (w : World) (D n : Nat) (g : Nat → Nat) : Prop := w.rowIs D 3 n (fun p => .int .i64 ((g p : Nat) : Int))

theorem cmpI_lt {a b : Int} (h : a < b) : cmpI a b < 0 := by unfold cmpI; rw [if_pos h]; omega
theorem cmpI_ge {a b : Int} (h : ¬ a < b) : ¬ cmpI a b < 0 := by unfold cmpI; rw [if_neg h]; split <;> omega

set_option maxRecDepth 100000 in
set_option maxHeartbeats 4000000 in
/-- slices.insertionSortCmpFunc, of places by their numbers -/
theorem insSort_any (D n cap : Nat) (f : FuncId) (caps : Array Value) (ws : Nat → Int) (g : Nat → Nat) (w : World) (hn : n ≤ 16) (h1 : SortedTo ws n 1 g) (hr : PlacesAt w D n g)
    (he : ∀ args w, (callFunc f args).run Try.prog w = .ok (.enter f args) w)
    (hk : ∀ (a b : Nat) (W : World), a < n → b < n → w.grownBy W (some D) → Calls Try.prog f (#[.int .i64 a, .int .i64 b] ++ caps) W fun e W' => e = .returned (.int .i64 (cmpI (ws b) (ws a))) ∧ Below W.heap.size W W') :
    Calls Try.prog 108 #[.slice (some ⟨D, 0, none⟩) n cap, .int .i64 0, .int .i64 n, .func (.func f) #[] caps] w fun e w' => e = .returned (.tuple #[]) ∧ (∃ g', SortedTo ws n n g' ∧ PlacesAt w' D n g') ∧ w.grownBy w' (some D) := by
  unfold PlacesAt at hr ⊢
  have HK := Lib.hid hk; have HR := Lib.hid hr; have H1 := Lib.hid h1
  clear hk hr h1
  by_cases hn0 : n = 0
  · subst hn0
    go_enter Try.func108, Try.ntmps108
    go_wp2_with fail
    go_loopw [8] (fun vi wr => vi = .int .i64 1 ∧ wr = w) (fun _ _ => 0)
    case atStart => exact ⟨rfl, rfl⟩
    case round =>
      obtain ⟨rfl, rfl⟩ := hrel
      go_wp2_with fail
      go_end0
      exact ⟨rfl, ⟨g, ⟨fun p hp => absurd hp (by omega), fun p q _ hq => absurd hq (by omega), fun p _ hp => absurd hp (by omega)⟩, HR.out⟩, World.grownBy.refl _ _⟩
  go_enter Try.func108, Try.ntmps108
  go_wp2_with fail
  go_loopw [8] (fun vi wr => ∃ (i : Nat) (g : Nat → Nat), vi = .int .i64 i ∧ 1 ≤ i ∧ i ≤ n ∧ Hid (SortedTo ws n i g) ∧ Hid (wr.rowIs D 3 n (fun p => .int .i64 ((g p : Nat) : Int))) ∧ w.grownBy wr (some D)) (fun vi _ => n - (intOf vi).toNat)
  case atStart => exact ⟨1, g, rfl, Nat.le_refl _, by omega, H1, HR, World.grownBy.refl _ _⟩
  case round =>
    obtain ⟨i, g, rfl, hi1, hin, HS, HRO, hgr⟩ := hrel
    have HG := Lib.hid hgr
    clear hgr
    by_cases hlt : i < n
    case neg =>
      have hii : i = n := by omega
      subst hii
      go_wp2_with fail
      go_end0
      exact ⟨rfl, ⟨g, HS.out, HRO.out⟩, HG.out⟩
    go_wp2_with fail
    go_loopw [9] (fun vj wr2 => ∃ (j : Nat) (g : Nat → Nat), vj = .int .i64 j ∧ Hid (Moving ws n i j g) ∧ Hid (wr2.rowIs D 3 n (fun p => .int .i64 ((g p : Nat) : Int))) ∧ w.grownBy wr2 (some D)) (fun vj _ => (intOf vj).toNat)
    case atStart => exact ⟨i, g, rfl, Lib.hid (Moving.start (show SortedTo ws n i g from HS.out) hlt), HRO, HG.out⟩
    case round =>
      clear HS HRO HG g
      rename_i wq _ _ _ _
      obtain ⟨j, g, rfl, HMV, HRO, hgr⟩ := hrel
      have hji := HMV.out.1
      have HG := Lib.hid hgr
      clear hgr
      cases j with
      | zero =>
        have hz : ¬ (0 : Int) < ((0 : Nat) : Int) := by omega
        have HST := Lib.hid (Moving.stop (show Moving ws n i _ g from HMV.out) (.inl rfl))
        go_wp2_with fail
        refine wp_region_below (by kernel_rfl) (by kernel_rfl) ?_
        repeat (go_big_quiet_step (fail))
        refine wpQuiet_nil ?_
        rintro _ ⟨xw, rfl⟩
        go_wp2_with fail
        go_roundw
        case rel => exact ⟨i + 1, g, by go_num, by omega, by omega, HST, Lib.hid (HRO.out.of_block (xw.h.block _ HRO.out.lt)), grown_on HG.out ⟨xw.h.os, xw.h.tape, xw.h.output, xw.h.size, fun k hk _ => xw.h.block k hk⟩⟩
        case measure => simp [intOf]; omega
      | succ jp =>
        have hpos : 0 < jp + 1 := by omega
        have hmv := HMV.out
        have e1 : g (jp + 1) = i := hmv.2.1
        have hgj : g jp < i := hmv.2.2.1 jp (by omega) (by omega)
        obtain ⟨x, hx⟩ : ∃ x, g jp = x := ⟨_, rfl⟩
        rw [hx] at hgj
        have c1 := HRO.out.cell (i := jp + 1) (by omega)
        have c2 := HRO.out.cell (i := jp) (by omega)
        have f1 := HRO.out.frozen (jp + 1)
        have f2 := HRO.out.frozen jp
        rw [e1] at c1
        rw [hx] at c2
        have HX := Lib.hid hx
        have HCALL : Hid (∀ W : World, Below wr.heap.size wr W → Calls Try.prog f (#[.int .i64 i, .int .i64 x] ++ caps) W fun e W' => e = .returned (.int .i64 (cmpI (ws x) (ws i))) ∧ Below W.heap.size W W') := Lib.hid fun W h =>
          HK.out i x W hlt (by omega) (grown_on HG.out ⟨h.os, h.tape, h.output, h.size, fun k hk _ => h.block k hk⟩)
        have b1 : IntKind.i64.wrap (((jp + 1 : Nat) : Int) - 1) = (jp : Int) := by rw [IntWalk.i64_in _ (by omega)]; omega
        have b2 : (0 : Int) ≤ (jp : Int) := by omega
        have b3 : (jp : Int) < (n : Int) := by omega
        have b4 : (0 : Int) ≤ ((jp + 1 : Nat) : Int) := by omega
        have b5 : ((jp + 1 : Nat) : Int) < (n : Int) := by omega
        obtain ⟨j1, hj1⟩ : ∃ j1 : Nat, jp + 1 = j1 := ⟨_, rfl⟩
        have HJ1 := Lib.hid hj1
        have HRL : Hid (D < wr.heap.size) := Lib.hid HRO.out.lt
        rw [hj1] at hpos b1 b4 b5 c1 f1 ⊢
        have hpq : decide (0 < j1) = true := decide_eq_true hpos
        have x1 : ∀ y : After wr, y.W.cell? ⟨D, j1, none⟩ = some (.int .i64 i) := fun y => y.cell HRL.out c1
        have x2 : ∀ y : After wr, y.W.cell? ⟨D, jp, none⟩ = some (.int .i64 x) := fun y => y.cell HRL.out c2
        clear hj1 hmv e1 hx c1 c2 f1 f2
        by_cases hw : ws x < ws i
        · have HW : Hid (ws (g jp) < ws i) := Lib.hid (by rw [HX.out]; exact hw)
          have hneg := cmpI_lt hw
          obtain ⟨r, hr⟩ : ∃ r, cmpI (ws x) (ws i) = r := ⟨_, rfl⟩
          rw [hr] at HCALL hneg
          clear hw hr
          go_wp2_with fail
          refine wp_region_below (by kernel_rfl) (by kernel_rfl) ?_
          repeat (go_big_quiet_step ((go_at_fn f; exact After.call (HCALL.out _ (After.h _)))))
          refine wpQuiet_nil ?_
          rintro _ ⟨xw, rfl⟩
          clear x1 x2
          have HR2 : Hid (xw.W.rowIs D 3 n (fun p => .int .i64 ((g p : Nat) : Int))) := Lib.hid (HRO.out.of_block (xw.h.block _ HRL.out))
          have HG2 : Hid (w.grownBy xw.W (some D)) := Lib.hid (grown_on HG.out ⟨xw.h.os, xw.h.tape, xw.h.output, xw.h.size, fun k hk _ => xw.h.block k hk⟩)
          obtain ⟨W2, hW2⟩ : ∃ W2, xw.W = W2 := ⟨_, rfl⟩
          rw [hW2] at HR2 HG2 ⊢
          clear hW2 xw
          have c1 := HR2.out.cell (i := j1) (by have := HJ1.out; omega)
          have c2 := HR2.out.cell (i := jp) (by omega)
          have f1 := HR2.out.frozen j1
          have f2 := HR2.out.frozen jp
          have e1 : g j1 = i := by rw [← HJ1.out]; exact HMV.out.2.1
          rw [e1] at c1
          rw [HX.out] at c2
          have d1 : ¬ j1 = jp := by have := HJ1.out; omega
          have d2 : ¬ jp = j1 := by omega
          clear e1
          go_wp2_with fail
          go_region
          clear d1 d2
          go_wp2_with fail
          go_roundw
          case rel =>
            refine ⟨jp, _, by first | rfl | go_num, Lib.hid (Moving.step (show Moving ws n i (jp + 1) g from HMV.out) HW.out), Lib.hid ((((HR2.out.set j1 (.int .i64 (x : Int))).set jp (.int .i64 (i : Int))).of_block rfl).congr fun p hp => ?_), only_drew_at (only_setCell_at (only_setCell_at HG2.out))⟩
            rw [← HX.out]
            by_cases d1 : p = jp
            · simp only [if_pos d1]
            · simp only [if_neg d1]
              by_cases d2 : p = j1
              · simp only [if_pos d2]; rw [if_pos (by rw [d2, ← HJ1.out])]
              · simp only [if_neg d2]; rw [if_neg (by have := HJ1.out; omega)]
          case measure => have := HJ1.out; simp [intOf]; omega
        · have HST := Lib.hid (Moving.stop (show Moving ws n i _ g from HMV.out) (.inr (by rw [Nat.add_sub_cancel, HX.out]; omega)))
          have hneg := cmpI_ge hw
          obtain ⟨r, hr⟩ : ∃ r, cmpI (ws x) (ws i) = r := ⟨_, rfl⟩
          rw [hr] at HCALL hneg
          clear hw hr
          go_wp2_with fail
          refine wp_region_below (by kernel_rfl) (by kernel_rfl) ?_
          repeat (go_big_quiet_step ((go_at_fn f; exact After.call (HCALL.out _ (After.h _)))))
          refine wpQuiet_nil ?_
          rintro _ ⟨xw, rfl⟩
          clear x1 x2
          go_wp2_with fail
          go_roundw
          case rel => exact ⟨i + 1, g, by go_num, by omega, by omega, HST, Lib.hid (HRO.out.of_block (xw.h.block _ HRL.out)), grown_on HG.out ⟨xw.h.os, xw.h.tape, xw.h.output, xw.h.size, fun k hk _ => xw.h.block k hk⟩⟩
          case measure => simp [intOf]; omega

end Go.Proofs.Ytadngnajenedpaa
