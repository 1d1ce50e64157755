/- Groups of blocks by the program: joined; made anew. -/
import Derived.Test.YtadngnajenedpaaUnion
import Derived.Test.YtadngnajenedpaaNetQ
import Derived.LaidEqlPtr
import Derived.Deep.RegionHeld3
namespace Go.Proofs.Ytadngnajenedpaa
open Go.RowKit

theorem groupInfo : (Try.prog.info? 96).map (fun i => (i.zero, i.size, i.bytes)) = some (some (.pointer none), 1, 8) := by kernel_rfl
theorem groupBox : (Try.prog.info? 98).map (fun i => (i.zero, i.size, i.bytes)) = some (some (.agg #[.pointer none]), 1, 8) := by kernel_rfl
set_option maxRecDepth 100000 in
theorem same_group (x : Nat) (W : World) : (binOp BinOp.eql 96 (.pointer (some ⟨x, 0, none⟩)) (.pointer (some ⟨x, 0, none⟩))).run Try.prog W = .ok (.bool true) W := by
  obtain ⟨i0, hi, _, _, _⟩ := info_parts groupBox
  exact run_eql_ptr_same W _ Try.underlying96 hi
set_option maxRecDepth 100000 in
theorem other_group {x y : Nat} {W : World} {T : TypeId} {fx fy : Nat → Value} (h : ¬ x = y) (hx : W.rowIs x T 1 fx) (hy : W.rowIs y T 1 fy) : (binOp BinOp.eql 96 (.pointer (some ⟨x, 0, none⟩)) (.pointer (some ⟨y, 0, none⟩))).run Try.prog W = .ok (.bool false) W := by
  obtain ⟨i0, hi, _, h1, _⟩ := info_parts groupBox
  obtain ⟨cx, bx, _, _⟩ := hx
  obtain ⟨cy, by', _, _⟩ := hy
  exact run_eql_ptr_other W Try.underlying96 hi (by rw [h1]; decide) (fun e => h (by injection e)) bx by'

theorem make_groups (n : Nat) (hn : n ≤ 1099511627776) (W : World) : (Instr.makeSlice 57 (.int .i64 (n : Int)) (.int .i64 (n : Int))).run Try.prog W =
    .ok (.slice (some ⟨W.heap.size, 0, none⟩) n n) (W.alloc (.cells (madeCells #[.pointer none] n) 96)) := by
  obtain ⟨i0, hi, hz0, hz1, hz2⟩ := info_parts groupInfo
  have h := run_make (P := Try.prog) W 57 _ i0 _ Try.underlying57 hi hz0 .i64 .i64 (n : Int) (n : Int) (by omega) (by omega) (by rw [hz2]; omega) (by omega)
  rw [hz1] at h
  simp only [Int.toNat_natCast, Nat.mul_one] at h
  exact h

set_option maxRecDepth 100000 in
set_option maxHeartbeats 2000000 in
/-- (*impl.group).join -/
theorem joinP_any (base R n : Nat) (G : Nat → Nat) (par : Nat → Option Nat) (f d : Nat → Nat) (a b : Nat) (w : World) (ha : a < n) (hb : b < n) (hU : Uni w base R n G par f d) :
    Calls Try.prog 84 #[.pointer (some ⟨G a, 0, none⟩), .pointer (some ⟨G b, 0, none⟩)] w fun e w' => e = .returned (.bool (f a != f b)) ∧ (∃ par' d', Uni w' base R n G par' (joinR f a b) d') ∧ KeepG n G w w' := by
  have HA := Lib.hid (fun (par : Nat → Option Nat) (W : World) (h : Uni W base R n G par f d) => first_any base R n G f d _ a par W (Nat.le_refl _) ha h)
  have HB := Lib.hid (fun (par : Nat → Option Nat) (W : World) (h : Uni W base R n G par f d) => first_any base R n G f d _ b par W (Nat.le_refl _) hb h)
  have HU := Lib.hid hU
  clear hU
  go_enter Try.func84, Try.ntmps84
  go_wp2_with fail
  refine (HA.out par w HU.out).mono ?_
  rintro e w2 ⟨rfl, ⟨par2, hU2⟩, hk2⟩
  have HU2 := Lib.hid hU2; have HK2 := Lib.hid hk2
  clear hU2 hk2
  go_wp2_with fail
  refine (HB.out par2 w2 HU2.out).mono ?_
  rintro e w3 ⟨rfl, ⟨par3, hU3⟩, hk3⟩
  have HU3 := Lib.hid hU3; have HK3 := Lib.hid (HK2.out.trans hk3)
  have hfa := hU3.flt ha
  have hfb := hU3.flt hb
  by_cases hs : f a = f b
  · have HS := Lib.hid (joinR_self hs)
    have q : (f a != f b) = false := bne_eq_false_iff_eq.2 hs
    have HQ := Lib.hid q
    rw [hs]
    clear q
    have qe := same_group (G (f b)) w3
    clear hU3 hk3 hs hfa hfb
    go_wp2_with fail
    go_ret
    exact ⟨ret_bool HQ.out.symm, ⟨par3, d, by rw [HS.out]; exact HU3.out⟩, HK3.out⟩
  · have hne : ¬ G (f a) = G (f b) := fun e => hs (hU3.inj _ _ hfa hfb e)
    have hc := (hU3.cell _ hfa).cell (i := 0) (by omega)
    have hf := (hU3.cell _ hfa).frozen 0
    rw [hU3.fnone ha] at hc
    simp only [parV] at hc
    have HL := Lib.hid (hU3.link ha hb hs)
    have HKS := Lib.hid (KeepG.set n G w3 hfa (.pointer (some ⟨G (f b), 0, none⟩)))
    have q : (f a != f b) = true := bne_iff_ne.2 hs
    have HQ := Lib.hid q
    have qe := other_group hne (hU3.cell _ hfa) (hU3.cell _ hfb)
    clear hU3 hk3 hs hfa hfb q
    obtain ⟨x, hx⟩ : ∃ x, G (f a) = x := ⟨_, rfl⟩
    obtain ⟨y, hy⟩ : ∃ y, G (f b) = y := ⟨_, rfl⟩
    rw [hx] at hne hc hf HL HKS qe ⊢
    rw [hy] at hne HL HKS qe ⊢
    clear hx hy
    go_wp2_with fail
    go_ret
    exact ⟨ret_bool HQ.out.symm, ⟨_, _, HL.out⟩, HK3.out.trans HKS.out⟩

set_option maxRecDepth 100000 in
set_option maxHeartbeats 4000000 in
/-- impl.groupsOf -/
theorem groupsOf_any (B : ByteArray) (sl : Value) (w : World) (h2 : 2 ≤ B.size) (h8 : B.size ≤ 8) :
    Calls Try.prog 45 #[.agg #[.string B, sl]] w fun e w' => ∃ (R : Nat) (G : Nat → Nat) (par : Nat → Option Nat) (d : Nat → Nat), e = .returned (.slice (some ⟨R, 0, none⟩) B.size B.size) ∧ Uni w' w.heap.size R B.size G par (fresh B.size) d ∧ Below w.heap.size w w' := by
  have hb1 : Below w.heap.size w (w.alloc (.cells #[.string B, sl] 30)) := (Below.refl _ _).alloc (Nat.le_refl _) _
  have hc0 : (w.alloc (.cells #[.string B, sl] 30)).cell? ⟨w.heap.size, 0, none⟩ = some (.string B) := by go_simp
  have hz1 : (w.alloc (.cells #[.string B, sl] 30)).heap.size = w.heap.size + 1 := by simp
  have hmk := fun W => make_groups B.size (by omega) W
  go_enter Try.func45, Try.ntmps45
  go_wp2_with fail
  clear hmk
  have hg0 : ((w.alloc (.cells #[.string B, sl] 30)).alloc (.cells (madeCells #[.pointer none] B.size) 96)).rowIs (w.heap.size + 1) 96 B.size (fun _ => .pointer none) := by
    have := World.rowIs_made (w.alloc (.cells #[.string B, sl] 30)) (.pointer none) B.size 96
    rwa [World.size_alloc] at this
  have hb2 : Below w.heap.size w ((w.alloc (.cells #[.string B, sl] 30)).alloc (.cells (madeCells #[.pointer none] B.size) 96)) := hb1.alloc hb1.size _
  have hz2 : ((w.alloc (.cells #[.string B, sl] 30)).alloc (.cells (madeCells #[.pointer none] B.size) 96)).heap.size = w.heap.size + 2 := by simp
  generalize hW2 : (w.alloc (.cells #[.string B, sl] 30)).alloc (.cells (madeCells #[.pointer none] B.size) 96) = w2 at hg0 hb2 hz2 ⊢
  clear hW2 hb1 hc0 hz1
  have HG0 := Lib.hid hg0; have HB2 := Lib.hid hb2; have HZ2 := Lib.hid hz2
  clear hg0 hb2 hz2
  obtain ⟨R, hR⟩ : ∃ R, w.heap.size + 1 = R := ⟨_, rfl⟩
  rw [hR] at HG0 ⊢
  have HR := Lib.hid hR
  clear hR
  go_loopw [11] (fun i wr => ∃ k : Nat, k ≤ B.size ∧ i = .int .i64 k ∧ Below w.heap.size w wr ∧ wr.heap.size = R + 1 + k ∧
    Hid (wr.rowIs R 96 B.size (fun i => if i < k then .pointer (some ⟨R + 1 + i, 0, none⟩) else .pointer none)) ∧
    Hid (∀ i, i < k → wr.rowIs (R + 1 + i) 98 1 (fun _ => .pointer none))) (fun i _ => B.size - (intOf i).toNat)
  case atStart => exact ⟨0, Nat.zero_le _, rfl, HB2.out, by have := HZ2.out; have := HR.out; omega, Lib.hid (HG0.out.congr fun i _ => by simp), Lib.hid fun i h => absurd h (by omega)⟩
  case round =>
    obtain ⟨k, hk, rfl, hb, hz, hrow, hn⟩ := hrel
    have hRw := HR.out
    by_cases hlt : k < B.size
    · have hst : (wr.alloc (.cells #[.pointer none] 98)).cell? ⟨R, k, none⟩ = some (.pointer none) := by
        rw [World.cell?_alloc_lt _ _ _ (by simp only; omega)]
        have := hrow.out.cell (i := k) hlt; simpa using this
      have hfr : (wr.alloc (.cells #[.pointer none] 98)).frozen? ⟨R, k, none⟩ = false := (hrow.out.alloc _).frozen k
      have HZ := Lib.hid hz
      clear hz hRw
      go_wp2_with fail
      go_roundw
      case rel =>
        have hz := HZ.out
        have hRw := HR.out
        refine ⟨k + 1, by omega, by go_num, (hb.alloc hb.size _).setCell (by simp only; omega) _, by simp [World.setCell]; omega, Lib.hid (((hrow.out.alloc _).set k _).congr fun i hi => ?_), Lib.hid fun i hik => ?_⟩
        · by_cases hik : i = k
          · subst hik; simp [hz]
          · have : (i < k + 1) = (i < k) := by rw [eq_iff_iff]; omega
            simp [hik, this]
        · by_cases hik' : i = k
          · subst hik'
            have h1 := World.rowIs_alloc wr #[.pointer none] 98 (fun _ => .pointer none) (by intro j hj; match j, hj with | 0, _ => rfl)
            rw [hz] at h1
            exact h1.setOther (by simp only; omega) _
          · exact ((hn.out i (by omega)).alloc _).setOther (by simp only; omega) _
      case measure => simp [intOf]; omega
    · obtain rfl : k = B.size := by omega
      obtain ⟨m, hm⟩ : ∃ m, B.size = m + 1 := ⟨B.size - 1, by omega⟩
      have hU : Uni wr w.heap.size R B.size (fun i => R + 1 + i) (fun _ => none) (fun i => i) (fun _ => 0) := by
        refine ⟨hrow.out.congr fun i hi => by rw [if_pos hi], fun i hi => (hn.out i hi).congr fun _ _ => rfl, ⟨by omega, fun i _ => by omega⟩, fun i _ => by omega, fun i j _ _ e => by omega, fun _ _ _ => rfl, fun i j _ h => by cases h⟩
      have hc1 := hU.row.cell (i := m) (by omega)
      have hc2 := hU.row.cell (i := 0) (by omega)
      have HJ : Hid (∀ W : World, Below wr.heap.size wr W → Calls Try.prog 84 #[.pointer (some ⟨R + 1 + m, 0, none⟩), .pointer (some ⟨R + 1 + 0, 0, none⟩)] W fun e w' => e = .returned (.bool (m != 0)) ∧ (∃ par' d', Uni w' w.heap.size R B.size (fun i => R + 1 + i) par' (joinR (fun i => i) m 0) d') ∧ KeepG B.size (fun i => R + 1 + i) W w') := Lib.hid fun W h =>
        joinP_any w.heap.size R B.size (fun i => R + 1 + i) (fun _ => none) (fun i => i) (fun _ => 0) m 0 W (by omega) (by omega) (hU.below_all h)
      have HLO := Lib.hid hU.lo
      have HF : Hid (fresh B.size = joinR (fun i => i) m 0) := Lib.hid (by unfold fresh; rw [hm]; rfl)
      have a1 : IntKind.i64.wrap ((B.size : Int) - 1) = (m : Int) := by rw [IntWalk.i64_in _ (by omega)]; omega
      have a2 : (0 : Int) ≤ (m : Int) := by omega
      have a3 : (m : Int) < (B.size : Int) := by omega
      have a4 : m < B.size := by omega
      have a5 : 0 < B.size := by omega
      have a6 : (0 : Int) < (B.size : Int) := by omega
      have hC : ∀ W, Below wr.heap.size wr W → (W.cell? ⟨R, m, none⟩ = some (.pointer (some ⟨R + 1 + m, 0, none⟩)) ∧ W.cell? ⟨R, 0, none⟩ = some (.pointer (some ⟨R + 1 + 0, 0, none⟩))) := fun W h => ⟨(h.cell (by simp only; omega)).trans hc1, (h.cell (by simp only; omega)).trans hc2⟩
      have HSS := Lib.hid hC
      have HZ := Lib.hid hz
      have HRZ : Hid (∀ W : World, Below wr.heap.size wr W → R < W.heap.size) := Lib.hid fun W h => by have := h.size; omega
      clear hU hrow hn hm hz hC hc1 hc2 hk hlt
      go_wp2_with fail
      go_region_held3 (fun W => W.cell? ⟨R, m, none⟩ = some (.pointer (some ⟨R + 1 + m, 0, none⟩)) ∧ W.cell? ⟨R, 0, none⟩ = some (.pointer (some ⟨R + 1 + 0, 0, none⟩)))
        (first
          | exact hs5
          | exact HSS.out _ (Below.refl _ _).drew)
        (first
          | (go_at_call 84; refine (HJ.out _ (Below.refl _ _).drew).mono ?_; rintro e w5 ⟨rfl, ⟨par5, d5, hU5⟩, hk5⟩
             have hs5 : w5.cell? ⟨R, m, none⟩ = some (.pointer (some ⟨R + 1 + m, 0, none⟩)) ∧ w5.cell? ⟨R, 0, none⟩ = some (.pointer (some ⟨R + 1 + 0, 0, none⟩)) := ⟨hU5.row.cell (i := m) a4, hU5.row.cell (i := 0) a5⟩
             have HU5 := Lib.hid hU5; have HK5 := Lib.hid hk5
             clear hU5 hk5))
      have hfin : Below w.heap.size w w5 := HK5.out.below (hb.drew) (by have := hb.size; simpa using this) HLO.out.2
      go_wp2_with fail
      go_ret
      exact ⟨R, _, par5, d5, rfl, by rw [HF.out]; exact HU5.out, hfin⟩

end Go.Proofs.Ytadngnajenedpaa
