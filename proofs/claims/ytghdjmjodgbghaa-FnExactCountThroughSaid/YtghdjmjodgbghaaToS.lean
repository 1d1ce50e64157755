/- How many ways lead to a block from the entry, by the model. -/
import Derived.Test.YtghdjmjodgbghaaFlip
import Derived.Test.YtghdjmjodgbghaaValS
import Derived.Test.YtghdjmjodgbghaaInL
namespace Go.Proofs.Ytghdjmjodgbghaa
open Go.RowKit

theorem into_outs (es : List (ByteArray × ByteArray)) (b : UInt8) : names (intoB es ⟨#[b]⟩) es.length = (outsOf (turnE es) b).map nameOf := by
  unfold names outsOf
  rw [turnE_len]
  congr 1
  refine List.filter_congr fun k hk => ?_
  have hkl : k < es.length := by simpa using hk
  have hkt : k < (turnE es).length := by rw [turnE_len]; exact hkl
  rw [intoB_at hkl, outB_at hkt]
  simp [turnE]

set_option maxRecDepth 100000 in
set_option maxHeartbeats 4000000 in
/-- spec.l4To -/
theorem l4To_any (B : ByteArray) (A : Option Addr) (cap : Nat) (es : List (ByteArray × ByteArray)) (O : List UInt8) (hA : Acy B es O) (hBm : B.size ≤ maxLen) : ∀ (n : Nat) (r : List UInt8) (b : UInt8) (w : World), r.length < n → r.length ≤ 7 → Topo (ebs (turnE es)) (b :: r) → EdgesIn w w.heap.size A es →
    Calls Try.prog 59 #[.agg #[.string B, .slice A es.length cap], .string ⟨#[b]⟩] w (IntPost ((cntE (ebs (turnE es)) (entry B.data.toList) b : Nat) : Int) w) := by
  intro n
  induction n with
  | zero =>
    intro r b w hn
    omega
  | succ n ih =>
    intro r b w hn h7 ht hE
    have h16 := hA.F.few
    have hB1 := hA.F.one
    have IH := Lib.hid ih
    have HTO := Lib.hid ht
    have HA0 := Lib.hid hA
    have HM := Lib.hid hBm
    obtain ⟨e0, he0⟩ : ∃ e0, entry B.data.toList = e0 := ⟨_, rfl⟩
    have FE : Hid (∀ W : World, Calls Try.prog 37 #[.agg #[.string B, .slice A es.length cap]] W fun e w' => e = .returned (.string ⟨#[e0]⟩) ∧ Below W.heap.size W w') := Lib.hid fun W => by
      rw [← he0, ← hA.F.first]; exact l1Entry_any B _ W hB1 hBm
    rw [he0] at IH ⊢
    have hb1 : Below w.heap.size w (w.alloc (.cells #[.string B, .slice A es.length cap] 29)) := (Below.refl _ _).alloc (Nat.le_refl _) _
    have t1 := Two.made w B A es.length cap 29
    have hz1 : (w.alloc (.cells #[.string B, .slice A es.length cap] 29)).heap.size = w.heap.size + 1 := by simp
    have hd0 := t1.1; have hd1 := t1.2
    clear ih ht hA hBm he0
    by_cases hbe : b = e0
    · subst hbe
      have HV : Hid (cntE (ebs (turnE es)) b b = 1) := Lib.hid (cntE_at _ _)
      have hq : (b == b) = true := by simp
      go_enter Try.func59, Try.ntmps59
      go_wp2_with fail
      refine (FE.out _).mono ?_
      rintro e w2 ⟨rfl, hb2⟩
      have hb2' := hb1.trans (hb2.mono hb1.size)
      clear hd0 hd1 t1 hb2
      go_wp2_with fail
      go_ret
      exact ⟨by rw [HV.out]; rfl, hb2'⟩
    have HFIX : Hid (cntE (ebs (turnE es)) e0 b = sumC (ebs (turnE es)) (cntE (ebs (turnE es)) e0) b (outsOf (turnE es) b)) := Lib.hid (by
      rw [cntE_fix HTO.out h7 hbe, ebs_len]
      symm
      unfold outsOf
      refine sumC_filter _ _ _ _ _ fun k hk hq => ?_
      have hkl : k < (turnE es).length := by simpa using hk
      obtain ⟨x, y, hek, hx, _⟩ := edge_letters (lets_turnE HA0.out.F.lets) hkl
      rw [outB_at hkl, Lib.toList_data, Lib.toList_data, hx] at hq
      exact stepC_no hek fun e => by subst e; simp at hq)
    have hq : (b == e0) = false := by simp [hbe]
    obtain ⟨ot, hot⟩ : ∃ ot : ByteArray, (⟨(names (intoB es ⟨#[b]⟩) es.length).toArray⟩ : ByteArray) = ot := ⟨_, rfl⟩
    have FO : Hid (∀ W : World, EdgesIn W W.heap.size A es → Calls Try.prog 84 #[.agg #[.string B, .slice A es.length cap], .string ⟨#[b]⟩] W fun e w' => e = .returned (.string ot) ∧ Below W.heap.size W w') := Lib.hid fun W h => by
      rw [← hot]; exact intoList_any B A cap es ⟨#[b]⟩ W h (by omega)
    have hod : ot.data.toList = (outsOf (turnE es) b).map nameOf := by rw [← hot]; exact into_outs es b
    have hos : ot.size = (outsOf (turnE es) b).length := by rw [str_size hod]; simp
    have hol : (outsOf (turnE es) b).length ≤ 16 := by
      unfold outsOf
      have := List.length_filter_le (outB (turnE es) ⟨#[b]⟩) (List.range (turnE es).length)
      rw [List.length_range, turnE_len] at this
      rw [turnE_len]
      omega
    have HOD := Lib.hid hod; have HOS := Lib.hid hos
    have e1 := edge_from
    clear hot hod hos hbe
    go_enter Try.func59, Try.ntmps59
    go_wp2_with fail
    refine (FE.out _).mono ?_
    rintro e w2 ⟨rfl, hb2⟩
    have hb2' := hb1.trans (hb2.mono hb1.size)
    have t2 := t1.below hb2 (by omega)
    have hz2 := hb2.size
    clear hd0 hd1 t1 hb2 hb1
    have hd0 := t2.1; have hd1 := t2.2
    go_wp2_with fail
    refine (FO.out _ ((hE.below hb2').more hb2'.size)).mono ?_
    rintro e w3 ⟨rfl, hb3⟩
    have hb3' := hb2'.trans (hb3.mono hb2'.size)
    have hz3 := hb3.size
    have HT3 := Lib.hid (t2.below hb3 (by omega)); have HB3 := Lib.hid hb3'
    clear hd0 hd1 t2 hb3 hb2' hb3' FO FE hq
    go_wp2_with fail
    go_loopw [5, 17] (fun a c wr => ∃ j : Nat, j ≤ ot.size ∧ c = .int .i64 j ∧ a = .int .i64 ((sumC (ebs (turnE es)) (cntE (ebs (turnE es)) e0) b ((outsOf (turnE es) b).take j) : Nat) : Int) ∧ Below w3.heap.size w3 wr) (fun _ c _ => ot.size - (intOf c).toNat)
    case atStart => exact ⟨0, Nat.zero_le _, rfl, rfl, Below.refl _ _⟩
    case round =>
      obtain ⟨j, hj, rfl, rfl, hb⟩ := hrel
      have HB := Lib.hid hb
      have hzr := hb.size
      have tr := HT3.out.below hb (by omega)
      have HTRW := Lib.hid tr
      have hbw := HB3.out.trans (hb.mono HB3.out.size)
      clear hb tr
      by_cases hlt : j < ot.size
      case neg =>
        have HEND : Hid (sumC (ebs (turnE es)) (cntE (ebs (turnE es)) e0) b ((outsOf (turnE es) b).take j) = cntE (ebs (turnE es)) e0 b) := Lib.hid (by rw [List.take_of_length_le (by have := HOS.out; omega), HFIX.out])
        rw [HEND.out]
        go_wp2_with fail
        go_ret
        exact ⟨rfl, hbw⟩
      have hjo : j < (outsOf (turnE es) b).length := by have := HOS.out; omega
      obtain ⟨ix, hix⟩ : ∃ ix, (outsOf (turnE es) b)[j] = ix := ⟨_, rfl⟩
      obtain ⟨hi, y2, hy, hy2, hyl2⟩ := outsOf_mem (lets_turnE HA0.out.F.lets) (hix ▸ List.getElem_mem hjo : ix ∈ outsOf (turnE es) b)
      have hie : ix < es.length := by rw [turnE_len] at hi; exact hi
      have hex : ot.extract j (j + 1) = ⟨#[nameOf ix]⟩ := by
        have := letter_at (p := ot) hlt
        rw [HOD.out] at this
        have e : ((outsOf (turnE es) b).map nameOf).getD j 0 = nameOf ix := by simp [List.getD, hjo, hix]
        rw [e] at this
        exact one_byte this
      obtain ⟨c1, hc1⟩ : ∃ c1 : Nat, sumC (ebs (turnE es)) (cntE (ebs (turnE es)) e0) b ((outsOf (turnE es) b).take j) = c1 := ⟨_, rfl⟩
      obtain ⟨c2, hc2⟩ : ∃ c2 : Nat, cntE (ebs (turnE es)) e0 y2 = c2 := ⟨_, rfl⟩
      obtain ⟨r2, ht2, hr7, hrl⟩ := topo_to HTO.out h7 (List.mem_of_getElem? hy)
      have hcb : c1 + c2 ≤ 8589934592 := by
        have h1 := sumC_le (E := ebs (turnE es)) (g := cntE (ebs (turnE es)) e0) (b := b) (M := 268435456) (fun y hy => by
          obtain ⟨r3, h2, h3, _⟩ := topo_to HTO.out h7 hy
          exact cntE_few (by rw [ebs_len, turnE_len]; exact h16) h2 h3) ((outsOf (turnE es) b).take j)
        have h2 : cntE (ebs (turnE es)) e0 y2 ≤ 268435456 := cntE_few (by rw [ebs_len, turnE_len]; exact h16) ht2 hr7
        have h3 : ((outsOf (turnE es) b).take j).length * 268435456 ≤ 16 * 268435456 := Nat.mul_le_mul_right _ (by rw [List.length_take]; omega)
        omega
      have HNEXT : Hid (sumC (ebs (turnE es)) (cntE (ebs (turnE es)) e0) b ((outsOf (turnE es) b).take (j + 1)) = c1 + c2) := Lib.hid (by rw [List.take_succ_eq_append_getElem hjo, hix, sumC_snoc, stepC_yes hy, hc1, hc2])
      have FL2 : Hid (∀ W : World, EdgesIn W W.heap.size A es → Calls Try.prog 58 #[.agg #[.string B, .slice A es.length cap], .string ⟨#[nameOf ix]⟩] W fun e w' => e = .returned (.agg #[.string ⟨#[y2]⟩, .string es[ix].2]) ∧ Below W.heap.size W w') := Lib.hid fun W h => by
        have := l2Edge_any B A cap es ⟨#[nameOf ix]⟩ ix W h (by omega) hie (eIdx_name hie (by omega))
        have e : es[ix].1 = ⟨#[y2]⟩ := by rw [← hy2]; simp [turnE]
        rwa [e] at this
      have FC2 : Hid (∀ W : World, EdgesIn W W.heap.size A es → Calls Try.prog 59 #[.agg #[.string B, .slice A es.length cap], .string ⟨#[y2]⟩] W fun e w' => e = .returned (.int .i64 (c2 : Int)) ∧ Below W.heap.size W w') := Lib.hid fun W h => by
        have := IH.out r2 y2 W (by omega) hr7 ht2 h
        rwa [hc2] at this
      have z1 : IntKind.i64.wrap ((c1 : Int) + (c2 : Int)) = (c1 : Int) + (c2 : Int) := IntWalk.i64_in _ (by omega)
      have a1 : (0 : Int) ≤ (j : Int) := by omega
      have a2 : (j : Int) < (ot.size : Int) := by omega
      have a4 : (0 : Int) ≤ (j : Int) + 1 := by omega
      have a5 : ((j : Int) + 1).toNat = j + 1 := by omega
      have a6 : (j : Int) + 1 ≤ (ot.size : Int) := by omega
      have a7 : j + 1 ≤ ot.size := by omega
      have a8 : (j : Int) ≤ (j : Int) + 1 := by omega
      have a9 : IntKind.i64.wrap ((j : Int) + 1) = (j : Int) + 1 := IntWalk.i64_in _ (by have := HOS.out; omega)
      rw [hc1]
      clear hc1 hc2 hcb hix hy hy2 hyl2 ht2
      go_wp2_with fail
      have x0 : ∀ x : After wr, x.W.cell? ⟨w.heap.size, 0, none⟩ = some (.string B) := fun x => x.cell (by simp only; omega) HTRW.out.1
      have x1 : ∀ x : After wr, x.W.cell? ⟨w.heap.size, 1, none⟩ = some (.slice A es.length cap) := fun x => x.cell (by simp only; omega) HTRW.out.2
      have xE : ∀ x : After wr, EdgesIn x.W x.W.heap.size A es := fun x => ((hE.below hbw).below (x.h.mono hbw.size)).more (Nat.le_trans hbw.size x.h.size)
      have XE := Lib.hid xE; clear xE
      refine wp_region_below (by kernel_rfl) (by kernel_rfl) ?_
      repeat (go_big_quiet_step ((first
        | (go_at_call 58; exact After.call (FL2.out _ (XE.out _)))
        | (go_at_call 59; exact After.call (FC2.out _ (XE.out _))))))
      refine wpQuiet_nil ?_
      rintro _ ⟨xw, rfl⟩
      clear x0 x1
      go_wp2_with fail
      go_roundw
      case rel => exact ⟨j + 1, by omega, by go_num, by rw [HNEXT.out, Int.natCast_add], HB.out.trans (xw.h.mono (by omega))⟩
      case measure => simp [intOf]; omega

end Go.Proofs.Ytghdjmjodgbghaa
