/- The number of a run: NumberOf by the program. -/
import Derived.Test.YtghdjmjodgbghaaNofS
import Derived.Test.YtghdjmjodgbghaaVofI
import Derived.Test.YtghdjmjodgbghaaIsRunI
namespace Go.Proofs.Ytghdjmjodgbghaa
open Go.RowKit

set_option maxRecDepth 100000 in
set_option maxHeartbeats 4000000 in
/-- impl.NumberOf -/
theorem implNumberOf_any (B : ByteArray) (A : Option Addr) (cap : Nat) (es : List (ByteArray × ByteArray)) (b : ByteArray) (w : World) (hs : B.size ≤ maxLen) (hE : EdgesIn w w.heap.size A es) (hl : es.length ≤ 1099511627776) (hS : ∀ e ∈ es, e.1.size ≤ 1099511627776 ∧ e.2.size ≤ 1099511627776) (hbz : b.size ≤ 1099511627776) :
    Calls Try.prog 27 #[.agg #[.string B, .slice A es.length cap], .string b] w (IntPost (numberV B es b) w) := by
  have HL := Lib.hid hl; have HM := Lib.hid hs; have HS := Lib.hid hS
  clear hl hs hS
  have hb1 : Below w.heap.size w (w.alloc (.cells #[.string B, .slice A es.length cap] 29)) := (Below.refl _ _).alloc (Nat.le_refl _) _
  have t1 := Two.made w B A es.length cap 29
  have hz1 : (w.alloc (.cells #[.string B, .slice A es.length cap] 29)).heap.size = w.heap.size + 1 := by simp
  obtain ⟨v, hv⟩ : ∃ v, acycV B es = v := ⟨_, rfl⟩
  have FA : Hid (∀ W : World, EdgesIn W W.heap.size A es → Calls Try.prog 39 #[.agg #[.string B, .slice A es.length cap]] W fun e w' => e = .returned (.bool v) ∧ Below W.heap.size W w') := Lib.hid fun W h => by
    have := implIsAcyclic_any B A cap es W HM.out h HL.out HS.out
    rwa [hv] at this
  obtain ⟨rn, hrn⟩ : ∃ rn, runV B es b = rn := ⟨_, rfl⟩
  have FB : Hid (∀ W : World, EdgesIn W W.heap.size A es → Calls Try.prog 54 #[.agg #[.string B, .slice A es.length cap], .string b] W fun e w' => e = .returned (.bool rn) ∧ Below W.heap.size W w') := Lib.hid fun W h => by
    have := implIsRun_any B A cap es b W HM.out h HL.out HS.out hbz
    rwa [hrn] at this
  cases v with
  | false =>
    have HN : Hid (numberV B es b = -1) := Lib.hid (if_neg (by rw [hv]; simp))
    clear hv hrn
    go_enter Try.func27, Try.ntmps27
    go_wp2_with fail
    refine (FA.out _ ((hE.below hb1).more hb1.size)).mono ?_
    rintro e w2 ⟨rfl, hb2⟩
    have hb2' := hb1.trans (hb2.mono hb1.size)
    clear hb2 t1
    go_wp2_with fail
    go_ret
    exact ⟨ret_int HN.out.symm, hb2'⟩
  | true =>
    cases rn with
    | false =>
      have HN : Hid (numberV B es b = -1) := Lib.hid (if_neg fun h => by rw [hrn] at h; exact absurd h.2 (by simp))
      clear hv hrn
      go_enter Try.func27, Try.ntmps27
      go_wp2_with fail
      refine (FA.out _ ((hE.below hb1).more hb1.size)).mono ?_
      rintro e w2 ⟨rfl, hb2⟩
      have hb2' := hb1.trans (hb2.mono hb1.size)
      have t2 := t1.below hb2 (by omega)
      have hd0 := t2.1; have hd1 := t2.2
      clear hb2 t1 hb1 FA
      go_wp2_with fail
      refine (FB.out _ ((hE.below hb2').more hb2'.size)).mono ?_
      rintro e w3 ⟨rfl, hb3⟩
      have hb3' := hb2'.trans (hb3.mono hb2'.size)
      clear hb3 hd0 hd1 t2
      go_wp2_with fail
      go_ret
      exact ⟨ret_int HN.out.symm, hb3'⟩
    | true =>
    have hA := acy_v hv
    have h16 := hA.F.few
    have hpo := (decB_iff.1 (decB_iff.1 hrn).1).2
    have hpz : b.size ≤ 60 := by have := hpo.1; simpa using this
    have HP := Lib.hid (named_of_path hA.F.few hpo)
    have HLEN : Hid (b.data.toList.length = b.size) := Lib.hid (by simp)
    have HNF : Hid (∀ i, i ≤ b.size → numE (ebs es) (exit_ B.data.toList) (b.data.toList.take i) ≤ i * 4294967296) := Lib.hid fun i hi => numE_few hA HP.out i (by have := HLEN.out; omega)
    have HVF : Hid (∀ k, k < es.length → valE (ebs es) (exit_ B.data.toList) k ≤ 4294967296) := Lib.hid fun k hk => valE_few hA hk
    have HN : Hid (numberV B es b = ((numE (ebs es) (exit_ B.data.toList) b.data.toList : Nat) : Int)) := Lib.hid (if_pos ⟨hv, hrn⟩)
    have FV0 : Hid (∀ W : World, EdgesIn W W.heap.size A es → Calls Try.prog 48 #[.agg #[.string B, .slice A es.length cap]] W fun e w' => e = .returned (arr16 (valE (ebs es) (exit_ B.data.toList))) ∧ Below W.heap.size W w') := Lib.hid fun W h => values_acy hv HM.out W h
    obtain ⟨t, ht⟩ : ∃ t, exit_ B.data.toList = t := ⟨_, rfl⟩
    rw [ht] at HNF HVF HN FV0
    obtain ⟨F, hF⟩ : ∃ F : Nat → Nat, valE (ebs es) t = F := ⟨_, rfl⟩
    have HF := Lib.hid hF
    have FV : Hid (∀ W : World, EdgesIn W W.heap.size A es → Calls Try.prog 48 #[.agg #[.string B, .slice A es.length cap]] W fun e w' => e = .returned (.agg #[.int .i64 ((F 0 : Nat) : Int), .int .i64 ((F 1 : Nat) : Int), .int .i64 ((F 2 : Nat) : Int), .int .i64 ((F 3 : Nat) : Int), .int .i64 ((F 4 : Nat) : Int), .int .i64 ((F 5 : Nat) : Int), .int .i64 ((F 6 : Nat) : Int), .int .i64 ((F 7 : Nat) : Int), .int .i64 ((F 8 : Nat) : Int), .int .i64 ((F 9 : Nat) : Int), .int .i64 ((F 10 : Nat) : Int), .int .i64 ((F 11 : Nat) : Int), .int .i64 ((F 12 : Nat) : Int), .int .i64 ((F 13 : Nat) : Int), .int .i64 ((F 14 : Nat) : Int), .int .i64 ((F 15 : Nat) : Int)]) ∧ Below W.heap.size W w') := Lib.hid fun W h => by
      have := FV0.out W h
      rw [hF] at this
      exact this
    have FX : Hid (∀ k, k < es.length → ∀ W : World, Calls Try.prog 47 #[.agg #[.string B, .slice A es.length cap], .string ⟨#[nameOf k]⟩] W fun e w' => e = .returned (.int .i64 k) ∧ Below W.heap.size W w') := Lib.hid fun k hk W => by
      have := edgeIndex_any (.string B) A es.length cap ⟨#[nameOf k]⟩ W HL.out
      rwa [eIdx_name hk (by omega)] at this
    clear hv hrn hA hpo FV0 ht hF
    go_enter Try.func27, Try.ntmps27
    go_wp2_with fail
    refine (FA.out _ ((hE.below hb1).more hb1.size)).mono ?_
    rintro e w2 ⟨rfl, hb2⟩
    have hb2' := hb1.trans (hb2.mono hb1.size)
    have t2 := t1.below hb2 (by omega)
    have hz2 := hb2.size
    have hd0 := t2.1; have hd1 := t2.2
    clear hb2 t1 hb1 FA
    go_wp2_with fail
    refine (FB.out _ ((hE.below hb2').more hb2'.size)).mono ?_
    rintro e w3 ⟨rfl, hb3⟩
    have hb3' := hb2'.trans (hb3.mono hb2'.size)
    have t3 := t2.below hb3 (by omega)
    have hz3 := hb3.size
    clear hb3 hd0 hd1 t2 hb2' FB
    have hd0 := t3.1; have hd1 := t3.2
    go_wp2_with fail
    refine (FV.out _ ((hE.below hb3').more hb3'.size)).mono ?_
    rintro e w4 ⟨rfl, hb4⟩
    have hb4' := hb3'.trans (hb4.mono hb3'.size)
    have t4 := t3.below hb4 (by omega)
    have hz4 := hb4.size
    clear hb4 hd0 hd1 t3 hb3' FV
    have hrow := arr16_row w4 F
    obtain ⟨w5, hw5⟩ : ∃ w5, w4.alloc (.cells #[.int .i64 ((F 0 : Nat) : Int), .int .i64 ((F 1 : Nat) : Int), .int .i64 ((F 2 : Nat) : Int), .int .i64 ((F 3 : Nat) : Int), .int .i64 ((F 4 : Nat) : Int), .int .i64 ((F 5 : Nat) : Int), .int .i64 ((F 6 : Nat) : Int), .int .i64 ((F 7 : Nat) : Int), .int .i64 ((F 8 : Nat) : Int), .int .i64 ((F 9 : Nat) : Int), .int .i64 ((F 10 : Nat) : Int), .int .i64 ((F 11 : Nat) : Int), .int .i64 ((F 12 : Nat) : Int), .int .i64 ((F 13 : Nat) : Int), .int .i64 ((F 14 : Nat) : Int), .int .i64 ((F 15 : Nat) : Int)] 53) = w5 := ⟨_, rfl⟩
    have hb5 : Below w4.heap.size w4 w5 := by rw [← hw5]; exact (Below.refl _ _).alloc (Nat.le_refl _) _
    have hz5 : w5.heap.size = w4.heap.size + 1 := by rw [← hw5]; simp
    rw [hw5] at hrow
    have HROW := Lib.hid hrow
    have HT5 := Lib.hid (t4.below hb5 (by omega))
    have HB5 := Lib.hid (hb4'.trans (hb5.mono (by omega)))
    clear hrow hb5 t4 hb4'
    go_wp2_with fail
    clear hw5
    obtain ⟨X, hX⟩ : ∃ X, w4.heap.size = X := ⟨_, rfl⟩
    rw [hX] at HROW hz5 ⊢
    have hXw : w.heap.size < X := by omega
    go_loopw [6, 21] (fun a c wr => ∃ i : Nat, i ≤ b.size ∧ c = .int .i64 i ∧ a = .int .i64 ((numE (ebs es) t (b.data.toList.take i) : Nat) : Int) ∧ Below w5.heap.size w5 wr) (fun _ c _ => b.size - (intOf c).toNat)
    case atStart => exact ⟨0, Nat.zero_le _, rfl, rfl, Below.refl _ _⟩
    case round =>
      obtain ⟨i, hi, rfl, rfl, hb⟩ := hrel
      have HB := Lib.hid hb
      have hzr := hb.size
      have hbw := HB5.out.trans (hb.mono HB5.out.size)
      have tr := HT5.out.below hb (by omega)
      have hrr := HROW.out.of_block (hb.block X (by omega))
      clear hb
      by_cases hlt : i < b.size
      case neg =>
        have HEND : Hid (numE (ebs es) t (b.data.toList.take i) = numE (ebs es) t b.data.toList) := Lib.hid (by rw [List.take_of_length_le (by have := HLEN.out; omega)])
        rw [HEND.out]
        clear tr hrr
        go_wp2_with fail
        go_ret
        exact ⟨ret_int HN.out.symm, hbw⟩
      obtain ⟨k, hk, hc⟩ := HP.out i (by have := HLEN.out; omega)
      have hex : b.extract i (i + 1) = ⟨#[nameOf k]⟩ := by
        have := letter_at (p := b) hlt
        rw [hc] at this
        exact one_byte this
      obtain ⟨c1, hc1⟩ : ∃ c1 : Nat, numE (ebs es) t (b.data.toList.take i) = c1 := ⟨_, rfl⟩
      obtain ⟨c2, hc2⟩ : ∃ c2 : Nat, F k = c2 := ⟨_, rfl⟩
      have hvk : valE (ebs es) t k = c2 := by rw [← hc2, HF.out]
      have HNX : Hid (numE (ebs es) t (b.data.toList.take (i + 1)) = c1 + c2) := Lib.hid (by rw [Named.take_succ (n := es.length) (by have := HLEN.out; omega) hc, numE_snoc _ _ _ _ (by omega), hc1, hvk])
      have hcb : c1 + c2 ≤ 300000000000 := by
        have h1 := HNF.out i (by omega)
        have h2 := HVF.out k hk
        have h3 : i * 4294967296 ≤ 60 * 4294967296 := Nat.mul_le_mul_right _ (by omega)
        omega
      have z1 : IntKind.i64.wrap ((c1 : Int) + (c2 : Int)) = (c1 : Int) + (c2 : Int) := IntWalk.i64_in _ (by omega)
      have hcell : wr.cell? ⟨X, k, none⟩ = some (.int .i64 (c2 : Int)) := by
        rw [hrr.cell (i := k) (by omega), hc2]
      have a0 : (0 : Int) ≤ (k : Int) := by omega
      have a3 : (k : Int) < 16 := by omega
      have a1 : (0 : Int) ≤ (i : Int) := by omega
      have a4 : (0 : Int) ≤ (i : Int) + 1 := by omega
      have a5 : ((i : Int) + 1).toNat = i + 1 := by omega
      have a6 : (i : Int) + 1 ≤ (b.size : Int) := by omega
      have a7 : i + 1 ≤ b.size := by omega
      have a8 : (i : Int) ≤ (i : Int) + 1 := by omega
      have a9 : IntKind.i64.wrap ((i : Int) + 1) = (i : Int) + 1 := IntWalk.i64_in _ (by omega)
      rw [hc1]
      have FXK := Lib.hid (FX.out k hk)
      clear hc hc1 hc2 hcb hvk hrr
      go_wp2_with fail
      have x0 : ∀ x : After wr, x.W.cell? ⟨w.heap.size, 0, none⟩ = some (.string B) := fun x => x.cell (by simp only; omega) tr.1
      have x1 : ∀ x : After wr, x.W.cell? ⟨w.heap.size, 1, none⟩ = some (.slice A es.length cap) := fun x => x.cell (by simp only; omega) tr.2
      have x2 : ∀ x : After wr, x.W.cell? ⟨X, k, none⟩ = some (.int .i64 (c2 : Int)) := fun x => x.cell (by simp only; omega) hcell
      refine wp_region_below (by kernel_rfl) (by kernel_rfl) ?_
      repeat (go_big_quiet_step ((go_at_call 47; exact After.call (FXK.out _))))
      refine wpQuiet_nil ?_
      rintro _ ⟨xw, rfl⟩
      clear x0 x1 x2
      go_wp2_with fail
      go_roundw
      case rel => exact ⟨i + 1, by omega, by go_num, by rw [HNX.out, Int.natCast_add], HB.out.trans (xw.h.mono (by omega))⟩
      case measure => simp [intOf]; omega

end Go.Proofs.Ytghdjmjodgbghaa
