/- The number of a run, by the model. -/
import Derived.Test.YtghdjmjodgbghaaVofS
import Derived.Test.YtghdjmjodgbghaaIsRunS
namespace Go.Proofs.Ytghdjmjodgbghaa
open Go.RowKit

/-- the sum of the values of edges, by their names -/
def numE (E : Eds) (t : UInt8) (p : List UInt8) : Nat := (p.map fun c => valE E t (c.toNat - 97)).sum
theorem numE_nil (E : Eds) (t : UInt8) : numE E t [] = 0 := rfl
theorem numE_snoc (E : Eds) (t : UInt8) (p : List UInt8) (k : Nat) (hk : k ≤ 100) : numE E t (p ++ [nameOf k]) = numE E t p + valE E t k := by
  have : (nameOf k).toNat - 97 = k := by rw [nameOf_toNat hk]; omega
  simp [numE, this]
theorem valE_few {B : ByteArray} {es : List (ByteArray × ByteArray)} {O : List UInt8} (h : Acy B es O) {k : Nat} (hk : k < es.length) : valE (ebs es) (exit_ B.data.toList) k ≤ 4294967296 := by
  obtain ⟨x, y, he, _, _, hx, _⟩ := edge_letters h.F.lets hk
  obtain ⟨r, h1, h2⟩ := h.at_ hx
  rw [valE_eq he]
  exact sumC_few (by rw [ebs_len]; exact h.F.few) h1 h2 (by have := h.F.few; omega)
/-- the letters of a text name edges -/
def Named (n : Nat) (p : List UInt8) : Prop := ∀ i, i < p.length → ∃ k, k < n ∧ p.getD i 0 = nameOf k
theorem Named.take_succ {n : Nat} {p : List UInt8} {i k : Nat} (hi : i < p.length) (h : p.getD i 0 = nameOf k) : p.take (i + 1) = p.take i ++ [nameOf k] := by
  rw [List.take_succ_eq_append_getElem hi]
  congr 1
  rw [List.getD_eq_getElem?_getD, List.getElem?_eq_getElem hi, Option.getD_some] at h
  rw [h]
theorem numE_few {B : ByteArray} {es : List (ByteArray × ByteArray)} {O : List UInt8} (h : Acy B es O) {p : List UInt8} (hp : Named es.length p) : ∀ i, i ≤ p.length → numE (ebs es) (exit_ B.data.toList) (p.take i) ≤ i * 4294967296
  | 0, _ => by simp [numE]
  | i + 1, hi => by
    obtain ⟨k, hk, hc⟩ := hp i (by omega)
    rw [Named.take_succ (n := es.length) (by omega) hc, numE_snoc _ _ _ _ (by have := h.F.few; omega)]
    have h1 := numE_few h hp i (by omega)
    have h2 := valE_few h hk
    rw [Nat.succ_mul]; omega
theorem named_of_path {es : List (ByteArray × ByteArray)} {p : List UInt8} (hn : es.length ≤ 16) (h : PathOk es p) : Named es.length p := fun i hi => by
  obtain ⟨h1, _⟩ := h.2 i hi
  obtain ⟨k, hk, hke⟩ := eIdx_some h1
  refine ⟨k, hk, ?_⟩
  have := eIdx_text (b := ⟨#[p.getD i 0]⟩) hke hn
  have h2 := congrArg (fun b : ByteArray => b.data.toList) this
  simpa using h2

set_option maxRecDepth 100000 in
set_option maxHeartbeats 4000000 in
/-- spec.l4Number -/
theorem l4Number_any (B : ByteArray) (A : Option Addr) (cap : Nat) (es : List (ByteArray × ByteArray)) (p : ByteArray) (w : World) (hE : EdgesIn w w.heap.size A es) (hA : Acy B es (orderE B.data.toList (ebs es))) (hBm : B.size ≤ maxLen) (hp : Named es.length p.data.toList) (hpz : p.size ≤ 60) :
    Calls Try.prog 53 #[.agg #[.string B, .slice A es.length cap], .string p] w (IntPost ((numE (ebs es) (exit_ B.data.toList) p.data.toList : Nat) : Int) w) := by
  have h16 := hA.F.few
  have hlen : p.data.toList.length = p.size := by simp
  have HLEN := Lib.hid hlen
  have HP := Lib.hid hp
  have HNF : Hid (∀ i, i ≤ p.size → numE (ebs es) (exit_ B.data.toList) (p.data.toList.take i) ≤ i * 4294967296) := Lib.hid fun i hi => numE_few hA hp i (by omega)
  have HVF : Hid (∀ k, k < es.length → valE (ebs es) (exit_ B.data.toList) k ≤ 4294967296) := Lib.hid fun k hk => valE_few hA hk
  have FV : Hid (∀ k, k < es.length → ∀ W : World, EdgesIn W W.heap.size A es → Calls Try.prog 46 #[.agg #[.string B, .slice A es.length cap], .string ⟨#[nameOf k]⟩] W fun e w' => e = .returned (.int .i64 ((valE (ebs es) (exit_ B.data.toList) k : Nat) : Int)) ∧ Below W.heap.size W w') := Lib.hid fun k hk W h => l4Value_any B A cap es k W h hA hBm hk
  obtain ⟨t, ht⟩ : ∃ t, exit_ B.data.toList = t := ⟨_, rfl⟩
  rw [ht] at HNF HVF FV ⊢
  have hb1 : Below w.heap.size w (w.alloc (.cells #[.string B, .slice A es.length cap] 29)) := (Below.refl _ _).alloc (Nat.le_refl _) _
  have t1 := Two.made w B A es.length cap 29
  have hz1 : (w.alloc (.cells #[.string B, .slice A es.length cap] 29)).heap.size = w.heap.size + 1 := by simp
  clear hlen hp hA hBm ht
  go_enter Try.func53, Try.ntmps53
  go_wp2_with fail
  obtain ⟨w1, hw1⟩ : ∃ w1, w.alloc (.cells #[.string B, .slice A es.length cap] 29) = w1 := ⟨_, rfl⟩
  rw [hw1] at hb1 t1 hz1 ⊢
  clear hw1
  have HT1 := Lib.hid t1; have HB1 := Lib.hid hb1
  clear t1 hb1
  go_loopw [5, 9] (fun a c wr => ∃ i : Nat, i ≤ p.size ∧ c = .int .i64 i ∧ a = .int .i64 ((numE (ebs es) t (p.data.toList.take i) : Nat) : Int) ∧ Below w1.heap.size w1 wr) (fun _ c _ => p.size - (intOf c).toNat)
  case atStart => exact ⟨0, Nat.zero_le _, rfl, rfl, Below.refl _ _⟩
  case round =>
    obtain ⟨i, hi, rfl, rfl, hb⟩ := hrel
    have HB := Lib.hid hb
    have hzr := hb.size
    have hbw := HB1.out.trans (hb.mono HB1.out.size)
    have tr := HT1.out.below hb (by omega)
    clear hb
    by_cases hlt : i < p.size
    case neg =>
      have HEND : Hid (numE (ebs es) t (p.data.toList.take i) = numE (ebs es) t p.data.toList) := Lib.hid (by rw [List.take_of_length_le (by have := HLEN.out; omega)])
      rw [HEND.out]
      clear tr
      go_wp2_with fail
      go_ret
      exact ⟨rfl, hbw⟩
    obtain ⟨k, hk, hc⟩ := HP.out i (by have := HLEN.out; omega)
    have hex : p.extract i (i + 1) = ⟨#[nameOf k]⟩ := by
      have := letter_at (p := p) hlt
      rw [hc] at this
      exact one_byte this
    obtain ⟨c1, hc1⟩ : ∃ c1 : Nat, numE (ebs es) t (p.data.toList.take i) = c1 := ⟨_, rfl⟩
    obtain ⟨c2, hc2⟩ : ∃ c2 : Nat, valE (ebs es) t k = c2 := ⟨_, rfl⟩
    have HN : Hid (numE (ebs es) t (p.data.toList.take (i + 1)) = c1 + c2) := Lib.hid (by rw [Named.take_succ (n := es.length) (by have := HLEN.out; omega) hc, numE_snoc _ _ _ _ (by omega), hc1, hc2])
    have hcb : c1 + c2 ≤ 300000000000 := by
      have h1 := HNF.out i (by omega)
      have h2 := HVF.out k hk
      have h3 : i * 4294967296 ≤ 60 * 4294967296 := Nat.mul_le_mul_right _ (by omega)
      omega
    have z1 : IntKind.i64.wrap ((c1 : Int) + (c2 : Int)) = (c1 : Int) + (c2 : Int) := IntWalk.i64_in _ (by omega)
    have FV2 : Hid (∀ W : World, EdgesIn W W.heap.size A es → Calls Try.prog 46 #[.agg #[.string B, .slice A es.length cap], .string ⟨#[nameOf k]⟩] W fun e w' => e = .returned (.int .i64 (c2 : Int)) ∧ Below W.heap.size W w') := Lib.hid fun W h => by
      have := FV.out k hk W h
      rwa [hc2] at this
    have a1 : (0 : Int) ≤ (i : Int) := by omega
    have a4 : (0 : Int) ≤ (i : Int) + 1 := by omega
    have a5 : ((i : Int) + 1).toNat = i + 1 := by omega
    have a6 : (i : Int) + 1 ≤ (p.size : Int) := by omega
    have a7 : i + 1 ≤ p.size := by omega
    have a8 : (i : Int) ≤ (i : Int) + 1 := by omega
    have a9 : IntKind.i64.wrap ((i : Int) + 1) = (i : Int) + 1 := IntWalk.i64_in _ (by omega)
    rw [hc1]
    clear hc hc1 hc2 hcb
    go_wp2_with fail
    have x0 : ∀ x : After wr, x.W.cell? ⟨w.heap.size, 0, none⟩ = some (.string B) := fun x => x.cell (by simp only; omega) tr.1
    have x1 : ∀ x : After wr, x.W.cell? ⟨w.heap.size, 1, none⟩ = some (.slice A es.length cap) := fun x => x.cell (by simp only; omega) tr.2
    have xE : ∀ x : After wr, EdgesIn x.W x.W.heap.size A es := fun x => ((hE.below hbw).below (x.h.mono hbw.size)).more (Nat.le_trans hbw.size x.h.size)
    have XE := Lib.hid xE; clear xE
    refine wp_region_below (by kernel_rfl) (by kernel_rfl) ?_
    repeat (go_big_quiet_step ((go_at_call 46; exact After.call (FV2.out _ (XE.out _)))))
    refine wpQuiet_nil ?_
    rintro _ ⟨xw, rfl⟩
    clear x0 x1
    go_wp2_with fail
    go_roundw
    case rel => exact ⟨i + 1, by omega, by go_num, by rw [HN.out, Int.natCast_add], HB.out.trans (xw.h.mono (by omega))⟩
    case measure => simp [intOf]; omega

end Go.Proofs.Ytghdjmjodgbghaa
