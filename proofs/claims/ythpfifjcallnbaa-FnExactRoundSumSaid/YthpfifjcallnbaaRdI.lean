/- A round read, by the program. -/
import Derived.Test.YthpfifjcallnbaaRdP
import Derived.Test.YthpfifjcallnbaaMvAll
import Derived.Test.YthpfifjcallnbaaNames
import Derived.Test.YthpfifjcallnbaaZ6V
import Derived.Laws.EntriesVeiled
import Derived.BigQuiet
import Derived.WalkSmall
namespace Go.Proofs.Ythpfifjcallnbaa
open Go.RowKit

theorem yes_any (i : Nat) (W : World) : Calls Try.prog 91 (#[.int .i64 (i : Int)] ++ #[]) W fun e W' => e = .returned (.bool true) ∧ Below W.heap.size W W' := by
  go_enter Try.func91, Try.ntmps91
  go_wp2
  go_ret
  exact ⟨rfl, Below.refl _ _⟩

set_option maxRecDepth 100000 in
set_option maxHeartbeats 1000000 in
/-- impl.readRound$2 -/
theorem sameText_any (m : Mv) (r s : ByteArray) (R P q : Nat) (w : World) (hR : w.cell? ⟨R, 0, none⟩ = some (.string r)) (hP : w.cell? ⟨P, 0, none⟩ = some (.int .i64 (q : Int))) (hRl : R < w.heap.size) (hPl : P < w.heap.size) (hq : q + 2 ≤ r.size) (hr : r.size ≤ 1000) (hs : r.extract q (q + 2) = s) :
    Calls Try.prog 93 #[.agg #[.string ⟨#[m.sg, m.nm]⟩, .string ⟨#[m.fr]⟩, .string ⟨#[m.tb]⟩], .pointer (some ⟨R, 0, none⟩), .pointer (some ⟨P, 0, none⟩)] w fun e w' => e = .returned (.bool ((⟨#[m.sg, m.nm]⟩ : ByteArray).toList == s.toList)) ∧ Below w.heap.size w w' := by
  have HSX := Lib.hid hs
  obtain ⟨tx, htx⟩ : ∃ tx : ByteArray, (⟨#[m.sg, m.nm]⟩ : ByteArray) = tx := ⟨_, rfl⟩
  rw [htx]
  have hb : Below w.heap.size w (w.alloc (.cells #[.string tx, .string ⟨#[m.fr]⟩, .string ⟨#[m.tb]⟩] 68)) := (Below.refl _ _).alloc (Nat.le_refl _) _
  have c0 : (w.alloc (.cells #[.string tx, .string ⟨#[m.fr]⟩, .string ⟨#[m.tb]⟩] 68)).cell? ⟨w.heap.size, 0, none⟩ = some (.string tx) := by go_simp
  have c1 := (hb.cell (p := ⟨R, 0, none⟩) hRl).trans hR
  have c2 := (hb.cell (p := ⟨P, 0, none⟩) hPl).trans hP
  have a0 : (0 : Int) ≤ (q : Int) := by omega
  have a1 : (0 : Int) ≤ (q : Int) + 2 := by omega
  have a2 : ((q : Int) + 2).toNat = q + 2 := by omega
  have a3 : (q : Int) + 2 ≤ (r.size : Int) := by omega
  have a4 : (q : Int) ≤ (q : Int) + 2 := by omega
  have a5 : IntKind.i64.wrap ((q : Int) + 2) = (q : Int) + 2 := IntWalk.i64_in _ (by omega)
  obtain ⟨w1, hw1⟩ : ∃ w1, w.alloc (.cells #[.string tx, .string ⟨#[m.fr]⟩, .string ⟨#[m.tb]⟩] 68) = w1 := ⟨_, rfl⟩
  rw [hw1] at hb c0 c1 c2
  have HW1 := Lib.hid hw1; have HB := Lib.hid hb
  clear hb hs htx hw1 hR hP hRl hPl hr
  go_enter Try.func93, Try.ntmps93
  go_wp2_with fail
  rw [HW1.out]
  go_quiet (fail)
  go_wp2_with fail
  go_ret
  exact ⟨by rw [← HSX.out]; rfl, below_drewN HB.out _⟩

/-- where the first move stands of which a test holds -/
def FirstM (ms : List Mv) (p : Mv → Bool) (r : Int) : Prop := (r = -1 ∧ ∀ m ∈ ms, p m = false) ∨ ∃ k m, r = (k : Nat) ∧ ms[k]? = some m ∧ p m = true

set_option maxRecDepth 100000 in
set_option maxHeartbeats 1000000 in
/-- slices.IndexFunc, of moves -/
theorem indexM_any (A : Option Addr) (c : Nat) (ms : List Mv) (f : FuncId) (caps : Array Value) (p : Mv → Bool) (w : World) (hX : MovesIn w w.heap.size A ms) (hl : ms.length ≤ 100)
    (he : ∀ args w, (callFunc f args).run Try.prog w = .ok (.enter f args) w)
    (hk : ∀ (m : Mv) (W : World), Below w.heap.size w W → Calls Try.prog f (#[.agg #[.string ⟨#[m.sg, m.nm]⟩, .string ⟨#[m.fr]⟩, .string ⟨#[m.tb]⟩]] ++ caps) W fun e W' => e = .returned (.bool (p m)) ∧ Below W.heap.size W W') :
    Calls Try.prog 92 #[.slice A ms.length c, .func (.func f) #[] caps] w fun e w' => ∃ r : Int, e = .returned (.int .i64 r) ∧ FirstM ms p r ∧ Below w.heap.size w w' := by
  have HK := Lib.hid hk
  clear hk
  go_enter Try.func92, Try.ntmps92
  go_wp2_with fail
  go_loopw [8] (fun cc wr => ∃ k : Nat, k ≤ ms.length ∧ cc = .int .i64 k ∧ Below w.heap.size w wr ∧ Hid (∀ m ∈ ms.take k, p m = false)) (fun cc _ => ms.length - (intOf cc).toNat)
  case atStart => exact ⟨0, Nat.zero_le _, rfl, Below.refl _ _, Lib.hid (by simp)⟩
  case round =>
    obtain ⟨k, hk, rfl, hb, HR⟩ := hrel
    by_cases hlt : k < ms.length
    case neg =>
      have HN : Hid (FirstM ms p (-1)) := Lib.hid (.inl ⟨rfl, fun m hm => HR.out m (by rw [List.take_of_length_le (by omega)]; exact hm)⟩)
      go_wp2_with fail
      go_ret
      exact ⟨-1, rfl, HN.out, hb⟩
    obtain ⟨pb, po, rfl, hlow, g1, g2, g3⟩ := (hX.below hb) k hlt
    obtain ⟨m, hm⟩ : ∃ m, ms[k] = m := ⟨_, rfl⟩
    have HTK : Hid (ms.take (k + 1) = ms.take k ++ [m]) := Lib.hid (by rw [List.take_add_one, List.getElem?_eq_getElem hlt, hm]; rfl)
    have HAT : Hid (ms[k]? = some m) := Lib.hid (by rw [List.getElem?_eq_getElem hlt, hm])
    rw [hm] at g1 g2 g3
    have HKM := Lib.hid (HK.out m wr hb)
    obtain ⟨t1, h1⟩ : ∃ t1 : ByteArray, (⟨#[m.sg, m.nm]⟩ : ByteArray) = t1 := ⟨_, rfl⟩
    obtain ⟨t2, h2⟩ : ∃ t2 : ByteArray, (⟨#[m.fr]⟩ : ByteArray) = t2 := ⟨_, rfl⟩
    obtain ⟨t3, h3⟩ : ∃ t3 : ByteArray, (⟨#[m.tb]⟩ : ByteArray) = t3 := ⟨_, rfl⟩
    rw [h1] at g1 HKM
    rw [h2] at g2 HKM
    rw [h3] at g3 HKM
    have a1 : (0 : Int) ≤ (k : Int) := by omega
    have a2 : (k : Int) < (ms.length : Int) := by omega
    clear hm h1 h2 h3
    go_wp2_with fail
    refine HKM.out.mono ?_
    rintro e w3 ⟨rfl, hb3⟩
    have hb3' := hb.trans (hb3.mono hb.size)
    clear hb3 g1 g2 g3
    cases hp : p m with
    | false =>
      have HP := Lib.hid hp; clear hp
      go_wp2_with fail
      go_roundw
      case rel => exact ⟨k + 1, by omega, by go_num, hb3', Lib.hid fun y hy => by
        rw [HTK.out] at hy
        rcases List.mem_append.1 hy with hy | hy
        · exact HR.out y hy
        · simp at hy; subst hy; exact HP.out⟩
      case measure => simp [intOf]; omega
    | true =>
      have HP := Lib.hid hp; clear hp
      go_wp2_with fail
      go_ret
      exact ⟨(k : Int), rfl, .inr ⟨k, m, rfl, HAT.out, HP.out⟩, hb3'⟩

end Go.Proofs.Ythpfifjcallnbaa
