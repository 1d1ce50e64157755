/- How many paths there are from a block, by the model; what CountRuns and CountFrom answer. -/
import Derived.Test.YtghdjmjodgbghaaCountS
import Derived.Test.YtghdjmjodgbghaaAcyc
import Derived.Deep.RegionWith
import Derived.Deep.DrawnRows
namespace Go.Proofs.Ytghdjmjodgbghaa
open Go.RowKit

/-- one number, and all that lay is kept -/
def IntPost (v : Int) (w : World) (e : Ending) (w' : World) : Prop := e = .returned (.int .i64 v) ∧ Below w.heap.size w w'

theorem acy_v {B : ByteArray} {es : List (ByteArray × ByteArray)} (h : acycV B es = true) : Acy B es (orderE B.data.toList (ebs es)) := by
  obtain ⟨hv, hc⟩ := decB_iff.1 h
  exact acy_of hv hc
/-- the counts of a net without ways round -/
def cntV (B : ByteArray) (es : List (ByteArray × ByteArray)) (b : UInt8) : Int := ((cntE (ebs es) (exit_ B.data.toList) b : Nat) : Int)
noncomputable def runsV (B : ByteArray) (es : List (ByteArray × ByteArray)) : Int := if acycV B es = true then cntV B es (entry B.data.toList) else -1
noncomputable def fromV (B : ByteArray) (es : List (ByteArray × ByteArray)) (b : ByteArray) : Int := if acycV B es = true ∧ 0 ≤ bIdx B.data.toList b.data.toList then cntV B es (b.data.toList.headD 0) else -1
theorem cntV_bound {B : ByteArray} {es : List (ByteArray × ByteArray)} {O : List UInt8} (h : Acy B es O) {b : UInt8} (hb : b ∈ B.data.toList) : 0 ≤ cntV B es b ∧ cntV B es b ≤ 268435456 := by
  obtain ⟨r, h1, h2⟩ := h.at_ hb
  have := cntE_few (t := exit_ B.data.toList) (by rw [ebs_len]; exact h.F.few) h1 h2
  unfold cntV
  omega

set_option maxRecDepth 100000 in
set_option maxHeartbeats 4000000 in
/-- spec.l4Count -/
theorem l4Count_any (B : ByteArray) (A : Option Addr) (cap : Nat) (es : List (ByteArray × ByteArray)) (c : UInt8) (w : World) (hE : EdgesIn w w.heap.size A es) (hA : Acy B es (orderE B.data.toList (ebs es))) (hBm : B.size ≤ maxLen) (hc : c ∈ B.data.toList) :
    Calls Try.prog 36 #[.agg #[.string B, .slice A es.length cap], .string ⟨#[c]⟩] w (IntPost (cntV B es c) w) := by
  have hlen : B.data.toList.length = B.size := by simp
  obtain ⟨i, hi⟩ := Int.eq_ofNat_of_zero_le (indexByte_nonneg.2 hc)
  have hil : i < B.size := by have := indexByte_lt (l := B.data.toList) (c := c); omega
  have hli : B.data.toList[i]? = some c := by have := indexByte_get hc; rw [hi] at this; simpa using this
  have HV : Hid (((tabC (ebs es) (exit_ B.data.toList) B.data.toList (orderE B.data.toList (ebs es)) i : Nat) : Int) = cntV B es c) := Lib.hid (by rw [tabC_in hli (.inl (hA.all c hc))]; rfl)
  obtain ⟨v, hv⟩ : ∃ v, cntV B es c = v := ⟨_, rfl⟩
  rw [hv] at HV ⊢
  have FC : Hid (∀ W : World, EdgesIn W W.heap.size A es → Calls Try.prog 65 #[.agg #[.string B, .slice A es.length cap]] W (CountsPost (tabC (ebs es) (exit_ B.data.toList) B.data.toList (orderE B.data.toList (ebs es))) B.size W)) := Lib.hid fun W h => l4Counts_any B A cap es W h hA hBm
  have FF : Hid (∀ W : World, Calls Try.prog 66 #[.string B, .int .u8 (c.toNat : Int)] W fun e w' => e = .returned (.int .i64 i) ∧ W = w') := Lib.hid fun W => by
    rw [← hi]; exact find_any B c W hBm
  have hb1 : Below w.heap.size w (w.alloc (.cells #[.string B, .slice A es.length cap] 29)) := (Below.refl _ _).alloc (Nat.le_refl _) _
  have t1 := Two.made w B A es.length cap 29
  have hz1 : (w.alloc (.cells #[.string B, .slice A es.length cap] 29)).heap.size = w.heap.size + 1 := by simp
  have i1 : (0 : Int) ≤ (i : Int) := by omega
  have i2 : (i : Int) < (B.size : Int) := by omega
  clear hlen hi hli hv hA hBm hc
  go_enter Try.func36, Try.ntmps36
  go_wp2_with fail
  obtain ⟨w1, hw1⟩ : ∃ w1, w.alloc (.cells #[.string B, .slice A es.length cap] 29) = w1 := ⟨_, rfl⟩
  rw [hw1] at hb1 t1 hz1 ⊢
  clear hw1
  have HT1 := Lib.hid t1
  have HA : Hid (∀ W, Below w1.heap.size w1 W → EdgesIn W W.heap.size A es) := Lib.hid fun W h => (hE.below (hb1.trans (h.mono hb1.size))).more (hb1.trans (h.mono hb1.size)).size
  have d0 := t1.1; have d1 := t1.2
  clear t1
  go_region_with (first
      | (go_at_call 66; refine (FF.out _).mono ?_; rintro e w5 ⟨rfl, rfl⟩)
      | (go_at_call 65; go_must (refine (FC.out _ (HA.out _ (Below.refl _ _).drew)).mono ?_; rintro e w4 ⟨g, rfl, hrow4, hb4⟩; have hc4 := hrow4.cell (i := i) (by omega); have e0 := (HT1.out.below ((Below.refl _ _).drew.trans hb4) (show w.heap.size < w1.heap.size by omega)).1; have HB4 := Lib.hid ((Below.refl _ _).drew.trans hb4); clear hrow4 hb4)))
  all_goals
    go_wp2_with fail
    go_ret
    exact ⟨ret_int HV.out, hb1.trans (HB4.out.mono hb1.size)⟩

end Go.Proofs.Ytghdjmjodgbghaa
