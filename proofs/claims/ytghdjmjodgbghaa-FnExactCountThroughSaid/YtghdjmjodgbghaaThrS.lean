/- How many runs have an edge: CountThrough by the model. -/
import Derived.Test.YtghdjmjodgbghaaToS
import Derived.Test.YtghdjmjodgbghaaVofS
import Derived.Test.YtghdjmjodgbghaaAcycS
namespace Go.Proofs.Ytghdjmjodgbghaa
open Go.RowKit

theorem throughV_at {B : ByteArray} {es : List (ByteArray × ByteArray)} {b : ByteArray} {k : Nat} {x y : UInt8} (hv : acycV B es = true) (hk : eIdx es.length b.data.toList = (k : Int)) (he : (ebs es)[k]? = some ([x], [y])) :
    throughV B es b = ((cntE (ebs (turnE es)) (entry B.data.toList) x * cntE (ebs es) (exit_ B.data.toList) y : Nat) : Int) := by
  unfold throughV
  rw [if_pos ⟨hv, by omega⟩, hk]
  simp [List.getD, he]

set_option maxRecDepth 100000 in
set_option maxHeartbeats 4000000 in
/-- spec.CountThrough -/
theorem specCountThrough_any (B : ByteArray) (A : Option Addr) (cap : Nat) (es : List (ByteArray × ByteArray)) (b : ByteArray) (w : World) (hs : B.size ≤ maxLen) (hE : EdgesIn w w.heap.size A es) (hl : es.length ≤ 1099511627776) (hS : ∀ e ∈ es, e.1.size ≤ 1099511627776 ∧ e.2.size ≤ 1099511627776) :
    Calls Try.prog 30 #[.agg #[.string B, .slice A es.length cap], .string b] w (IntPost (throughV B es b) w) := by
  have HL := Lib.hid hl; have HM := Lib.hid hs; have HS := Lib.hid hS
  clear hl hs hS
  have hb1 : Below w.heap.size w (w.alloc (.cells #[.string B, .slice A es.length cap] 29)) := (Below.refl _ _).alloc (Nat.le_refl _) _
  have t1 := Two.made w B A es.length cap 29
  have hz1 : (w.alloc (.cells #[.string B, .slice A es.length cap] 29)).heap.size = w.heap.size + 1 := by simp
  obtain ⟨v, hv⟩ : ∃ v, acycV B es = v := ⟨_, rfl⟩
  have FA : Hid (∀ W : World, EdgesIn W W.heap.size A es → Calls Try.prog 35 #[.agg #[.string B, .slice A es.length cap]] W fun e w' => e = .returned (.bool v) ∧ Below W.heap.size W w') := Lib.hid fun W h => by
    have := specIsAcyclic_any B A cap es W HM.out h HL.out HS.out
    rwa [hv] at this
  cases v with
  | false =>
    have HN : Hid (throughV B es b = -1) := Lib.hid (if_neg (by rw [hv]; simp))
    clear hv
    go_enter Try.func30, Try.ntmps30
    go_wp2_with fail
    refine (FA.out _ ((hE.below hb1).more hb1.size)).mono ?_
    rintro e w2 ⟨rfl, hb2⟩
    have hb2' := hb1.trans (hb2.mono hb1.size)
    clear hb2 t1
    go_wp2_with fail
    go_ret
    exact ⟨ret_int HN.out.symm, hb2'⟩
  | true =>
    have hA := acy_v hv
    have FB : Hid (∀ W : World, Calls Try.prog 45 #[.agg #[.string B, .slice A es.length cap], .string b] W fun e w' => e = .returned (.int .i64 (eIdx es.length b.data.toList)) ∧ Below W.heap.size W w') := Lib.hid fun W => l1Index_any (.string B) A es.length cap b W HL.out
    obtain ⟨bi, hbe⟩ : ∃ bi, eIdx es.length b.data.toList = bi := ⟨_, rfl⟩
    rw [hbe] at FB
    by_cases hb : bi < 0
    case pos =>
      have HN : Hid (throughV B es b = -1) := Lib.hid (if_neg fun h => by have := h.2; omega)
      clear hv hA hbe
      go_enter Try.func30, Try.ntmps30
      go_wp2_with fail
      refine (FA.out _ ((hE.below hb1).more hb1.size)).mono ?_
      rintro e w2 ⟨rfl, hb2⟩
      have hb2' := hb1.trans (hb2.mono hb1.size)
      have t2 := t1.below hb2 (by omega)
      have hd0 := t2.1; have hd1 := t2.2
      clear hb2 t1 hb1 FA
      go_wp2_with fail
      refine (FB.out _).mono ?_
      rintro e w3 ⟨rfl, hb3⟩
      have hb3' := hb2'.trans (hb3.mono hb2'.size)
      clear hb3 hd0 hd1 t2
      go_wp2_with fail
      go_ret
      exact ⟨ret_int HN.out.symm, hb3'⟩
    obtain ⟨k, hk, hke⟩ := eIdx_some (n := es.length) (b := b.data.toList) (by omega)
    have h16 := hA.F.few
    have hbn : b = ⟨#[nameOf k]⟩ := eIdx_text hke h16
    obtain ⟨x, y, he, h1, h2, hxl, hyl⟩ := edge_letters hA.F.lets hk
    obtain ⟨r1, ht1, hr1⟩ := hA.flip_at hxl
    obtain ⟨r2, ht2, hr2⟩ := hA.at_ hyl
    obtain ⟨c1, hc1⟩ : ∃ c1 : Nat, cntE (ebs (turnE es)) (entry B.data.toList) x = c1 := ⟨_, rfl⟩
    obtain ⟨c2, hc2⟩ : ∃ c2 : Nat, cntE (ebs es) (exit_ B.data.toList) y = c2 := ⟨_, rfl⟩
    have hm : c1 * c2 ≤ 268435456 * 268435456 := by
      rw [← hc1, ← hc2]
      exact Nat.mul_le_mul (cntE_few (by rw [ebs_len, turnE_len]; exact h16) ht1 hr1) (cntE_few (by rw [ebs_len]; exact h16) ht2 hr2)
    have HN : Hid (throughV B es b = (c1 : Int) * (c2 : Int)) := Lib.hid (by rw [throughV_at hv hke he, hc1, hc2]; exact Int.natCast_mul _ _)
    have z1 : IntKind.i64.wrap ((c1 : Int) * (c2 : Int)) = (c1 : Int) * (c2 : Int) := by
      have : (c1 : Int) * (c2 : Int) = ((c1 * c2 : Nat) : Int) := (Int.natCast_mul _ _).symm
      rw [this]
      exact IntWalk.i64_in _ (by omega)
    have FL : Hid (∀ W : World, EdgesIn W W.heap.size A es → Calls Try.prog 58 #[.agg #[.string B, .slice A es.length cap], .string b] W fun e w' => e = .returned (.agg #[.string ⟨#[x]⟩, .string ⟨#[y]⟩]) ∧ Below W.heap.size W w') := Lib.hid fun W h => by
      have := l2Edge_any B A cap es b k W h HL.out hk hke
      rwa [h1, h2] at this
    have FT : Hid (∀ W : World, EdgesIn W W.heap.size A es → Calls Try.prog 59 #[.agg #[.string B, .slice A es.length cap], .string ⟨#[x]⟩] W fun e w' => e = .returned (.int .i64 (c1 : Int)) ∧ Below W.heap.size W w') := Lib.hid fun W h => by
      have := l4To_any B A cap es _ hA HM.out (r1.length + 1) r1 x W (by omega) hr1 ht1 h
      rwa [hc1] at this
    have FC : Hid (∀ W : World, EdgesIn W W.heap.size A es → Calls Try.prog 36 #[.agg #[.string B, .slice A es.length cap], .string ⟨#[y]⟩] W fun e w' => e = .returned (.int .i64 (c2 : Int)) ∧ Below W.heap.size W w') := Lib.hid fun W h => by
      have := l4Count_any B A cap es y W h hA HM.out hyl
      unfold cntV at this
      rwa [hc2] at this
    clear hv hA hk hke hbn hbe he h1 h2 hxl hyl ht1 ht2 hc1 hc2 hm h16
    go_enter Try.func30, Try.ntmps30
    go_wp2_with fail
    refine (FA.out _ ((hE.below hb1).more hb1.size)).mono ?_
    rintro e w2 ⟨rfl, hb2⟩
    have hb2' := hb1.trans (hb2.mono hb1.size)
    have t2 := t1.below hb2 (by omega)
    have hz2 : w.heap.size + 1 ≤ w2.heap.size := by have := hb2.size; omega
    have hd0 := t2.1; have hd1 := t2.2
    clear hb2 t1 hz1 hb1 FA
    go_wp2_with fail
    refine (FB.out _).mono ?_
    rintro e w3 ⟨rfl, hb3⟩
    have t3 := t2.below hb3 (by omega)
    have hb3' := hb2'.trans (hb3.mono hb2'.size)
    have hz3 := hb3.size
    clear hb3 hd0 hd1 t2 FB hb2'
    have hd0 := t3.1; have hd1 := t3.2
    go_wp2_with fail
    refine (FL.out _ ((hE.below hb3').more hb3'.size)).mono ?_
    rintro e w4 ⟨rfl, hb4⟩
    have t4 := t3.below hb4 (by omega)
    have hb4' := hb3'.trans (hb4.mono hb3'.size)
    have hz4 := hb4.size
    clear hb4 hd0 hd1 t3 FL hb3'
    go_wp2_with fail
    obtain ⟨w5, hw5⟩ : ∃ w5, w4.alloc (.cells #[.string ⟨#[x]⟩, .string ⟨#[y]⟩] 62) = w5 := ⟨_, rfl⟩
    have hb5 : Below w4.heap.size w4 w5 := by rw [← hw5]; exact (Below.refl _ _).alloc (Nat.le_refl _) _
    have hz5 : w5.heap.size = w4.heap.size + 1 := by rw [← hw5]; simp
    have q1 : w5.cell? ⟨w4.heap.size, 0, none⟩ = some (.string ⟨#[x]⟩) := by rw [← hw5]; clear hw5; go_simp
    have q2 : w5.cell? ⟨w4.heap.size, 1, none⟩ = some (.string ⟨#[y]⟩) := by rw [← hw5]; clear hw5; go_simp
    have t5 := t4.below hb5 (by omega)
    have hb5' := hb4'.trans (hb5.mono (by omega))
    rw [hw5]
    clear hw5 t4 hb5 hb4'
    have x0 : ∀ x : After w5, x.W.cell? ⟨w.heap.size, 0, none⟩ = some (.string B) := fun x => x.cell (by simp only; omega) t5.1
    have x1 : ∀ x : After w5, x.W.cell? ⟨w.heap.size, 1, none⟩ = some (.slice A es.length cap) := fun x => x.cell (by simp only; omega) t5.2
    have x2 : ∀ z : After w5, z.W.cell? ⟨w4.heap.size, 0, none⟩ = some (.string ⟨#[x]⟩) := fun z => z.cell (by simp only; omega) q1
    have x3 : ∀ z : After w5, z.W.cell? ⟨w4.heap.size, 1, none⟩ = some (.string ⟨#[y]⟩) := fun z => z.cell (by simp only; omega) q2
    have xE : ∀ x : After w5, EdgesIn x.W x.W.heap.size A es := fun x => ((hE.below hb5').below (x.h.mono hb5'.size)).more (Nat.le_trans hb5'.size x.h.size)
    have XE := Lib.hid xE; clear xE t5 q1 q2
    refine wp_region_below (by kernel_rfl) (by kernel_rfl) ?_
    repeat (go_big_quiet_step ((first
      | (go_at_call 59; exact After.call (FT.out _ (XE.out _)))
      | (go_at_call 36; exact After.call (FC.out _ (XE.out _))))))
    refine wpQuiet_nil ?_
    rintro _ ⟨xw, rfl⟩
    clear x0 x1 x2 x3
    go_wp2_with fail
    go_ret
    exact ⟨ret_int HN.out.symm, hb5'.trans (xw.h.mono hb5'.size)⟩

end Go.Proofs.Ytghdjmjodgbghaa
