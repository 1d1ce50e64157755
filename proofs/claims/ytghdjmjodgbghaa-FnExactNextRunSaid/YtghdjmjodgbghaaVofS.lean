/- The value of an edge: ValueOf by the model. -/
import Derived.Test.YtghdjmjodgbghaaValS
import Derived.Test.YtghdjmjodgbghaaAcycS
namespace Go.Proofs.Ytghdjmjodgbghaa
open Go.RowKit

/-- a name is the letter of its place -/
theorem eIdx_text {n k : Nat} {b : ByteArray} (h : eIdx n b.data.toList = (k : Int)) (hn : n ≤ 16) : b = ⟨#[nameOf k]⟩ := by
  unfold eIdx at h
  split at h
  · rename_i c hc
    split at h
    · rename_i hr
      refine bytes_one (hc.trans ?_)
      have : c = nameOf k := UInt8.toNat_inj.1 (by rw [nameOf_toNat (by omega)]; omega)
      rw [this]
    · omega
  · omega

noncomputable def valueV (B : ByteArray) (es : List (ByteArray × ByteArray)) (b : ByteArray) : Int := if acycV B es = true ∧ 0 ≤ eIdx es.length b.data.toList then ((valE (ebs es) (exit_ B.data.toList) (eIdx es.length b.data.toList).toNat : Nat) : Int) else -1

set_option maxRecDepth 100000 in
set_option maxHeartbeats 4000000 in
/-- spec.ValueOf -/
theorem specValueOf_any (B : ByteArray) (A : Option Addr) (cap : Nat) (es : List (ByteArray × ByteArray)) (b : ByteArray) (w : World) (hs : B.size ≤ maxLen) (hE : EdgesIn w w.heap.size A es) (hl : es.length ≤ 1099511627776) (hS : ∀ e ∈ es, e.1.size ≤ 1099511627776 ∧ e.2.size ≤ 1099511627776) :
    Calls Try.prog 18 #[.agg #[.string B, .slice A es.length cap], .string b] w (IntPost (valueV B es b) w) := by
  have HL := Lib.hid hl; have HM := Lib.hid hs; have HS := Lib.hid hS
  clear hl hs hS
  have hb1 : Below w.heap.size w (w.alloc (.cells #[.string B, .slice A es.length cap] 29)) := (Below.refl _ _).alloc (Nat.le_refl _) _
  have t1 := Two.made w B A es.length cap 29
  have hz1 : (w.alloc (.cells #[.string B, .slice A es.length cap] 29)).heap.size = w.heap.size + 1 := by simp
  obtain ⟨v, hv⟩ : ∃ v, acycV B es = v := ⟨_, rfl⟩
  have FA : Hid (∀ W : World, EdgesIn W W.heap.size A es → Calls Try.prog 35 #[.agg #[.string B, .slice A es.length cap]] W fun e w' => e = .returned (.bool v) ∧ Below W.heap.size W w') := Lib.hid fun W h => by
    have := specIsAcyclic_any B A cap es W HM.out h HL.out HS.out
    rwa [hv] at this
  cases v with
  | false =>
    have HN : Hid (valueV B es b = -1) := Lib.hid (if_neg (by rw [hv]; simp))
    clear hv
    go_enter Try.func18, Try.ntmps18
    go_wp2_with fail
    refine (FA.out _ ((hE.below hb1).more hb1.size)).mono ?_
    rintro e w2 ⟨rfl, hb2⟩
    have hb2' := hb1.trans (hb2.mono hb1.size)
    clear hb2 t1
    go_wp2_with fail
    go_ret
    exact ⟨ret_int HN.out.symm, hb2'⟩
  | true =>
    have hA := acy_v hv
    have FB : Hid (∀ W : World, Calls Try.prog 45 #[.agg #[.string B, .slice A es.length cap], .string b] W fun e w' => e = .returned (.int .i64 (eIdx es.length b.data.toList)) ∧ Below W.heap.size W w') := Lib.hid fun W => l1Index_any (.string B) A es.length cap b W HL.out
    obtain ⟨bi, hbe⟩ : ∃ bi, eIdx es.length b.data.toList = bi := ⟨_, rfl⟩
    rw [hbe] at FB
    by_cases hb : bi < 0
    case pos =>
      have HN : Hid (valueV B es b = -1) := Lib.hid (if_neg fun h => by have := h.2; omega)
      clear hv hA hbe
      go_enter Try.func18, Try.ntmps18
      go_wp2_with fail
      refine (FA.out _ ((hE.below hb1).more hb1.size)).mono ?_
      rintro e w2 ⟨rfl, hb2⟩
      have hb2' := hb1.trans (hb2.mono hb1.size)
      have t2 := t1.below hb2 (by omega)
      have hd0 := t2.1; have hd1 := t2.2
      clear hb2 t1 hb1 FA
      go_wp2_with fail
      refine (FB.out _).mono ?_
      rintro e w3 ⟨rfl, hb3⟩
      have hb3' := hb2'.trans (hb3.mono hb2'.size)
      clear hb3 hd0 hd1 t2
      go_wp2_with fail
      go_ret
      exact ⟨ret_int HN.out.symm, hb3'⟩
    obtain ⟨k, hk, hke⟩ := eIdx_some (n := es.length) (b := b.data.toList) (by omega)
    have hbn : b = ⟨#[nameOf k]⟩ := eIdx_text hke hA.F.few
    obtain ⟨q, hq⟩ : ∃ q : Int, ((valE (ebs es) (exit_ B.data.toList) k : Nat) : Int) = q := ⟨_, rfl⟩
    have HN : Hid (valueV B es b = q) := Lib.hid ((if_pos ⟨hv, by omega⟩).trans (by rw [hke]; exact hq))
    have FC : Hid (∀ W : World, EdgesIn W W.heap.size A es → Calls Try.prog 46 #[.agg #[.string B, .slice A es.length cap], .string b] W fun e w' => e = .returned (.int .i64 q) ∧ Below W.heap.size W w') := Lib.hid fun W h => by
      rw [hbn, ← hq]; exact l4Value_any B A cap es k W h hA HM.out hk
    clear hv hA hq hk hke hbn hbe
    go_enter Try.func18, Try.ntmps18
    go_wp2_with fail
    refine (FA.out _ ((hE.below hb1).more hb1.size)).mono ?_
    rintro e w2 ⟨rfl, hb2⟩
    have hb2' := hb1.trans (hb2.mono hb1.size)
    have t2 := t1.below hb2 (by omega)
    have hz2 : w.heap.size + 1 ≤ w2.heap.size := by have := hb2.size; omega
    have hd0 := t2.1; have hd1 := t2.2
    clear hb2 t1 hz1 hb1 FA
    go_wp2_with fail
    refine (FB.out _).mono ?_
    rintro e w3 ⟨rfl, hb3⟩
    have t3 := t2.below hb3 (by omega)
    have hb3' := hb2'.trans (hb3.mono hb2'.size)
    clear hb3 hd0 hd1 t2 FB
    have hd0 := t3.1; have hd1 := t3.2
    go_wp2_with fail
    refine (FC.out _ ((hE.below hb3').more hb3'.size)).mono ?_
    rintro e w4 ⟨rfl, hb4⟩
    have hb4' := hb3'.trans (hb4.mono hb3'.size)
    clear hb4 hd0 hd1 t3 FC
    go_wp2_with fail
    go_ret
    exact ⟨ret_int HN.out.symm, hb4'⟩

end Go.Proofs.Ytghdjmjodgbghaa
