/- The run of a number: RunOf by the program. -/
import Derived.Test.YtghdjmjodgbghaaRunI
namespace Go.Proofs.Ytghdjmjodgbghaa
open Go.RowKit

set_option maxRecDepth 100000 in
set_option maxHeartbeats 4000000 in
/-- impl.RunOf -/
theorem implRunOf_any (B : ByteArray) (A : Option Addr) (cap : Nat) (es : List (ByteArray × ByteArray)) (m : Int) (w : World) (hs : B.size ≤ maxLen) (hE : EdgesIn w w.heap.size A es) (hl : es.length ≤ 1099511627776) (hS : ∀ e ∈ es, e.1.size ≤ 1099511627776 ∧ e.2.size ≤ 1099511627776) :
    Calls Try.prog 29 #[.agg #[.string B, .slice A es.length cap], .int .i64 m] w (TextPost (runOfV B es m) w) := by
  have HL := Lib.hid hl; have HM := Lib.hid hs; have HS := Lib.hid hS
  clear hl hs hS
  have hb1 : Below w.heap.size w (w.alloc (.cells #[.string B, .slice A es.length cap] 29)) := (Below.refl _ _).alloc (Nat.le_refl _) _
  have t1 := Two.made w B A es.length cap 29
  have hz1 : (w.alloc (.cells #[.string B, .slice A es.length cap] 29)).heap.size = w.heap.size + 1 := by simp
  obtain ⟨v, hv⟩ : ∃ v, acycV B es = v := ⟨_, rfl⟩
  have FA : Hid (∀ W : World, EdgesIn W W.heap.size A es → Calls Try.prog 39 #[.agg #[.string B, .slice A es.length cap]] W fun e w' => e = .returned (.bool v) ∧ Below W.heap.size W w') := Lib.hid fun W h => by
    have := implIsAcyclic_any B A cap es W HM.out h HL.out HS.out
    rwa [hv] at this
  cases v with
  | false =>
    have HN : Hid (runOfV B es m = (⟨#[]⟩, false)) := Lib.hid (if_neg (by rw [hv]; simp))
    clear hv
    go_enter Try.func29, Try.ntmps29
    go_wp2_with fail
    refine (FA.out _ ((hE.below hb1).more hb1.size)).mono ?_
    rintro e w2 ⟨rfl, hb2⟩
    have hb2' := hb1.trans (hb2.mono hb1.size)
    clear hb2 t1
    go_wp2_with fail
    go_ret2
    exact ⟨by rw [HN.out]; rfl, hb2'⟩
  | true =>
    obtain ⟨q, hq⟩ : ∃ q, runsV B es = q := ⟨_, rfl⟩
    have FC : Hid (∀ W : World, EdgesIn W W.heap.size A es → Calls Try.prog 14 #[.agg #[.string B, .slice A es.length cap]] W fun e w' => e = .returned (.int .i64 q) ∧ Below W.heap.size W w') := Lib.hid fun W h => by
      rw [← hq]; exact implCountRuns_any B A cap es W HM.out h HL.out HS.out
    by_cases h0 : m < 0
    · have HN : Hid (runOfV B es m = (⟨#[]⟩, false)) := Lib.hid (if_neg fun h => by omega)
      clear hv hq
      go_enter Try.func29, Try.ntmps29
      go_wp2_with fail
      refine (FA.out _ ((hE.below hb1).more hb1.size)).mono ?_
      rintro e w2 ⟨rfl, hb2⟩
      have hb2' := hb1.trans (hb2.mono hb1.size)
      clear hb2 t1
      go_wp2_with fail
      go_ret2
      exact ⟨by rw [HN.out]; rfl, hb2'⟩
    by_cases h1 : m ≥ q
    · have HN : Hid (runOfV B es m = (⟨#[]⟩, false)) := Lib.hid (if_neg fun h => by rw [hq] at h; omega)
      clear hv hq
      go_enter Try.func29, Try.ntmps29
      go_wp2_with fail
      refine (FA.out _ ((hE.below hb1).more hb1.size)).mono ?_
      rintro e w2 ⟨rfl, hb2⟩
      have hb2' := hb1.trans (hb2.mono hb1.size)
      have t2 := t1.below hb2 (by omega)
      have hd0 := t2.1; have hd1 := t2.2
      clear hb2 t1
      go_wp2_with fail
      refine (FC.out _ ((hE.below hb2').more hb2'.size)).mono ?_
      rintro e w3 ⟨rfl, hb3⟩
      have hb3' := hb2'.trans (hb3.mono hb2'.size)
      clear hb3 hd0 hd1
      go_wp2_with fail
      go_ret2
      exact ⟨by rw [HN.out]; rfl, hb3'⟩
    have hbd : q ≤ 268435456 := by
      have hA := acy_v hv
      have h2 := (cntV_bound hA hA.F.ent).2
      have : runsV B es = cntV B es (entry B.data.toList) := if_pos hv
      omega
    obtain ⟨m0, rfl⟩ : ∃ m0 : Nat, m = m0 := ⟨m.toNat, by omega⟩
    have HN : Hid (runOfV B es (m0 : Int) = (⟨(runE es (exit_ B.data.toList) 8 (entry B.data.toList) m0).toArray⟩, true)) := Lib.hid (if_pos ⟨hv, by omega, by omega⟩)
    have FR : Hid (∀ W : World, EdgesIn W W.heap.size A es → Calls Try.prog 57 #[.agg #[.string B, .slice A es.length cap], .int .i64 (m0 : Int)] W
      fun e w' => e = .returned (.string ⟨(runE es (exit_ B.data.toList) 8 (entry B.data.toList) m0).toArray⟩) ∧ Below W.heap.size W w') := Lib.hid fun W h => runAt_any B A cap m0 es W HM.out h hv (by omega)
    obtain ⟨rt, hrt⟩ : ∃ rt : ByteArray, (⟨(runE es (exit_ B.data.toList) 8 (entry B.data.toList) m0).toArray⟩ : ByteArray) = rt := ⟨_, rfl⟩
    rw [hrt] at HN FR
    clear hv hq hrt hbd
    go_enter Try.func29, Try.ntmps29
    go_wp2_with fail
    refine (FA.out _ ((hE.below hb1).more hb1.size)).mono ?_
    rintro e w2 ⟨rfl, hb2⟩
    have hb2' := hb1.trans (hb2.mono hb1.size)
    have t2 := t1.below hb2 (by omega)
    have hz2 : w.heap.size + 1 ≤ w2.heap.size := by have := hb2.size; omega
    have hd0 := t2.1; have hd1 := t2.2
    clear hb2 t1 hz1 hb1
    go_wp2_with fail
    refine (FC.out _ ((hE.below hb2').more hb2'.size)).mono ?_
    rintro e w3 ⟨rfl, hb3⟩
    have hb3' := hb2'.trans (hb3.mono hb2'.size)
    have t3 := t2.below hb3 (by omega)
    clear hb3 hd0 hd1 t2
    have hd0 := t3.1; have hd1 := t3.2
    go_wp2_with fail
    refine (FR.out _ ((hE.below hb3').more hb3'.size)).mono ?_
    rintro e w4 ⟨rfl, hb4⟩
    have hb4' := hb3'.trans (hb4.mono hb3'.size)
    clear hb4 hd0 hd1 t3
    go_wp2_with fail
    go_ret2
    exact ⟨by rw [HN.out]; rfl, hb4'⟩

end Go.Proofs.Ytghdjmjodgbghaa
