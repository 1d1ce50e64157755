/- The run of a number: RunOf by the model. -/
import Derived.Test.YtghdjmjodgbghaaRunS
import Derived.Test.YtghdjmjodgbghaaAcycS
namespace Go.Proofs.Ytghdjmjodgbghaa
open Go.RowKit

set_option maxRecDepth 100000 in
set_option maxHeartbeats 4000000 in
/-- spec.RunOf -/
theorem specRunOf_any (B : ByteArray) (A : Option Addr) (cap : Nat) (es : List (ByteArray × ByteArray)) (m : Int) (w : World) (hs : B.size ≤ maxLen) (hE : EdgesIn w w.heap.size A es) (hl : es.length ≤ 1099511627776) (hS : ∀ e ∈ es, e.1.size ≤ 1099511627776 ∧ e.2.size ≤ 1099511627776) :
    Calls Try.prog 28 #[.agg #[.string B, .slice A es.length cap], .int .i64 m] w (TextPost (runOfV B es m) w) := by
  have HL := Lib.hid hl; have HM := Lib.hid hs; have HS := Lib.hid hS
  clear hl hs hS
  have hb1 : Below w.heap.size w (w.alloc (.cells #[.string B, .slice A es.length cap] 29)) := (Below.refl _ _).alloc (Nat.le_refl _) _
  have t1 := Two.made w B A es.length cap 29
  have hz1 : (w.alloc (.cells #[.string B, .slice A es.length cap] 29)).heap.size = w.heap.size + 1 := by simp
  obtain ⟨v, hv⟩ : ∃ v, acycV B es = v := ⟨_, rfl⟩
  have FA : Hid (∀ W : World, EdgesIn W W.heap.size A es → Calls Try.prog 35 #[.agg #[.string B, .slice A es.length cap]] W fun e w' => e = .returned (.bool v) ∧ Below W.heap.size W w') := Lib.hid fun W h => by
    have := specIsAcyclic_any B A cap es W HM.out h HL.out HS.out
    rwa [hv] at this
  have x0 : ∀ x : After (w.alloc (.cells #[.string B, .slice A es.length cap] 29)), x.W.cell? ⟨w.heap.size, 0, none⟩ = some (.string B) := fun x => x.cell (by simp) t1.1
  have x1 : ∀ x : After (w.alloc (.cells #[.string B, .slice A es.length cap] 29)), x.W.cell? ⟨w.heap.size, 1, none⟩ = some (.slice A es.length cap) := fun x => x.cell (by simp) t1.2
  have xE : ∀ x : After (w.alloc (.cells #[.string B, .slice A es.length cap] 29)), EdgesIn x.W x.W.heap.size A es := fun x => ((hE.below hb1).below (x.h.mono hb1.size)).more (Nat.le_trans hb1.size x.h.size)
  have XE := Lib.hid xE; clear xE
  cases v with
  | false =>
    have HN : Hid (runOfV B es m = (⟨#[]⟩, false)) := Lib.hid (if_neg (by rw [hv]; simp))
    clear hv
    go_enter Try.func28, Try.ntmps28
    go_wp2_with fail
    refine wp_region_below (by kernel_rfl) (by kernel_rfl) ?_
    repeat (go_big_quiet_step ((go_at_call 35; exact After.call (FA.out _ (XE.out _)))))
    refine wpQuiet_nil ?_
    rintro _ ⟨x, rfl⟩
    clear x0 x1
    go_wp2_with fail
    go_ret2
    exact ⟨by rw [HN.out]; rfl, hb1.trans (x.h.mono hb1.size)⟩
  | true =>
    have hA := acy_v hv
    have hB1 := hA.F.one
    obtain ⟨q, hq⟩ : ∃ q, cntV B es (entry B.data.toList) = q := ⟨_, rfl⟩
    have hrn : runsV B es = q := (if_pos hv).trans hq
    have hqb := cntV_bound hA hA.F.ent
    rw [hq] at hqb
    have FC : Hid (∀ W : World, EdgesIn W W.heap.size A es → Calls Try.prog 36 #[.agg #[.string B, .slice A es.length cap], .string (B.extract 0 1)] W fun e w' => e = .returned (.int .i64 q) ∧ Below W.heap.size W w') := Lib.hid fun W h => by
      rw [hA.F.first, ← hq]; exact l4Count_any B A cap es _ W h hA HM.out hA.F.ent
    have z1 : IntKind.i64.wrap (q - 1) = q - 1 := IntWalk.i64_in _ (by omega)
    by_cases hin : 0 ≤ m ∧ m < q
    case neg =>
      have FI : Hid (∀ W : World, Calls Try.prog 55 #[.int .i64 m, .int .i64 0, .int .i64 (q - 1)] W fun e w' => e = .returned (.bool false) ∧ Below W.heap.size W w') := Lib.hid fun W => (l1In_any m 0 (q - 1) W).mono fun e w' h => by
        obtain ⟨h1, h2⟩ := h
        subst h2
        refine ⟨?_, Below.refl _ _⟩
        rw [h1]
        congr 2
        by_cases h0 : 0 ≤ m
        · have : ¬ (m ≤ q - 1) := by omega
          simp [this]
        · simp [h0]
      have HN : Hid (runOfV B es m = (⟨#[]⟩, false)) := Lib.hid (if_neg (by rw [hrn]; exact fun h => hin h.2))
      clear hv hin hA hq hrn
      go_enter Try.func28, Try.ntmps28
      go_wp2_with fail
      refine wp_region_below (by kernel_rfl) (by kernel_rfl) ?_
      repeat (go_big_quiet_step ((first
        | (go_at_call 35; exact After.call (FA.out _ (XE.out _)))
        | (go_at_call 36; exact After.call (FC.out _ (XE.out _)))
        | (go_at_call 55; exact After.call (FI.out _))
        | (go_at_call 37; exact After.call (l1Entry_any _ _ _ hB1 HM.out)))))
      refine wpQuiet_nil ?_
      rintro _ ⟨x, rfl⟩
      clear x0 x1
      go_wp2_with fail
      go_ret2
      exact ⟨by rw [HN.out]; rfl, hb1.trans (x.h.mono hb1.size)⟩
    have FI : Hid (∀ W : World, Calls Try.prog 55 #[.int .i64 m, .int .i64 0, .int .i64 (q - 1)] W fun e w' => e = .returned (.bool true) ∧ Below W.heap.size W w') := Lib.hid fun W => (l1In_any m 0 (q - 1) W).mono fun e w' h => by
      obtain ⟨h1, h2⟩ := h
      subst h2
      refine ⟨?_, Below.refl _ _⟩
      rw [h1]
      congr 2
      have h3 : m ≤ q - 1 := by omega
      simp [hin.1, h3]
    obtain ⟨m0, rfl⟩ : ∃ m0 : Nat, m = m0 := ⟨m.toNat, by omega⟩
    have HN : Hid (runOfV B es (m0 : Int) = (⟨(runE es (exit_ B.data.toList) 8 (entry B.data.toList) m0).toArray⟩, true)) := Lib.hid (if_pos ⟨hv, hin.1, by rw [hrn]; exact hin.2⟩)
    have FR : Hid (∀ W : World, EdgesIn W W.heap.size A es → Calls Try.prog 56 #[.agg #[.string B, .slice A es.length cap], .string (B.extract 0 1), .int .i64 (m0 : Int)] W
      fun e w' => e = .returned (.string ⟨(runE es (exit_ B.data.toList) 8 (entry B.data.toList) m0).toArray⟩) ∧ Below W.heap.size W w') := Lib.hid fun W h => by
      rw [hA.F.first]; exact l4Run_any B A cap m0 es W h hA HM.out (by omega)
    obtain ⟨rt, hrt⟩ : ∃ rt : ByteArray, (⟨(runE es (exit_ B.data.toList) 8 (entry B.data.toList) m0).toArray⟩ : ByteArray) = rt := ⟨_, rfl⟩
    rw [hrt] at HN FR
    clear hv hin hA hq hrn hrt
    go_enter Try.func28, Try.ntmps28
    go_wp2_with fail
    refine wp_region_below (by kernel_rfl) (by kernel_rfl) ?_
    repeat (go_big_quiet_step ((first
      | (go_at_call 35; exact After.call (FA.out _ (XE.out _)))
      | (go_at_call 36; exact After.call (FC.out _ (XE.out _)))
      | (go_at_call 55; exact After.call (FI.out _))
      | (go_at_call 37; exact After.call (l1Entry_any _ _ _ hB1 HM.out)))))
    refine wpQuiet_nil ?_
    rintro _ ⟨x, rfl⟩
    clear x0 x1 XE
    obtain ⟨w2, hw2⟩ : ∃ w2, x.W = w2 := ⟨_, rfl⟩
    have hb2 := x.h
    rw [hw2] at hb2 ⊢
    clear hw2 x
    have t2 := t1.below hb2 (by omega)
    have hb2' := hb1.trans (hb2.mono hb1.size)
    have hz2 : w.heap.size + 1 ≤ w2.heap.size := by have := hb2.size; omega
    clear hb2 t1 hz1 hb1
    go_wp2_with fail
    have x0 : ∀ x : After w2, x.W.cell? ⟨w.heap.size, 0, none⟩ = some (.string B) := fun x => x.cell (by simp only; omega) t2.1
    have x1 : ∀ x : After w2, x.W.cell? ⟨w.heap.size, 1, none⟩ = some (.slice A es.length cap) := fun x => x.cell (by simp only; omega) t2.2
    have xE : ∀ x : After w2, EdgesIn x.W x.W.heap.size A es := fun x => ((hE.below hb2').below (x.h.mono hb2'.size)).more (Nat.le_trans hb2'.size x.h.size)
    have XE := Lib.hid xE; clear xE t2
    refine wp_region_below (by kernel_rfl) (by kernel_rfl) ?_
    repeat (go_big_quiet_step ((first
      | (go_at_call 56; exact After.call (FR.out _ (XE.out _)))
      | (go_at_call 37; exact After.call (l1Entry_any _ _ _ hB1 HM.out)))))
    refine wpQuiet_nil ?_
    rintro _ ⟨x, rfl⟩
    clear x0 x1
    go_wp2_with fail
    go_ret2
    exact ⟨by rw [HN.out]; rfl, hb2'.trans (x.h.mono hb2'.size)⟩

end Go.Proofs.Ytghdjmjodgbghaa
