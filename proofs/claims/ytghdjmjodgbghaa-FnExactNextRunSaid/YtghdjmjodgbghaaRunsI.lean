/- How many runs there are, by the program. -/
import Derived.Test.YtghdjmjodgbghaaCountC
import Derived.Test.YtghdjmjodgbghaaCountM
namespace Go.Proofs.Ytghdjmjodgbghaa
open Go.RowKit

theorem lead_of {B : ByteArray} {es : List (ByteArray × ByteArray)} {O : List UInt8} (h : Acy B es O) : Lead B es O (entry B.data.toList) (exit_ B.data.toList) :=
  ⟨h.F.few, h.F.lets, h.topo, h.eight, h.all _ h.F.ent, h.F.one, h.F.eight, h.F.first, h.F.last, h.no⟩

set_option maxRecDepth 100000 in
set_option maxHeartbeats 4000000 in
/-- impl.CountRuns -/
theorem implCountRuns_any (B : ByteArray) (A : Option Addr) (cap : Nat) (es : List (ByteArray × ByteArray)) (w : World) (hs : B.size ≤ maxLen) (hE : EdgesIn w w.heap.size A es) (hl : es.length ≤ 1099511627776) (hS : ∀ e ∈ es, e.1.size ≤ 1099511627776 ∧ e.2.size ≤ 1099511627776) :
    Calls Try.prog 14 #[.agg #[.string B, .slice A es.length cap]] w (IntPost (runsV B es) w) := by
  have HL := Lib.hid hl; have HM := Lib.hid hs; have HS := Lib.hid hS
  clear hl hs hS
  have hb1 : Below w.heap.size w (w.alloc (.cells #[.string B, .slice A es.length cap] 29)) := (Below.refl _ _).alloc (Nat.le_refl _) _
  have t1 := Two.made w B A es.length cap 29
  have hz1 : (w.alloc (.cells #[.string B, .slice A es.length cap] 29)).heap.size = w.heap.size + 1 := by simp
  obtain ⟨v, hv⟩ : ∃ v, acycV B es = v := ⟨_, rfl⟩
  have FA : Hid (∀ W : World, EdgesIn W W.heap.size A es → Calls Try.prog 39 #[.agg #[.string B, .slice A es.length cap]] W fun e w' => e = .returned (.bool v) ∧ Below W.heap.size W w') := Lib.hid fun W h => by
    have := implIsAcyclic_any B A cap es W HM.out h HL.out HS.out
    rwa [hv] at this
  cases v with
  | false =>
    have HN : Hid (runsV B es = -1) := Lib.hid (if_neg (by rw [hv]; simp))
    clear hv
    go_enter Try.func14, Try.ntmps14
    go_wp2_with fail
    refine (FA.out _ ((hE.below hb1).more hb1.size)).mono ?_
    rintro e w2 ⟨rfl, hb2⟩
    have hb2' := hb1.trans (hb2.mono hb1.size)
    clear hb2 t1
    go_wp2_with fail
    go_ret
    exact ⟨ret_int HN.out.symm, hb2'⟩
  | true =>
    have hA := acy_v hv
    have hL := lead_of hA
    have hB1 := hA.F.one
    obtain ⟨b0, hb0⟩ : ∃ b0, entry B.data.toList = b0 := ⟨_, rfl⟩
    obtain ⟨q, hq⟩ : ∃ q, cntV B es b0 = q := ⟨_, rfl⟩
    have HN : Hid (runsV B es = q) := Lib.hid ((if_pos hv).trans (by rw [hb0]; exact hq))
    have FM : Hid (∀ W : World, EdgesIn W W.heap.size A es → Calls Try.prog 40 #[.agg #[.string B, .slice A es.length cap]] W (MapPost (ebs es) b0 (exit_ B.data.toList) W)) := Lib.hid fun W h => by
      rw [← hb0]; exact countsToExit_any B A cap es _ _ _ W h hL HM.out
    have FE : Hid (∀ W : World, Calls Try.prog 41 #[.agg #[.string B, .slice A es.length cap]] W fun e w' => e = .returned (.string ⟨#[b0]⟩) ∧ Below W.heap.size W w') := Lib.hid fun W => by
      rw [← hb0, ← hA.F.first]; exact entryOf_any B _ W hB1 HM.out
    have HQ : Hid (((cntE (ebs es) (exit_ B.data.toList) b0 : Nat) : Int) = q) := Lib.hid hq
    clear hv hA hq hL hb0
    go_enter Try.func14, Try.ntmps14
    go_wp2_with fail
    refine (FA.out _ ((hE.below hb1).more hb1.size)).mono ?_
    rintro e w2 ⟨rfl, hb2⟩
    have hb2' := hb1.trans (hb2.mono hb1.size)
    have t2 := t1.below hb2 (by omega)
    have hz2 : w.heap.size + 1 ≤ w2.heap.size := by have := hb2.size; omega
    clear hb2 t1 hz1 hb1 FA
    go_wp2_with fail
    have hS : ∀ W, Below w2.heap.size w2 W → (W.cell? ⟨w.heap.size, 0, none⟩ = some (.string B) ∧ W.cell? ⟨w.heap.size, 1, none⟩ = some (.slice A es.length cap) ∧ Below w2.heap.size w2 W) :=
      fun W h => ⟨(h.cell (by simp only; omega)).trans t2.1, (h.cell (by simp only; omega)).trans t2.2, h⟩
    have HSS := Lib.hid hS
    have HA : Hid (∀ W, Below w2.heap.size w2 W → EdgesIn W W.heap.size A es) := Lib.hid fun W h => (hE.below (hb2'.trans (h.mono hb2'.size))).more (hb2'.trans (h.mono hb2'.size)).size
    have HLK : Hid (∀ (W : World) (M : Nat) (f : UInt8 → Option Int), NumsIs W M f → (∀ b, Way (ebs es) b0 b → f b = some ((cntE (ebs es) (exit_ B.data.toList) b : Nat) : Int)) → (Instr.lookup 49 (.map (some M)) (.string ⟨#[b0]⟩) false).run Try.prog W = .ok (.int .i64 q) W) := Lib.hid fun W M f hn hf => by
      have := hn.lookup (P := Try.prog) (kt := 9) (t := 49) (e := 3) Try.underlying9 Try.underlying49 (by kernel_rfl) b0
      rw [hf b0 (.refl _), Option.getD_some, HQ.out] at this
      exact this
    clear hS t2
    go_region_held3 (fun W => W.cell? ⟨w.heap.size, 0, none⟩ = some (.string B) ∧ W.cell? ⟨w.heap.size, 1, none⟩ = some (.slice A es.length cap) ∧ Below w2.heap.size w2 W)
      (first
        | exact HSS.out _ (Below.refl _ _).drew
        | exact HSS.out _ HB4.out
        | exact HSS.out _ HB5.out)
      (first
        | (go_at_call 40
           first
             | (have q5 := HB5; clear q5
                refine (FM.out _ (HA.out _ HB5.out)).mono ?_
                rintro e w4 ⟨M, f, rfl, hM, hn4, hb4, hall⟩
                have HB4 : Hid (Below w2.heap.size w2 w4) := Lib.hid (HB5.out.trans (hb4.mono HB5.out.size))
                have hlk := HLK.out _ _ _ hn4 hall
                clear hb4 hn4 hall hM)
             | (refine (FM.out _ (HA.out _ (Below.refl _ _).drew)).mono ?_
                rintro e w4 ⟨M, f, rfl, hM, hn4, hb4, hall⟩
                have HB4 : Hid (Below w2.heap.size w2 w4) := Lib.hid ((Below.refl _ _).drew.trans hb4)
                have HN4 := Lib.hid hn4; have HALL := Lib.hid hall; have HML := Lib.hid hM
                clear hb4 hn4 hall hM))
        | (go_at_call 41
           first
             | (have q4 := HN4; clear q4
                refine (FE.out _).mono ?_
                rintro e w5 ⟨rfl, hb5⟩
                have HB5 : Hid (Below w2.heap.size w2 w5) := Lib.hid (HB4.out.trans (hb5.mono HB4.out.size))
                have hlk := HLK.out _ _ _ (HN4.out.below hb5 HN4.out.lt) HALL.out
                clear hb5)
             | (refine (FE.out _).mono ?_
                rintro e w5 ⟨rfl, hb5⟩
                have HB5 : Hid (Below w2.heap.size w2 w5) := Lib.hid ((Below.refl _ _).drew.trans hb5)
                clear hb5)))
    all_goals
      rename_i hHeld
      have HBF := Lib.hid (hb2'.trans (hHeld.2.2.mono hb2'.size))
      clear hHeld
      go_wp2_with fail
      go_ret
      exact ⟨ret_int HN.out.symm, HBF.out⟩

end Go.Proofs.Ytghdjmjodgbghaa
