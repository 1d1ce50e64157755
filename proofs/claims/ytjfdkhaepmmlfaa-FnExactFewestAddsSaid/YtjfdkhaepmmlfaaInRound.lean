/- A region that draws its order, in a round: what holds of it outside holds in the round, at the wide fence. -/
import Derived.Test.YtjfdkhaepmmlfaaRangeT
import Derived.OrdersIn
import Derived.OrdersHeld
namespace Go.Proofs.Ytjfdkhaepmmlfaa
open Go.RowKit

variable {P : Program} {ops : Array Oper} {Q : Exit → Act → World → Prop} {md : Region.Mode} {l n : Nat}

theorem op_in {i : Nat} {K : Act → World → Prop} {a : Act} {w : World} (hd : ∀ o, ops[i]? = some o → ∀ c, o.op ≠ .defer c) (hL : ¬ LetsOut Q) (h : wpOp P ops Q i K a w) : wpOpIn (Fence.wide.inRound l) n P ops Q i K a w := by
  unfold wpOp at h
  unfold wpOpIn
  cases ho : ops[i]? with
  | none => simp only [ho] at h; exact h
  | some o =>
    simp only [ho] at h
    simp only
    split
    · rename_i hw
      simp only [hw, if_true] at h
      have h' := h.resolve_right (fun hh => hL hh.2)
      refine ⟨fun f _ => trivial, ?_⟩
      rw [Oper.semAt_eq _ _ _ (hd o ho)]
      unfold Oper.wp at h'
      generalize (execOp a.eval o).run P w = r at h' ⊢
      cases r with
      | ok x w' =>
        cases x <;> simp only [Oper.upon] at h' <;> simp only [Oper.uponIn] <;>
          first
            | exact h'
            | exact ⟨fun hh => by simp [Fence.inRound, Fence.wide] at hh, callsIn_wide.2 h'⟩
            | exact ⟨fun hh => by simp [Fence.inRound, Fence.wide] at hh, fun c cs _ => let ⟨v, w2, r, st⟩ := h' c cs; ⟨v, w2, r, stepsIn_wide.2 st⟩⟩
      | halt x w' => cases x <;> simp only [Oper.upon] at h' <;> simp only [Oper.uponIn] <;> exact h'
    · rename_i hw
      simp only [hw] at h
      exact ⟨fun f _ => trivial, h⟩

theorem any_in (hd : ∀ (i : Nat) (o : Oper), ops[i]? = some o → ∀ c, o.op ≠ .defer c) (hL : ¬ LetsOut Q) : ∀ (fuel : Nat) (listed : Array Bool) (a : Act) (w : World), wpAny P md ops Q fuel listed a w → wpAnyIn (Fence.wide.inRound l) n P md ops Q fuel listed a w
  | 0, _, _, _, h => h
  | fuel + 1, _, _, _, h => ⟨h.1, fun i hi => op_in (hd i) hL (wpOp_mono (fun a' w' h' => any_in hd hL fuel _ a' w' h') (h.2 i hi))⟩

/-- whether no operation of a region defers a call -/
def calmR (ops : Array Oper) : Bool := ops.all fun (o : Oper) => match o.op with | .defer _ => false | _ => true
theorem calmR_of {ops : Array Oper} (h : calmR ops = true) : ∀ (i : Nat) (o : Oper), ops[i]? = some o → ∀ c, o.op ≠ .defer c := by
  intro i o ho c e
  have hi := Array.getElem?_eq_some_iff.1 ho
  have := Array.all_eq_true.1 h i hi.1
  rw [hi.2, e] at this
  exact absurd this (by simp)

/-- a region that draws its order, in a round -/
theorem region_in_round {id : Nat} {a : Act} {w : World} {S : World → Prop} (hm : P.follows .mixedOrders = true) (hc : calmR ops = true) (hL : ¬ LetsOut Q)
    (h : wpAnyH P .any ops Q S ops.size (Array.replicate ops.size false) a { w with drawn := w.drawn + 1 }) : (Code.region id ops true).wpIn (Fence.wide.inRound l) n P Q a w :=
  wpIn_region_any hm (any_in (calmR_of hc) hL _ _ _ _ (wpAny_of_held _ _ _ _ h))

end Go.Proofs.Ytjfdkhaepmmlfaa

namespace Go.Proofs.Ytjfdkhaepmmlfaa
open Go.RowKit
variable {P : Program} {ops : Array Oper} {Q : Exit → Act → World → Prop}

/-- a call, in a region that draws its order -/
theorem op_call {i : Nat} {o : Oper} {K : Act → World → Prop} {a : Act} {w : World} {f : FuncId} {args : Array Value} (ho : ops[i]? = some o) (hw : Region.wanted o (yielded ops a.tmps) = true) (he : (execOp a.eval o).run P w = .ok (.enter f args) w)
    (hc : Calls P f args w fun e w' => ∃ v, e = .returned v ∧ K (a.put o.dst v) w') : wpOp P ops Q i K a w := by
  unfold wpOp
  simp only [ho, hw, if_true]
  left
  unfold Oper.wp
  rw [he]
  refine hc.mono ?_
  rintro e w' ⟨v, rfl, h⟩
  exact h
/-- what is no call, in a region that draws its order -/
theorem op_value {i : Nat} {o : Oper} {K : Act → World → Prop} {a : Act} {w w' : World} {v : Value} (ho : ops[i]? = some o) (hw : Region.wanted o (yielded ops a.tmps) = true) (he : (execOp a.eval o).run P w = .ok (.value v) w')
    (h : K (a.put o.dst v) w') : wpOp P ops Q i K a w := by
  unfold wpOp
  simp only [ho, hw, if_true]
  left
  unfold Oper.wp
  rw [he]
  exact h

/-- what yields nothing, in a region that draws its order -/
theorem op_skip {i : Nat} {o : Oper} {K : Act → World → Prop} {a : Act} {w w' : World} (ho : ops[i]? = some o) (hw : Region.wanted o (yielded ops a.tmps) = true) (he : (execOp a.eval o).run P w = .ok .skip w')
    (h : K (a.put o.dst undef) w') : wpOp P ops Q i K a w := by
  unfold wpOp
  simp only [ho, hw, if_true]
  left
  unfold Oper.wp
  rw [he]
  exact h

end Go.Proofs.Ytjfdkhaepmmlfaa
