/- ParseNet answers as the model does, whatever the text: the statement. -/
import Derived.Test.YtghdjmjodgbghaaDoorRows
import Derived.Test.YtghdjmjodgbghaaDoorLParseNet
import Derived.WalkKit
import Derived.ProofKit
import Derived.OpenShut
import Derived.ShutString
import Derived.ChangeOld
import Derived.Below
import Derived.LaidLaws
import Derived.LaidMore
import Derived.LaidSub
import Derived.LaidHandle
import Derived.MakeChecks
import Derived.Stop.Joined
import Derived.Stop.ErrReads
import Derived.Stop.LaidErr
namespace Go.Proofs.YtghdjmjodgbghaaDoor
open Go.ChangeShapes Go.WideShapes Go.ChangeAt Go.RowKit
open Go.ChangeMaps (open_string shut_string)
set_option linter.unusedVariables false

theorem ownParseNet : ownKnob Tryd.prog.godebug = none := by kernel_rfl
theorem laidParseNet : laidOutB Tryd.prog = true := by kernel_rfl
theorem gErrText : Tryd.prog.globalNamed "loop.example/pathcounts/impl.errText" = some 0 := by kernel_rfl
theorem gErrNet : Tryd.prog.globalNamed "loop.example/pathcounts/impl.errNet" = some 1 := by kernel_rfl
theorem tErrText : (Tryd.prog.globals[0]?).map (·.type) = some 36 := by kernel_rfl
theorem tErrNet : (Tryd.prog.globals[1]?).map (·.type) = some 36 := by kernel_rfl
theorem starErr : "*" ++ "errors.errorString" = "*errors.errorString" := by decide
theorem rowErr (u : TypeId) (h : Tryd.prog.typeName? 3 u = some "*errors.errorString") : u = 75 :=
  typeName_ptr_named (nm := "errors.errorString") (by rw [starErr]; kernel_rfl) (by kernel_rfl) (by decide) u (by rw [starErr]; exact h)
theorem cellsErr : Tryd.prog.cellsOf 92 = 1 := by kernel_rfl
theorem cellsStr : Tryd.prog.cellsOf 9 = 1 := by kernel_rfl

/-- the errors lie as the program lays them -/
theorem errs_of {W : World} (h : laidMetH Tryd.prog Rows.fnExactParseNetRow.laid W) : Errs W ∧ ∃ a1 a2, W.var? Tryd.prog "loop.example/pathcounts/impl.errText" = some #[.iface 75 (.pointer (some a1))] ∧ W.var? Tryd.prog "loop.example/pathcounts/impl.errNet" = some #[.iface 75 (.pointer (some a2))] := by
  rw [MakeChecks.laidMetH_plain _ _ _ (by kernel_rfl)] at h
  have h2 : laidMet Tryd.prog [("loop.example/pathcounts/impl.errNet", Rows.laid_loop_example_pathcounts_impl_errNet)] W := laidMet.filter (fun x => x.1 == "loop.example/pathcounts/impl.errNet") h
  obtain ⟨a1, s1, hv1, hc1, _, _⟩ := laid_sentinel h gErrText tErrText Tryd.underlying36 rowErr Tryd.underlying75 Tryd.underlying92 rfl rfl Tryd.underlying9 cellsErr cellsStr
  obtain ⟨a2, s2, hv2, hc2, _, _⟩ := laid_sentinel h2 gErrNet tErrNet Tryd.underlying36 rowErr Tryd.underlying75 Tryd.underlying92 rfl rfl Tryd.underlying9 cellsErr cellsStr
  have k1 : W.cell? ⟨0, 0, none⟩ = some (.iface 75 (.pointer (some a1))) := by simpa using World.var?_cell gErrText hv1 0
  have k2 : W.cell? ⟨1, 0, none⟩ = some (.iface 75 (.pointer (some a2))) := by simpa using World.var?_cell gErrNet hv2 0
  refine ⟨⟨_, _, k1, k2, ?_⟩, a1, a2, hv1, hv2⟩
  rcases Nat.lt_or_ge 1 W.heap.size with h3 | h3
  · omega
  · simp [World.cell?, Array.getElem?_eq_none h3] at k2

theorem var_below {W W' : World} {n : String} {g : Nat} {cs : Array Value} (hg : Tryd.prog.globalNamed n = some g) (h : W.var? Tryd.prog n = some cs) (hb : W'.heap[g]? = W.heap[g]?) : W'.var? Tryd.prog n = some cs := by
  rw [← h]
  simp only [World.var?, hg, Option.bind_some, hb]

theorem doorMet (os : Os) (args : Array Value) : laidMetH Tryd.prog Rows.fnExactParseNetRow.laid ((World.doorLaid Tryd.prog 400 os).forCall (fun _ _ => 0) ⟨#[], args, []⟩).memory :=
  laidMetH_of_parts3 (fuel := 8) (laidMet_of_run' 8 (by kernel_rfl) (by kernel_rfl)) (by kernel_rfl) (by kernel_rfl)

set_option maxRecDepth 100000 in
theorem liftedParseNet (os : Os) (started : os.Started) (H : Type) (enc : TypeId × Value → H) :
    ReturnsInHanded {} Tryd.checked os 3 .any (fun w args => (Rows.fnExactParseNetSpec.pre enc Tryd.prog Tryd.f3 Rows.fnExactParseNetRow.domain false w args ∧ laidMetH Tryd.prog Rows.fnExactParseNetRow.laid w) ∧ sizedMet enc Tryd.prog Tryd.f3 (OpenSpec.ofChange Rows.fnExactParseNetSpec) false w args)
      (Rows.fnExactParseNetSpec.post enc Tryd.prog Tryd.f3 false true false false) := by
  refine returnsInHanded_of_change_and (C := Tryd.checked) (X := fun w _ => laidMetH Tryd.prog Rows.fnExactParseNetRow.laid w) (fun _ _ _ hh h => h.of_heap hh) ownParseNet started (by kernel_rfl) Tryd.func3
    (ChangeSpec.witness_shaped (enc := enc) (C := Tryd.checked) (os := os) (X := fun w _ => laidMetH Tryd.prog Rows.fnExactParseNetRow.laid w) false (World.doorLaid Tryd.prog 400 os) #[.string ⟨#[]⟩] 8 rfl (World.shaped_of_RefB (by kernel_rfl) (by kernel_rfl)) (by kernel_rfl) (by kernel_rfl) (by kernel_rfl) (doorMet os _)) ?_
  intro W base args ds gs before hval0 hW _ _ hL _
  have hval : ∀ (j : Nat) t v, Tryd.f3.params[j]? = some t → args[j]? = some v → Value.okWide Tryd.prog W .any base t v := hval0
  have hW' := hW
  obtain ⟨p, q, hA0, hV0, rfl, hfz, hnd⟩ := hW
  have hA : DataW.TrodAll enc Tryd.prog W 0 (fun _ => true) true Tryd.f3.params.toList args.toList ds p := hA0
  have hV : DataW.TrodVars enc Tryd.prog W (fun _ => true) ["loop.example/pathcounts/impl.errText", "loop.example/pathcounts/impl.errNet"] gs q := hV0
  rw [Tryd.params3] at hA hval
  obtain ⟨v0, vs0, d0, ds0, p0, q0, hargs, rfl, rfl, h0, r0⟩ := trodAll_cons hA
  obtain ⟨rfl, rfl, rfl⟩ := trodAll_nil r0
  obtain rfl : args = #[v0] := by cases args; simp_all
  have k0 := h0
  have lt0 : ∀ x ∈ p0, x.block < W.heap.size := by obtain ⟨m, hm⟩ := k0; exact DataW.trod_lt m _ _ _ hm
  obtain ⟨t0, rfl, _, _, ht0⟩ := open_string Tryd.underlying9 (hval 0 9 v0 rfl rfl) h0
  obtain ⟨hE, a1, a2, hv1, hv2⟩ := errs_of hL
  obtain ⟨rfl, rfl⟩ := hV.unique (vars_read2 enc gErrText tErrText Tryd.underlying36 hv1 trivial gErrNet tErrNet Tryd.underlying36 hv2 trivial _)
  clear hA0 hval0
  refine (lawParseNet t0 W ht0 hE).mono fun e W' ⟨he, bel⟩ => ?_
  subst he
  have hz : 2 ≤ W.heap.size := hE.choose_spec.choose_spec.2.2
  exact ⟨_, rfl, _, _, _, [], _, _, hW', trodAll_mk1 (shut_bool Tryd.underlying4 _), (trodAll_cons_mk (Below.trod laidParseNet (by kernel_rfl) (of_decide_eq_true (by kernel_rfl)) k0 bel lt0) trodAll_mk0), vars_read2 enc gErrText tErrText Tryd.underlying36 (var_below gErrText hv1 (bel.block 0 (by omega))) trivial gErrNet tErrNet Tryd.underlying36 (var_below gErrNet hv2 (bel.block 1 (by omega))) trivial _, bel.frame _, fun h => by cases h⟩

end Go.Proofs.YtghdjmjodgbghaaDoor
