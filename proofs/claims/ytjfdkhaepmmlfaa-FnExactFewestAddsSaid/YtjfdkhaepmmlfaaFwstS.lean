/- The tree with fewest adds, by the model: spec.FewestAdds. -/
import Derived.Test.YtjfdkhaepmmlfaaBstS
import Derived.Test.YtjfdkhaepmmlfaaZ6C
import Derived.Test.YtjfdkhaepmmlfaaZ6S
import Derived.Deep.DrawnRows
import Derived.Deep.RegionWith
import Derived.BigRegion
namespace Go.Proofs.Ytjfdkhaepmmlfaa
open Go.RowKit

theorem valE_allW {B : ByteArray} {es : List (ByteArray × ByteArray)} {O : List UInt8} (h : Acy B es O) (k : Nat) : valE (ebs es) (exit_ B.data.toList) k ≤ 4294967296 := by
  by_cases hk : k < es.length
  · exact valE_few' h hk
  · have h0 : valE (ebs es) (exit_ B.data.toList) k = 0 := by unfold valE; rw [List.getElem?_eq_none (by rw [ebs_len]; omega)]
    rw [h0]; omega

/-- a text, and whether there is one -/
def SBPost2 (q : ByteArray × Bool) (w : World) (e : Ending) (w' : World) : Prop := e = .returned (.tuple #[.string q.1, .bool q.2]) ∧ Below w.heap.size w w'
theorem fewest_yes {B : ByteArray} {es : List (ByteArray × ByteArray)} (h : acycV B es = true) (k : countTV B es ≤ 300) : fewestV B es = (⟨(bestB B es).1.toArray⟩, true) := if_pos ⟨h, k⟩
theorem fewest_no {B : ByteArray} {es : List (ByteArray × ByteArray)} (h : ¬ (acycV B es = true ∧ countTV B es ≤ 300)) : fewestV B es = (⟨#[]⟩, false) := if_neg h

set_option maxRecDepth 100000 in
set_option maxHeartbeats 4000000 in
/-- spec.FewestAdds -/
theorem specFewestAdds_any (B : ByteArray) (A : Option Addr) (cap : Nat) (es : List (ByteArray × ByteArray)) (w : World) (hs : B.size ≤ maxLen) (hE : EdgesIn w w.heap.size A es) (hl : es.length ≤ 1099511627776) (hS : ∀ e ∈ es, e.1.size ≤ 1099511627776 ∧ e.2.size ≤ 1099511627776) :
    Calls Try.prog 9 #[.agg #[.string B, .slice A es.length cap]] w (SBPost2 (fewestV B es) w) := by
  obtain ⟨v, hv⟩ : ∃ v, acycV B es = v := ⟨_, rfl⟩
  have FA : Hid (∀ W : World, EdgesIn W W.heap.size A es → Calls Try.prog 28 #[.agg #[.string B, .slice A es.length cap]] W fun e w' => e = .returned (.bool v) ∧ Below W.heap.size W w') := Lib.hid fun W h => by
    have := specIsAcyclic_any B A cap es W hs h hl hS
    rwa [hv] at this
  obtain ⟨ct, hct⟩ : ∃ ct, countTV B es = ct := ⟨_, rfl⟩
  have FC : Hid (∀ W : World, EdgesIn W W.heap.size A es → Calls Try.prog 29 #[.agg #[.string B, .slice A es.length cap]] W fun e w' => e = .returned (.int .i64 ct) ∧ Below W.heap.size W w') := Lib.hid fun W h => by
    rw [← hct]; exact specCountTrees_any B A cap es W hs h hl hS
  have hb1 : Below w.heap.size w (w.alloc (.cells #[.string B, .slice A es.length cap] 30)) := (Below.refl _ _).alloc (Nat.le_refl _) _
  have t1 := Two.made w B A es.length cap 30
  have hz1 : (w.alloc (.cells #[.string B, .slice A es.length cap] 30)).heap.size = w.heap.size + 1 := by simp
  have HE := Lib.hid hE
  cases v with
  | false =>
    have HN : Hid (SBPost2 (fewestV B es) w = fun e w' => e = .returned (.tuple #[.string ⟨#[]⟩, .bool false]) ∧ Below w.heap.size w w') := Lib.hid (by
      rw [fewest_no (fun h => by rw [hv] at h; exact absurd h.1 (by simp))]; rfl)
    clear hv hct hE hl hS hs FC
    rw [HN.out]
    go_enter Try.func9, Try.ntmps9
    go_wp2_with fail
    refine (FA.out _ ((HE.out.below hb1).more hb1.size)).mono ?_
    rintro e w2 ⟨rfl, hb2⟩
    have hb2' := hb1.trans (hb2.mono hb1.size)
    clear hb2 t1
    go_wp2_with fail
    go_ret2
    exact ⟨rfl, hb2'⟩
  | true =>
    by_cases hc : ct ≤ 300
    case neg =>
      have HN : Hid (SBPost2 (fewestV B es) w = fun e w' => e = .returned (.tuple #[.string ⟨#[]⟩, .bool false]) ∧ Below w.heap.size w w') := Lib.hid (by
        rw [fewest_no (fun h => hc (hct ▸ h.2))]; rfl)
      have g1 : (300 : Int) < ct := by omega
      clear hv hct hE hl hS hs hc
      rw [HN.out]
      go_enter Try.func9, Try.ntmps9
      go_wp2_with fail
      refine (FA.out _ ((HE.out.below hb1).more hb1.size)).mono ?_
      rintro e w2 ⟨rfl, hb2⟩
      have hb2' := hb1.trans (hb2.mono hb1.size)
      have t2 := t1.below hb2 (by omega)
      have hd0 := t2.1; have hd1 := t2.2
      clear hb2 t1 FA
      go_wp2_with fail
      refine (FC.out _ ((HE.out.below hb2').more hb2'.size)).mono ?_
      rintro e w3 ⟨rfl, hb3⟩
      have hb3' := hb2'.trans (hb3.mono hb2'.size)
      clear hb3 t2 hd0 hd1
      go_wp2_with fail
      go_ret2
      exact ⟨rfl, hb3'⟩
    have hA := acy_v hv
    have hV : Valid B.data.toList (ebs es) := (decB_iff.1 hv).1
    have h2 : 2 ≤ B.size := by have := hV.1.1.1; simpa using this
    have h8 : B.size ≤ 8 := (valid_sizes hV).1
    have hN : SBPost2 (fewestV B es) w = fun e w' => e = .returned (.tuple #[.string ⟨(bestB B es).1.toArray⟩, .bool true]) ∧ Below w.heap.size w w' := by
      rw [fewest_yes hv (by rw [hct]; exact hc)]; rfl
    have FV : Hid (∀ W : World, EdgesIn W W.heap.size A es → Calls Try.prog 30 #[.agg #[.string B, .slice A es.length cap]] W fun e w' => ∃ AV cv, e = .returned (.tuple #[.slice AV es.length cv, .bool true]) ∧ IntsIn w' w'.heap.size AV ((List.range es.length).map fun k => ((valB B es k : Nat) : Int)) ∧ Below W.heap.size W w') := Lib.hid fun W h => by
      refine (specValuesOf_any B A cap es W hs h hl hS).mono ?_
      have hq : valuesV B es = ((List.range es.length).map (fun k => ((valB B es k : Nat) : Int)), true) := if_pos hv
      rintro e w' ⟨AV, cv, rfl, h3, h4, _⟩
      rw [hq] at h3 ⊢
      refine ⟨AV, cv, ?_, h3, h4⟩
      simp only [List.length_map, List.length_range]
    obtain ⟨f, hf⟩ : ∃ f, fresh B.size = f := ⟨_, rfl⟩
    have FM : Hid (∀ W : World, Calls Try.prog 32 #[.agg #[.string B, .slice A es.length cap]] W fun e w' => ∃ g, e = .returned (.pointer (some ⟨g, 0, none⟩)) ∧ W.heap.size ≤ g ∧ g < w'.heap.size ∧ Labs w' g f ∧ Below W.heap.size W w') := Lib.hid fun W => by
      rw [← hf]; exact l5Make_any B _ W h2 h8
    obtain ⟨zb, hzb⟩ : ∃ zb : ByteArray, (⟨(bestB B es).1.toArray⟩ : ByteArray) = zb := ⟨_, rfl⟩
    obtain ⟨zl, hzl⟩ : ∃ zl : Int, (bestB B es).2 = zl := ⟨_, rfl⟩
    have FBB : Hid (∀ (AV : Option Addr) (cv : Nat) (W : World), EdgesIn W W.heap.size A es → IntsIn W W.heap.size AV ((List.range es.length).map fun k => ((valB B es k : Nat) : Int)) → Calls Try.prog 31 #[.agg #[.string B, .slice A es.length cap], .agg #[.int .i64 ((f 0 : Nat) : Int), .int .i64 ((f 1 : Nat) : Int), .int .i64 ((f 2 : Nat) : Int), .int .i64 ((f 3 : Nat) : Int), .int .i64 ((f 4 : Nat) : Int), .int .i64 ((f 5 : Nat) : Int), .int .i64 ((f 6 : Nat) : Int), .int .i64 ((f 7 : Nat) : Int)], .int .i64 0, .string ⟨#[]⟩, .slice AV es.length cv, .string ⟨#[]⟩, .int .i64 (-1)] W fun e w' => e = .returned (.tuple #[.string zb, .int .i64 zl]) ∧ Below W.heap.size W w') := Lib.hid fun AV cv W h h3 => by
      have := l6Best_any B A cap es hs hV _ rfl (valB B es) (valB_few (valE_allW hA)) AV cv es.length 0 (B.size - 2) (fresh B.size) [] ([], -1) W (Nat.sub_le _ _) (Nat.zero_le _) (by simp; omega) h h3 (trs_tree hV)
      unfold BestPost at this
      rw [← hzb, ← hzl, ← hf]
      exact this
    rw [hN, hzb]
    have g1 : ¬ (300 : Int) < ct := by omega
    clear hv hct hE hl hS hs hc hV hA hf hzb hzl hN h2 h8
    go_enter Try.func9, Try.ntmps9
    go_wp2_with fail
    refine (FA.out _ ((HE.out.below hb1).more hb1.size)).mono ?_
    rintro e w2 ⟨rfl, hb2⟩
    have hb2' := hb1.trans (hb2.mono hb1.size)
    have t2 := t1.below hb2 (by omega)
    have hd0 := t2.1; have hd1 := t2.2
    have hz2 := hb2.size
    clear hb2 t1 FA
    go_wp2_with fail
    refine (FC.out _ ((HE.out.below hb2').more hb2'.size)).mono ?_
    rintro e w3 ⟨rfl, hb3⟩
    have hb3' := hb2'.trans (hb3.mono hb2'.size)
    have t3 := t2.below hb3 (by omega)
    have hz3 := hb3.size
    clear hb3 t2 hd0 hd1
    have hd0 := t3.1; have hd1 := t3.2
    go_wp2_with fail
    refine (FV.out _ ((HE.out.below hb3').more hb3'.size)).mono ?_
    rintro e w4 ⟨AV, cv, rfl, hvs, hb4⟩
    have hb4' := hb3'.trans (hb4.mono hb3'.size)
    have t4 := t3.below hb4 (by omega)
    have hz4 := hb4.size
    clear hb4 t3 hd0 hd1
    have HB4 := Lib.hid hb4'; have HVS := Lib.hid hvs
    have d0 := t4.1; have d1 := t4.2
    clear t4 hb4' hvs
    go_wp2_with fail
    go_region_with (first
      | (go_at_call 31; refine (FBB.out _ _ _ ((HE.out.below hbb).more hbb.size) (HVW.out)).mono ?_; rintro e w6 ⟨rfl, hb6⟩
         have hfin : Below w.heap.size w w6 := hbb.trans ((show Below w5.heap.size w5 w6 from ⟨hb6.os, hb6.tape, hb6.output, hb6.size, hb6.block⟩).mono hbb.size)
         clear hb6)
      | (go_at_call 32; refine (FM.out _).mono ?_; rintro e w5 ⟨g, rfl, hg1, hg2, hlab, hb5⟩
         have hb5' : Below w4.heap.size w4 w5 := ⟨hb5.os, hb5.tape, hb5.output, hb5.size, hb5.block⟩
         have d2 := (hb5'.cell (p := ⟨w.heap.size, 0, none⟩) (by simp only; omega)).trans d0
         have d3 := (hb5'.cell (p := ⟨w.heap.size, 1, none⟩) (by simp only; omega)).trans d1
         have hbb : Below w.heap.size w w5 := HB4.out.trans (hb5'.mono HB4.out.size)
         have HVW := Lib.hid ((HVS.out.below hb5').more hb5'.size)
         have q0 := hlab.cell (i := 0) (by omega); have q1 := hlab.cell (i := 1) (by omega); have q2 := hlab.cell (i := 2) (by omega); have q3 := hlab.cell (i := 3) (by omega)
         have q4 := hlab.cell (i := 4) (by omega); have q5 := hlab.cell (i := 5) (by omega); have q6 := hlab.cell (i := 6) (by omega); have q7 := hlab.cell (i := 7) (by omega)
         clear hb5 hb5' hlab hg1 hg2))
    all_goals
      go_wp2_with fail
      go_ret2
      exact ⟨rfl, hfin⟩

end Go.Proofs.Ytjfdkhaepmmlfaa
