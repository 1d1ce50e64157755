/- The longest run, by both. -/
import Derived.Test.YtcfcmlbbnpfejabLongI
import Derived.Test.YtcfcmlbbnpfejabAcycS
namespace Go.Proofs.Ytcfcmlbbnpfejab
open Go.RowKit

theorem index8 (r u1 u2 u3 u4 u5 u6 u7 : ByteArray) (w : World) : (Instr.index 59 (.agg #[.string r, .string u1, .string u2, .string u3, .string u4, .string u5, .string u6, .string u7]) (.int .i64 0)).run Try.prog w = .ok (.string r) w := by kernel_rfl

/-- an operation in a region that draws its order: one value in every world of the class -/
theorem quiet_any {P : Program} {o : Oper} {a : Act} {C : World → Prop} {K : Act → Prop} (v : Value) (h : ∀ w, C w → (execOp a.eval o).run P w = .ok (.value v) w) (hk : K (a.put o.dst v)) : o.quiet P a C K :=
  ⟨v, fun w hw => by unfold Oper.quietAt; rw [h w hw]; exact ⟨rfl, rfl⟩, hk⟩

/-- the longest run of a net without ways round -/
noncomputable def longV (B : ByteArray) (es : List (ByteArray × ByteArray)) : ByteArray × Bool := textV (Valid B.data.toList (ebs es) ∧ ¬ Cyc B.data.toList (ebs es)) (longE (ebs es) (entry B.data.toList))

set_option maxRecDepth 100000 in
set_option maxHeartbeats 4000000 in
/-- spec.LongestRun -/
theorem specLongestRun_any (B : ByteArray) (A : Option Addr) (cap : Nat) (es : List (ByteArray × ByteArray)) (w : World) (hs : B.size ≤ maxLen) (hE : EdgesIn w w.heap.size A es) (hl : es.length ≤ 1099511627776) (hS : ∀ e ∈ es, e.1.size ≤ 1099511627776 ∧ e.2.size ≤ 1099511627776) :
    Calls Try.prog 23 #[.agg #[.string B, .slice A es.length cap]] w (TextPost (longV B es) w) := by
  have hl2 : es.length ≤ maxLen := by unfold maxLen; omega
  have HL := Lib.hid hl; have HM := Lib.hid hs; have HS := Lib.hid hS
  clear hl hl2 hs hS
  have hb1 : Below w.heap.size w (w.alloc (.cells #[.string B, .slice A es.length cap] 30)) := (Below.refl _ _).alloc (Nat.le_refl _) _
  have t1 := Two.made w B A es.length cap 30
  have hz1 : (w.alloc (.cells #[.string B, .slice A es.length cap] 30)).heap.size = w.heap.size + 1 := by simp
  obtain ⟨v, hv⟩ : ∃ v, acycV B es = v := ⟨_, rfl⟩
  have FA : Hid (∀ W : World, EdgesIn W W.heap.size A es → Calls Try.prog 53 #[.agg #[.string B, .slice A es.length cap]] W fun e w' => e = .returned (.bool v) ∧ Below W.heap.size W w') := Lib.hid fun W h => by
    have := specIsAcyclic_any B A cap es W HM.out h HL.out HS.out
    rwa [hv] at this
  cases v with
  | false =>
    have HN : Hid (longV B es = (⟨#[]⟩, false)) := Lib.hid (textV_no (decB_not.1 hv))
    clear hv
    go_enter Try.func23, Try.ntmps23
    go_wp2_with fail
    refine (FA.out _ ((hE.below hb1).more hb1.size)).mono ?_
    rintro e w2 ⟨rfl, hb2⟩
    have hb2' := hb1.trans (hb2.mono hb1.size)
    clear hb2
    go_wp2_with fail
    go_ret2
    exact ⟨by rw [HN.out]; rfl, hb2'⟩
  | true =>
  have hva := decB_iff.1 hv
  obtain ⟨hvd, hcy⟩ := hva
  have hF := facts_of hvd
  have hnd : B.data.toList.Nodup := hvd.1.1.2.2.2
  obtain ⟨htopo, hent⟩ := order_topo hF.into hcy hF.ent hF.small
  have hoz := orderE_len hF.into hF.ent hF.small
  obtain ⟨rt, hrt⟩ : ∃ rt : ByteArray, (⟨(longE (ebs es) (entry B.data.toList)).toArray⟩ : ByteArray) = rt := ⟨_, rfl⟩
  have HN : Hid (longV B es = (rt, true)) := Lib.hid (by rw [← hrt]; exact textV_yes ⟨hvd, hcy⟩)
  have hB1 := hF.one
  have FLP : Hid (∀ W : World, EdgesIn W W.heap.size A es → Calls Try.prog 54 #[.agg #[.string B, .slice A es.length cap], .string ⟨#[entry B.data.toList]⟩] W fun e w' => e = .returned (.string rt) ∧ Below W.heap.size W w') := Lib.hid fun W h => by
    obtain ⟨a, r2, hr⟩ := List.append_of_mem hent
    have h2 : Topo (ebs es) (entry B.data.toList :: r2) := Topo.drop (a := a) (by rw [← hr]; exact htopo)
    have hlr := congrArg List.length hr
    simp at hlr
    rw [← hrt]
    exact l3Long_any B A cap es B.data.toList hF.few hF.lets r2.length r2 (entry B.data.toList) W (Nat.le_refl _) (by omega) h2 h
  have FENT : Hid (∀ W : World, Calls Try.prog 55 #[.agg #[.string B, .slice A es.length cap]] W fun e w' => e = .returned (.string ⟨#[entry B.data.toList]⟩) ∧ Below W.heap.size W w') := Lib.hid fun W => by
    rw [← hF.first]; exact l1Entry_any B _ W hB1 HM.out
  clear hv hvd hcy hF hnd htopo hent hoz hrt
  go_enter Try.func23, Try.ntmps23
  go_wp2_with fail
  refine (FA.out _ ((hE.below hb1).more hb1.size)).mono ?_
  rintro e w2 ⟨rfl, hb2⟩
  have hb2' := hb1.trans (hb2.mono hb1.size)
  have t2 := t1.below hb2 (by omega)
  have hz2 : w.heap.size + 1 ≤ w2.heap.size := by have := hb2.size; omega
  clear hb2 t1 hz1 hb1 FA
  go_wp2_with fail
  have x0 : ∀ x : After w2, x.W.cell? ⟨w.heap.size, 0, none⟩ = some (.string B) := fun x => x.cell (by simp only; omega) t2.1
  have x1 : ∀ x : After w2, x.W.cell? ⟨w.heap.size, 1, none⟩ = some (.slice A es.length cap) := fun x => x.cell (by simp only; omega) t2.2
  have xE : ∀ x : After w2, EdgesIn x.W x.W.heap.size A es := fun x => ((hE.below hb2').below (x.h.mono hb2'.size)).more (Nat.le_trans hb2'.size x.h.size)
  have XE := Lib.hid xE; clear xE t2
  refine wp_region_below (by kernel_rfl) (by kernel_rfl) ?_
  repeat (go_big_quiet_step ((first
    | (go_at_call 54; exact After.call (FLP.out _ (XE.out _)))
    | (go_at_call 55; exact After.call (FENT.out _)))))
  refine wpQuiet_nil ?_
  rintro _ ⟨x, rfl⟩
  clear x0 x1
  go_wp2
  go_ret2
  exact ⟨by rw [HN.out]; rfl, hb2'.trans (x.h.mono hb2'.size)⟩

set_option maxRecDepth 100000 in
set_option maxHeartbeats 4000000 in
/-- impl.LongestRun -/
theorem implLongestRun_any (B : ByteArray) (A : Option Addr) (cap : Nat) (es : List (ByteArray × ByteArray)) (w : World) (hs : B.size ≤ maxLen) (hE : EdgesIn w w.heap.size A es) (hl : es.length ≤ 1099511627776) (hS : ∀ e ∈ es, e.1.size ≤ 1099511627776 ∧ e.2.size ≤ 1099511627776) :
    Calls Try.prog 24 #[.agg #[.string B, .slice A es.length cap]] w (TextPost (longV B es) w) := by
  have hl2 : es.length ≤ maxLen := by unfold maxLen; omega
  have HL := Lib.hid hl; have HM := Lib.hid hs; have HS := Lib.hid hS
  clear hl hl2 hs hS
  have hb1 : Below w.heap.size w (w.alloc (.cells #[.string B, .slice A es.length cap] 30)) := (Below.refl _ _).alloc (Nat.le_refl _) _
  have t1 := Two.made w B A es.length cap 30
  have hz1 : (w.alloc (.cells #[.string B, .slice A es.length cap] 30)).heap.size = w.heap.size + 1 := by simp
  obtain ⟨v, hv⟩ : ∃ v, acycV B es = v := ⟨_, rfl⟩
  have FA : Hid (∀ W : World, EdgesIn W W.heap.size A es → Calls Try.prog 56 #[.agg #[.string B, .slice A es.length cap]] W fun e w' => e = .returned (.bool v) ∧ Below W.heap.size W w') := Lib.hid fun W h => by
    have := implIsAcyclic_any B A cap es W HM.out h HL.out HS.out
    rwa [hv] at this
  cases v with
  | false =>
    have HN : Hid (longV B es = (⟨#[]⟩, false)) := Lib.hid (textV_no (decB_not.1 hv))
    clear hv
    go_enter Try.func24, Try.ntmps24
    go_wp2_with fail
    refine (FA.out _ ((hE.below hb1).more hb1.size)).mono ?_
    rintro e w2 ⟨rfl, hb2⟩
    have hb2' := hb1.trans (hb2.mono hb1.size)
    clear hb2
    go_wp2_with fail
    go_ret2
    exact ⟨by rw [HN.out]; rfl, hb2'⟩
  | true =>
  have hva := decB_iff.1 hv
  obtain ⟨hvd, hcy⟩ := hva
  have hF := facts_of hvd
  have hnd : B.data.toList.Nodup := hvd.1.1.2.2.2
  obtain ⟨htopo, hent⟩ := order_topo hF.into hcy hF.ent hF.small
  have hoz := orderE_len hF.into hF.ent hF.small
  obtain ⟨rt, hrt⟩ : ∃ rt : ByteArray, (⟨(longE (ebs es) (entry B.data.toList)).toArray⟩ : ByteArray) = rt := ⟨_, rfl⟩
  have HN : Hid (longV B es = (rt, true)) := Lib.hid (by rw [← hrt]; exact textV_yes ⟨hvd, hcy⟩)
  have hB1 := hF.one
  obtain ⟨u1, u2, u3, u4, u5, u6, u7, hu⟩ : ∃ u1 u2 u3 u4 u5 u6 u7 : ByteArray, ∀ W : World, EdgesIn W W.heap.size A es → Calls Try.prog 57 #[.agg #[.string B, .slice A es.length cap]] W fun e w' => e = .returned (.agg #[.string rt, .string u1, .string u2, .string u3, .string u4, .string u5, .string u6, .string u7]) ∧ Below W.heap.size W w' := by
    refine ⟨⟨(tab (ebs es) B.data.toList (orderE B.data.toList (ebs es)) 1).toArray⟩, ⟨(tab (ebs es) B.data.toList (orderE B.data.toList (ebs es)) 2).toArray⟩, ⟨(tab (ebs es) B.data.toList (orderE B.data.toList (ebs es)) 3).toArray⟩, ⟨(tab (ebs es) B.data.toList (orderE B.data.toList (ebs es)) 4).toArray⟩, ⟨(tab (ebs es) B.data.toList (orderE B.data.toList (ebs es)) 5).toArray⟩, ⟨(tab (ebs es) B.data.toList (orderE B.data.toList (ebs es)) 6).toArray⟩, ⟨(tab (ebs es) B.data.toList (orderE B.data.toList (ebs es)) 7).toArray⟩, fun W h => ?_⟩
    have h2 := longestPaths_any B A cap es W h hF HM.out hcy hnd
    have e0 : tab (ebs es) B.data.toList (orderE B.data.toList (ebs es)) 0 = longE (ebs es) (entry B.data.toList) := by
      refine tab_in ?_ hent
      have hl0 : 0 < B.data.toList.length := by have e : B.data.toList.length = B.size := (by simp); omega
      unfold entry
      match hB : B.data.toList, hl0 with
      | a :: l, _ => rfl
    rw [e0, hrt] at h2
    exact h2
  have FLP := Lib.hid hu
  have FENT : Hid (∀ W : World, Calls Try.prog 59 #[.agg #[.string B, .slice A es.length cap]] W fun e w' => e = .returned (.string ⟨#[entry B.data.toList]⟩) ∧ Below W.heap.size W w') := Lib.hid fun W => by
    rw [← hF.first]; exact entryOf_any B _ W hB1 HM.out
  have FBI : Hid (∀ W : World, Calls Try.prog 58 #[.agg #[.string B, .slice A es.length cap], .string ⟨#[entry B.data.toList]⟩] W fun e w' => e = .returned (.int .i64 0) ∧ Below W.heap.size W w') := Lib.hid fun W => by
    have h2 := blockIndex_any B ⟨#[entry B.data.toList]⟩ (.slice A es.length cap) W
    have e0 : bIdx B.data.toList (⟨#[entry B.data.toList]⟩ : ByteArray).data.toList = 0 := by
      show Lib.indexByte B.data.toList (entry B.data.toList) = 0
      have hl0 : 0 < B.data.toList.length := by have e : B.data.toList.length = B.size := (by simp); omega
      have := indexByte_of_get (i := 0) hnd (c := entry B.data.toList) (by
        unfold entry
        match hB : B.data.toList, hl0 with
        | a :: l, _ => rfl)
      simpa using this
    rw [e0] at h2
    exact h2
  clear hu
  clear hv hvd hcy hF hnd htopo hent hoz hrt
  go_enter Try.func24, Try.ntmps24
  go_wp2_with fail
  refine (FA.out _ ((hE.below hb1).more hb1.size)).mono ?_
  rintro e w2 ⟨rfl, hb2⟩
  have hb2' := hb1.trans (hb2.mono hb1.size)
  have t2 := t1.below hb2 (by omega)
  have hz2 : w.heap.size + 1 ≤ w2.heap.size := by have := hb2.size; omega
  clear hb2 t1 hz1 hb1 FA
  go_wp2_with fail
  have x0 : ∀ x : After w2, x.W.cell? ⟨w.heap.size, 0, none⟩ = some (.string B) := fun x => x.cell (by simp only; omega) t2.1
  have x1 : ∀ x : After w2, x.W.cell? ⟨w.heap.size, 1, none⟩ = some (.slice A es.length cap) := fun x => x.cell (by simp only; omega) t2.2
  have xE : ∀ x : After w2, EdgesIn x.W x.W.heap.size A es := fun x => ((hE.below hb2').below (x.h.mono hb2'.size)).more (Nat.le_trans hb2'.size x.h.size)
  have XE := Lib.hid xE; clear xE t2
  refine wp_region_below (by kernel_rfl) (by kernel_rfl) ?_
  repeat (go_big_quiet_step ((first
    | (go_at_call 57; exact After.call (FLP.out _ (XE.out _)))
    | (go_at_call 59; exact After.call (FENT.out _))
    | (go_at_call 58; exact After.call (FBI.out _)))))
  refine BigFrame.wpQuiet_want rfl fun K hK => quiet_any (.string rt) (fun w' _ => ?_) (hK _ ?_)
  · have h8 := index8 rt u1 u2 u3 u4 u5 u6 u7 w'
    go_simp
  show wpQuiet _ _ _ _ _ ({ tmps := #[.agg #[.string B, .slice A es.length cap], .pointer (some ⟨w.heap.size, 0, none⟩), .string ⟨#[]⟩, .bool false, .agg #[.string B, .slice A es.length cap], .bool true, .bool false, .agg #[.string B, .slice A es.length cap], .agg #[.string rt, .string u1, .string u2, .string u3, .string u4, .string u5, .string u6, .string u7], .agg #[.string B, .slice A es.length cap], .agg #[.string B, .slice A es.length cap], .string ⟨#[entry B.data.toList]⟩, .int .i64 0, .string rt], defers := [] } : Act)
  repeat (go_big_quiet_step (fail))
  refine wpQuiet_nil ?_
  rintro _ ⟨x, rfl⟩
  clear x0 x1
  go_wp2
  go_ret2
  exact ⟨by rw [HN.out]; rfl, hb2'.trans (x.h.mono hb2'.size)⟩

end Go.Proofs.Ytcfcmlbbnpfejab
