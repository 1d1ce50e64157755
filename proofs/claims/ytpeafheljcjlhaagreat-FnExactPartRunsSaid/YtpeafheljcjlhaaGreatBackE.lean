/- Edges that lead back, by both. -/
import Derived.Test.YtpeafheljcjlhaaGreatNames
import Derived.Test.YtpeafheljcjlhaaGreatBackI
import Derived.Test.YtpeafheljcjlhaaGreatValid
namespace Go.Proofs.YtpeafheljcjlhaaGreat
open Go.RowKit

/-- a look-up in a region that draws its order: one value in every world of the class -/
theorem quiet_lookup {P : Program} {o : Oper} {a : Act} {C : World → Prop} {K : Act → Prop} (m x : Operand) (T : TypeId) (hop : o.op = Op.lookup T m x false) (v : Value)
    (h : ∀ w, C w → (Instr.lookup T (a.eval m) (a.eval x) false).run P w = .ok v w) (hk : K (a.put o.dst v)) : o.quiet P a C K :=
  ⟨v, fun w hw => by unfold Oper.quietAt; simp [execOp, hop, h w hw, Result.andThen, Oper.quietUpon], hk⟩

set_option maxRecDepth 100000 in
set_option maxHeartbeats 1000000 in
/-- impl.BackEdges$1 -/
theorem backKeep_any (p : Nat → Bool) (n k b m : Nat) (w : World) (hn : n ≤ 16) (hk : k < n) (hb : w.cell? ⟨b, 0, none⟩ = some (.map (some m))) (hbz : b < w.heap.size) (hm : SetAt w m ((names p n).map encB)) :
    Calls Tryz.prog 139 (#[.int .i64 k] ++ #[.pointer (some ⟨b, 0, none⟩)]) w fun e w' => e = .returned (.bool (p k)) ∧ Below w.heap.size w w' := by
  have hml := hm.lt
  have x0 : ∀ x : After w, x.W.cell? ⟨b, 0, none⟩ = some (.map (some m)) := fun x => x.cell (by simp only; omega) hb
  have xl : ∀ x : After w, (Instr.lookup 52 (.map (some m)) (.int .u8 (nameOf k).toNat) false).run Tryz.prog x.W = .ok (.bool (p k)) x.W := fun x => by
    have h := (hm.below x.h hml).lookup (P := Tryz.prog) (keyB Tryz.underlying5) (t := 52) (e := 4) Tryz.underlying52 (by kernel_rfl) (nameOf k)
    have e : decB (nameOf k ∈ names p n) = p k := by
      cases hp : p k with
      | true => exact decB_t ((mem_names (by omega) hk).2 hp)
      | false => exact decB_f fun h => by rw [(mem_names (by omega) hk).1 h] at hp; cases hp
    rw [e] at h
    exact h
  have s1 : (⟨#[nameOf k]⟩ : ByteArray).size = 1 := rfl
  clear hb hm
  go_enter Tryz.func139, Tryz.ntmps139
  go_wp2_with fail
  refine wp_region_below (by kernel_rfl) (by kernel_rfl) ?_
  repeat (go_big_quiet_step ((first
    | (go_at_call 95; exact After.same (edgeName_any k (by omega) _)))))
  refine BigFrame.wpQuiet_want rfl fun K hK => quiet_lookup (.tmp 4) (.tmp 7) 52 rfl (.bool (p k)) (fun w' ⟨x, hx⟩ => by subst hx; exact xl x) (hK _ ?_)
  show wpQuiet _ _ _ _ _ ({ tmps := #[.int .i64 k, .pointer (some ⟨b, 0, none⟩), undef, .bool false, .map (some m), .int .i64 k, .string ⟨#[nameOf k]⟩, .int .u8 (nameOf k).toNat, .bool (p k)], defers := [] } : Act)
  repeat (go_big_quiet_step (fail))
  refine wpQuiet_nil ?_
  rintro _ ⟨x, rfl⟩
  clear x0 xl
  go_wp2_with fail
  go_ret
  exact ⟨rfl, x.h⟩

set_option maxRecDepth 100000 in
set_option maxHeartbeats 2000000 in
/-- impl.BackEdges -/
theorem implBackEdges_any (B : ByteArray) (A : Option Addr) (cap : Nat) (es : List (ByteArray × ByteArray)) (w : World) (hs : B.size ≤ maxLen) (hE : EdgesIn w w.heap.size A es) (hl : es.length ≤ 1099511627776) (_ : ∀ e ∈ es, e.1.size ≤ 1099511627776 ∧ e.2.size ≤ 1099511627776) :
    Calls Tryz.prog 122 #[.agg #[.string B, .slice A es.length cap]] w (TextPost (backV B es) w) := by
  have hl2 : es.length ≤ maxLen := by unfold maxLen; omega
  have HL2 := Lib.hid hl2; have HM := Lib.hid hs
  clear hl hl2 hs
  have hb1 : Below w.heap.size w (w.alloc (.cells #[.string B, .slice A es.length cap] 31)) := (Below.refl _ _).alloc (Nat.le_refl _) _
  have t1 := Two.made w B A es.length cap 31
  have hz1 : (w.alloc (.cells #[.string B, .slice A es.length cap] 31)).heap.size = w.heap.size + 1 := by simp
  by_cases hv : Valid B.data.toList (ebs es)
  case neg =>
    have HD : Hid (decB (Valid B.data.toList (ebs es)) = false) := Lib.hid (decB_f hv)
    have HN : Hid (backV B es = (⟨#[]⟩, false)) := Lib.hid (textV_no hv)
    clear hv
    go_enter Tryz.func122, Tryz.ntmps122
    go_wp2_with fail
    refine (valid_any B A cap es _ HM.out ((hE.below hb1).more hb1.size) HL2.out).mono ?_
    rw [HD.out]
    rintro e w2 ⟨rfl, hb2⟩
    have hb2' := hb1.trans (hb2.mono hb1.size)
    clear hb2
    go_wp2_with fail
    go_ret2
    exact ⟨by rw [HN.out]; rfl, hb2'⟩
  have HD : Hid (decB (Valid B.data.toList (ebs es)) = true) := Lib.hid (decB_t hv)
  have HN : Hid (backV B es = (⟨(names (backP B es) es.length).toArray⟩, true)) := Lib.hid (textV_yes hv)
  have HF := Lib.hid (facts_of hv)
  have h16 := HF.out.few
  clear hv
  go_enter Tryz.func122, Tryz.ntmps122
  go_wp2_with fail
  refine (valid_any B A cap es _ HM.out ((hE.below hb1).more hb1.size) HL2.out).mono ?_
  rw [HD.out]
  rintro e w2 ⟨rfl, hb2⟩
  have hb2' := hb1.trans (hb2.mono hb1.size)
  have t2 := t1.below hb2 (by omega)
  have hd0 := t2.1; have hd1 := t2.2
  have hz2 := hb2.size
  clear hb2 t1 hb1
  go_wp2_with fail
  refine (backNames_any B A cap es _ ((hE.below hb2').more hb2'.size) HF.out HM.out).mono ?_
  rintro e w3 ⟨m, rfl, hset, hb3, hm⟩
  have hb3' := hb2'.trans (hb3.mono hb2'.size)
  have t3 := t2.below hb3 (by omega)
  have hz3 := hb3.size
  have hmz := hset.lt
  have hb4 : Below w3.heap.size w3 (w3.alloc (.cells #[.map (some m)] 52)) := (Below.refl _ _).alloc (Nat.le_refl _) _
  have t4 := t3.below hb4 (by omega)
  have c4 : (w3.alloc (.cells #[.map (some m)] 52)).cell? ⟨w3.heap.size, 0, none⟩ = some (.map (some m)) := by go_simp
  have hz4 : (w3.alloc (.cells #[.map (some m)] 52)).heap.size = w3.heap.size + 1 := by simp
  have hs4 := hset.below hb4 hmz
  have hb4' := hb3'.trans (hb4.mono hb3'.size)
  clear hb3 hd0 hd1 t2 t3 hset hb4
  have he0 := t4.1; have he1 := t4.2
  go_wp2_with fail
  refine (namesWhere_any B A es.length cap 139 #[.pointer (some ⟨w3.heap.size, 0, none⟩)] (backP B es) _ (by omega) (enters_of Tryz.func139 (by kernel_rfl) rfl)
    (fun i W hi hW => backKeep_any (backP B es) es.length i w3.heap.size m W h16 hi ((hW.cell (by simp only; omega)).trans c4) (by have := hW.size; omega) (hs4.below hW (by omega)))).mono ?_
  rintro e w5 ⟨rfl, hb5⟩
  have hb5' := hb4'.trans (hb5.mono hb4'.size)
  clear hb5 he0 he1 t4 c4 hs4
  go_wp2_with fail
  go_ret2
  exact ⟨by rw [HN.out]; rfl, hb5'⟩

set_option maxRecDepth 100000 in
set_option maxHeartbeats 2000000 in
/-- spec.BackEdges -/
theorem specBackEdges_any (B : ByteArray) (A : Option Addr) (cap : Nat) (es : List (ByteArray × ByteArray)) (w : World) (hs : B.size ≤ maxLen) (hE : EdgesIn w w.heap.size A es) (hl : es.length ≤ 1099511627776) (_ : ∀ e ∈ es, e.1.size ≤ 1099511627776 ∧ e.2.size ≤ 1099511627776) :
    Calls Tryz.prog 102 #[.agg #[.string B, .slice A es.length cap]] w (TextPost (backV B es) w) := by
  have hl2 : es.length ≤ maxLen := by unfold maxLen; omega
  have HL2 := Lib.hid hl2; have HM := Lib.hid hs
  clear hl hl2 hs
  have hb1 : Below w.heap.size w (w.alloc (.cells #[.string B, .slice A es.length cap] 31)) := (Below.refl _ _).alloc (Nat.le_refl _) _
  have t1 := Two.made w B A es.length cap 31
  have hz1 : (w.alloc (.cells #[.string B, .slice A es.length cap] 31)).heap.size = w.heap.size + 1 := by simp
  by_cases hv : Valid B.data.toList (ebs es)
  case neg =>
    have HD : Hid (decB (Valid B.data.toList (ebs es)) = false) := Lib.hid (decB_f hv)
    have HN : Hid (backV B es = (⟨#[]⟩, false)) := Lib.hid (textV_no hv)
    clear hv
    go_enter Tryz.func102, Tryz.ntmps102
    go_wp2_with fail
    refine (specValid_any B A cap es _ HM.out ((hE.below hb1).more hb1.size) HL2.out).mono ?_
    rw [HD.out]
    rintro e w2 ⟨rfl, hb2⟩
    have hb2' := hb1.trans (hb2.mono hb1.size)
    clear hb2
    go_wp2_with fail
    go_ret2
    exact ⟨by rw [HN.out]; rfl, hb2'⟩
  have HD : Hid (decB (Valid B.data.toList (ebs es)) = true) := Lib.hid (decB_t hv)
  have HN : Hid (backV B es = (⟨(names (backP B es) es.length).toArray⟩, true)) := Lib.hid (textV_yes hv)
  have HF := Lib.hid (facts_of hv)
  clear hv
  go_enter Tryz.func102, Tryz.ntmps102
  go_wp2_with fail
  refine (specValid_any B A cap es _ HM.out ((hE.below hb1).more hb1.size) HL2.out).mono ?_
  rw [HD.out]
  rintro e w2 ⟨rfl, hb2⟩
  have hb2' := hb1.trans (hb2.mono hb1.size)
  have t2 := t1.below hb2 (by omega)
  have hd0 := t2.1; have hd1 := t2.2
  clear hb2 t1 hb1
  go_wp2_with fail
  refine (l3Back_any B A cap es _ ((hE.below hb2').more hb2'.size) HF.out HM.out).mono ?_
  rintro e w3 ⟨rfl, hb3⟩
  have hb3' := hb2'.trans (hb3.mono hb2'.size)
  clear hb3 hd0 hd1 t2
  go_wp2_with fail
  go_ret2
  exact ⟨by rw [HN.out]; rfl, hb3'⟩

end Go.Proofs.YtpeafheljcjlhaaGreat
