/- Sets of the program's own: a map whose elements are all true. -/
import Derived.Maps.Own
import Derived.Laws.Rows
import Derived.Maps.OwnOps
import Derived.Maps.OwnIn
import Derived.Stop.BytesEq
import Derived.Test.YtpeafheljcjlhaaGreatMath
namespace Go.Proofs.YtpeafheljcjlhaaGreat
open Go.RowKit Go.Instr Go.ChangeMaps

/-- block m is a set with these keys -/
def SetAt (w : World) (m : Nat) (ks : List Value) : Prop :=
  ∃ (es : Array MapEntry) (clock : Nat), w.heap[m]? = some (.map es clock) ∧ es.toList.map (·.key) = ks ∧ ∀ e ∈ es.toList, e.val = .bool true

/-- keys of a type are told apart -/
structure KeyEq (P : Program) (kt : TypeId) {α : Type} (enc : α → Value) : Prop where
  check : ∀ (b : Bool) (x : α) (w : World), (checkKey b 10000 kt (enc x)).run P w = .ok () w
  find : ∀ (x : α) (w : World) (es : List MapEntry) (xs : List α), es.map (·.key) = xs.map enc → (∀ e ∈ es, e.val = .bool true) →
    (x ∈ xs → ∃ i, (findKey kt (enc x) es).run P w = .ok (some (i, .bool true)) w) ∧ (x ∉ xs → (findKey kt (enc x) es).run P w = .ok none w)

section
variable {P : Program} {kt : TypeId} {α : Type} {enc : α → Value}

theorem SetAt.lookup {t e : TypeId} {w : World} {m : Nat} {xs : List α} (h : SetAt w m (xs.map enc)) (K : KeyEq P kt enc) (ht : P.underlying t = some (.map kt e)) (hz : (zeroValue e).run P w = .ok (.bool false) w) (x : α) :
    (Instr.lookup t (.map (some m)) (enc x) false).run P w = .ok (.bool (decB (x ∈ xs))) w := by
  obtain ⟨es, clock, hb, hk, hv⟩ := h
  obtain ⟨h1, h2⟩ := K.find x w es.toList xs hk hv
  by_cases hx : x ∈ xs
  · obtain ⟨i, hi⟩ := h1 hx
    simp [Instr.lookup, run_underlying ht, MapKept.run_getObj_map hb, K.check, hi, Result.andThen, decB_t hx]
  · simp [Instr.lookup, run_underlying ht, MapKept.run_getObj_map hb, K.check, h2 hx, hz, Result.andThen, decB_f hx]

theorem SetAt.update {t e : TypeId} {w : World} {m : Nat} {xs : List α} (h : SetAt w m (xs.map enc)) (K : KeyEq P kt enc) (ht : P.underlying t = some (.map kt e)) {x : α} (hx : x ∉ xs) :
    ∃ w', (Instr.mapUpdate t (.map (some m)) (enc x) (.bool true)).run P w = .ok () w' ∧ SetAt w' m ((xs ++ [x]).map enc) ∧ w.grownBy w' (some m) := by
  obtain ⟨es, clock, hb, hk, hv⟩ := h
  obtain ⟨_, h2⟩ := K.find x w es.toList xs hk hv
  refine ⟨setBlock w m (.map (es.push { key := enc x, val := .bool true, born := clock }) (clock + 1)), ?_, ⟨_, _, heap_setBlock_same hb _, ?_, ?_⟩, ⟨rfl, rfl, rfl, by simp [setBlock], fun i _ hi => heap_setBlock_other hb _ (fun e => hi (by rw [e]))⟩⟩
  · simp [Instr.mapUpdate, run_underlying ht, MapKept.run_getObj_map hb, K.check, h2 hx, MapKept.run_setObj_map _ hb, Result.andThen, setBlock]
  · simp [hk]
  · intro e he
    simp at he
    rcases he with he | he
    · exact hv e (by simpa using he)
    · rw [he]

theorem SetAt.new (w : World) : SetAt (w.alloc (.map #[] 0)) w.heap.size (([] : List α).map enc) := ⟨#[], 0, heap_alloc_new _ _, rfl, by simp⟩
theorem SetAt.grown {w w' : World} {m : Nat} {ks : List Value} {row : Option Nat} (h : SetAt w m ks) (hg : w.grownBy w' row) (hr : some m ≠ row) : SetAt w' m ks := by
  obtain ⟨es, clock, hb, hk, hv⟩ := h
  have hlt : m < w.heap.size := (Array.getElem?_eq_some_iff.1 hb).1
  exact ⟨es, clock, (hg.block m hlt hr).trans hb, hk, hv⟩
end

/-- one byte as a key -/
def encB (x : UInt8) : Value := .int .u8 x.toNat
/-- two bytes as a key -/
def encP (x : UInt8 × UInt8) : Value := .agg #[.int .u8 x.1.toNat, .int .u8 x.2.toNat]

theorem keyB {P : Program} {kt : TypeId} (hk : P.underlying kt = some (.int .u8)) : KeyEq P kt encB where
  check b x w := by rw [show (10000 : Nat) = 9999 + 1 from rfl, checkKey]; simp [run_underlying hk, encB]
  find x w es xs he hv := by
    have main : ∀ (es : List MapEntry) (xs : List UInt8) (i : Nat), es.map (·.key) = xs.map encB → (∀ e ∈ es, e.val = .bool true) →
        (x ∈ xs → ∃ j, findNow (.int .u8) (encB x) es i = some (some (j, .bool true))) ∧ (x ∉ xs → findNow (.int .u8) (encB x) es i = some none) := by
      intro es
      induction es with
      | nil => intro xs i he _; cases xs with
        | nil => simp [findNow]
        | cons => simp at he
      | cons e es ih =>
        intro xs i he hv
        cases xs with
        | nil => simp at he
        | cons y ys =>
          simp at he
          obtain ⟨h1, h2⟩ := ih ys (i + 1) (by simpa using he.2) (fun e he => hv e (by simp [he]))
          have hv0 := hv e (by simp)
          by_cases hxy : x = y
          · subst hxy
            refine ⟨fun _ => ⟨i, ?_⟩, fun h => absurd (by simp) h⟩
            simp [findNow, sameNow, encB, he.1, hv0]
          · have hne : ((x.toNat : Int) == (y.toNat : Int)) = false := by
              rw [beq_eq_false_iff_ne]; intro h; exact hxy (UInt8.toNat_inj.1 (by omega))
            have hs : sameNow (.int .u8) (encB x) e.key = some false := by rw [he.1]; simp only [sameNow, encB, if_true]; rw [hne]
            simp only [List.mem_cons, hxy, false_or]
            exact ⟨fun h => by obtain ⟨j, hj⟩ := h1 h; exact ⟨j, by simp only [findNow, hs]; exact hj⟩, fun h => by simp only [findNow, hs]; exact h2 h⟩
    obtain ⟨h1, h2⟩ := main es xs 0 he hv
    refine ⟨fun h => ?_, fun h => ?_⟩
    · obtain ⟨j, hj⟩ := h1 h
      exact ⟨j, by simp [findKey, run_underlying hk, hj]⟩
    · simp [findKey, run_underlying hk, h2 h]

theorem keyP {P : Program} {kt e : TypeId} (hk : P.underlying kt = some (.array 2 e)) (he : P.underlying e = some (.int .u8)) (hsz : ∀ w, (sizeOf e).run P w = .ok 1 w) : KeyEq P kt encP where
  check b x w := by
    have main : ∀ n : Nat, (checkKey b (n + 1 + 1) kt (encP x)).run P w = .ok () w := fun n => by
      rw [checkKey]
      simp only [Sem.run_bind, run_underlying hk, Result.andThen_ok, encP, Std.Legacy.Range.forIn_eq_forIn_range', Std.Legacy.Range.size]
      simp [checkKey, run_underlying he, part, isAgg, List.range', hsz]
    exact main 9998
  find x w es xs hes hv := by
    have heq : ∀ (a b : UInt8 × UInt8) (w : World), (Op.equal kt (encP a) (encP b)).run P w = .ok (decide (a = b)) w := by
      intro a b w
      have h := run_equalIn_bytes (P := P) w 9998 kt e 2 hk he hsz [a.1, a.2] [b.1, b.2] rfl rfl
      have e1 : ([a.1, a.2] == [b.1, b.2]) = decide (a = b) := by
        rw [Bool.eq_iff_iff]; simp [Prod.ext_iff]
      rw [e1] at h
      exact h
    have main : ∀ (es : List MapEntry) (xs : List (UInt8 × UInt8)) (i : Nat), es.map (·.key) = xs.map encP → (∀ e ∈ es, e.val = .bool true) →
        (x ∈ xs → ∃ j, (findAsking kt (encP x) es i).run P w = .ok (some (j, .bool true)) w) ∧ (x ∉ xs → (findAsking kt (encP x) es i).run P w = .ok none w) := by
      intro es
      induction es with
      | nil => intro xs i he _; cases xs with
        | nil => simp [findAsking]
        | cons => simp at he
      | cons e es ih =>
        intro xs i he hv
        cases xs with
        | nil => simp at he
        | cons y ys =>
          simp at he
          obtain ⟨h1, h2⟩ := ih ys (i + 1) (by simpa using he.2) (fun e he => hv e (by simp [he]))
          have hv0 := hv e (by simp)
          by_cases hxy : x = y
          · subst hxy
            refine ⟨fun _ => ⟨i, ?_⟩, fun h => absurd (by simp) h⟩
            simp [findAsking, he.1, heq, hv0]
          · simp only [List.mem_cons, hxy, false_or]
            exact ⟨fun h => by obtain ⟨j, hj⟩ := h1 h; exact ⟨j, by simp [findAsking, he.1, heq, hxy, hj]⟩, fun h => by simp [findAsking, he.1, heq, hxy, h2 h]⟩
    obtain ⟨h1, h2⟩ := main es xs 0 hes hv
    cases es with
    | nil =>
      cases xs with
      | nil => simp [findKey, run_underlying hk, findNow]
      | cons => simp at hes
    | cons e0 es =>
      have hn : ∀ w, (findKey kt (encP x) (e0 :: es)).run P w = (findAsking kt (encP x) (e0 :: es) 0).run P w := fun w => by
        simp [findKey, run_underlying hk, findNow, sameNow]
      rw [hn]
      exact ⟨h1, h2⟩

section
variable {F : Fence} {nF : Nat} {P : Program} {w : World} {ops : Array Oper} {rest : List Oper} {o : Oper} {a : Act} {Q : Exit → Act → World → Prop} {kt e : TypeId} {α : Type} {enc : α → Value}

/-- 'm[x]' of a set of the program's own -/
theorem wpList_lookup_set (hg : o.guard = none) (m x : Operand) (t : TypeId) (hop : o.op = Op.lookup t m x false) (K : KeyEq P kt enc) (ht : P.underlying t = some (.map kt e)) (hz : (zeroValue e).run P w = .ok (.bool false) w)
    (b : Nat) (xs : List α) (hm : a.eval m = .map (some b)) (hs : SetAt w b (xs.map enc)) (c : α) (hx : a.eval x = enc c) (r : Bool) (hr : decB (c ∈ xs) = r)
    (hK : wpList P ops Q rest (a.put o.dst (.bool r)) w) : wpList P ops Q (o :: rest) a w := by
  refine wpList_plain hg fun K' hK' => ?_
  have hrun := hs.lookup K ht hz c
  rw [hr] at hrun
  unfold Oper.wp
  simp [execOp, hop, hm, hx, hrun, Result.andThen]
  exact hK' _ _ hK

theorem wpListIn_lookup_set (hg : o.guard = none) (m x : Operand) (t : TypeId) (hop : o.op = Op.lookup t m x false) (K : KeyEq P kt enc) (ht : P.underlying t = some (.map kt e)) (hz : (zeroValue e).run P w = .ok (.bool false) w)
    (b : Nat) (xs : List α) (hm : a.eval m = .map (some b)) (hs : SetAt w b (xs.map enc)) (c : α) (hx : a.eval x = enc c) (r : Bool) (hr : decB (c ∈ xs) = r)
    (hK : wpListIn F nF P ops Q rest (a.put o.dst (.bool r)) w) : wpListIn F nF P ops Q (o :: rest) a w := by
  refine wpListIn_plain hg fun K' hK' => ?_
  have hrun := hs.lookup K ht hz c
  rw [hr] at hrun
  unfold Oper.wpIn
  refine ⟨by simp [Oper.about, hop], ?_⟩
  rw [Oper.semAt_plain F _ _ (by rw [hop]; intro c hc'; cases hc')]
  simp [execOp, hop, hm, hx, hrun, Result.andThen]
  exact hK' _ _ hK

/-- 'm[x] = true', x not in it -/
theorem wpList_update_set (hg : o.guard = none) (m x : Operand) (t : TypeId) (hop : o.op = Op.mapUpdate t m x (.const (.bool true)) ∨ o.op = Op.insert t m x (.const (.bool true))) (K : KeyEq P kt enc) (ht : P.underlying t = some (.map kt e))
    (b : Nat) (xs : List α) (hm : a.eval m = .map (some b)) (hs : SetAt w b (xs.map enc)) (c : α) (hx : a.eval x = enc c) (hc : c ∉ xs)
    (hK : ∀ w', SetAt w' b ((xs ++ [c]).map enc) → w.grownBy w' (some b) → wpList P ops Q rest (a.put o.dst undef) w') : wpList P ops Q (o :: rest) a w := by
  refine wpList_plain hg fun K' hK' => ?_
  obtain ⟨w', hrun, r1, r2⟩ := hs.update K ht hc
  have hv : a.eval (.const (.bool true)) = .bool true := rfl
  unfold Oper.wp
  rcases hop with hop | hop <;> simp [execOp, hop, hm, hx, hv, hrun, Result.andThen] <;> exact hK' _ _ (hK w' r1 r2)

theorem wpListIn_update_set (hg : o.guard = none) (m x : Operand) (t : TypeId) (hop : o.op = Op.mapUpdate t m x (.const (.bool true)) ∨ o.op = Op.insert t m x (.const (.bool true))) (K : KeyEq P kt enc) (ht : P.underlying t = some (.map kt e))
    (b : Nat) (xs : List α) (hm : a.eval m = .map (some b)) (hs : SetAt w b (xs.map enc)) (c : α) (hx : a.eval x = enc c) (hc : c ∉ xs)
    (hK : ∀ w', SetAt w' b ((xs ++ [c]).map enc) → w.grownBy w' (some b) → wpListIn F nF P ops Q rest (a.put o.dst undef) w') : wpListIn F nF P ops Q (o :: rest) a w := by
  refine wpListIn_plain hg fun K' hK' => ?_
  obtain ⟨w', hrun, r1, r2⟩ := hs.update K ht hc
  have hv : a.eval (.const (.bool true)) = .bool true := rfl
  unfold Oper.wpIn
  rcases hop with hop | hop
  · refine ⟨by simp [Oper.about, hop], ?_⟩
    rw [Oper.semAt_plain F _ _ (by rw [hop]; intro c hc'; cases hc')]
    simp [execOp, hop, hm, hx, hv, hrun, Result.andThen]
    exact hK' _ _ (hK w' r1 r2)
  · refine ⟨by simp [Oper.about, hop], ?_⟩
    rw [Oper.semAt_plain F _ _ (by rw [hop]; intro c hc'; cases hc')]
    simp [execOp, hop, hm, hx, hv, hrun, Result.andThen]
    exact hK' _ _ (hK w' r1 r2)
end

end Go.Proofs.YtpeafheljcjlhaaGreat
