/- Acyclic nets and their trees by both. -/
import Derived.Test.YtjfdkhaepmmlfaaMaps
import Derived.Test.YtjfdkhaepmmlfaaNetQ
import Derived.Test.YtjfdkhaepmmlfaaMath
import Derived.Test.YtjfdkhaepmmlfaaFrom
import Derived.Test.YtjfdkhaepmmlfaaSpec1
import Derived.Test.YtjfdkhaepmmlfaaPaths
import Derived.Test.YtjfdkhaepmmlfaaValid
import Derived.Test.YtjfdkhaepmmlfaaSpec2
import Derived.Test.YtjfdkhaepmmlfaaZ6T
import Derived.Laws.StructEq
import Derived.Maps.OwnSet
import Derived.Deep.RegionHeld3
namespace Go.Proofs.Ytjfdkhaepmmlfaa
open Go.RowKit Go.Instr Go.ChangeMaps

/-- one letter as a key -/
def encL (x : UInt8) : Value := .string ⟨#[x]⟩

theorem map_eraseIdx' {α β : Type} (f : α → β) : ∀ (l : List α) (i : Nat), (l.eraseIdx i).map f = (l.map f).eraseIdx i
  | [], i => by cases i <;> rfl
  | a :: l, 0 => rfl
  | a :: l, i + 1 => by simp only [List.eraseIdx_cons_succ, List.map_cons, map_eraseIdx' f l i]

/-- where a letter is found -/
theorem find_letter {P : Program} {kt : TypeId} (hk : P.underlying kt = some .string) (x : UInt8) (w : World) (es : List MapEntry) (xs : List UInt8) (he : es.map (·.key) = xs.map encL) (hv : ∀ e ∈ es, e.val = .bool true) :
    (findKey kt (encL x) es).run P w = .ok (if x ∈ xs then some (xs.idxOf x, .bool true) else none) w := by
  have main : ∀ (es : List MapEntry) (xs : List UInt8) (i : Nat), es.map (·.key) = xs.map encL → (∀ e ∈ es, e.val = .bool true) →
      findNow .string (encL x) es i = some (if x ∈ xs then some (i + xs.idxOf x, .bool true) else none) := by
    intro es
    induction es with
    | nil => intro xs i he _; cases xs with
      | nil => simp [findNow]
      | cons => simp at he
    | cons e es ih =>
      intro xs i he hv
      cases xs with
      | nil => simp at he
      | cons y ys =>
        simp at he
        have hi := ih ys (i + 1) (by simpa using he.2) (fun e he => hv e (by simp [he]))
        have hv0 := hv e (by simp)
        by_cases hxy : x = y
        · subst hxy
          have hs : sameNow .string (encL x) e.key = some true := by
            rw [he.1]
            simp only [sameNow, encL, beq_toListBytes]
            simp
          simp [findNow, hs, hv0]
        · have hs : sameNow .string (encL x) e.key = some false := by
            rw [he.1]
            simp only [sameNow, encL, beq_toListBytes, Lib.toList_data]
            simp [hxy]
          simp only [findNow, hs]
          rw [hi]
          have hyx : (y == x) = false := by rw [beq_eq_false_iff_ne]; exact fun e => hxy e.symm
          simp only [List.mem_cons, hxy, false_or, List.idxOf_cons, hyx, cond_false]
          split <;> simp [Nat.add_assoc, Nat.add_comm 1]
  have h := main es xs 0 he hv
  simp [findKey, run_underlying hk, h]

theorem keyL {P : Program} {kt : TypeId} (hk : P.underlying kt = some .string) : KeyEq P kt encL where
  check b x w := by rw [show (10000 : Nat) = 9999 + 1 from rfl, checkKey]; simp [run_underlying hk, encL]
  find x w es xs he hv := by
    have h := find_letter hk x w es xs he hv
    refine ⟨fun hx => ?_, fun hx => ?_⟩
    · rw [if_pos hx] at h; exact ⟨_, h⟩
    · rw [if_neg hx] at h; exact h

section
variable {P : Program} {kt : TypeId}

theorem SetAt.delete {t e k : TypeId} {w : World} {m : Nat} {xs : List UInt8} (h : SetAt w m (xs.map encL)) (hk : P.underlying kt = some .string) (ht : P.underlying t = some (.map kt e)) (x : UInt8) (ty : TypeId) :
    ∃ w', (Builtin.delete_ #[t, k] ty #[.map (some m), encL x]).run P w = .ok (.tuple #[]) w' ∧ SetAt w' m ((xs.erase x).map encL) ∧ w.grownBy w' (some m) := by
  obtain ⟨es, clock, hb, hke, hv⟩ := h
  have hf := find_letter hk x w es.toList xs hke hv
  have hc := (keyL (P := P) hk).check es.isEmpty x w
  by_cases hx : x ∈ xs
  · rw [if_pos hx] at hf
    refine ⟨setBlock w m (.map (es.eraseIdxIfInBounds (xs.idxOf x)) clock), ?_, ⟨_, _, heap_setBlock_same hb _, ?_, ?_⟩, ⟨rfl, rfl, rfl, by simp [setBlock], fun i _ hi => heap_setBlock_other hb _ (fun e => hi (by rw [e]))⟩⟩
    · simp [Builtin.delete_, run_underlying ht, MapKept.run_getObj_map hb, hc, hf, MapKept.run_setObj_map _ hb, Result.andThen, setBlock]
    · have hi : xs.idxOf x < xs.length := List.idxOf_lt_length_iff.2 hx
      have hl : es.size = xs.length := by have := congrArg List.length hke; simpa using this
      rw [Array.eraseIdxIfInBounds, dif_pos (by omega), Array.toList_eraseIdx, map_eraseIdx', hke, List.erase_eq_eraseIdx_of_idxOf rfl, map_eraseIdx']
    · intro e he
      rw [Array.eraseIdxIfInBounds] at he
      split at he
      · rw [Array.toList_eraseIdx] at he
        exact hv e (List.mem_of_mem_eraseIdx he)
      · exact hv e he
  · rw [if_neg hx] at hf
    refine ⟨setBlock w m (.map es clock), ?_, ⟨_, _, heap_setBlock_same hb _, ?_, hv⟩, ⟨rfl, rfl, rfl, by simp [setBlock], fun i _ hi => heap_setBlock_other hb _ (fun e => hi (by rw [e]))⟩⟩
    · simp [Builtin.delete_, run_underlying ht, MapKept.run_getObj_map hb, hc, hf, MapKept.run_setObj_map _ hb, Result.andThen, setBlock]
    · rw [List.erase_of_not_mem hx]; exact hke

theorem SetAt.len {t e : TypeId} {w : World} {m : Nat} {xs : List UInt8} (h : SetAt w m (xs.map encL)) (ht : P.underlying t = some (.map kt e)) (ty : TypeId) :
    (Builtin.len_ #[t] ty #[.map (some m)]).run P w = .ok (.int .i64 xs.length) w := by
  obtain ⟨es, clock, hb, hke, _⟩ := h
  have hl : es.size = xs.length := by have := congrArg List.length hke; simpa using this
  simp [Builtin.len_, run_underlying ht, MapKept.run_getObj_map hb, Result.andThen, goInt, hl]
theorem SetAt.below {w w' : World} {m : Nat} {ks : List Value} {B : Nat} (h : SetAt w m ks) (hb : Below B w w') (hm : m < B) : SetAt w' m ks := by
  obtain ⟨es, clock, hbk, hk, hv⟩ := h
  exact ⟨es, clock, (hb.block m hm).trans hbk, hk, hv⟩
theorem SetAt.lt {w : World} {m : Nat} {ks : List Value} (h : SetAt w m ks) : m < w.heap.size := by
  obtain ⟨es, clock, hbk, _⟩ := h
  exact (Array.getElem?_eq_some_iff.1 hbk).1
end

end Go.Proofs.Ytjfdkhaepmmlfaa

namespace Go.Proofs.Ytjfdkhaepmmlfaa
open Go.RowKit

/-- edge number i does -/
def HitAt (es : List (ByteArray × ByteArray)) (xs : List UInt8) (c : UInt8) (i : Nat) : Prop := ∃ x ∈ xs, (ebs es)[i]? = some ([x], [c])
theorem hit_iff {es : List (ByteArray × ByteArray)} {xs : List UInt8} {c : UInt8} : EntL (ebs es) xs c ↔ ∃ i, i < es.length ∧ HitAt es xs c i := by
  constructor
  · rintro ⟨x, hx, he⟩
    obtain ⟨i, hi⟩ := List.mem_iff_getElem?.1 he
    have : i < (ebs es).length := (List.getElem?_eq_some_iff.1 hi).1
    exact ⟨i, by simpa [ebs] using this, x, hx, hi⟩
  · rintro ⟨i, _, x, hx, hi⟩
    exact ⟨x, hx, List.mem_iff_getElem?.2 ⟨i, hi⟩⟩
theorem hit_at {es : List (ByteArray × ByteArray)} {xs : List UInt8} {c x y : UInt8} {k : Nat} (hk : k < es.length) (hx : es[k].1.data.toList = [x]) (hy : es[k].2.data.toList = [y]) : HitAt es xs c k ↔ y = c ∧ x ∈ xs := by
  have he : (ebs es)[k]? = some ([x], [y]) := by
    simp only [ebs, List.getElem?_map, List.getElem?_eq_getElem hk, Option.map_some, hx, hy]
  unfold HitAt
  rw [he]
  constructor
  · rintro ⟨z, hz, e⟩
    injection e with e
    injection e with e1 e2
    injection e1 with e1; injection e2 with e2
    exact ⟨e2, e1 ▸ hz⟩
  · rintro ⟨rfl, h⟩
    exact ⟨x, h, rfl⟩

set_option maxRecDepth 100000 in
set_option maxHeartbeats 2000000 in
/-- impl.comesFrom -/
theorem comesFrom_any (B : ByteArray) (A : Option Addr) (cap : Nat) (es : List (ByteArray × ByteArray)) (l : List UInt8) (b : ByteArray) (c : UInt8) (m : Nat) (xs : List UInt8) (w : World) (hE : EdgesIn w w.heap.size A es) (hl : es.length ≤ 100) (hL : Lets l es) (hb : b.data.toList = [c]) (hm : SetAt w m (xs.map encL)) :
    Calls Try.prog 101 #[.agg #[.string B, .slice A es.length cap], .map (some m), .string b] w fun e w' => e = .returned (.bool (decB (EntL (ebs es) xs c))) ∧ Below w.heap.size w w' := by
  have hb1 : Below w.heap.size w (w.alloc (.cells #[.string B, .slice A es.length cap] 30)) := (Below.refl _ _).alloc (Nat.le_refl _) _
  have hmlt := hm.lt
  have HM := Lib.hid hm; have HLE := Lib.hid hL; have HB := Lib.hid hb
  clear hm hL hb
  go_enter Try.func101, Try.ntmps101
  go_wp2_with fail
  generalize hW1 : w.alloc (.cells #[.string B, .slice A es.length cap] 30) = w1 at hb1 ⊢
  clear hW1
  go_loopw [12] (fun i wr => ∃ k : Nat, k ≤ es.length ∧ i = .int .i64 k ∧ (∀ i, i < k → ¬ HitAt es xs c i) ∧ Below w.heap.size w wr) (fun i _ => es.length - (intOf i).toNat)
  case atStart => exact ⟨0, Nat.zero_le _, rfl, fun i hi => absurd hi (by omega), hb1⟩
  case round =>
    obtain ⟨k, hk, rfl, hno, hbw⟩ := hrel
    have HNO := Lib.hid hno
    clear hno
    by_cases hlt : k < es.length
    case neg =>
      have HQ : Hid (decB (EntL (ebs es) xs c) = false) := Lib.hid (decB_f fun h => by
        obtain ⟨i, hi, hh⟩ := hit_iff.1 h
        exact HNO.out i (by omega) hh)
      go_wp2_with fail
      go_ret
      exact ⟨by rw [HQ.out]; rfl, hbw⟩
    obtain ⟨x, y, hx, hy, _, _⟩ := HLE.out es[k] (List.getElem_mem hlt)
    have hit := hit_at (xs := xs) (c := c) hlt hx hy
    obtain ⟨eb, eo, rfl, hlow, h1, h2⟩ := (hE.below hbw) k hlt
    have hba : Below w.heap.size w (wr.alloc (.cells #[.string es[k].1, .string es[k].2] 104)) := hbw.alloc hbw.size _
    have HIT := Lib.hid hit; have HX := Lib.hid (bytes_one hx); have HBA := Lib.hid hba
    have hyc : (es[k].2.toList == b.toList) = decide (y = c) := by
      rw [Lib.toList_data, Lib.toList_data, hy, HB.out]
      by_cases h : y = c <;> simp [h]
    clear hx hit hba hy
    by_cases h : y = c
    · rw [decide_eq_true h] at hyc
      have hlk := ((HM.out.below HBA.out hmlt).lookup (P := Try.prog) (keyL Try.underlying9) (t := 106) (e := 4) Try.underlying106 (by kernel_rfl) x)
      rw [show encL x = .string es[k].1 by rw [HX.out]; rfl] at hlk
      by_cases hxs : x ∈ xs
      · rw [decB_t hxs] at hlk
        have HQ : Hid (decB (EntL (ebs es) xs c) = true) := Lib.hid (decB_t (hit_iff.2 ⟨k, hlt, HIT.out.2 ⟨h, hxs⟩⟩))
        clear h hxs
        go_wp2_with fail
        go_ret
        exact ⟨by rw [HQ.out]; rfl, HBA.out⟩
      · rw [decB_f hxs] at hlk
        have HN : Hid (∀ i, i < k + 1 → ¬ HitAt es xs c i) := Lib.hid fun i hi => by
          by_cases hik : i < k
          · exact HNO.out i hik
          · have : i = k := by omega
            subst this
            exact fun q => hxs (HIT.out.1 q).2
        clear h hxs
        go_wp2_with fail
        go_roundw
        case rel => exact ⟨k + 1, by omega, by go_num, HN.out, HBA.out⟩
        case measure => simp [intOf]; omega
    · rw [decide_eq_false h] at hyc
      have HN : Hid (∀ i, i < k + 1 → ¬ HitAt es xs c i) := Lib.hid fun i hi => by
        by_cases hik : i < k
        · exact HNO.out i hik
        · have : i = k := by omega
          subst this
          exact fun q => h (HIT.out.1 q).1
      clear h
      go_wp2_with fail
      go_roundw
      case rel => exact ⟨k + 1, by omega, by go_num, HN.out, HBA.out⟩
      case measure => simp [intOf]; omega

set_option maxRecDepth 100000 in
set_option maxHeartbeats 2000000 in
/-- spec.l2Entered -/
theorem l2Entered_any (B : ByteArray) (A : Option Addr) (cap : Nat) (es : List (ByteArray × ByteArray)) (l : List UInt8) (s b : ByteArray) (c : UInt8) (w : World) (hE : EdgesIn w w.heap.size A es) (hl : es.length ≤ 100) (hL : Lets l es) (hb : b.data.toList = [c]) (hs : s.size ≤ maxLen) :
    Calls Try.prog 61 #[.agg #[.string B, .slice A es.length cap], .string s, .string b] w fun e w' => e = .returned (.bool (decB (EntL (ebs es) s.data.toList c))) ∧ Below w.heap.size w w' := by
  have hb1 : Below w.heap.size w (w.alloc (.cells #[.string B, .slice A es.length cap] 30)) := (Below.refl _ _).alloc (Nat.le_refl _) _
  have HLE := Lib.hid hL; have HB := Lib.hid hb; have HS := Lib.hid hs
  clear hL hb hs
  go_enter Try.func61, Try.ntmps61
  go_wp2_with fail
  generalize hW1 : w.alloc (.cells #[.string B, .slice A es.length cap] 30) = w1 at hb1 ⊢
  clear hW1
  go_loopw [12] (fun i wr => ∃ k : Nat, k ≤ es.length ∧ i = .int .i64 k ∧ (∀ i, i < k → ¬ HitAt es s.data.toList c i) ∧ Below w.heap.size w wr) (fun i _ => es.length - (intOf i).toNat)
  case atStart => exact ⟨0, Nat.zero_le _, rfl, fun i hi => absurd hi (by omega), hb1⟩
  case round =>
    obtain ⟨k, hk, rfl, hno, hbw⟩ := hrel
    have HNO := Lib.hid hno
    clear hno
    by_cases hlt : k < es.length
    case neg =>
      have HQ : Hid (decB (EntL (ebs es) s.data.toList c) = false) := Lib.hid (decB_f fun h => by
        obtain ⟨i, hi, hh⟩ := hit_iff.1 h
        exact HNO.out i (by omega) hh)
      go_wp2_with fail
      go_ret
      exact ⟨by rw [HQ.out]; rfl, hbw⟩
    obtain ⟨x, y, hx, hy, _, _⟩ := HLE.out es[k] (List.getElem_mem hlt)
    have hit := hit_at (xs := s.data.toList) (c := c) hlt hx hy
    obtain ⟨eb, eo, rfl, hlow, h1, h2⟩ := (hE.below hbw) k hlt
    have hyc : (es[k].2.toList == b.toList) = decide (y = c) := by
      rw [Lib.toList_data, Lib.toList_data, hy, HB.out]
      by_cases h : y = c <;> simp [h]
    have hx1 := bytes_one hx
    rw [hx1] at h1
    have hba : Below w.heap.size w (wr.alloc (.cells #[.string ⟨#[x]⟩, .string es[k].2] 104)) := hbw.alloc hbw.size _
    have HIT := Lib.hid hit; have HBA := Lib.hid hba
    clear hx hit hba hy hx1
    obtain ⟨fi, hfi⟩ : ∃ fi, Lib.indexByte s.data.toList x = fi := ⟨_, rfl⟩
    have hiff : 0 ≤ fi ↔ x ∈ s.data.toList := by rw [← hfi]; exact indexByte_nonneg
    have HFI := Lib.hid hfi; have HIFF := Lib.hid hiff
    clear hfi hiff
    by_cases h : y = c
    · rw [decide_eq_true h] at hyc
      by_cases hxs : 0 ≤ fi
      · have HQ : Hid (decB (EntL (ebs es) s.data.toList c) = true) := Lib.hid (decB_t (hit_iff.2 ⟨k, hlt, HIT.out.2 ⟨h, HIFF.out.1 hxs⟩⟩))
        have hge : fi ≥ 0 := hxs
        clear h
        go_wp2_with (go_at_call 96; refine (find_any s x _ HS.out).mono ?_; rw [HFI.out]; rintro e wI ⟨rfl, rfl⟩)
        go_ret
        exact ⟨by rw [HQ.out]; rfl, HBA.out⟩
      · have HN : Hid (∀ i, i < k + 1 → ¬ HitAt es s.data.toList c i) := Lib.hid fun i hi => by
          by_cases hik : i < k
          · exact HNO.out i hik
          · have : i = k := by omega
            subst this
            exact fun q => hxs (HIFF.out.2 (HIT.out.1 q).2)
        have hge : ¬ fi ≥ 0 := hxs
        clear h
        go_wp2_with (go_at_call 96; refine (find_any s x _ HS.out).mono ?_; rw [HFI.out]; rintro e wI ⟨rfl, rfl⟩)
        go_roundw
        case rel => exact ⟨k + 1, by omega, by go_num, HN.out, HBA.out⟩
        case measure => simp [intOf]; omega
    · rw [decide_eq_false h] at hyc
      have HN : Hid (∀ i, i < k + 1 → ¬ HitAt es s.data.toList c i) := Lib.hid fun i hi => by
        by_cases hik : i < k
        · exact HNO.out i hik
        · have : i = k := by omega
          subst this
          exact fun q => h (HIT.out.1 q).1
      clear h
      go_wp2_with fail
      go_roundw
      case rel => exact ⟨k + 1, by omega, by go_num, HN.out, HBA.out⟩
      case measure => simp [intOf]; omega

end Go.Proofs.Ytjfdkhaepmmlfaa

namespace Go.Proofs.Ytjfdkhaepmmlfaa
open Go.RowKit

section
variable {P : Program} {w : World} {ops : Array Oper} {rest : List Oper} {o : Oper} {a : Act} {Q : Exit → Act → World → Prop} {kt e : TypeId}
/-- 'len(m)' of a set of letters -/
theorem wpList_len_set (hg : o.guard = none) (m : Operand) (t : TypeId) (hop : o.op = Op.call { callee := Callee.builtin Builtin.len, args := #[m], argTypes := #[t] }) (ht : P.underlying t = some (.map kt e))
    (b : Nat) (xs : List UInt8) (hm : a.eval m = .map (some b)) (hs : SetAt w b (xs.map encL))
    (hK : wpList P ops Q rest (a.put o.dst (.int .i64 xs.length)) w) : wpList P ops Q (o :: rest) a w := by
  refine wpList_plain hg fun K' hK' => ?_
  unfold Oper.wp
  simp [execOp, hop, resolve, invoke, builtin, hm, hs.len (P := P) ht o.type, Result.andThen]
  exact hK' _ _ hK
/-- 'delete(m, x)' of a set of letters -/
theorem wpList_delete_set (hg : o.guard = none) (m x : Operand) (t k : TypeId) (hop : o.op = Op.call { callee := Callee.builtin Builtin.delete, args := #[m, x], argTypes := #[t, k] }) (hk : P.underlying kt = some .string) (ht : P.underlying t = some (.map kt e))
    (b : Nat) (xs : List UInt8) (hm : a.eval m = .map (some b)) (hs : SetAt w b (xs.map encL)) (c : UInt8) (hx : a.eval x = encL c)
    (hK : ∀ w', SetAt w' b ((xs.erase c).map encL) → w.grownBy w' (some b) → wpList P ops Q rest (a.put o.dst (.tuple #[])) w') : wpList P ops Q (o :: rest) a w := by
  refine wpList_plain hg fun K' hK' => ?_
  obtain ⟨w', hrun, r1, r2⟩ := hs.delete (k := k) hk ht c o.type
  unfold Oper.wp
  simp [execOp, hop, resolve, invoke, builtin, hm, hx, hrun, Result.andThen]
  exact hK' _ _ (hK w' r1 r2)
end

/-- how much can go yet -/
def beforeM (b : Int) : Nat := if b < 0 then 20 else b.toNat

/-- what a pass says when it ends -/
def PassEnd (E : Eds) (xs : List UInt8) (b : Int) : Prop :=
  b = -1 ∨ ((xs.length : Int) ≤ b ∧ b ≤ 8 ∧ ((xs.length : Int) = b → SelfEnt E xs))

/-- what is handed back: a set that is empty if there is no way round -/
def LeftPost (B : ByteArray) (es : List (ByteArray × ByteArray)) (w : World) (e : Ending) (w' : World) : Prop :=
  ∃ (m : Nat) (xs : List UInt8), e = .returned (.map (some m)) ∧ SetAt w' m (xs.map encL) ∧ Below w.heap.size w w' ∧ (xs.length = 0 ↔ ¬ Cyc B.data.toList (ebs es))

set_option maxRecDepth 100000 in
set_option maxHeartbeats 4000000 in
/-- impl.leftOver -/
theorem leftOver_any (B : ByteArray) (A : Option Addr) (cap : Nat) (es : List (ByteArray × ByteArray)) (w : World) (hE : EdgesIn w w.heap.size A es) (hl : es.length ≤ 100) (hL : Lets B.data.toList es) (hn : B.data.toList.Nodup) (h8 : B.size ≤ 8) :
    Calls Try.prog 69 #[.agg #[.string B, .slice A es.length cap]] w (LeftPost B es w) := by
  have hmm := @run_makeMap Try.prog
  have hb1 : Below w.heap.size w ((w.alloc (.cells #[.string B, .slice A es.length cap] 30)).alloc (.map #[] 0)) := ((Below.refl _ _).alloc (Nat.le_refl _) _).alloc (by simp) _
  have t1 : Two ((w.alloc (.cells #[.string B, .slice A es.length cap] 30)).alloc (.map #[] 0)) w.heap.size B A es.length cap := ⟨by go_simp, by go_simp⟩
  have hz1 : ((w.alloc (.cells #[.string B, .slice A es.length cap] 30)).alloc (.map #[] 0)).heap.size = w.heap.size + 2 := by simp
  have hs1 : SetAt ((w.alloc (.cells #[.string B, .slice A es.length cap] 30)).alloc (.map #[] 0)) (w.heap.size + 1) (([] : List UInt8).map encL) := by
    have := SetAt.new (enc := encL) (w.alloc (.cells #[.string B, .slice A es.length cap] 30))
    rwa [World.size_alloc] at this
  have hlen : B.data.toList.length = B.size := by simp
  have HLEN := Lib.hid hlen; have HLE := Lib.hid hL; have HND := Lib.hid hn
  clear hlen hL hn
  go_enter Try.func69, Try.ntmps69
  go_wp2_with fail
  clear hmm
  generalize hW1 : (w.alloc (.cells #[.string B, .slice A es.length cap] 30)).alloc (.map #[] 0) = w1 at hb1 t1 hz1 hs1 ⊢
  clear hW1
  have HT1 := Lib.hid t1; have HB1 := Lib.hid hb1; have HS1 := Lib.hid hs1
  clear t1 hb1 hs1
  go_loopw [12] (fun i wr => ∃ k : Nat, k ≤ B.size ∧ i = .int .i64 k ∧ SetAt wr (w.heap.size + 1) ((B.data.toList.take k).map encL) ∧ w1.grownBy wr (some (w.heap.size + 1))) (fun i _ => B.size - (intOf i).toNat)
  case atStart => exact ⟨0, Nat.zero_le _, rfl, HS1.out, World.grownBy.refl _ _⟩
  case round =>
    clear HS1
    obtain ⟨k, hk, rfl, hset, hgr⟩ := hrel
    have tr := HT1.out.grown hgr (by omega) (by intro e; injection e with e; omega)
    have hd0 := tr.1; have hd1 := tr.2
    have HSET := Lib.hid hset; have HGR := Lib.hid hgr; have HTR := Lib.hid tr
    clear hset hgr tr
    by_cases hlt : k < B.size
    · have HKEY : Hid (B.extract k (k + 1) = ⟨#[B.data.toList.getD k 0]⟩) := Lib.hid (bytes_one (letter_at hlt))
      have HC : Hid (B.data.toList.getD k 0 ∉ B.data.toList.take k) := Lib.hid (by
        have hkl : k < B.data.toList.length := by rw [HLEN.out]; exact hlt
        have hg : B.data.toList.getD k 0 = B.data.toList[k] := by simp [List.getD, hlt]
        rw [hg]
        intro hmem
        have h := HND.out
        rw [← List.take_append_drop k B.data.toList, List.drop_eq_getElem_cons hkl] at h
        exact (List.nodup_append.1 h).2.2 _ hmem _ (by simp) rfl)
      have HTK : Hid (B.data.toList.take (k + 1) = B.data.toList.take k ++ [B.data.toList.getD k 0]) := Lib.hid (by
        have hkl : k < B.data.toList.length := by rw [HLEN.out]; exact hlt
        rw [List.take_succ_eq_append_getElem hkl]
        simp [List.getD, hlt])
      go_wp2_with (at_mapUpdate; go_must (refine wpList_update_set rfl (.tmp 15) (.tmp 21) 106 (.inl rfl) (keyL Try.underlying9) Try.underlying106 (w.heap.size + 1) _ rfl HSET.out _ (by show Value.string (B.extract k (k + 1)) = encL _; rw [HKEY.out]; rfl) HC.out ?_; intro w3 hset3 hgr3))
      have HSET3 : Hid (SetAt w3 (w.heap.size + 1) ((B.data.toList.take (k + 1)).map encL)) := Lib.hid (by rw [HTK.out]; exact hset3)
      have HGR3 := Lib.hid (HGR.out.trans hgr3)
      clear hset3 hgr3 hd0 hd1
      go_roundw
      case rel => exact ⟨k + 1, by omega, by go_num, HSET3.out, HGR3.out⟩
      case measure => simp [intOf]; omega
    have hkn : k = B.size := by omega
    subst hkn
    have hset2 : SetAt wr (w.heap.size + 1) (B.data.toList.map encL) := by
      have h := HSET.out
      rwa [List.take_of_length_le (by rw [HLEN.out]; exact Nat.le_refl _)] at h
    have hg2 := HGR.out
    clear HSET HGR hd0 hd1 HTR hlt hk
    obtain ⟨w2, rfl⟩ : ∃ w2, w2 = wr := ⟨_, rfl⟩
    have HSET2 := Lib.hid hset2; have HG2 := Lib.hid hg2
    clear hset2 hg2
    go_wp2_with fail
    go_loopw [5] (fun v wo => ∃ (b0 : Int) (xs : List UInt8), v = .int .i64 b0 ∧ SetAt wo (w.heap.size + 1) (xs.map encL) ∧ Big B.data.toList (ebs es) xs ∧ w1.grownBy wo (some (w.heap.size + 1)) ∧ PassEnd (ebs es) xs b0) (fun v _ => beforeM (intOf v))
    case atStart => exact ⟨-1, _, rfl, HSET2.out, Big.all HND.out, HG2.out, .inl rfl⟩
    case round =>
      clear HSET2 HG2
      obtain ⟨b0, xs, rfl, hset, hbig, hgr, hend⟩ := hrel
      have hx8 : xs.length ≤ 8 := by
        have h1 := nodup_len hbig.nodup hbig.sub
        rw [HLEN.out] at h1
        omega
      have HSET := Lib.hid hset; have HBIG := Lib.hid hbig; have HGR := Lib.hid hgr; have HEND := Lib.hid hend
      have hbw : Below w.heap.size w wr := HB1.out.grown hgr (by omega) (fun q e => by injection e with e; omega)
      obtain ⟨n0, hn0⟩ : ∃ n0, xs.length = n0 := ⟨_, rfl⟩
      have HN0 := Lib.hid hn0
      rw [hn0] at hx8
      clear hset hbig hgr hend hn0
      by_cases hb0 : b0 = (n0 : Int)
      · have HFIN : Hid (xs.length = 0 ↔ ¬ Cyc B.data.toList (ebs es)) := Lib.hid (by
          have hs : SelfEnt (ebs es) xs := by
            rcases HEND.out with h | ⟨_, _, h⟩
            · omega
            · exact h (by rw [HN0.out, hb0])
          rw [← HBIG.out.done hs]
          exact List.length_eq_zero_iff)
        have ht : ((b0 : Int) != (n0 : Int)) = false := by simp [hb0]
        clear hb0
        go_wp2_with (at_len; refine wpList_len_set rfl (.tmp 24) 106 rfl (kt := 9) (e := 4) Try.underlying106 (w.heap.size + 1) xs rfl HSET.out ?_; rw [HN0.out])
        go_ret
        exact ⟨_, xs, rfl, HSET.out, hbw, HFIN.out⟩
      · have ht : ((b0 : Int) != (n0 : Int)) = true := by simp [hb0]
        have hmeas : beforeM (n0 : Int) < beforeM b0 := by
          unfold beforeM
          rcases HEND.out with h | ⟨h1, h2, _⟩
          · rw [h, if_neg (by omega), if_pos (by decide)]
            omega
          · rw [HN0.out] at h1
            rw [if_neg (by omega), if_neg (by omega)]
            omega
        have HME := Lib.hid hmeas
        have tr := HT1.out.grown HGR.out (by omega) (by intro e; injection e with e; omega)
        have hd0 := tr.1; have hd1 := tr.2
        clear hb0 hmeas HEND tr
        go_wp2_with (at_len; first | (refine wpList_len_set rfl (.tmp 24) 106 rfl (kt := 9) (e := 4) Try.underlying106 (w.heap.size + 1) xs rfl HSET.out ?_; rw [HN0.out]) | (refine wpList_len_set rfl (.tmp 27) 106 rfl (kt := 9) (e := 4) Try.underlying106 (w.heap.size + 1) xs rfl HSET.out ?_; rw [HN0.out]))
        obtain ⟨wo, rfl⟩ : ∃ wo, wo = wr := ⟨_, rfl⟩
        clear hd0 hd1 ht
        go_loopw [32] (fun c wi => ∃ (k : Nat) (ys : List UInt8), k ≤ B.size ∧ c = .int .i64 k ∧ SetAt wi (w.heap.size + 1) (ys.map encL) ∧ Big B.data.toList (ebs es) ys ∧ w1.grownBy wi (some (w.heap.size + 1)) ∧ ys.length ≤ n0 ∧
          (ys.length = n0 → ∀ i, i < k → B.data.toList.getD i 0 ∈ ys → EntL (ebs es) ys (B.data.toList.getD i 0))) (fun c _ => B.size - (intOf c).toNat)
        case atStart => exact ⟨0, xs, Nat.zero_le _, rfl, HSET.out, HBIG.out, HGR.out, by rw [HN0.out]; exact Nat.le_refl _, fun _ i hi => absurd hi (by omega)⟩
        case round =>
          clear HSET HBIG HGR HN0 hbw
          obtain ⟨k, ys, hk, rfl, hset, hbig, hgr, hyn, hpass⟩ := hrel
          have HSET := Lib.hid hset; have HBIG := Lib.hid hbig; have HGR := Lib.hid hgr; have HPASS := Lib.hid hpass
          have tr := HT1.out.grown hgr (by omega) (by intro e; injection e with e; omega)
          have hbw : Below w.heap.size w wr := HB1.out.grown hgr (by omega) (fun q e => by injection e with e; omega)
          have hzr : w.heap.size + 2 ≤ wr.heap.size := by have := hgr.size; omega
          clear hset hbig hgr hpass
          by_cases hlt : k < B.size
          case neg =>
            have HEND : Hid (PassEnd (ebs es) ys (n0 : Int)) := Lib.hid (.inr ⟨by omega, by omega, fun he c hc => by
              obtain ⟨i, hi, hic⟩ := List.getElem_of_mem (HBIG.out.sub c hc)
              have hg : B.data.toList.getD i 0 = c := by rw [← hic, List.getD_eq_getElem?_getD, List.getElem?_eq_getElem hi]; rfl
              have := HPASS.out (by omega) i (by have := HLEN.out; omega) (by rw [hg]; exact hc)
              rwa [hg] at this⟩)
            clear tr
            go_wp2_with fail
            go_roundw
            case rel => exact ⟨n0, ys, rfl, HSET.out, HBIG.out, HGR.out, HEND.out⟩
            case measure => exact HME.out
          have hd0 := tr.1; have hd1 := tr.2
          have hkey := letter_at hlt
          obtain ⟨c, hc⟩ : ∃ c, B.data.toList.getD k 0 = c := ⟨_, rfl⟩
          rw [hc] at hkey
          have HC := Lib.hid hc; have HKEY := Lib.hid hkey
          have HA : Hid (EdgesIn wr wr.heap.size A es) := Lib.hid ((hE.below hbw).more hbw.size)
          clear hc hkey tr
          go_wp2_with fail
          refine (comesFrom_any B A cap es B.data.toList _ c (w.heap.size + 1) ys _ HA.out hl HLE.out HKEY.out HSET.out).mono ?_
          rintro e w3 ⟨rfl, hb3⟩
          have HSET3 := Lib.hid (HSET.out.below hb3 (by omega))
          have HGR3 := Lib.hid (grown_below HGR.out hb3)
          clear hd0 hd1 hb3
          by_cases hent : EntL (ebs es) ys c
          · rw [decB_t hent]
            have HP : Hid (ys.length = n0 → ∀ i, i < k + 1 → B.data.toList.getD i 0 ∈ ys → EntL (ebs es) ys (B.data.toList.getD i 0)) := Lib.hid fun he i hi hm => by
              by_cases hik : i < k
              · exact HPASS.out he i hik hm
              · have : i = k := by omega
                subst this
                rw [HC.out]; exact hent
            clear hent
            go_wp2_with fail
            go_roundw
            case rel => exact ⟨k + 1, ys, by omega, by go_num, HSET3.out, HBIG.out, HGR3.out, hyn, HP.out⟩
            case measure => simp [intOf]; omega
          · rw [decB_f hent]
            have HBIG4 := Lib.hid (HBIG.out.erase hent)
            have hlen4 : (ys.erase c).length ≤ n0 := Nat.le_trans (List.length_erase_le) hyn
            have HP : Hid ((ys.erase c).length = n0 → ∀ i, i < k + 1 → B.data.toList.getD i 0 ∈ ys.erase c → EntL (ebs es) (ys.erase c) (B.data.toList.getD i 0)) := Lib.hid fun he i hi hm => by
              by_cases hcy : c ∈ ys
              · have h1 := List.length_erase_of_mem hcy
                have h2 := List.length_pos_of_mem hcy
                omega
              · rw [List.erase_of_not_mem hcy] at he hm ⊢
                by_cases hik : i < k
                · exact HPASS.out he i hik hm
                · have : i = k := by omega
                  subst this
                  rw [HC.out] at hm
                  exact absurd hm hcy
            have HLEN4 := Lib.hid hlen4
            clear hent hlen4
            go_wp2_with (at_delete; go_must (refine wpList_delete_set rfl (.tmp 46) (.tmp 47) 106 9 rfl (kt := 9) (e := 4) Try.underlying9 Try.underlying106 (w.heap.size + 1) ys rfl HSET3.out c (by show Value.string (B.extract k (k + 1)) = encL c; rw [bytes_one HKEY.out]; rfl) ?_; intro w4 hset4 hgr4))
            have HSET4 := Lib.hid hset4
            have HGR4 := Lib.hid (HGR3.out.trans hgr4)
            clear hset4 hgr4
            go_roundw
            case rel => exact ⟨k + 1, ys.erase c, by omega, by go_num, HSET4.out, HBIG4.out, HGR4.out, HLEN4.out, HP.out⟩
            case measure => simp [intOf]; omega

end Go.Proofs.Ytjfdkhaepmmlfaa

namespace Go.Proofs.Ytjfdkhaepmmlfaa
open Go.RowKit

/-- whether a net is one and has no way round -/
noncomputable def acycV (B : ByteArray) (es : List (ByteArray × ByteArray)) : Bool := decB (Valid B.data.toList (ebs es) ∧ ¬ Cyc B.data.toList (ebs es))

set_option maxRecDepth 100000 in
set_option maxHeartbeats 2000000 in
/-- impl.IsAcyclic -/
theorem implIsAcyclic_any (B : ByteArray) (A : Option Addr) (cap : Nat) (es : List (ByteArray × ByteArray)) (w : World) (hs : B.size ≤ maxLen) (hE : EdgesIn w w.heap.size A es) (hl : es.length ≤ 1099511627776) (_ : ∀ e ∈ es, e.1.size ≤ 1099511627776 ∧ e.2.size ≤ 1099511627776) :
    Calls Try.prog 34 #[.agg #[.string B, .slice A es.length cap]] w (BoolPost (acycV B es) w) := by
  have hl2 : es.length ≤ maxLen := by unfold maxLen; omega
  have HL2 := Lib.hid hl2; have HM := Lib.hid hs
  clear hl hl2 hs
  have hb1 : Below w.heap.size w (w.alloc (.cells #[.string B, .slice A es.length cap] 30)) := (Below.refl _ _).alloc (Nat.le_refl _) _
  have t1 := Two.made w B A es.length cap 30
  have hz1 : (w.alloc (.cells #[.string B, .slice A es.length cap] 30)).heap.size = w.heap.size + 1 := by simp
  by_cases hv : Valid B.data.toList (ebs es)
  case neg =>
    have HD : Hid (decB (Valid B.data.toList (ebs es)) = false) := Lib.hid (decB_f hv)
    have HQ : Hid (acycV B es = false) := Lib.hid (decB_f fun h => hv h.1)
    clear hv
    go_enter Try.func34, Try.ntmps34
    go_wp2_with fail
    refine (valid_any B A cap es _ HM.out ((hE.below hb1).more hb1.size) HL2.out).mono ?_
    rw [HD.out]
    rintro e w2 ⟨rfl, hb2⟩
    have hb2' := hb1.trans (hb2.mono hb1.size)
    clear hb2 t1
    go_wp2_with fail
    go_ret
    exact ⟨by rw [HQ.out]; rfl, hb2'⟩
  have HD : Hid (decB (Valid B.data.toList (ebs es)) = true) := Lib.hid (decB_t hv)
  have HQ : Hid (acycV B es = decB (¬ Cyc B.data.toList (ebs es))) := Lib.hid (decB_congr ⟨fun h => h.2, fun h => ⟨hv, h⟩⟩)
  have h16 : es.length ≤ 100 := by have := (valid_sizes hv).2; omega
  have h8 := (valid_sizes hv).1
  have HLE := Lib.hid (lets_of hv.1.2); have HND := Lib.hid hv.1.1.2.2.2
  clear hv
  go_enter Try.func34, Try.ntmps34
  go_wp2_with fail
  refine (valid_any B A cap es _ HM.out ((hE.below hb1).more hb1.size) HL2.out).mono ?_
  rw [HD.out]
  rintro e w2 ⟨rfl, hb2⟩
  have hb2' := hb1.trans (hb2.mono hb1.size)
  have t2 := t1.below hb2 (by omega)
  have hd0 := t2.1; have hd1 := t2.2
  clear hb2 t1
  go_wp2_with fail
  refine (leftOver_any B A cap es _ ((hE.below hb2').more hb2'.size) h16 HLE.out HND.out h8).mono ?_
  rintro e w3 ⟨m, xs, rfl, hset, hb3, hiff⟩
  have hb3' := hb2'.trans (hb3.mono hb2'.size)
  obtain ⟨n, hn⟩ : ∃ n, xs.length = n := ⟨_, rfl⟩
  rw [hn] at hiff
  have hlen := hset.len (P := Try.prog) (t := 106) (kt := 9) (e := 4) Try.underlying106 3
  rw [hn] at hlen
  have HIFF := Lib.hid hiff
  clear hb3 hd0 hd1 hset hn hiff
  by_cases h0 : n = 0
  · subst h0
    have HR : Hid (decB (¬ Cyc B.data.toList (ebs es)) = true) := Lib.hid (decB_t (HIFF.out.1 rfl))
    go_wp2_with fail
    go_ret
    exact ⟨by rw [HQ.out, HR.out]; rfl, hb3'⟩
  · have hq : ((n : Int) == 0) = false := by rw [beq_eq_false_iff_ne]; omega
    have HR : Hid (decB (¬ Cyc B.data.toList (ebs es)) = false) := Lib.hid (decB_f fun h => h0 (HIFF.out.2 h))
    clear h0
    go_wp2_with fail
    go_ret
    exact ⟨by rw [HQ.out, HR.out]; rfl, hb3'⟩

end Go.Proofs.Ytjfdkhaepmmlfaa

namespace Go.Proofs.Ytjfdkhaepmmlfaa
open Go.RowKit

set_option maxRecDepth 100000 in
set_option maxHeartbeats 4000000 in
/-- spec.IsAcyclic -/
theorem specIsAcyclic_any (B : ByteArray) (A : Option Addr) (cap : Nat) (es : List (ByteArray × ByteArray)) (w : World) (hs : B.size ≤ maxLen) (hE : EdgesIn w w.heap.size A es) (hl : es.length ≤ 1099511627776) (_ : ∀ e ∈ es, e.1.size ≤ 1099511627776 ∧ e.2.size ≤ 1099511627776) :
    Calls Try.prog 28 #[.agg #[.string B, .slice A es.length cap]] w (BoolPost (acycV B es) w) := by
  have hl2 : es.length ≤ maxLen := by unfold maxLen; omega
  have HL2 := Lib.hid hl2; have HM := Lib.hid hs
  clear hl hl2 hs
  have hb1 : Below w.heap.size w (w.alloc (.cells #[.string B, .slice A es.length cap] 30)) := (Below.refl _ _).alloc (Nat.le_refl _) _
  have t1 := Two.made w B A es.length cap 30
  have hz1 : (w.alloc (.cells #[.string B, .slice A es.length cap] 30)).heap.size = w.heap.size + 1 := by simp
  by_cases hv : Valid B.data.toList (ebs es)
  case neg =>
    have HD : Hid (decB (Valid B.data.toList (ebs es)) = false) := Lib.hid (decB_f hv)
    have HQ : Hid (acycV B es = false) := Lib.hid (decB_f fun h => hv h.1)
    clear hv
    go_enter Try.func28, Try.ntmps28
    go_wp2_with fail
    refine (specValid_any B A cap es _ HM.out ((hE.below hb1).more hb1.size) HL2.out).mono ?_
    rw [HD.out]
    rintro e w2 ⟨rfl, hb2⟩
    have hb2' := hb1.trans (hb2.mono hb1.size)
    clear hb2 t1
    go_wp2_with fail
    go_ret
    exact ⟨by rw [HQ.out]; rfl, hb2'⟩
  have HD : Hid (decB (Valid B.data.toList (ebs es)) = true) := Lib.hid (decB_t hv)
  have HQ : Hid (acycV B es = decB (¬ Cyc B.data.toList (ebs es))) := Lib.hid (decB_congr ⟨fun h => h.2, fun h => ⟨hv, h⟩⟩)
  have h16 : es.length ≤ 100 := by have := (valid_sizes hv).2; omega
  have h8 := (valid_sizes hv).1
  have HLE := Lib.hid (lets_of hv.1.2); have HND := Lib.hid hv.1.1.2.2.2
  have HLEN : Hid (B.data.toList.length = B.size) := Lib.hid (by simp)
  clear hv
  go_enter Try.func28, Try.ntmps28
  go_wp2_with fail
  refine (specValid_any B A cap es _ HM.out ((hE.below hb1).more hb1.size) HL2.out).mono ?_
  rw [HD.out]
  rintro e w2 ⟨rfl, hb2⟩
  have hb2' := hb1.trans (hb2.mono hb1.size)
  have t2 := t1.below hb2 (by omega)
  have hz2 : w.heap.size + 1 ≤ w2.heap.size := by have := hb2.size; omega
  have hd0 := t2.1; have hd1 := t2.2
  have HT2 := Lib.hid t2; have HB2 := Lib.hid hb2'
  clear hb2 t1 t2 hb2' hz1 hb1
  go_wp2_with fail
  clear hd0 hd1
  go_loopw [3, 4] (fun a g wo => ∃ (s : ByteArray) (ag : Bool), a = .string s ∧ g = .bool ag ∧ Big B.data.toList (ebs es) s.data.toList ∧ (ag = false → SelfEnt (ebs es) s.data.toList) ∧ Below w2.heap.size w2 wo)
    (fun a g _ => (match a with | .string s => s.size | _ => 0) * 2 + (match g with | .bool true => 1 | _ => 0))
  case atStart => exact ⟨B, true, rfl, rfl, Big.all HND.out, (fun h => by cases h), Below.refl _ _⟩
  case round =>
    obtain ⟨s, ag, rfl, rfl, hbig, hag, hb⟩ := hrel
    have HBIG := Lib.hid hbig; have HAG := Lib.hid hag; have HB := Lib.hid hb
    have hs8 : s.size ≤ 8 := by
      have h1 := nodup_len hbig.nodup hbig.sub
      rw [HLEN.out] at h1
      have : s.data.toList.length = s.size := by simp
      omega
    have hzr := hb.size
    clear hbig hag hb
    cases ag with
    | false =>
      have hdone := HBIG.out.done (HAG.out rfl)
      have HR : Hid ((s.toList == []) = decB (¬ Cyc B.data.toList (ebs es))) := Lib.hid (by
        rw [Lib.toList_data]
        by_cases h : s.data.toList = []
        · rw [decB_t (hdone.1 h)]; simp [h]
        · rw [decB_f fun q => h (hdone.2 q)]
          rw [beq_eq_false_iff_ne]; exact h)
      clear hdone
      go_wp2_with fail
      go_ret
      refine ⟨?_, HB2.out.trans (HB.out.mono (by omega))⟩
      rw [HQ.out, ← HR.out]
      first | rfl | simp
    | true =>
      clear HAG
      go_wp2_with fail
      obtain ⟨wo, rfl⟩ : ∃ wo, wo = wr := ⟨_, rfl⟩
      go_loopw [3, 4, 14] (fun a g c wi => ∃ k : Nat, k ≤ s.size ∧ a = .string s ∧ g = .bool false ∧ c = .int .i64 k ∧ (∀ i, i < k → EntL (ebs es) s.data.toList (s.data.toList.getD i 0)) ∧ Below w2.heap.size w2 wi) (fun _ _ c _ => s.size - (intOf c).toNat)
      case atStart => exact ⟨0, Nat.zero_le _, rfl, rfl, rfl, (fun i hi => absurd hi (by omega)), HB.out⟩
      case round =>
        clear HB hzr
        obtain ⟨k, hk, rfl, rfl, rfl, hent, hb⟩ := hrel
        have HENT := Lib.hid hent; have HB := Lib.hid hb
        have tr := HT2.out.below hb (by omega)
        have hzr := hb.size
        clear hent hb
        by_cases hlt : k < s.size
        case neg =>
          have HSE : Hid (SelfEnt (ebs es) s.data.toList) := Lib.hid fun c hc => by
            obtain ⟨i, hi, hic⟩ := List.getElem_of_mem hc
            have hg : s.data.toList.getD i 0 = c := by rw [← hic, List.getD_eq_getElem?_getD, List.getElem?_eq_getElem hi]; rfl
            have := HENT.out i (by have h2 : s.data.toList.length = s.size := (by simp); omega)
            rwa [hg] at this
          clear tr
          go_wp2_with fail
          go_roundw
          case rel => exact ⟨s, false, rfl, rfl, HBIG.out, (fun _ => HSE.out), HB.out⟩
          case measure => simp only; omega
        have hkey := letter_at hlt
        obtain ⟨c, hc⟩ : ∃ c, s.data.toList.getD k 0 = c := ⟨_, rfl⟩
        rw [hc] at hkey
        have HC := Lib.hid hc; have HKEY := Lib.hid hkey
        have hS : ∀ W, Below wr.heap.size wr W → (W.cell? ⟨w.heap.size, 0, none⟩ = some (.string B) ∧ W.cell? ⟨w.heap.size, 1, none⟩ = some (.slice A es.length cap) ∧ Below wr.heap.size wr W) :=
          fun W h => ⟨(h.cell (by simp only; omega)).trans tr.1, (h.cell (by simp only; omega)).trans tr.2, h⟩
        have hA : EdgesIn wr.drew wr.drew.heap.size A es := by
          have hbW := (HB2.out.trans (HB.out.mono (show w.heap.size ≤ w2.heap.size by omega))).drew
          exact (hE.below hbW).more hbW.size
        have HSS := Lib.hid hS; have HA := Lib.hid hA
        clear hS hA tr hc hkey
        have a1 : (0 : Int) ≤ (k : Int) := by omega
        have a2 : (k : Int) < (s.size : Int) := by omega
        have a4 : (0 : Int) ≤ (k : Int) + 1 := by omega
        have a5 : ((k : Int) + 1).toNat = k + 1 := by omega
        have a6 : (k : Int) + 1 ≤ (s.size : Int) := by omega
        have a7 : k + 1 ≤ s.size := by omega
        have a8 : (k : Int) ≤ (k : Int) + 1 := by omega
        have a3 : IntKind.i64.wrap ((k : Int) + 1) = (k : Int) + 1 := IntWalk.i64_in _ (by omega)
        go_wp2_with fail
        go_region_held3 (fun W => W.cell? ⟨w.heap.size, 0, none⟩ = some (.string B) ∧ W.cell? ⟨w.heap.size, 1, none⟩ = some (.slice A es.length cap) ∧ Below wr.heap.size wr W)
          (first
            | exact HSS.out _ (Below.refl _ _).drew
            | exact HSS.out _ ((Below.refl _ _).drew.trans hb5))
          (first
            | (go_at_call 61; refine (l2Entered_any B A cap es B.data.toList s _ c _ HA.out h16 HLE.out HKEY.out (by unfold maxLen; omega)).mono ?_; rintro e w5 ⟨rfl, hb5⟩))
        rename_i hHeld
        have HB5 := Lib.hid (HB.out.trans (hHeld.2.2.mono hzr))
        clear hHeld HSS HA hb5
        by_cases hent : EntL (ebs es) s.data.toList c
        · rw [decB_t hent]
          have HP : Hid (∀ i, i < k + 1 → EntL (ebs es) s.data.toList (s.data.toList.getD i 0)) := Lib.hid fun i hi => by
            by_cases hik : i < k
            · exact HENT.out i hik
            · have : i = k := by omega
              subst this
              rw [HC.out]; exact hent
          clear hent a1 a2 a3 a4 a5 a6 a7 a8
          go_wp2_with fail
          go_roundw
          case rel => exact ⟨k + 1, by omega, rfl, rfl, by go_num, HP.out, HB5.out⟩
          case measure => simp [intOf]; omega
        · rw [decB_f hent]
          have hlen : s.data.toList.length = s.size := by simp
          have hgk : s.data.toList.getD k 0 = s.data.toList[k]'(by omega) := by rw [List.getD_eq_getElem?_getD, List.getElem?_eq_getElem (by omega)]; rfl
          have HBIG2 : Hid (Big B.data.toList (ebs es) (s.extract 0 k ++ s.extract (k + 1) s.size).data.toList) := Lib.hid (by
            have h := HBIG.out.cut (i := k) (by omega) (by rw [← hgk, HC.out]; exact hent)
            rw [Go.Joins.data_append, extract_take, Lib.extract_to_end]
            exact h)
          have hsz1 : (s.extract 0 k).size = k := by simp; omega
          have hsz2 : (s.extract (k + 1) s.size).size = s.size - (k + 1) := by simp
          have hadd : ¬ 9223372036854775807 < (s.extract 0 k).size + (s.extract (k + 1) s.size).size := by omega
          have HSZ : Hid ((s.extract 0 k ++ s.extract (k + 1) s.size).size = s.size - 1) := Lib.hid (by rw [ByteArray.size_append, hsz1, hsz2]; omega)
          have b1 : (k : Int) ≤ (s.size : Int) := by omega
          have b2 : k ≤ s.size := by omega
          clear hent hlen hgk hsz1 hsz2
          go_wp2_with fail
          go_quiet (fail)
          go_wp2_with fail
          go_roundw
          case rel => exact ⟨_, true, rfl, rfl, HBIG2.out, (fun h => by cases h), below_drewN HB5.out _⟩
          case measure => simp only; rw [HSZ.out]; omega

end Go.Proofs.Ytjfdkhaepmmlfaa

namespace Go.Proofs.Ytjfdkhaepmmlfaa
open Go.RowKit

/-- a tree of an acyclic net -/
noncomputable def askV (B : ByteArray) (es : List (ByteArray × ByteArray)) (t : ByteArray) : Bool := decB (acycV B es = true ∧ treeV B es t = true)
theorem ask_yes {B : ByteArray} {es : List (ByteArray × ByteArray)} {t : ByteArray} (h : askV B es t = true) : acycV B es = true ∧ treeV B es t = true := decB_iff.1 h
theorem ask_a {B : ByteArray} {es : List (ByteArray × ByteArray)} {t : ByteArray} (h : acycV B es = false) : askV B es t = false := decB_f fun k => by rw [h] at k; exact absurd k.1 (by simp)
theorem ask_t {B : ByteArray} {es : List (ByteArray × ByteArray)} {t : ByteArray} (h : acycV B es = true) : askV B es t = treeV B es t := by
  cases hv : treeV B es t with
  | true => exact decB_t ⟨h, hv⟩
  | false => exact decB_f fun k => by rw [hv] at k; exact absurd k.2 (by simp)

set_option maxRecDepth 100000 in
set_option maxHeartbeats 1000000 in
/-- spec.l6Asked -/
theorem l6Asked_any (B : ByteArray) (A : Option Addr) (cap : Nat) (es : List (ByteArray × ByteArray)) (t : ByteArray) (w : World) (hs : B.size ≤ maxLen) (hE : EdgesIn w w.heap.size A es) (hl : es.length ≤ 1099511627776) (hS : ∀ e ∈ es, e.1.size ≤ 1099511627776 ∧ e.2.size ≤ 1099511627776) (htz : t.size ≤ 1099511627776) :
    Calls Try.prog 93 #[.agg #[.string B, .slice A es.length cap], .string t] w (BoolPost (askV B es t) w) := by
  have HM := Lib.hid hs; have HL := Lib.hid hl; have HS := Lib.hid hS; have HTZ := Lib.hid htz
  clear hs hl hS htz
  obtain ⟨v, hv⟩ : ∃ v, acycV B es = v := ⟨_, rfl⟩
  have FA : Hid (∀ W : World, EdgesIn W W.heap.size A es → Calls Try.prog 28 #[.agg #[.string B, .slice A es.length cap]] W fun e w' => e = .returned (.bool v) ∧ Below W.heap.size W w') := Lib.hid fun W h => by
    have := specIsAcyclic_any B A cap es W HM.out h HL.out HS.out
    rwa [hv] at this
  have hb1 : Below w.heap.size w (w.alloc (.cells #[.string B, .slice A es.length cap] 30)) := (Below.refl _ _).alloc (Nat.le_refl _) _
  have t1 := Two.made w B A es.length cap 30
  have hz1 : (w.alloc (.cells #[.string B, .slice A es.length cap] 30)).heap.size = w.heap.size + 1 := by simp
  cases v with
  | false =>
    have HN : Hid (false = askV B es t) := Lib.hid (ask_a hv).symm
    clear hv
    go_enter Try.func93, Try.ntmps93
    go_wp2_with fail
    refine (FA.out _ ((hE.below hb1).more hb1.size)).mono ?_
    rintro e w2 ⟨rfl, hb2⟩
    have hb2' := hb1.trans (hb2.mono hb1.size)
    clear hb2 t1
    go_wp2_with fail
    go_ret
    exact ⟨ret_bool HN.out, hb2'⟩
  | true =>
    obtain ⟨u, hu⟩ : ∃ u, treeV B es t = u := ⟨_, rfl⟩
    have HN : Hid (u = askV B es t) := Lib.hid (by rw [ask_t hv, hu])
    have FT : Hid (∀ W : World, EdgesIn W W.heap.size A es → Calls Try.prog 114 #[.agg #[.string B, .slice A es.length cap], .string t] W fun e w' => e = .returned (.bool u) ∧ Below W.heap.size W w') := Lib.hid fun W h => by
      have := specIsTree_any B A cap es t W HM.out h HL.out HS.out HTZ.out
      rwa [hu] at this
    clear hv hu
    go_enter Try.func93, Try.ntmps93
    go_wp2_with fail
    refine (FA.out _ ((hE.below hb1).more hb1.size)).mono ?_
    rintro e w2 ⟨rfl, hb2⟩
    have hb2' := hb1.trans (hb2.mono hb1.size)
    have t2 := t1.below hb2 (by omega)
    have hd0 := t2.1; have hd1 := t2.2
    clear hb2 t1 FA
    go_wp2_with fail
    refine (FT.out _ ((hE.below hb2').more hb2'.size)).mono ?_
    rintro e w3 ⟨rfl, hb3⟩
    have hb3' := hb2'.trans (hb3.mono hb2'.size)
    clear hb3 hd0 hd1 t2
    go_wp2_with fail
    go_ret
    exact ⟨ret_bool HN.out, hb3'⟩

set_option maxRecDepth 100000 in
set_option maxHeartbeats 1000000 in
/-- impl.isTreeOfAcyclic -/
theorem isTreeOfAcyclic_any (B : ByteArray) (A : Option Addr) (cap : Nat) (es : List (ByteArray × ByteArray)) (t : ByteArray) (w : World) (hs : B.size ≤ maxLen) (hE : EdgesIn w w.heap.size A es) (hl : es.length ≤ 1099511627776) (hS : ∀ e ∈ es, e.1.size ≤ 1099511627776 ∧ e.2.size ≤ 1099511627776) (htz : t.size ≤ 1099511627776) :
    Calls Try.prog 95 #[.agg #[.string B, .slice A es.length cap], .string t] w (BoolPost (askV B es t) w) := by
  have HM := Lib.hid hs; have HL := Lib.hid hl; have HS := Lib.hid hS; have HTZ := Lib.hid htz
  clear hs hl hS htz
  obtain ⟨v, hv⟩ : ∃ v, acycV B es = v := ⟨_, rfl⟩
  have FA : Hid (∀ W : World, EdgesIn W W.heap.size A es → Calls Try.prog 34 #[.agg #[.string B, .slice A es.length cap]] W fun e w' => e = .returned (.bool v) ∧ Below W.heap.size W w') := Lib.hid fun W h => by
    have := implIsAcyclic_any B A cap es W HM.out h HL.out HS.out
    rwa [hv] at this
  have hb1 : Below w.heap.size w (w.alloc (.cells #[.string B, .slice A es.length cap] 30)) := (Below.refl _ _).alloc (Nat.le_refl _) _
  have t1 := Two.made w B A es.length cap 30
  have hz1 : (w.alloc (.cells #[.string B, .slice A es.length cap] 30)).heap.size = w.heap.size + 1 := by simp
  cases v with
  | false =>
    have HN : Hid (false = askV B es t) := Lib.hid (ask_a hv).symm
    clear hv
    go_enter Try.func95, Try.ntmps95
    go_wp2_with fail
    refine (FA.out _ ((hE.below hb1).more hb1.size)).mono ?_
    rintro e w2 ⟨rfl, hb2⟩
    have hb2' := hb1.trans (hb2.mono hb1.size)
    clear hb2 t1
    go_wp2_with fail
    go_ret
    exact ⟨ret_bool HN.out, hb2'⟩
  | true =>
    obtain ⟨u, hu⟩ : ∃ u, treeV B es t = u := ⟨_, rfl⟩
    have HN : Hid (u = askV B es t) := Lib.hid (by rw [ask_t hv, hu])
    have FT : Hid (∀ W : World, EdgesIn W W.heap.size A es → Calls Try.prog 116 #[.agg #[.string B, .slice A es.length cap], .string t] W fun e w' => e = .returned (.bool u) ∧ Below W.heap.size W w') := Lib.hid fun W h => by
      have := implIsTree_any B A cap es t W HM.out h HL.out HS.out HTZ.out
      rwa [hu] at this
    clear hv hu
    go_enter Try.func95, Try.ntmps95
    go_wp2_with fail
    refine (FA.out _ ((hE.below hb1).more hb1.size)).mono ?_
    rintro e w2 ⟨rfl, hb2⟩
    have hb2' := hb1.trans (hb2.mono hb1.size)
    have t2 := t1.below hb2 (by omega)
    have hd0 := t2.1; have hd1 := t2.2
    clear hb2 t1 FA
    go_wp2_with fail
    refine (FT.out _ ((hE.below hb2').more hb2'.size)).mono ?_
    rintro e w3 ⟨rfl, hb3⟩
    have hb3' := hb2'.trans (hb3.mono hb2'.size)
    clear hb3 hd0 hd1 t2
    go_wp2_with fail
    go_ret
    exact ⟨ret_bool HN.out, hb3'⟩

end Go.Proofs.Ytjfdkhaepmmlfaa
