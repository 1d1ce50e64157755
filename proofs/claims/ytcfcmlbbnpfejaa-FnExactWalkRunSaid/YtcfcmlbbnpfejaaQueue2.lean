/- A queue of blocks with paths: a slice of two-text elements in a block of the program's own, cut from the front, appended to at the end. -/
import Derived.Test.YtcfcmlbbnpfejaaQueue
import Derived.Test.YtcfcmlbbnpfejaaBfs
namespace Go.Proofs.Ytcfcmlbbnpfejaa
open Go.RowKit

/-- blocks with paths as cells -/
def cellsW (D : Met) : List Value := D.flatMap fun x => [.string ⟨#[x.1]⟩, .string ⟨x.2.toArray⟩]
theorem cellsW_cons (x : UInt8 × List UInt8) (D : Met) : cellsW (x :: D) = .string ⟨#[x.1]⟩ :: .string ⟨x.2.toArray⟩ :: cellsW D := by simp [cellsW]
theorem cellsW_append (C D : Met) : cellsW (C ++ D) = cellsW C ++ cellsW D := by simp [cellsW]
theorem cellsW_length : ∀ D : Met, (cellsW D).length = D.length * 2
  | [] => rfl
  | x :: D => by rw [cellsW_cons, List.length_cons, List.length_cons, cellsW_length D]; simp; omega

/-- v is a slice of them, in a block of type e from base on -/
def QueueW (w : World) (base : Nat) (e : TypeId) (v : Value) (D : Met) : Prop :=
  ∃ (b o cap : Nat) (cur : Array Value), v = .slice (some ⟨b, o, none⟩) D.length cap ∧ base ≤ b ∧ w.heap[b]? = some (.cells cur e (0, 0)) ∧ o + cap * 2 ≤ cur.size ∧ D.length ≤ cap ∧ cap ≤ maxLen ∧
    ∀ j u, (cellsW D)[j]? = some u → cur[o + j]? = some u

section
variable {w w' : World} {base : Nat} {e : TypeId} {v : Value} {D : Met} {P : Program}

theorem QueueW.keep (h : QueueW w base e v D) (hk : ∀ b, base ≤ b → b < w.heap.size → (∃ cur, w.heap[b]? = some (.cells cur e (0, 0))) → w'.heap[b]? = w.heap[b]?) : QueueW w' base e v D := by
  obtain ⟨b, o, cap, cur, hv, hb, hh, h1⟩ := h
  exact ⟨b, o, cap, cur, hv, hb, (hk b hb (Array.getElem?_eq_some_iff.1 hh).1 ⟨cur, hh⟩).trans hh, h1⟩
theorem QueueW.below {B : Nat} (h : QueueW w base e v D) (hb : Below B w w') (hB : w.heap.size ≤ B) : QueueW w' base e v D :=
  h.keep fun b _ hlt _ => hb.block b (by omega)

theorem setCells_size (b : Nat) : ∀ (vs : List Value) (o : Nat) (w : World), (w.setCells b o vs).heap.size = w.heap.size
  | [], _, _ => rfl
  | v :: r, o, w => by rw [World.setCells, setCells_size b r (o + 1)]; simp [World.setCell]
theorem setCells_two (b o : Nat) (u1 u2 : Value) (w : World) {cur : Array Value} (h : w.heap[b]? = some (.cells cur e (0, 0))) :
    (w.setCells b o [u1, u2]).heap[b]? = some (.cells ((cur.setIfInBounds o u1).setIfInBounds (o + 1) u2) e (0, 0)) := by
  simp [World.setCells, World.setCell, Array.getElem?_modify, h]

/-- append of one -/
theorem run_append_queueW (t ty : TypeId) (i : TypeInfo) (z : Value) (bytes : Nat) (ht : P.underlying t = some (.slice e)) (hi : P.info? e = some i) (hz : i.zero = some z)
    (hsize : i.size = 2) (hby : i.bytes = bytes) (hzs : z.cells.size = 2) (hq : QueueW w base e v D) (ad : Addr) (c : Nat) (x : UInt8 × List UInt8) (hu : ∀ j u', [Value.string ⟨#[x.1]⟩, Value.string ⟨x.2.toArray⟩][j]? = some u' → w.cell? (ad.add j) = some u')
    (hs : D.length < 1099511627776) (hb8 : bytes ≤ 64) (hbase : base ≤ w.heap.size) :
    ∃ v' w', (Builtin.append_ #[t, t] ty #[v, .slice (some ad) 1 c]).run P w = .ok v' w' ∧ QueueW w' base e v' (D ++ [x]) ∧ w.grownBy w' v.ownBlock ∧ ∀ g, v'.ownBlock = some g → v.ownBlock = some g ∨ w.heap.size ≤ g := by
  obtain ⟨b, o, cap, cur, rfl, hb, hh, h2, h3, h4, h5⟩ := hq
  have hone : ∀ u' ∈ [Value.string ⟨#[x.1]⟩, Value.string ⟨x.2.toArray⟩], u'.oneCell' = true := by
    intro u' h; simp at h; rcases h with rfl | rfl <;> rfl
  have hcell : ∀ j, w.cell? ⟨b, j, none⟩ = cur[j]? := fun j => by simp [World.cell?, hh]
  have hfro : ∀ j, w.frozen? ⟨b, j, none⟩ = false := fun j => by simp [World.frozen?, hh]
  have hcl := cellsW_length D
  have hcx : cellsW (D ++ [x]) = cellsW D ++ [.string ⟨#[x.1]⟩, .string ⟨x.2.toArray⟩] := by rw [cellsW_append]; rfl
  by_cases hr : D.length + 1 ≤ cap
  · have hrun := run_append_room_cells (P := P) w t ty e i ht hi b o D.length cap ad 1 c [.string ⟨#[x.1]⟩, .string ⟨x.2.toArray⟩] (by simp [hsize]) hu hone hr
      (fun j hj => by simp at hj; rw [hsize, hcell]; simp; omega) (fun j _ => hfro _)
    rw [hsize] at hrun
    refine ⟨_, _, hrun, ⟨b, o, cap, _, by simp, hb, setCells_two _ _ _ _ _ hh, by simpa using h2, by simpa using hr, h4, fun j u' hj => ?_⟩, ?_, fun g hg => .inl hg⟩
    · rw [hcx] at hj
      rcases Nat.lt_or_ge j (cellsW D).length with hlt | hge
      · rw [List.getElem?_append_left hlt] at hj
        rw [Array.getElem?_setIfInBounds_ne (by omega), Array.getElem?_setIfInBounds_ne (by omega)]
        exact h5 j u' hj
      · rw [List.getElem?_append_right hge] at hj
        have hj2 : j - (cellsW D).length < 2 := by
          have := (List.getElem?_eq_some_iff.1 hj).1
          simpa using this
        rcases (show j = D.length * 2 ∨ j = D.length * 2 + 1 by omega) with rfl | rfl
        · rw [hcl, Nat.sub_self] at hj
          injection hj with hj
          subst hj
          rw [Array.getElem?_setIfInBounds_ne (by omega), Array.getElem?_setIfInBounds_self_of_lt (by omega)]
        · rw [hcl, Nat.add_sub_cancel_left] at hj
          injection hj with hj
          subst hj
          rw [show o + (D.length * 2 + 1) = o + D.length * 2 + 1 by omega, Array.getElem?_setIfInBounds_self_of_lt (by simp; omega)]
    · exact ⟨rfl, rfl, rfl, Nat.le_of_eq (setCells_size _ _ _ _).symm, fun k _ hk => setCells_far b _ _ _ _ (fun e => hk (by simp [Value.ownBlock, e]))⟩
  · obtain ⟨v', w', hrun, r1, r2⟩ := run_append_arg_grows (P := P) w t ty e i z 2 bytes ht hi hz hsize hby hzs (by decide) ⟨b, o, none⟩ D.length cap (cellsW D) hcl
      (fun j u' hj => by rw [Addr.add_lit, hcell]; exact h5 j u' hj) ad 1 c [.string ⟨#[x.1]⟩, .string ⟨x.2.toArray⟩] (by simp) hu (by omega) (by unfold maxLen; omega)
      (by
        have : (D.length + 1) * bytes ≤ 1099511627776 * 64 := Nat.mul_le_mul (by omega) hb8
        omega)
    have hown : ∀ g, v'.ownBlock = some g → (Value.slice (some ⟨b, o, none⟩) D.length cap).ownBlock = some g ∨ w.heap.size ≤ g := by
      intro g hg
      rcases r1.2 with ⟨rfl, _⟩ | ⟨g', cap', cur', rfl, hg', _⟩
      · cases hg
      · injection hg with hg
        subst hg; exact .inr hg'
    refine ⟨v', w', hrun, ?_, ⟨r2.os, r2.tape, r2.output, r2.size, fun k hk _ => r2.block k hk (by simp)⟩, hown⟩
    rcases r1.2 with ⟨_, h0⟩ | ⟨g, cap', cur', hv', hg, hh', hn', hm', hc', ht'⟩
    · omega
    · refine ⟨g, 0, cap', cur', by rw [hv']; simp, Nat.le_trans hbase hg, hh', by omega, by simp; omega, hm', fun j u' hj => ?_⟩
      rw [hcx, ← ht', List.getElem?_take] at hj
      split at hj
      · simpa using hj
      · cases hj

/-- the first one taken away: 'q[1:]' -/
theorem QueueW.tail {x : UInt8 × List UInt8} {b o cap n : Nat} (h : QueueW w base e (.slice (some ⟨b, o, none⟩) n cap) (x :: D)) :
    QueueW w base e (.slice (if cap = 1 then some ⟨b, o, none⟩ else some ⟨b, o + 2, none⟩) (n - 1) (cap - 1)) D := by
  obtain ⟨b', o', cap', cur, hv, hb, hh, h2, h3, h4, h5⟩ := h
  injection hv with e1 e2 e3
  injection e1 with e1
  injection e1 with e1 e4 _
  subst e1; subst e4; subst e3
  simp at h3 e2
  by_cases hc : cap = 1
  · have hx : D = [] := List.eq_nil_of_length_eq_zero (by omega)
    subst hx
    exact ⟨b, o, cap - 1, cur, by simp [hc, e2], hb, hh, by omega, by simp, by unfold maxLen at *; omega, by simp [cellsW]⟩
  · refine ⟨b, o + 2, cap - 1, cur, by simp [hc, e2], hb, hh, by omega, by omega, by unfold maxLen at *; omega, fun j u' hj => ?_⟩
    have := h5 (j + 2) u' (by rw [cellsW_cons]; simpa using hj)
    rw [← this]; congr 1; omega

theorem QueueW.first {x : UInt8 × List UInt8} {b o cap n : Nat} (h : QueueW w base e (.slice (some ⟨b, o, none⟩) n cap) (x :: D)) : w.cell? ⟨b, o, none⟩ = some (.string ⟨#[x.1]⟩) ∧ w.cell? ⟨b, o + 1, none⟩ = some (.string ⟨x.2.toArray⟩) ∧ b < w.heap.size ∧ base ≤ b := by
  obtain ⟨b', o', cap', cur, hv, hb, hh, h2, h3, h4, h5⟩ := h
  injection hv with e1 e2 e3
  injection e1 with e1
  injection e1 with e1 e4 _
  subst e1; subst e4; subst e3
  exact ⟨by have := h5 0 _ rfl; simpa [World.cell?, hh] using this, by have := h5 1 _ rfl; simpa [World.cell?, hh] using this, (Array.getElem?_eq_some_iff.1 hh).1, hb⟩

theorem QueueW.form (h : QueueW w base e v D) : ∃ b o cap, v = .slice (some ⟨b, o, none⟩) D.length cap ∧ D.length ≤ cap ∧ cap ≤ maxLen := by
  obtain ⟨b, o, cap, cur, hv, hb, hh, h2, h3, h4, h5⟩ := h
  exact ⟨b, o, cap, hv, h3, h4⟩
theorem QueueW.own (h : QueueW w base e v D) {b : Nat} (hb : v.ownBlock = some b) : base ≤ b := by
  obtain ⟨b', o, cap, cur, rfl, h1, _⟩ := h
  injection hb with hb
  subst hb; exact h1
theorem QueueW.one (w : World) (base : Nat) (e : TypeId) (x : UInt8 × List UInt8) (hb : base ≤ w.heap.size) : QueueW (w.alloc (.cells #[.string ⟨#[x.1]⟩, .string ⟨x.2.toArray⟩] e)) base e (.slice (some ⟨w.heap.size, 0, none⟩) 1 1) [x] :=
  ⟨w.heap.size, 0, 1, #[.string ⟨#[x.1]⟩, .string ⟨x.2.toArray⟩], rfl, hb, heap_alloc_new w _, by simp, by simp, by unfold maxLen; omega, fun j u' hj => by
    match j, hj with
    | 0, hj => simpa [cellsW] using hj
    | 1, hj => simpa [cellsW] using hj
    | j + 2, hj => simp [cellsW] at hj⟩
end

/-- at the operation -/
theorem wpList_append_queueW {P : Program} (w : World) {ops : Array Oper} {rest : List Oper} {o : Oper} {a : Act} {Q : Exit → Act → World → Prop}
    (hg : o.guard = none) (s x : Operand) (t : TypeId) (hop : o.op = Op.call { callee := Callee.builtin Builtin.append, args := #[s, x], argTypes := #[t, t] })
    (base : Nat) (e : TypeId) (i : TypeInfo) (z : Value) (bytes : Nat) (ht : P.underlying t = some (.slice e)) (hi : P.info? e = some i) (hz : i.zero = some z)
    (hsize : i.size = 2) (hby : i.bytes = bytes) (hzs : z.cells.size = 2) (v : Value) (D : Met) (hs : a.eval s = v) (hq : QueueW w base e v D) (ad : Addr) (c : Nat) (u : UInt8 × List UInt8) (hx : a.eval x = .slice (some ad) 1 c)
    (hu : ∀ j u', [Value.string ⟨#[u.1]⟩, Value.string ⟨u.2.toArray⟩][j]? = some u' → w.cell? (ad.add j) = some u')
    (hl : D.length < 1099511627776) (hb8 : bytes ≤ 64) (hbase : base ≤ w.heap.size)
    (hK : ∀ v' w', QueueW w' base e v' (D ++ [u]) → w.grownBy w' v.ownBlock → (∀ g, v'.ownBlock = some g → v.ownBlock = some g ∨ w.heap.size ≤ g) → wpList P ops Q rest (a.put o.dst v') w') : wpList P ops Q (o :: rest) a w := by
  refine wpList_plain hg fun K hK' => ?_
  obtain ⟨v', w', hrun, r1, r2, r3⟩ := run_append_queueW (P := P) t o.type i z bytes ht hi hz hsize hby hzs hq ad c u hu hl hb8 hbase
  unfold Oper.wp
  simp [execOp, hop, resolve, invoke, builtin, hs, hx, hrun, Result.andThen]
  exact hK' _ _ (hK v' w' r1 r2 r3)

end Go.Proofs.Ytcfcmlbbnpfejaa
