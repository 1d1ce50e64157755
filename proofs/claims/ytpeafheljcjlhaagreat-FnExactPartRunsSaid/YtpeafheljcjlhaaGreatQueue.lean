/- A queue: a slice of one-cell elements in a block of the program's own, cut from the front, appended to at the end. -/
import Derived.OwnWalk
import Derived.Below
import Derived.OwnWalkIn
import Derived.ArgAppend
import Derived.Deep.OwnRows
import Derived.Laws.IdiomCopy
namespace Go.Proofs.YtpeafheljcjlhaaGreat
open Go.RowKit

/-- v is a slice of the values xs, in a block of type e from base on -/
def QueueAt (w : World) (base : Nat) (e : TypeId) (v : Value) (xs : List Value) : Prop :=
  ∃ (b o cap : Nat) (cur : Array Value), v = .slice (some ⟨b, o, none⟩) xs.length cap ∧ base ≤ b ∧ w.heap[b]? = some (.cells cur e (0, 0)) ∧ o + cap ≤ cur.size ∧ xs.length ≤ cap ∧ cap ≤ maxLen ∧
    ∀ j u, xs[j]? = some u → cur[o + j]? = some u

section
variable {w w' : World} {base : Nat} {e : TypeId} {v : Value} {xs : List Value} {P : Program}

theorem QueueAt.keep (h : QueueAt w base e v xs) (hk : ∀ b, base ≤ b → b < w.heap.size → (∃ cur, w.heap[b]? = some (.cells cur e (0, 0))) → w'.heap[b]? = w.heap[b]?) : QueueAt w' base e v xs := by
  obtain ⟨b, o, cap, cur, hv, hb, hh, h1⟩ := h
  exact ⟨b, o, cap, cur, hv, hb, (hk b hb (Array.getElem?_eq_some_iff.1 hh).1 ⟨cur, hh⟩).trans hh, h1⟩

theorem setCells_far (b : Nat) : ∀ (vs : List Value) (o : Nat) (w : World) (k : Nat), k ≠ b → (w.setCells b o vs).heap[k]? = w.heap[k]?
  | [], _, _, _, _ => rfl
  | v :: r, o, w, k, h => by
    rw [World.setCells, setCells_far b r (o + 1) _ k h]
    exact Below.heap_setCell _ _ _ _ h

/-- append of one value -/
theorem run_append_queue (t ty : TypeId) (i : TypeInfo) (z : Value) (bytes : Nat) (ht : P.underlying t = some (.slice e)) (hi : P.info? e = some i) (hz : i.zero = some z)
    (hsize : i.size = 1) (hby : i.bytes = bytes) (hzs : z.cells.size = 1) (hq : QueueAt w base e v xs) (ad : Addr) (c : Nat) (u : Value) (hu : w.cell? ad = some u) (h1 : u.oneCell' = true)
    (hs : xs.length < 1099511627776) (hb8 : bytes ≤ 64) (hbase : base ≤ w.heap.size) :
    ∃ v' w', (Builtin.append_ #[t, t] ty #[v, .slice (some ad) 1 c]).run P w = .ok v' w' ∧ QueueAt w' base e v' (xs ++ [u]) ∧ w.grownBy w' v.ownBlock := by
  obtain ⟨b, o, cap, cur, rfl, hb, hh, h2, h3, h4, h5⟩ := hq
  have hnews : ∀ j u', [u][j]? = some u' → w.cell? (ad.add j) = some u' := by
    intro j u' hj
    match j, hj with
    | 0, hj => injection hj with hj; subst hj; simpa [Addr.add] using hu
  have hone : ∀ u' ∈ [u], u'.oneCell' = true := by intro u' h; simp at h; rw [h]; exact h1
  have hcell : ∀ j, w.cell? ⟨b, j, none⟩ = cur[j]? := fun j => by simp [World.cell?, hh]
  have hfro : ∀ j, w.frozen? ⟨b, j, none⟩ = false := fun j => by simp [World.frozen?, hh]
  by_cases hr : xs.length + 1 ≤ cap
  · have hrun := run_append_room_cells (P := P) w t ty e i ht hi b o xs.length cap ad 1 c [u] (by simp [hsize]) hnews hone hr
      (fun j hj => by simp at hj; rw [hsize, hcell]; simp; omega) (fun j _ => hfro _)
    rw [hsize, Nat.mul_one] at hrun
    refine ⟨_, _, hrun, ⟨b, o, cap, cur.setIfInBounds (o + xs.length) u, by simp, hb, ?_, by simpa using h2, by simpa using hr, h4, fun j u' hj => ?_⟩, ?_⟩
    · simp [World.setCells, World.setCell, Array.getElem?_modify, hh]
    · rcases Nat.lt_or_ge j xs.length with hlt | hge
      · rw [List.getElem?_append_left hlt] at hj
        rw [Array.getElem?_setIfInBounds_ne (by omega)]
        exact h5 j u' hj
      · have hj' : j = xs.length := by
          have := (List.getElem?_eq_some_iff.1 hj).1
          simp at this; omega
        subst hj'
        simp at hj
        subst hj
        rw [Array.getElem?_setIfInBounds_self_of_lt (by omega)]
    · refine ⟨rfl, rfl, rfl, by simp [World.setCells, World.setCell], fun k _ hk => setCells_far b _ _ _ _ (fun e => hk (by simp [Value.ownBlock, e]))⟩
  · obtain ⟨v', w', hrun, r1, r2⟩ := run_append_arg_grows (P := P) w t ty e i z 1 bytes ht hi hz hsize hby hzs (by decide) ⟨b, o, none⟩ xs.length cap xs (by simp)
      (fun j u' hj => by rw [Addr.add_lit, hcell]; exact h5 j u' hj) ad 1 c [u] (by simp) hnews (by omega) (by unfold maxLen; omega)
      (by
        have : (xs.length + 1) * bytes ≤ 1099511627776 * 64 := Nat.mul_le_mul (by omega) hb8
        omega)
    refine ⟨v', w', hrun, ?_, ⟨r2.os, r2.tape, r2.output, r2.size, fun k hk _ => r2.block k hk (by simp)⟩⟩
    rcases r1.2 with ⟨_, h0⟩ | ⟨g, cap', cur', hv', hg, hh', hn', hm', hc', ht'⟩
    · omega
    · refine ⟨g, 0, cap', cur', by rw [hv']; simp, Nat.le_trans hbase hg, hh', by omega, by simp; omega, hm', fun j u' hj => ?_⟩
      rw [← ht'] at hj
      rw [List.getElem?_take] at hj
      split at hj
      · simpa using hj
      · cases hj

/-- the first one taken away: 'q[1:]' -/
theorem QueueAt.tail {u : Value} {b o cap n : Nat} (h : QueueAt w base e (.slice (some ⟨b, o, none⟩) n cap) (u :: xs)) :
    QueueAt w base e (.slice (if cap = 1 then some ⟨b, o, none⟩ else some ⟨b, o + 1, none⟩) (n - 1) (cap - 1)) xs := by
  obtain ⟨b', o', cap', cur, hv, hb, hh, h2, h3, h4, h5⟩ := h
  injection hv with e1 e2 e3
  injection e1 with e1
  injection e1 with e1 e4 _
  subst e1; subst e4; subst e3
  simp at h3 e2
  by_cases hc : cap = 1
  · have hx : xs = [] := List.eq_nil_of_length_eq_zero (by omega)
    subst hx
    exact ⟨b, o, cap - 1, cur, by simp [hc, e2], hb, hh, by omega, by simp, by unfold maxLen at *; omega, by simp⟩
  · refine ⟨b, o + 1, cap - 1, cur, by simp [hc, e2], hb, hh, by omega, by omega, by unfold maxLen at *; omega, fun j u' hj => ?_⟩
    have := h5 (j + 1) u' (by simpa using hj)
    rw [← this]; congr 1; omega

theorem QueueAt.first {u : Value} {b o cap n : Nat} (h : QueueAt w base e (.slice (some ⟨b, o, none⟩) n cap) (u :: xs)) : w.cell? ⟨b, o, none⟩ = some u ∧ b < w.heap.size ∧ base ≤ b := by
  obtain ⟨b', o', cap', cur, hv, hb, hh, h2, h3, h4, h5⟩ := h
  injection hv with e1 e2 e3
  injection e1 with e1
  injection e1 with e1 e4 _
  subst e1; subst e4; subst e3
  exact ⟨by have := h5 0 u rfl; simpa [World.cell?, hh] using this, (Array.getElem?_eq_some_iff.1 hh).1, hb⟩

theorem QueueAt.form (h : QueueAt w base e v xs) : ∃ b o cap, v = .slice (some ⟨b, o, none⟩) xs.length cap ∧ xs.length ≤ cap ∧ cap ≤ maxLen := by
  obtain ⟨b, o, cap, cur, hv, hb, hh, h2, h3, h4, h5⟩ := h
  exact ⟨b, o, cap, hv, h3, h4⟩

theorem QueueAt.own (h : QueueAt w base e v xs) {b : Nat} (hb : v.ownBlock = some b) : base ≤ b := by
  obtain ⟨b', o, cap, cur, rfl, h1, _⟩ := h
  injection hb with hb
  subst hb; exact h1

theorem QueueAt.one (w : World) (base : Nat) (e : TypeId) (u : Value) (hb : base ≤ w.heap.size) : QueueAt (w.alloc (.cells #[u] e)) base e (.slice (some ⟨w.heap.size, 0, none⟩) 1 1) [u] :=
  ⟨w.heap.size, 0, 1, #[u], rfl, hb, heap_alloc_new w _, by simp, by simp, by unfold maxLen; omega, fun j u' hj => by
    match j, hj with
    | 0, hj => simpa using hj⟩
end

/-- at the operation -/
theorem wpListIn_append_queue {F : Fence} {nF : Nat} {P : Program} (w : World) {ops : Array Oper} {rest : List Oper} {o : Oper} {a : Act} {Q : Exit → Act → World → Prop}
    (hg : o.guard = none) (s x : Operand) (t : TypeId) (hop : o.op = Op.call { callee := Callee.builtin Builtin.append, args := #[s, x], argTypes := #[t, t] })
    (base : Nat) (e : TypeId) (i : TypeInfo) (z : Value) (bytes : Nat) (ht : P.underlying t = some (.slice e)) (hi : P.info? e = some i) (hz : i.zero = some z)
    (hsize : i.size = 1) (hby : i.bytes = bytes) (hzs : z.cells.size = 1) (v : Value) (xs : List Value) (hs : a.eval s = v) (hq : QueueAt w base e v xs) (ad : Addr) (c : Nat) (u : Value) (hx : a.eval x = .slice (some ad) 1 c) (hu : w.cell? ad = some u) (h1 : u.oneCell' = true)
    (hl : xs.length < 1099511627776) (hb8 : bytes ≤ 64) (hbase : base ≤ w.heap.size)
    (hK : ∀ v' w', QueueAt w' base e v' (xs ++ [u]) → w.grownBy w' v.ownBlock → wpListIn F nF P ops Q rest (a.put o.dst v') w') : wpListIn F nF P ops Q (o :: rest) a w := by
  refine wpListIn_plain hg fun K hK' => ?_
  obtain ⟨v', w', hrun, r1, r2⟩ := run_append_queue (P := P) t o.type i z bytes ht hi hz hsize hby hzs hq ad c u hu h1 hl hb8 hbase
  unfold Oper.wpIn
  refine ⟨?_, ?_⟩
  · simp [Oper.about, hop, resolve, Target.leads, Sem.run_pure]
  · rw [Oper.semAt_plain F _ _ (by rw [hop]; intro c hc'; cases hc')]
    simp [execOp, hop, resolve, invoke, builtin, hs, hx, hrun, Result.andThen]
    exact hK' _ _ (hK v' w' r1 r2)

end Go.Proofs.YtpeafheljcjlhaaGreat
