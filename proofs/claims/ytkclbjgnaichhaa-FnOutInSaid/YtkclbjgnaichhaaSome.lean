/- The reader of drawn bytes: a net that is mostly valid: what stays while it is drawn. -/
import Derived.Test.YtkclbjgnaichhaaGood
import Derived.Deep.RegionHeld3
import Derived.Laws.CopyRow
import Derived.Laws.OwnMore
namespace Go.Proofs.Ytkclbjgnaichhaa
open Go.RowKit

/-- what lies while a net is turned: the reader, the net in its block -/
structure SomeSt (w : World) (R M V : Nat) (A : Option Addr) (cap : Nat) (xs : List UInt8) (B : ByteArray) (A' : Option Addr) (cap' : Nat) (es : List (ByteArray × ByteArray)) (q : Nat) (W : World) : Prop where
  rd : ∃ p', p' ≤ q ∧ Rd W R M A cap xs p'
  net0 : W.cell? ⟨V, 0, none⟩ = some (.string B)
  net1 : W.cell? ⟨V, 1, none⟩ = some (.slice A' es.length cap')
  edges : EdgesIn W W.heap.size A' es
  grown : w.grownBy W (some R)
  lowR : R < w.heap.size
  lowV : w.heap.size ≤ V
  ltV : V < W.heap.size
section
variable {w : World} {R M V : Nat} {A : Option Addr} {cap : Nat} {xs : List UInt8} {B : ByteArray} {A' : Option Addr} {cap' : Nat} {es : List (ByteArray × ByteArray)} {q : Nat} {W W' : World}
theorem SomeSt.below (h : SomeSt w R M V A cap xs B A' cap' es q W) (k : Below W.heap.size W W') : SomeSt w R M V A cap xs B A' cap' es q W' := by
  obtain ⟨p', hp, hr⟩ := h.rd
  refine ⟨⟨p', hp, hr.below k (Nat.lt_of_lt_of_le h.lowR h.grown.size)⟩, (k.cell h.ltV).trans h.net0, (k.cell h.ltV).trans h.net1, (h.edges.below k).more k.size, grown_below h.grown k, h.lowR, h.lowV, Nat.lt_of_lt_of_le h.ltV k.size⟩
theorem SomeSt.alloc (h : SomeSt w R M V A cap xs B A' cap' es q W) (o : Obj) : SomeSt w R M V A cap xs B A' cap' es q (W.alloc o) := h.below ((Below.refl _ _).alloc (Nat.le_refl _) _)
theorem SomeSt.drew (h : SomeSt w R M V A cap xs B A' cap' es q W) : SomeSt w R M V A cap xs B A' cap' es q W.drew := h.below (Below.refl _ _).drew
/-- texts that were laid for a draw -/
structure StrsAt (w0 : Nat) (X : Nat) (ts : List ByteArray) (W : World) : Prop where
  lo : w0 ≤ X
  lt : X < W.heap.size
  cells : ∀ i, (h : i < ts.length) → W.cell? ⟨X, i, none⟩ = some (.string ts[i])
theorem StrsAt.below {w0 X : Nat} {ts : List ByteArray} (h : StrsAt w0 X ts W) (k : Below W.heap.size W W') : StrsAt w0 X ts W' :=
  ⟨h.lo, Nat.lt_of_lt_of_le h.lt k.size, fun i hi => (k.cell h.lt).trans (h.cells i hi)⟩
theorem StrsAt.alloc {w0 X : Nat} {ts : List ByteArray} (h : StrsAt w0 X ts W) (o : Obj) : StrsAt w0 X ts (W.alloc o) := h.below ((Below.refl _ _).alloc (Nat.le_refl _) _)
theorem StrsAt.drew {w0 X : Nat} {ts : List ByteArray} (h : StrsAt w0 X ts W) : StrsAt w0 X ts W.drew := h.below (Below.refl _ _).drew
theorem StrsAt.of {w0 X : Nat} {ts : List ByteArray} (h : StrsAt w0 X ts W) (k : W.grownBy W' (some R)) (hR : R < w0) : StrsAt w0 X ts W' :=
  ⟨h.lo, Nat.lt_of_lt_of_le h.lt k.size, fun i hi => (World.cell?_of_block (k.block X h.lt (by intro e; injection e with e; have := h.lo; omega))).trans (h.cells i hi)⟩
theorem StrsAt.made {w0 : Nat} (ts : List ByteArray) (h : w0 ≤ W.heap.size) : StrsAt w0 W.heap.size ts (W.alloc (.cells (ts.map Value.string).toArray 9)) :=
  ⟨h, by simp, fun i hi => strs_cells W ts i hi⟩
/-- a text is drawn of some: what lies stays -/
theorem of_some {X c : Nat} (ts : List ByteArray) (h : SomeSt w R M V A cap xs B A' cap' es q W) (hx : StrsAt w.heap.size X ts W) (hq : q ≤ 100000) (h1 : 1 ≤ ts.length) (h2 : ts.length ≤ 1000) (n : Nat) (hn : n = ts.length) :
    Calls Try.prog 56 #[.pointer (some ⟨R, 0, none⟩), .slice (some ⟨X, 0, none⟩) n c] W
      fun e w' => DrawnT ts e ∧ SomeSt w R M V A cap xs B A' cap' es (q + 1) w' ∧ W.grownBy w' (some R) := by
  subst hn
  obtain ⟨p', hp, hr⟩ := h.rd
  refine (of_any R M A cap xs p' X c ts W hr (by omega) h1 h2 (by have := hx.lo; have := h.lowR; omega) hx.lt hx.cells).mono ?_
  rintro e w' ⟨hd, hr', hg⟩
  have hV : ∀ i, w'.cell? ⟨V, i, none⟩ = W.cell? ⟨V, i, none⟩ := fun i => World.cell?_of_block (hg.block V h.ltV (by intro e; injection e with e; have := h.lowR; have := h.lowV; omega))
  exact ⟨hd, ⟨⟨p' + 1, by omega, hr'⟩, (hV 0).trans h.net0, (hV 1).trans h.net1, edges_set h.edges hr.row (fun s e => by simp at e) hg, grown_trans h.grown hg, h.lowR, h.lowV, Nat.lt_of_lt_of_le h.ltV hg.size⟩, hg⟩
/-- a row without cells -/
structure NoneAt (w0 g : Nat) (W : World) : Prop where
  lo : w0 ≤ g
  lies : W.heap[g]? = some (.cells #[] 46 (0, 0))
theorem NoneAt.below {w0 g : Nat} (h : NoneAt w0 g W) (k : Below W.heap.size W W') : NoneAt w0 g W' := ⟨h.lo, (k.block g (Array.getElem?_eq_some_iff.1 h.lies).1).trans h.lies⟩
theorem NoneAt.alloc {w0 g : Nat} (h : NoneAt w0 g W) (o : Obj) : NoneAt w0 g (W.alloc o) := h.below ((Below.refl _ _).alloc (Nat.le_refl _) _)
theorem NoneAt.drew {w0 g : Nat} (h : NoneAt w0 g W) : NoneAt w0 g W.drew := h.below (Below.refl _ _).drew
theorem NoneAt.of {w0 g : Nat} (h : NoneAt w0 g W) (k : W.grownBy W' (some R)) (hR : R < w0) : NoneAt w0 g W' :=
  ⟨h.lo, (k.block g (Array.getElem?_eq_some_iff.1 h.lies).1 (by intro e; injection e with e; have := h.lo; omega)).trans h.lies⟩
theorem NoneAt.made {w0 : Nat} (h : w0 ≤ W.heap.size) : NoneAt w0 W.heap.size (W.alloc (.cells #[] 46)) := ⟨h, heap_alloc_new W _⟩
/-- edges in a row of the call's own -/
structure OwnAt (w0 : Nat) (v : Value) (es : List (ByteArray × ByteArray)) (W : World) : Prop where
  own : W.ownsRow w0 46 2 v es.length (cellsD es)
theorem ownsRow_blockD {w w' : World} {base : Nat} {e : TypeId} {size : Nat} {v : Value} {n : Nat} {xs : List Value} (h : w.ownsRow base e size v n xs) (hk : ∀ b, v.ownBlock = some b → w'.heap[b]? = w.heap[b]?) : w'.ownsRow base e size v n xs := by
  refine ⟨h.1, ?_⟩
  rcases h.2 with h0 | ⟨g, cap, cur, rfl, hb, hh, h1⟩
  · exact .inl h0
  · exact .inr ⟨g, cap, cur, rfl, hb, (hk g rfl).trans hh, h1⟩
theorem OwnAt.below {w0 : Nat} {v : Value} (h : OwnAt w0 v es W) (k : Below W.heap.size W W') : OwnAt w0 v es W' := ⟨ownsRow_blockD h.own fun b hb => k.block b (h.own.lt b hb).2⟩
theorem OwnAt.alloc {w0 : Nat} {v : Value} (h : OwnAt w0 v es W) (o : Obj) : OwnAt w0 v es (W.alloc o) := h.below ((Below.refl _ _).alloc (Nat.le_refl _) _)
theorem OwnAt.drew {w0 : Nat} {v : Value} (h : OwnAt w0 v es W) : OwnAt w0 v es W.drew := h.below (Below.refl _ _).drew
theorem OwnAt.of {w0 : Nat} {v : Value} (h : OwnAt w0 v es W) (k : W.grownBy W' (some R)) (hR : R < w0) : OwnAt w0 v es W' :=
  ⟨ownsRow_blockD h.own fun b hb => k.block b (h.own.lt b hb).2 (by intro e; injection e with e; have := (h.own.lt b hb).1; omega)⟩
theorem cellsD_at : ∀ {es : List (ByteArray × ByteArray)} {j : Nat} {u : Value}, (cellsD es)[j]? = some u → ∃ k, ∃ h : k < es.length, (j = k * 2 ∧ u = .string es[k].1) ∨ (j = k * 2 + 1 ∧ u = .string es[k].2)
  | [], j, u, h => by simp [cellsD] at h
  | e :: es, 0, u, h => by
    refine ⟨0, by simp, .inl ⟨rfl, ?_⟩⟩
    have : (cellsD (e :: es))[0]? = some (.string e.1) := rfl
    rw [this] at h; injection h with h; exact h.symm
  | e :: es, 1, u, h => by
    refine ⟨0, by simp, .inr ⟨rfl, ?_⟩⟩
    have : (cellsD (e :: es))[1]? = some (.string e.2) := rfl
    rw [this] at h; injection h with h; exact h.symm
  | e :: es, j + 2, u, h => by
    have e2 : cellsD (e :: es) = .string e.1 :: .string e.2 :: cellsD es := rfl
    rw [e2] at h
    obtain ⟨k, hk, h'⟩ := cellsD_at (es := es) (j := j) (u := u) (by simpa using h)
    refine ⟨k + 1, by simpa using hk, ?_⟩
    rcases h' with ⟨h1, h2⟩ | ⟨h1, h2⟩
    · exact .inl ⟨by omega, by rw [h2]; simp⟩
    · exact .inr ⟨by omega, by rw [h2]; simp⟩
theorem cellsD_len (es : List (ByteArray × ByteArray)) : (cellsD es).length = es.length * 2 := by
  induction es with
  | nil => rfl
  | cons e es ih =>
    have e2 : cellsD (e :: es) = .string e.1 :: .string e.2 :: cellsD es := rfl
    rw [e2]; simp [ih]; omega
theorem cellsD_one (es : List (ByteArray × ByteArray)) : ∀ u ∈ cellsD es, u.oneCell' = true := by
  intro u hu
  obtain ⟨e, _, he⟩ := List.mem_flatMap.1 hu
  simp at he
  rcases he with rfl | rfl <;> rfl
/-- edges put to a row without cells: nothing older is written -/
theorem first_append {P : Program} {w0 g c : Nat} (t ty : TypeId) (i : TypeInfo) (z : Value) (ht : P.underlying t = some (.slice 46)) (hi : P.info? 46 = some i) (hz : i.zero = some z) (hs : i.size = 2) (hb : i.bytes = 32) (hzs : z.cells.size = 2) (hg : NoneAt w0 g W) (hE : EdgesIn W W.heap.size A' es) (h17 : es.length ≤ 17) (h0 : w0 ≤ W.heap.size) :
    ∃ v' w', (Builtin.append_ #[t, t] ty #[.slice (some ⟨g, 0, none⟩) 0 0, .slice A' es.length c]).run P W = .ok v' w' ∧ OwnAt w0 v' es w' ∧ Below W.heap.size W w' := by
  have hown0 : W.ownsRow w0 46 2 (.slice (some ⟨g, 0, none⟩) 0 0) 0 [] := ⟨rfl, .inr ⟨g, 0, #[], rfl, hg.lo, hg.lies, Nat.le_refl _, by unfold maxLen; omega, rfl, rfl⟩⟩
  cases A' with
  | none =>
    have h00 : es = [] := by
      cases es with
      | nil => rfl
      | cons e es => obtain ⟨b, o, h, _⟩ := hE 0 (by simp); cases h
    subst h00
    refine ⟨.slice (some ⟨g, 0, none⟩) 0 0, W, ?_, ⟨hown0⟩, Below.refl _ _⟩
    simp [Builtin.append_, run_underlying ht, sizeOf, typeInfo, hi, Builtin.lenOf, Builtin.firstCells, storeCells]
  | some ad =>
    have hnews : ∀ j u, (cellsD es)[j]? = some u → W.cell? (ad.add j) = some u := fun j u hj => by
      obtain ⟨k, hk, h⟩ := cellsD_at hj
      obtain ⟨b, o, e, _, h1, h2⟩ := hE k hk
      injection e with e
      subst e
      have ha : (⟨b, o, none⟩ : Addr).add j = ⟨b, o + j, none⟩ := by unfold Addr.add; split <;> simp_all
      rw [ha]
      rcases h with ⟨rfl, rfl⟩ | ⟨rfl, rfl⟩
      · exact h1
      · exact h2
    by_cases h00 : es.length = 0
    · have hes : es = [] := List.length_eq_zero_iff.1 h00
      subst hes
      have hr := run_append_room (P := P) W t ty 46 i ht hi g 0 0 #[] hg.lies ad 0 c [] (by simp) (by simp) (by simp) (by omega) (by simp)
      have e0 := setRow_self W g #[] 46 (0, 0) hg.lies
      refine ⟨.slice (some ⟨g, 0, none⟩) 0 0, W, ?_, ⟨hown0⟩, Below.refl _ _⟩
      simp [e0] at hr
      simpa using hr
    · obtain ⟨v', w', hr, h2, h3, -⟩ := run_append_own (P := P) W w0 t ty 46 i z 2 32 ht hi hz hs hb hzs (by omega) _ 0 [] hown0 ad es.length c (cellsD es) (cellsD_len es) hnews (cellsD_one es) (by unfold maxLen; omega) (by omega) h0
      refine ⟨v', w', hr, ⟨by simpa using h2⟩, ?_⟩
      have hr2 := run_append_grow (P := P) W t ty 46 i z ht hi hz ⟨g, 0, none⟩ 0 0 [] (by simp) (by simp) ad es.length c (cellsD es) (by rw [cellsD_len, hs]) hnews (by omega) (by omega) (by rw [hb]; exact growslice_fits (by omega) (by omega))
      rw [hr2] at hr
      injection hr with e4 e5
      subst e5
      exact (Below.refl _ _).drew.alloc (by simp) _
/-- the same, where a region draws its order -/
theorem step_first {P : Program} {w0 g c : Nat} {ops : Array Oper} {o : Oper} {a : Act} {K : Act → World → Prop} {Q : Exit → Act → World → Prop} {E : Prop} (hgd : o.guard = none) (s x : Operand) (t : TypeId)
    (ho : o.op = .call { callee := .builtin .append, args := #[s, x], argTypes := #[t, t] })
    (i : TypeInfo) (z : Value) (ht : P.underlying t = some (.slice 46)) (hi : P.info? 46 = some i) (hz : i.zero = some z) (hs : i.size = 2) (hb : i.bytes = 32) (hzs : z.cells.size = 2)
    (hv : a.eval s = .slice (some ⟨g, 0, none⟩) 0 0) (hx : a.eval x = .slice A' es.length c) (hg : NoneAt w0 g W) (hE : EdgesIn W W.heap.size A' es) (h17 : es.length ≤ 17) (h0 : w0 ≤ W.heap.size)
    (h : ∀ v' w', OwnAt w0 v' es w' → Below W.heap.size W w' → K (a.put o.dst v') w') :
    if Region.wanted o (yielded ops a.tmps) = true then Oper.wp P o a W K Q else E := by
  have hw : Region.wanted o (yielded ops a.tmps) = true := by simp [Region.wanted, hgd]
  rw [if_pos hw]
  obtain ⟨v', w', hr, h2, h3⟩ := first_append (P := P) (c := c) t o.type i z ht hi hz hs hb hzs hg hE h17 h0
  unfold Oper.wp execOp
  simp only [ho, resolve, invoke, builtin, Sem.run_bind, Sem.run_pure, Result.andThen_ok, List.map_toArray, List.map_cons, List.map_nil, hv, hx, hr]
  exact h v' w' h2 h3
end

end Go.Proofs.Ytkclbjgnaichhaa
