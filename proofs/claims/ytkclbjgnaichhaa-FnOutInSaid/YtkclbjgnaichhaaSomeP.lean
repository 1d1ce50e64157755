/- The reader of drawn bytes: a net that is mostly valid: what is handed back. -/
import Derived.Test.YtkclbjgnaichhaaSome
namespace Go.Proofs.Ytkclbjgnaichhaa
open Go.RowKit

/-- a net of bounded sizes -/
def FairNet (B : ByteArray) (es : List (ByteArray × ByteArray)) : Prop := B.size ≤ 16 ∧ es.length ≤ 18 ∧ ∀ e ∈ es, e.1.size ≤ 2 ∧ e.2.size ≤ 2
theorem SmallNet.fair {B : ByteArray} {es : List (ByteArray × ByteArray)} (h : SmallNet B es) : FairNet B es := ⟨h.1, Nat.le_succ_of_le h.2.1, h.2.2⟩
/-- what is handed back: some net of bounded sizes; the reader goes on -/
def SomePost (R M : Nat) (A : Option Addr) (cap : Nat) (xs : List UInt8) (p : Nat) (w : World) (e : Ending) (w' : World) : Prop :=
  (∃ B A' cap' es, e = .returned (.agg #[.string B, .slice A' es.length cap']) ∧ FairNet B es ∧ EdgesIn w' w'.heap.size A' es) ∧ (∃ p', p' ≤ p + 200 ∧ Rd w' R M A cap xs p') ∧ w.grownBy w' (some R)
/-- the result's variable -/
structure ResAt (U : Nat) (W : World) : Prop where
  row : ∃ f, W.rowIs U 25 2 f ∧ ∀ s, f 1 ≠ .string s
section
variable {w : World} {R M U V : Nat} {A : Option Addr} {cap : Nat} {xs : List UInt8} {B : ByteArray} {A' : Option Addr} {cap' : Nat} {es : List (ByteArray × ByteArray)} {p q : Nat} {W W' : World}
theorem ResAt.block (h : ResAt U W) (k : W'.heap[U]? = W.heap[U]?) : ResAt U W' := by
  obtain ⟨f, hr, hf⟩ := h.row
  exact ⟨f, hr.of_block k, hf⟩
theorem ResAt.lt (h : ResAt U W) : U < W.heap.size := by
  obtain ⟨f, hr, hf⟩ := h.row
  exact hr.lt
theorem ResAt.below (h : ResAt U W) (k : Below W.heap.size W W') : ResAt U W' := h.block (k.block U h.lt)
theorem ResAt.alloc (h : ResAt U W) (o : Obj) : ResAt U (W.alloc o) := h.below ((Below.refl _ _).alloc (Nat.le_refl _) _)
theorem ResAt.drew (h : ResAt U W) : ResAt U W.drew := h.below (Below.refl _ _).drew
theorem ResAt.of (h : ResAt U W) (k : W.grownBy W' (some R)) (hR : R < U) : ResAt U W' := h.block (k.block U h.lt (by intro e; injection e with e; omega))
/-- the net is stored where it is handed back from -/
theorem some_close (hres : ResAt w.heap.size W) (hE : EdgesIn W W.heap.size A' es) (hrd : ∃ p', p' ≤ p + 200 ∧ Rd W R M A cap xs p') (hg : w.grownBy W (some R)) (hR : R < w.heap.size) (hf : FairNet B es) (v0 v1 : Value) :
    SomePost R M A cap xs p w (.returned (.agg #[.string B, .slice A' es.length cap'])) ((W.setCell ⟨w.heap.size, 0, none⟩ v0).setCell ⟨w.heap.size, 1, none⟩ v1) := by
  obtain ⟨f, hr, hf1⟩ := hres.row
  have hg6 : W.grownBy ((W.setCell ⟨w.heap.size, 0, none⟩ v0).setCell ⟨w.heap.size, 1, none⟩ v1) (some w.heap.size) :=
    only_setCell_at (only_setCell_at (World.grownBy.refl W _))
  have hb6 : Below w.heap.size W ((W.setCell ⟨w.heap.size, 0, none⟩ v0).setCell ⟨w.heap.size, 1, none⟩ v1) := ((Below.refl _ _).setCell (by simp only; omega) _).setCell (by simp only; omega) _
  obtain ⟨p', hp, hrd⟩ := hrd
  exact ⟨⟨B, A', cap', es, rfl, hf, edges_set hE hr hf1 hg6⟩, ⟨p', hp, hrd.below hb6 hR⟩, grown_low hg hb6⟩
end

/-- behind the last append -/
structure After8 (w : World) (R M V : Nat) (B : ByteArray) (s1 : Value) (A : Option Addr) (cap : Nat) (xs : List UInt8) (q : Nat) (v : Value) (es : List (ByteArray × ByteArray)) (W : World) : Prop where
  rd : ∃ p', p' ≤ q ∧ Rd W R M A cap xs p'
  res : ResAt w.heap.size W
  form : ∃ g c, v = .slice (some ⟨g, 0, none⟩) es.length c
  edges : ∀ {g c : Nat}, v = .slice (some ⟨g, 0, none⟩) es.length c → EdgesIn W W.heap.size (some ⟨g, 0, none⟩) es
  grown : w.grownBy W (some R)
  net0 : W.cell? ⟨V, 0, none⟩ = some (.string B)
  net1 : W.cell? ⟨V, 1, none⟩ = some s1
theorem keep_set {W : World} {U V i : Nat} (h : U ≠ V) (a b : Value) : ((W.setCell ⟨U, 0, none⟩ a).setCell ⟨U, 1, none⟩ b).cell? ⟨V, i, none⟩ = W.cell? ⟨V, i, none⟩ := by
  rw [World.cell?_setCell_other _ _ _ _ (by intro e; injection e with e; exact h e), World.cell?_setCell_other _ _ _ _ (by intro e; injection e with e; exact h e)]
theorem cellsD_get : ∀ {es : List (ByteArray × ByteArray)} {i : Nat}, (hi : i < es.length) → (cellsD es)[i * 2]? = some (.string es[i].1) ∧ (cellsD es)[i * 2 + 1]? = some (.string es[i].2)
  | e :: es, 0, _ => ⟨rfl, rfl⟩
  | e :: es, i + 1, hi => by
    obtain ⟨h1, h2⟩ := cellsD_get (es := es) (i := i) (by simpa using hi)
    have e1 : (i + 1) * 2 = i * 2 + 2 := by omega
    have e2 : cellsD (e :: es) = .string e.1 :: .string e.2 :: cellsD es := rfl
    rw [e1, e2]
    exact ⟨h1, h2⟩
theorem after8 {w W W8 : World} {R M V : Nat} {A : Option Addr} {cap : Nat} {xs : List UInt8} {B : ByteArray} {A' : Option Addr} {cap' : Nat} {es : List (ByteArray × ByteArray)} {q : Nat} {v v8 : Value} {s t : ByteArray}
    (h : SomeSt w R M V A cap xs B A' cap' es q W) (hres : ResAt w.heap.size W) (hown : OwnAt (V + 1) v es W) (hg : W.grownBy W8 v.ownBlock) (ho : W8.ownsRow (V + 1) 46 2 v8 (es.length + 1) (cellsD es ++ [.string s, .string t])) : After8 w R M V B (.slice A' es.length cap') A cap xs q v8 (es ++ [(s, t)]) W8 := by
  have hne : ∀ k, k < V + 1 → some k ≠ v.ownBlock := fun k hk e => by have := (hown.own.lt k e.symm).1; omega
  have hbl : ∀ k, k < W.heap.size → k < V + 1 → W8.heap[k]? = W.heap[k]? := fun k h1 h2 => hg.block k h1 (hne k h2)
  obtain ⟨p', hp, hrd⟩ := h.rd
  have hR := h.lowR
  have hgs := h.grown.size
  rw [← cellsD_snoc es (s, t), show es.length + 1 = (es ++ [(s, t)]).length by simp] at ho
  have hl0 : 0 < (es ++ [(s, t)]).length := by simp
  have hlv := h.lowV; have hlt := h.ltV
  refine ⟨⟨p', hp, ?_⟩, hres.block (hbl _ hres.lt (by omega)), ?_, ?_, ?_, (World.cell?_of_block (hbl V hlt (by omega))).trans h.net0, (World.cell?_of_block (hbl V hlt (by omega))).trans h.net1⟩
  · refine ⟨hrd.row.of_block (hbl R (by omega) (by omega)), fun i hi => ?_, hrd.low, hrd.few⟩
    obtain ⟨b, o, e, hl, h1⟩ := hrd.bytes i hi
    have := hrd.low
    exact ⟨b, o, e, hl, (World.cell?_of_block (hbl b (by omega) (by omega))).trans h1⟩
  · obtain ⟨g, c, e, _⟩ := ho.form hl0
    exact ⟨g, c, e⟩
  · intro g c e k hk
    have hgl := (ho.lt g (by rw [e]; rfl)).2
    subst e
    have hc := ho.cells (g := g) rfl
    have ha : ∀ n, (⟨g, 0, none⟩ : Addr).add n = ⟨g, n, none⟩ := fun n => by unfold Addr.add; split <;> simp_all
    have q1 := hc (k * 2) _ (cellsD_get hk).1
    have q2 := hc (k * 2 + 1) _ (cellsD_get hk).2
    rw [ha] at q1 q2
    exact ⟨g, 0, rfl, hgl, by rw [Nat.zero_add]; exact q1, by rw [Nat.zero_add]; exact q2⟩
  · exact ⟨hg.os.trans h.grown.os, hg.tape.trans h.grown.tape, hg.output.trans h.grown.output, Nat.le_trans h.grown.size hg.size, fun b hb hne' => (hbl b (by omega) (by omega)).trans (h.grown.block b hb hne')⟩
theorem cells_two (W : World) (s t : ByteArray) : ∀ j u, [Value.string s, Value.string t][j]? = some u → (W.alloc (.cells #[.string s, .string t] 46)).cell? ((⟨W.heap.size, 0, none⟩ : Addr).add j) = some u := by
  intro j u hj
  match j, hj with
  | 0, hj => simp at hj; subst hj; simp [Addr.add]
  | 1, hj => simp at hj; subst hj; simp [Addr.add]
  | j + 2, hj => simp at hj
theorem ones_two (s t : ByteArray) : ∀ u ∈ [Value.string s, Value.string t], u.oneCell' = true := by
  intro u hu; simp at hu; rcases hu with rfl | rfl <;> rfl
theorem own_low {w W : World} {R M V : Nat} {A : Option Addr} {cap : Nat} {xs : List UInt8} {B : ByteArray} {A' : Option Addr} {cap' : Nat} {es : List (ByteArray × ByteArray)} {q : Nat} {o : Obj} (h : SomeSt w R M V A cap xs B A' cap' es q W) : V + 1 ≤ (W.alloc o).heap.size := by have := h.ltV; simp; omega

/-- what l1Some hands back, for every reader -/
def SomeCon : Prop := ∀ (R M : Nat) (A : Option Addr) (cap : Nat) (xs : List UInt8) (p : Nat) (w : World), Rd w R M A cap xs p → p ≤ 800 → R < w.heap.size →
  Calls Try.prog 27 #[.pointer (some ⟨R, 0, none⟩)] w (SomePost R M A cap xs p w)

end Go.Proofs.Ytkclbjgnaichhaa
