/- A net as nodes in memory. -/
import Derived.Test.YtpeafheljcjlhaaGreatMath
import Derived.Test.YtpeafheljcjlhaaGreatRegion
import Derived.Deep.OwnRows
import Derived.Maps.AppendAt
import Derived.Deep.Draws
namespace Go.Proofs.YtpeafheljcjlhaaGreat
open Go.RowKit

/-- a pointer to the node with an index; the nodes lie one behind the other, the first one in block h -/
def ptrN (h i : Nat) : Value := .pointer (some ⟨h + i, 0, none⟩)

/-- the nodes of blocks l: their pointers in block g, the nodes behind, block M is no part of it, rows of pointers behind M -/
structure NodesAt (g M : Nat) (w : World) (l : List UInt8) (E : Eds) (S : Nat → List Nat) (V : Nat → Value) : Prop where
  ptrs : w.rowIs g 123 l.length (ptrN (g + 1))
  node : ∀ i c, l[i]? = some c → w.rowIs (g + 1 + i) 138 2 (fun j => if j = 0 then .int .u8 c.toNat else V i)
  own : ∀ i, i < l.length → w.ownsRow (M + 1) 123 1 (V i) (S i).length ((S i).map (ptrN (g + 1)))
  apart : ∀ i j b, i < l.length → j < l.length → i ≠ j → (V i).ownBlock = some b → (V j).ownBlock ≠ some b
  succ : ∀ i x, l[i]? = some x → ∀ j, j ∈ S i ↔ ∃ y, l[j]? = some y ∧ ([x], [y]) ∈ E
  len : ∀ i, i < l.length → (S i).length ≤ E.length
  mid : M = g + 1 + l.length

section
variable {g M : Nat} {w w' : World} {l : List UInt8} {E : Eds} {S : Nat → List Nat} {V : Nat → Value}

theorem ownsRow_of_block {w w' : World} {base : Nat} {e : TypeId} {size : Nat} {v : Value} {n : Nat} {xs : List Value} (h : w.ownsRow base e size v n xs) (hk : ∀ b, v.ownBlock = some b → w'.heap[b]? = w.heap[b]?) : w'.ownsRow base e size v n xs := by
  refine ⟨h.1, ?_⟩
  rcases h.2 with h0 | ⟨g, cap, cur, rfl, hb, hh, h1⟩
  · exact .inl h0
  · exact .inr ⟨g, cap, cur, rfl, hb, (hk g rfl).trans hh, h1⟩

theorem ownBlock_lt {w : World} {base : Nat} {e : TypeId} {size : Nat} {v : Value} {n : Nat} {xs : List Value} (h : w.ownsRow base e size v n xs) {b : Nat} (hb : v.ownBlock = some b) : base ≤ b ∧ b < w.heap.size := h.lt b hb

/-- what is behind g and is not M has been kept -/
theorem NodesAt.keep (h : NodesAt g M w l E S V) (hk : ∀ b, g ≤ b → b < w.heap.size → b ≠ M → w'.heap[b]? = w.heap[b]?) : NodesAt g M w' l E S V where
  ptrs := h.ptrs.of_block (hk _ (Nat.le_refl _) h.ptrs.lt (by have := h.mid; omega))
  node i c hc := by
    have hi : i < l.length := (List.getElem?_eq_some_iff.1 hc).1
    exact (h.node i c hc).of_block (hk _ (by omega) (h.node i c hc).lt (by have := h.mid; omega))
  own i hi := ownsRow_of_block (h.own i hi) (fun b hb => by
    obtain ⟨h1, h2⟩ := ownBlock_lt (h.own i hi) hb
    exact hk b (by have := h.mid; omega) h2 (by omega))
  apart := h.apart
  succ := h.succ
  len := h.len
  mid := h.mid

theorem NodesAt.skip (h : NodesAt g M w l E S V) {x y : UInt8} (he : ([x], [y]) ∈ E) : NodesAt g M w l (E ++ [([x], [y])]) S V where
  ptrs := h.ptrs
  node := h.node
  own := h.own
  apart := h.apart
  succ i z hz j := by
    rw [h.succ i z hz j]
    constructor
    · rintro ⟨t, ht, hm⟩; exact ⟨t, ht, List.mem_append_left _ hm⟩
    · rintro ⟨t, ht, hm⟩
      rcases List.mem_append.1 hm with hm | hm
      · exact ⟨t, ht, hm⟩
      · simp at hm; obtain ⟨rfl, rfl⟩ := hm; exact ⟨_, ht, he⟩
  len i hi := by have := h.len i hi; simp; omega
  mid := h.mid

/-- a pointer has been put to the row of one node -/
theorem NodesAt.step (h : NodesAt g M w l E S V) (hn : l.Nodup) {a b : Nat} {x y : UInt8} (ha : l[a]? = some x) (hb : l[b]? = some y) {v : Value} {w1 : World}
    (hown : w1.ownsRow (M + 1) 123 1 v ((S a).length + 1) ((S a).map (ptrN (g + 1)) ++ [ptrN (g + 1) b]))
    (hat : v.ownBlock = (V a).ownBlock ∨ ∃ f, v.ownBlock = some f ∧ w.heap.size ≤ f)
    (hk : ∀ c, g ≤ c → c < w.heap.size → c ≠ M → some c ≠ (V a).ownBlock → w1.heap[c]? = w.heap[c]?)
    (hw' : w' = w1.setCell ⟨g + 1 + a, 1, none⟩ v) :
    NodesAt g M w' l (E ++ [([x], [y])]) (fun i => if i = a then S a ++ [b] else S i) (fun i => if i = a then v else V i) := by
  have hal : a < l.length := (List.getElem?_eq_some_iff.1 ha).1
  have hbl : b < l.length := (List.getElem?_eq_some_iff.1 hb).1
  have hm := h.mid
  have hvlow : ∀ f, v.ownBlock = some f → M + 1 ≤ f := fun f hf => (ownBlock_lt hown hf).1
  have hrow : ∀ i f, i < l.length → (V i).ownBlock = some f → M + 1 ≤ f := fun i f hi hf => (ownBlock_lt (h.own i hi) hf).1
  have hkn : ∀ i, i < l.length → w1.heap[g + 1 + i]? = w.heap[g + 1 + i]? := fun i hi => by
    obtain ⟨c, hc⟩ : ∃ c, l[i]? = some c := ⟨_, List.getElem?_eq_getElem hi⟩
    exact hk _ (by omega) (h.node i c hc).lt (by omega) (fun e => by have := hrow a _ hal e.symm; omega)
  have hset : ∀ c, c ≠ g + 1 + a → w'.heap[c]? = w1.heap[c]? := fun c hc => by rw [hw']; exact Below.heap_setCell _ _ _ _ hc
  subst hw'
  refine ⟨?_, fun i c hc => ?_, fun i hi => ?_, fun i j f hi hj hij he => ?_, fun i z hz j => ?_, fun i hi => ?_, hm⟩
  · exact (h.ptrs.of_block (hk g (Nat.le_refl _) h.ptrs.lt (by omega) (fun e => by have := hrow a _ hal e.symm; omega))).of_block (hset g (by omega))
  · have hi : i < l.length := (List.getElem?_eq_some_iff.1 hc).1
    have h1 := (h.node i c hc).of_block (hkn i hi)
    by_cases hia : i = a
    · subst hia
      refine (h1.set 1 v).congr fun j hj => ?_
      by_cases hj0 : j = 0
      · simp [hj0]
      · have : j = 1 := by omega
        simp [this]
    · have h2 := h1.setOther (a := ⟨g + 1 + a, 1, none⟩) (by simp only; omega) v
      refine h2.congr fun j _ => ?_
      simp [hia]
  · by_cases hia : i = a
    · subst hia
      simp only [if_true, List.length_append, List.length_singleton, List.map_append, List.map_cons, List.map_nil]
      exact ownsRow_of_block hown (fun f hf => hset f (by have := hvlow f hf; omega))
    · simp only [hia, if_false]
      refine ownsRow_of_block (h.own i hi) (fun f hf => ?_)
      have hlt := (ownBlock_lt (h.own i hi) hf)
      exact (hset f (by omega)).trans (hk f (by omega) hlt.2 (by omega) (fun e => h.apart i a f hi hal hia hf e.symm))
  · by_cases hia : i = a
    · have hja : j ≠ a := fun e => hij (hia.trans e.symm)
      simp only [hia, if_true] at he
      simp only [hja, if_false]
      intro hjf
      rcases hat with e | ⟨f', e, hf'⟩
      · rw [e] at he
        exact h.apart a j f hal hj (fun e => hja e.symm) he hjf
      · rw [e] at he
        injection he with he
        have := (ownBlock_lt (h.own j hj) hjf).2
        omega
    · simp only [hia, if_false] at he
      by_cases hja : j = a
      · simp only [hja, if_true]
        intro hjf
        rcases hat with e | ⟨f', e, hf'⟩
        · rw [e] at hjf
          exact h.apart i a f hi hal hia he hjf
        · rw [e] at hjf
          injection hjf with hjf
          have := (ownBlock_lt (h.own i hi) he).2
          omega
      · simp only [hja, if_false]
        exact h.apart i j f hi hj hij he
  · have inj : ∀ {p q : Nat} {c : UInt8}, l[p]? = some c → l[q]? = some c → p = q := fun {p q c} hp hq => by
      have hpl : p < l.length := (List.getElem?_eq_some_iff.1 hp).1
      exact (List.getElem?_inj hpl hn).1 (hp.trans hq.symm)
    by_cases hia : i = a
    · subst hia
      have hzx : z = x := by rw [ha] at hz; injection hz with hz; exact hz.symm
      subst hzx
      simp only [if_true, List.mem_append, List.mem_singleton, h.succ i z hz j]
      constructor
      · rintro (⟨t, ht, hm'⟩ | rfl)
        · exact ⟨t, ht, .inl hm'⟩
        · exact ⟨y, hb, .inr rfl⟩
      · rintro ⟨t, ht, hm' | hm'⟩
        · exact .inl ⟨t, ht, hm'⟩
        · injection hm' with _ e2
          injection e2 with e2
          subst e2
          exact .inr (inj ht hb)
    · simp only [hia, if_false, h.succ i z hz j, List.mem_append, List.mem_singleton]
      constructor
      · rintro ⟨t, ht, hm'⟩; exact ⟨t, ht, .inl hm'⟩
      · rintro ⟨t, ht, hm' | hm'⟩
        · exact ⟨t, ht, hm'⟩
        · injection hm' with e1 _
          injection e1 with e1
          subst e1
          exact absurd (inj hz ha) hia
  · by_cases hia : i = a
    · subst hia; have := h.len i hi; simp; omega
    · have := h.len i hi; simp [hia]; omega
end

end Go.Proofs.YtpeafheljcjlhaaGreat
