/- Cut nets: by the model. -/
import Derived.Test.YtpeafheljcjlhaaGreatZ8H
import Derived.Test.YtpeafheljcjlhaaGreatNetQ
import Derived.Test.YtpeafheljcjlhaaGreatAppend
import Derived.Test.YtpeafheljcjlhaaGreatMem
import Derived.Deep.RegionLaw
import Derived.Deep.RegionHeld3
namespace Go.Proofs.YtpeafheljcjlhaaGreat
open Go.RowKit
set_option linter.unusedVariables false
set_option linter.unusedSimpArgs false

/-- an edge of a cut net: its ends, what it is, its place in the net that is cut -/
abbrev CutEd := (ByteArray × ByteArray) × Nat × Nat

/-- an edge by its place -/
def eAt (es : List (ByteArray × ByteArray)) (i : Nat) : ByteArray × ByteArray := es.getD i (⟨#[]⟩, ⟨#[]⟩)
theorem eAt_at {es : List (ByteArray × ByteArray)} {i : Nat} (h : i < es.length) : eAt es i = es[i] := by simp [eAt, List.getD, h]

def keptX (es : List (ByteArray × ByteArray)) (is : List Nat) : List CutEd := is.map fun i => (eAt es i, 0, i)
def headX (en : ByteArray) (cs : List UInt8) : List CutEd := cs.map fun c => ((en, ⟨#[c]⟩), 1, 0)
def tailX (ex : ByteArray) (cs : List UInt8) : List CutEd := cs.map fun c => ((⟨#[c]⟩, ex), 2, 0)
/-- the places of edges that are kept, so many of them looked at -/
def keptI (B : ByteArray) (es : List (ByteArray × ByteArray)) (n : Nat) : List Nat := (List.range n).filter fun i => !backP B es i
theorem keptI_zero (B : ByteArray) (es : List (ByteArray × ByteArray)) : keptI B es 0 = [] := rfl
theorem keptI_yes {B : ByteArray} {es : List (ByteArray × ByteArray)} {n : Nat} (h : backP B es n = false) : keptI B es (n + 1) = keptI B es n ++ [n] := by
  simp [keptI, List.range_succ, List.filter_append, h]
theorem keptI_no {B : ByteArray} {es : List (ByteArray × ByteArray)} {n : Nat} (h : backP B es n = true) : keptI B es (n + 1) = keptI B es n := by
  simp [keptI, List.range_succ, List.filter_append, h]
theorem keptI_len (B : ByteArray) (es : List (ByteArray × ByteArray)) (n : Nat) : (keptI B es n).length ≤ n :=
  Nat.le_trans (List.length_filter_le _ _) (by simp)
theorem keptI_mem {B : ByteArray} {es : List (ByteArray × ByteArray)} {n i : Nat} (h : i ∈ keptI B es n) : i < n ∧ backP B es i = false := by
  obtain ⟨h1, h2⟩ := List.mem_filter.1 h
  exact ⟨by simpa using h1, by simpa using h2⟩

/-- the heads' letters, the tails' letters -/
def headT (B : ByteArray) (es : List (ByteArray × ByteArray)) : List UInt8 := B.data.toList.filter (headsP B es)
def tailT (B : ByteArray) (es : List (ByteArray × ByteArray)) : List UInt8 := B.data.toList.filter (tailsP B es)
theorem headT_len (B : ByteArray) (es : List (ByteArray × ByteArray)) : (headT B es).length ≤ B.size := by simpa [headT] using List.length_filter_le (headsP B es) B.data.toList
theorem tailT_len (B : ByteArray) (es : List (ByteArray × ByteArray)) : (tailT B es).length ≤ B.size := by simpa [tailT] using List.length_filter_le (tailsP B es) B.data.toList
/-- the entry's text, the exit's -/
def enT (B : ByteArray) : ByteArray := B.extract 0 1
def exT (B : ByteArray) : ByteArray := B.extract (B.size - 1) B.size

/-- all edges of the cut net, with their kinds -/
def cutX (B : ByteArray) (es : List (ByteArray × ByteArray)) : List CutEd := keptX es (keptI B es es.length) ++ headX (enT B) (headT B es) ++ tailX (exT B) (tailT B es)
/-- the cut net's edges -/
def cutE (B : ByteArray) (es : List (ByteArray × ByteArray)) : List (ByteArray × ByteArray) := (cutX B es).map fun x => x.1
/-- the letter of a kind -/
def kindL (x : CutEd) : UInt8 := if x.2.1 = 0 then nameOf x.2.2 else if x.2.1 = 1 then 43 else 45
/-- the letters of all kinds -/
def cutK (B : ByteArray) (es : List (ByteArray × ByteArray)) : List UInt8 := (cutX B es).map kindL

theorem cutX_len {B : ByteArray} {es : List (ByteArray × ByteArray)} (h16 : es.length ≤ 16) (h8 : B.size ≤ 8) : (cutX B es).length ≤ 32 := by
  have hk := keptI_len B es es.length
  have hh := headT_len B es
  have ht := tailT_len B es
  simp only [cutX, keptX, headX, tailX, List.length_append, List.length_map]
  omega
theorem cutE_len (B : ByteArray) (es : List (ByteArray × ByteArray)) : (cutE B es).length = (cutX B es).length := by simp [cutE]
theorem cutK_len (B : ByteArray) (es : List (ByteArray × ByteArray)) : (cutK B es).length = (cutX B es).length := by simp [cutK]

theorem keptX_snoc (es : List (ByteArray × ByteArray)) (is : List Nat) (i : Nat) : keptX es (is ++ [i]) = keptX es is ++ [(eAt es i, 0, i)] := by simp [keptX]
theorem headX_snoc (en : ByteArray) (cs : List UInt8) (c : UInt8) : headX en (cs ++ [c]) = headX en cs ++ [((en, ⟨#[c]⟩), 1, 0)] := by simp [headX]
theorem tailX_snoc (ex : ByteArray) (cs : List UInt8) (c : UInt8) : tailX ex (cs ++ [c]) = tailX ex cs ++ [((⟨#[c]⟩, ex), 2, 0)] := by simp [tailX]

/-- among so many edges two that lead back have the same ends -/
def SameTo (B : ByteArray) (es : List (ByteArray × ByteArray)) (n : Nat) : Prop := ∃ i k, k < i ∧ i < n ∧ backP B es i = true ∧ backP B es k = true ∧ eAt es i = eAt es k
/-- the net can be cut -/
def Cuttable (B : ByteArray) (es : List (ByteArray × ByteArray)) : Prop := Valid B.data.toList (ebs es) ∧ ¬ SameTo B es es.length ∧ Valid B.data.toList (ebs (cutE B es))

/-- the ends of edges that lead back, so many edges looked at -/
def metE (B : ByteArray) (es : List (ByteArray × ByteArray)) (n : Nat) : List (ByteArray × ByteArray) := ((List.range n).filter (backP B es)).map (eAt es)
theorem metE_zero (B : ByteArray) (es : List (ByteArray × ByteArray)) : metE B es 0 = [] := rfl
theorem metE_yes {B : ByteArray} {es : List (ByteArray × ByteArray)} {n : Nat} (h : backP B es n = true) : metE B es (n + 1) = metE B es n ++ [eAt es n] := by
  simp [metE, List.range_succ, List.filter_append, h]
theorem metE_no {B : ByteArray} {es : List (ByteArray × ByteArray)} {n : Nat} (h : backP B es n = false) : metE B es (n + 1) = metE B es n := by
  simp [metE, List.range_succ, List.filter_append, h]
theorem metE_len (B : ByteArray) (es : List (ByteArray × ByteArray)) (n : Nat) : (metE B es n).length ≤ n := by
  simpa [metE] using List.length_filter_le (backP B es) (List.range n)
theorem sameTo_zero (B : ByteArray) (es : List (ByteArray × ByteArray)) : ¬ SameTo B es 0 := fun ⟨_, _, _, h, _⟩ => absurd h (by omega)
theorem sameTo_mono {B : ByteArray} {es : List (ByteArray × ByteArray)} {m n : Nat} (h : SameTo B es m) (hm : m ≤ n) : SameTo B es n := by
  obtain ⟨i, k, h1, h2, h3⟩ := h
  exact ⟨i, k, h1, by omega, h3⟩
theorem sameTo_met {B : ByteArray} {es : List (ByteArray × ByteArray)} {n : Nat} (h : backP B es n = true) (hm : eAt es n ∈ metE B es n) : SameTo B es (n + 1) := by
  obtain ⟨k, hk, e⟩ := List.mem_map.1 hm
  obtain ⟨h1, h2⟩ := List.mem_filter.1 hk
  exact ⟨n, k, by simpa using h1, by omega, h, h2, e.symm⟩
theorem sameTo_step {B : ByteArray} {es : List (ByteArray × ByteArray)} {n : Nat} (h : ¬ SameTo B es n) (hn : backP B es n = true → eAt es n ∉ metE B es n) : ¬ SameTo B es (n + 1) := by
  rintro ⟨i, k, h1, h2, h3, h4, h5⟩
  by_cases hi : i < n
  · exact h ⟨i, k, h1, hi, h3, h4, h5⟩
  · have : i = n := by omega
    subst this
    exact hn h3 (List.mem_map.2 ⟨k, List.mem_filter.2 ⟨by simpa using h1, h4⟩, h5.symm⟩)

/-- the place of an edge that leads back, by its number among them -/
def bkI (B : ByteArray) (es : List (ByteArray × ByteArray)) (a : Nat) : Nat := ((List.range es.length).filter (backP B es)).getD a 0
theorem bkI_at {B : ByteArray} {es : List (ByteArray × ByteArray)} {a : Nat} (h : a < ((List.range es.length).filter (backP B es)).length) : bkI B es a = ((List.range es.length).filter (backP B es))[a] := by simp [bkI, List.getD, h]
theorem bkI_mem {B : ByteArray} {es : List (ByteArray × ByteArray)} {a : Nat} (h : a < ((List.range es.length).filter (backP B es)).length) : bkI B es a < es.length ∧ backP B es (bkI B es a) = true := by
  rw [bkI_at h]
  obtain ⟨h1, h2⟩ := List.mem_filter.1 (List.getElem_mem h)
  exact ⟨by simpa using h1, h2⟩
theorem bkI_lt {B : ByteArray} {es : List (ByteArray × ByteArray)} {a b : Nat} (hab : a < b) (hb : b < ((List.range es.length).filter (backP B es)).length) : bkI B es a < bkI B es b := by
  rw [bkI_at hb, bkI_at (by omega)]
  exact List.pairwise_iff_getElem.1 ((List.pairwise_lt_range (n := es.length)).filter (backP B es)) a b (by omega) hb hab
/-- among so many edges that lead back two have the same ends -/
def SamePos (B : ByteArray) (es : List (ByteArray × ByteArray)) (n : Nat) : Prop := ∃ a b, b < a ∧ a < n ∧ eAt es (bkI B es a) = eAt es (bkI B es b)
theorem samePos_zero (B : ByteArray) (es : List (ByteArray × ByteArray)) : ¬ SamePos B es 0 := fun ⟨_, _, _, h, _⟩ => absurd h (by omega)
theorem samePos_step {B : ByteArray} {es : List (ByteArray × ByteArray)} {n : Nat} (h : ¬ SamePos B es n) (hn : ∀ b, b < n → eAt es (bkI B es n) ≠ eAt es (bkI B es b)) : ¬ SamePos B es (n + 1) := by
  rintro ⟨a, b, h1, h2, h3⟩
  by_cases ha : a < n
  · exact h ⟨a, b, h1, ha, h3⟩
  · have : a = n := by omega
    subst this
    exact hn b h1 h3
theorem same_pos {B : ByteArray} {es : List (ByteArray × ByteArray)} : SameTo B es es.length ↔ SamePos B es ((List.range es.length).filter (backP B es)).length := by
  constructor
  · rintro ⟨i, k, h1, h2, h3, h4, h5⟩
    obtain ⟨a, ha, ea⟩ := List.getElem_of_mem (List.mem_filter.2 ⟨by simpa using h2, h3⟩ : i ∈ (List.range es.length).filter (backP B es))
    obtain ⟨b, hb, eb⟩ := List.getElem_of_mem (List.mem_filter.2 ⟨by simp; omega, h4⟩ : k ∈ (List.range es.length).filter (backP B es))
    rw [← bkI_at ha] at ea
    rw [← bkI_at hb] at eb
    refine ⟨a, b, ?_, ha, by rw [ea, eb]; exact h5⟩
    rcases Nat.lt_trichotomy a b with h | h | h
    · have := bkI_lt h hb; omega
    · subst h; omega
    · exact h
  · rintro ⟨a, b, h1, h2, h3⟩
    exact ⟨bkI B es a, bkI B es b, bkI_lt h1 h2, (bkI_mem h2).1, (bkI_mem h2).2, (bkI_mem (by omega)).2, h3⟩

/-- the cut net, if there is one -/
noncomputable def cutQ (B : ByteArray) (es : List (ByteArray × ByteArray)) : NetQ :=
  open Classical in if Cuttable B es then (B, cutE B es, true) else (⟨#[]⟩, [], false)
theorem cutQ_yes {B : ByteArray} {es : List (ByteArray × ByteArray)} (h : Cuttable B es) : cutQ B es = (B, cutE B es, true) := if_pos h
theorem cutQ_no {B : ByteArray} {es : List (ByteArray × ByteArray)} (h : ¬ Cuttable B es) : cutQ B es = (⟨#[]⟩, [], false) := if_neg h
theorem cutQ_len (B : ByteArray) (es : List (ByteArray × ByteArray)) : (cutQ B es).2.1.length ≤ 32 := by
  unfold cutQ
  split
  · rename_i h
    have hs := valid_sizes h.1
    simp only
    rw [cutE_len]
    exact cutX_len hs.2 hs.1
  · simp
/-- the kinds, if the net can be cut -/
noncomputable def kindsV (B : ByteArray) (es : List (ByteArray × ByteArray)) : ByteArray × Bool := textV (Cuttable B es) (cutK B es)

end Go.Proofs.YtpeafheljcjlhaaGreat

namespace Go.Proofs.YtpeafheljcjlhaaGreat
open Go.RowKit
set_option linter.unusedVariables false
set_option linter.unusedSimpArgs false

/-- the cells of edges -/
def cellsE (es : List (ByteArray × ByteArray)) : List Value := es.flatMap fun e => [.string e.1, .string e.2]
theorem cellsE_cons (e : ByteArray × ByteArray) (es : List (ByteArray × ByteArray)) : cellsE (e :: es) = .string e.1 :: .string e.2 :: cellsE es := by
  simp [cellsE]
theorem cellsE_append (a b : List (ByteArray × ByteArray)) : cellsE (a ++ b) = cellsE a ++ cellsE b := by
  simp [cellsE]
theorem cellsE_length : ∀ es : List (ByteArray × ByteArray), (cellsE es).length = es.length * 2
  | [] => rfl
  | e :: es => by rw [cellsE_cons, List.length_cons, List.length_cons, cellsE_length es]; simp; omega
theorem cellsE_at : ∀ {es : List (ByteArray × ByteArray)} {i : Nat}, (h : i < es.length) → (cellsE es)[i * 2]? = some (.string es[i].1) ∧ (cellsE es)[i * 2 + 1]? = some (.string es[i].2)
  | e :: es, 0, _ => by rw [cellsE_cons]; simp
  | e :: es, i + 1, h => by
    rw [cellsE_cons, show (i + 1) * 2 = i * 2 + 2 by omega]
    simp only [List.getElem?_cons_succ, show i * 2 + 2 + 1 = (i * 2 + 1) + 2 by omega]
    exact cellsE_at (by simpa using h)
theorem cellsE_odd {es : List (ByteArray × ByteArray)} {j : Nat} {u : Value} (h : (cellsE es)[j]? = some u) : j / 2 < es.length ∧ u = if j % 2 = 0 then .string (es.getD (j / 2) (⟨#[]⟩, ⟨#[]⟩)).1 else .string (es.getD (j / 2) (⟨#[]⟩, ⟨#[]⟩)).2 := by
  have hl : j < (cellsE es).length := (List.getElem?_eq_some_iff.1 h).1
  rw [cellsE_length] at hl
  have hi : j / 2 < es.length := by omega
  obtain ⟨h1, h2⟩ := cellsE_at hi
  refine ⟨hi, ?_⟩
  by_cases hj : j % 2 = 0
  · have : j / 2 * 2 = j := by omega
    rw [this, h] at h1
    injection h1 with h1
    simp [hj, h1, List.getD, hi]
  · have : j / 2 * 2 + 1 = j := by omega
    rw [this, h] at h2
    injection h2 with h2
    simp [hj, h2, List.getD, hi]
theorem cellsE_one {es : List (ByteArray × ByteArray)} : ∀ u ∈ cellsE es, u.oneCell' = true := by
  intro u hu
  simp only [cellsE, List.mem_flatMap] at hu
  obtain ⟨e, _, hu⟩ := hu
  simp at hu
  rcases hu with rfl | rfl <;> rfl

/-- a stretch of edges as it lies -/
theorem EdgesIn.news {W : World} {B : Nat} {b o : Nat} {es : List (ByteArray × ByteArray)} (h : EdgesIn W B (some ⟨b, o, none⟩) es) (i n : Nat) (hn : i + n ≤ es.length) :
    ∀ j u, (cellsE ((es.drop i).take n))[j]? = some u → W.cell? ((⟨b, o + i * 2, none⟩ : Addr).add j) = some u := by
  intro j u hu
  obtain ⟨hj, hu'⟩ := cellsE_odd hu
  have hj' : j / 2 < n := by simp at hj; omega
  obtain ⟨b', o', e, hl, q1, q2⟩ := h (i + j / 2) (by omega)
  injection e with e
  injection e with e1 e2 _
  subst e1; subst e2
  have hg : ((es.drop i).take n).getD (j / 2) (⟨#[]⟩, ⟨#[]⟩) = es[i + j / 2] := by
    simp [List.getD, List.getElem?_take, hj', show i + j / 2 < es.length by omega]
  rw [hg] at hu'
  rw [add_none, hu']
  by_cases hm : j % 2 = 0
  · rw [if_pos hm, ← q1]
    congr 2; omega
  · rw [if_neg hm, ← q2]
    congr 2; omega

/-- edges that a call owns, as edges that lie -/
theorem own_edges {W : World} {base n : Nat} {v : Value} {es : List (ByteArray × ByteArray)} (h : W.ownsRow base 70 2 v n (cellsE es)) (hn : n = es.length) :
    ∃ A cap, v = .slice A es.length cap ∧ EdgesIn W W.heap.size A es ∧ OwnEdges W base A es.length := by
  subst hn
  rcases h.2 with ⟨rfl, h0⟩ | ⟨g, cap, cur, rfl, hb, hblk, hle, hmax, hsz, htake⟩
  · exact ⟨none, 0, by rw [h0], fun i hi => absurd hi (by omega), .inl ⟨h0, rfl⟩⟩
  · have hg := (Array.getElem?_eq_some_iff.1 hblk).1
    refine ⟨some ⟨g, 0, none⟩, cap, rfl, fun i hi => ?_, .inr ⟨g, cur.size, fun i => cur.getD i undef, rfl, hb, hg, by omega, ⟨cur, hblk, rfl, fun i hi => by simp [hi]⟩⟩⟩
    obtain ⟨p1, p2⟩ := cellsE_at hi
    have q1 := h.cells (g := g) rfl _ _ p1
    have q2 := h.cells (g := g) rfl _ _ p2
    rw [add_none] at q1 q2
    exact ⟨g, 0, rfl, hg, q1, q2⟩

theorem own_low {W W' : World} {base n : Nat} {T : TypeId} {z : Nat} {v : Value} {xs : List Value} (h : W.ownsRow base T z v n xs) (hk : ∀ g, base ≤ g → W'.heap[g]? = W.heap[g]?) : W'.ownsRow base T z v n xs := by
  refine ⟨h.1, ?_⟩
  rcases h.2 with h | ⟨g, cap, cur, hv, hb, hblk, rest⟩
  · exact .inl h
  · exact .inr ⟨g, cap, cur, hv, hb, (hk g hb).trans hblk, rest⟩

end Go.Proofs.YtpeafheljcjlhaaGreat

namespace Go.Proofs.YtpeafheljcjlhaaGreat
open Go.RowKit
set_option linter.unusedVariables false
set_option linter.unusedSimpArgs false

/-- a call of a Go function, in a region that draws its order (for go_region_law) -/
theorem step_call {P : Program} {ops : Array Oper} {o : Oper} {a : Act} {w : World} {K : Act → World → Prop} {Q : Exit → Act → World → Prop} {E : Prop} {f : FuncId} {args : Array Value} (hgd : o.guard = none) (he : (execOp a.eval o).run P w = .ok (.enter f args) w)
    (hc : Calls P f args w fun e w' => ∃ v, e = .returned v ∧ K (a.put o.dst v) w') : if Region.wanted o (yielded ops a.tmps) = true then Oper.wp P o a w K Q else E := by
  have hw : Region.wanted o (yielded ops a.tmps) = true := by simp [Region.wanted, hgd]
  rw [if_pos hw]
  unfold Oper.wp
  rw [he]
  refine hc.mono ?_
  rintro e w' ⟨v, rfl, h⟩
  exact h

theorem cellsE_snoc (xs : List (ByteArray × ByteArray)) (p1 p2 : ByteArray) : cellsE (xs ++ [(p1, p2)]) = cellsE xs ++ [.string p1, .string p2] := by
  rw [cellsE_append]; rfl

/-- two edges, compared -/
theorem edge_eql (p1 p2 r1 r2 : ByteArray) (W : World) : (binOp .eql 70 (.agg #[.string p1, .string p2]) (.agg #[.string r1, .string r2])).run Tryz.prog W = .ok (.bool (decide ((p1, p2) = (r1, r2)))) W := by
  go_simp
  have e : ∀ a b : ByteArray, a.toList = b.toList ↔ a = b := fun a b => ⟨fun h => (str_ext (by rw [Lib.toList_data, Lib.toList_data] at h; exact h)).trans (str_ext rfl).symm, fun h => by rw [h]⟩
  simp only [e, Prod.mk.injEq]
  by_cases h1 : p1 = r1
  · by_cases h2 : p2 = r2
    · simp [h1, h2]
    · simp [h1, h2]
  · simp [h1]

/-- the cells of a net in a variable -/
def netC (B : ByteArray) (v : Value) (i : Nat) : Value := if i = 0 then .string B else v
/-- a net that grows: its variable in block O, its edges in a row from block E on -/
def Grow (W : World) (O E : Nat) (B : ByteArray) (xs : List (ByteArray × ByteArray)) (g c : Nat) : Prop :=
  O < W.heap.size ∧ E ≤ O ∧ W.rowIs O 31 2 (netC B (.slice (some ⟨g, 0, none⟩) xs.length c)) ∧ W.ownsRow E 70 2 (.slice (some ⟨g, 0, none⟩) xs.length c) xs.length (cellsE xs)

theorem grow_blk {W : World} {E g n c : Nat} {xs : List Value} (h : W.ownsRow E 70 2 (.slice (some ⟨g, 0, none⟩) n c) n xs) : E ≤ g ∧ g < W.heap.size := by
  rcases h.2 with ⟨h, _⟩ | ⟨g', c', cur, h, hb, hblk, _⟩
  · injection h with h; cases h
  · injection h with h; injection h with h; injection h with h _ _; subst h
    exact ⟨hb, (Array.getElem?_eq_some_iff.1 hblk).1⟩
theorem grow_ne {W : World} {O E g n c : Nat} {xs : List Value} {f : Nat → Value} (h : W.ownsRow E 70 2 (.slice (some ⟨g, 0, none⟩) n c) n xs) (hr : W.rowIs O 31 2 f) : g ≠ O := by
  rcases h.2 with ⟨h, _⟩ | ⟨g', c', cur, h, hb, hblk, _⟩
  · injection h with h; cases h
  · injection h with h; injection h with h; injection h with h _ _; subst h
    intro e
    obtain ⟨cc, hcc, _⟩ := hr
    subst e
    rw [hcc] at hblk
    injection hblk with hblk
    injection hblk with _ e2 _
    exact absurd e2 (by decide)
theorem grow_keep {W W' : World} {E g n c : Nat} {xs : List Value} (h : W.ownsRow E 70 2 (.slice (some ⟨g, 0, none⟩) n c) n xs) (hb : W'.heap[g]? = W.heap[g]?) : W'.ownsRow E 70 2 (.slice (some ⟨g, 0, none⟩) n c) n xs := by
  refine ⟨h.1, ?_⟩
  rcases h.2 with h | ⟨g', c', cur, h, hb', hblk, rest⟩
  · exact .inl h
  · refine .inr ⟨g', c', cur, h, hb', ?_, rest⟩
    injection h with h; injection h with h; injection h with h _ _; subst h
    exact hb.trans hblk
theorem Grow.below {W W' : World} {O E : Nat} {B : ByteArray} {xs : List (ByteArray × ByteArray)} {g c : Nat} (h : Grow W O E B xs g c) (k : Below W.heap.size W W') : Grow W' O E B xs g c :=
  ⟨Nat.lt_of_lt_of_le h.1 k.size, h.2.1, h.2.2.1.of_block (k.block _ h.1), grow_keep h.2.2.2 (k.block _ (grow_blk h.2.2.2).2)⟩
theorem Grow.ne {W : World} {O E : Nat} {B : ByteArray} {xs : List (ByteArray × ByteArray)} {g c : Nat} (h : Grow W O E B xs g c) : some O ≠ (Value.slice (some ⟨g, 0, none⟩) xs.length c).ownBlock := by
  have := grow_ne h.2.2.2 h.2.2.1
  intro e
  have e' : some O = some g := e
  injection e' with e'; omega
theorem Grow.cells {W : World} {O E : Nat} {B : ByteArray} {xs : List (ByteArray × ByteArray)} {g c : Nat} (h : Grow W O E B xs g c) :
    W.cell? ⟨O, 0, none⟩ = some (.string B) ∧ W.cell? ⟨O, 1, none⟩ = some (.slice (some ⟨g, 0, none⟩) xs.length c) ∧ W.frozen? ⟨O, 1, none⟩ = false :=
  ⟨h.2.2.1.cell (i := 0) (by omega), h.2.2.1.cell (i := 1) (by omega), h.2.2.1.frozen 1⟩
/-- the new edge, in its row -/
theorem grow_new (W : World) (p1 p2 : ByteArray) : ∀ j u, [Value.string p1, Value.string p2][j]? = some u → (W.alloc (.cells #[.string p1, .string p2] 70)).cell? ((⟨W.heap.size, 0, none⟩ : Addr).add j) = some u := fun j u hu => by
  match j, hu with
  | 0, hu => simp at hu; subst hu; simp [Addr.add]
  | 1, hu => simp at hu; subst hu; simp [Addr.add]
  | j + 2, hu => simp at hu
theorem grow_one (p1 p2 : ByteArray) : ∀ u ∈ [Value.string p1, Value.string p2], u.oneCell' = true := fun u hu => by
  simp at hu
  rcases hu with rfl | rfl <;> rfl
/-- behind an append, as the new slice is stored -/
theorem Grow.step {W W5 : World} {O E : Nat} {B : ByteArray} {xs : List (ByteArray × ByteArray)} {g c g5 c5 : Nat} {p1 p2 : ByteArray} (h : Grow W O E B xs g c)
    (hown : W5.ownsRow E 70 2 (.slice (some ⟨g5, 0, none⟩) (xs.length + 1) c5) (xs.length + 1) (cellsE xs ++ [.string p1, .string p2])) (hgr : W.grownBy W5 (some g)) :
    Grow (W5.setCell ⟨O, 1, none⟩ (.slice (some ⟨g5, 0, none⟩) (xs.length + 1) c5)) O E B (xs ++ [(p1, p2)]) g5 c5 := by
  have hlen : (xs ++ [(p1, p2)]).length = xs.length + 1 := by simp
  have hr5 := h.2.2.1.of_block (hgr.block O h.1 h.ne)
  have hne := grow_ne hown hr5
  refine ⟨?_, h.2.1, ?_, ?_⟩
  · have := hgr.size; have := h.1; simp [World.setCell]; omega
  · refine (hr5.set 1 _).congr fun i hi => ?_
    rw [hlen]
    match i, hi with
    | 0, _ => rfl
    | 1, _ => rfl
  · rw [hlen, cellsE_snoc]
    exact grow_keep hown (Below.heap_setCell _ _ _ _ (by simp only; omega))
/-- what lay below is kept -/
theorem Grow.keeps {W0 W W5 : World} {D O E : Nat} {B : ByteArray} {xs : List (ByteArray × ByteArray)} {g c : Nat} {v : Value} (h : Grow W O E B xs g c) (hD : D ≤ E) (hb : Below D W0 W) (hgr : W.grownBy W5 (some g)) :
    Below D W0 (W5.setCell ⟨O, 1, none⟩ v) := by
  have hg := (grow_blk h.2.2.2).1
  have hO := h.2.1
  have h1 := h.1
  exact (hb.grown hgr (by omega) (fun q e => by injection e with e; omega)).setCell (by simp only; omega) _

end Go.Proofs.YtpeafheljcjlhaaGreat

namespace Go.Proofs.YtpeafheljcjlhaaGreat
open Go.RowKit
set_option linter.unusedVariables false
set_option linter.unusedSimpArgs false

/-- what the cut net is handed back as -/
def BuildPost (B : ByteArray) (es : List (ByteArray × ByteArray)) (w : World) (e : Ending) (w' : World) : Prop :=
  ∃ A2 c2, e = .returned (.tuple #[.agg #[.string B, .slice A2 (cutE B es).length c2], .string ⟨(cutK B es).toArray⟩]) ∧ EdgesIn w' w'.heap.size A2 (cutE B es) ∧ Below w.heap.size w w' ∧ OwnEdges w' w.heap.size A2 (cutE B es).length

theorem small_of {B : ByteArray} {es : List (ByteArray × ByteArray)} (hF : Facts B es) : ∀ e ∈ es, e.1.size ≤ 1099511627776 ∧ e.2.size ≤ 1099511627776 := fun e he => by
  obtain ⟨x, y, hx, hy, _, _⟩ := hF.lets e he
  rw [str_size hx, str_size hy]
  simp

/-- what l8Build's blocks hold as the loops begin -/
structure Laid8 (w : World) (B : ByteArray) (A : Option Addr) (n cap n0 : Nat) (w1 : World) : Prop where
  below : Below w.heap.size w w1
  two : Two w1 n0 B A n cap
  row : w1.rowIs (n0 + 1) 31 2 (netC ⟨#[]⟩ (.slice none 0 0))
  grow : Grow w1 (n0 + 1 + 1 + 1) (n0 + 1 + 1) B [] (n0 + 1 + 1) 0

theorem laid8 (w : World) (B : ByteArray) (A : Option Addr) (n cap : Nat) : Laid8 w B A n cap w.heap.size
    ((((w.alloc (.cells #[.string B, .slice A n cap] 31)).alloc (.cells #[.string ⟨#[]⟩, .slice none 0 0] 31)).alloc (.cells #[] 70)).alloc (.cells #[.string B, .slice (some ⟨w.heap.size + 1 + 1, 0, none⟩) 0 0] 31)) := by
  refine ⟨(((Below.refl _ _).alloc (Nat.le_refl _) _).alloc (by simp) _).alloc (by simp; omega) _ |>.alloc (by simp; omega) _, ⟨by go_simp, by go_simp⟩, ?_, ?_, by omega, ?_, ?_⟩
  · have h := World.rowIs_alloc (w.alloc (.cells #[.string B, .slice A n cap] 31)) #[.string ⟨#[]⟩, .slice none 0 0] 31 (netC ⟨#[]⟩ (.slice none 0 0)) (fun i hi => by
      match i, hi with
      | 0, _ => rfl
      | 1, _ => rfl)
    rw [World.size_alloc] at h
    exact (h.alloc _).alloc _
  · simp
  · have h := World.rowIs_alloc (((w.alloc (.cells #[.string B, .slice A n cap] 31)).alloc (.cells #[.string ⟨#[]⟩, .slice none 0 0] 31)).alloc (.cells #[] 70)) #[.string B, .slice (some ⟨w.heap.size + 1 + 1, 0, none⟩) 0 0] 31 (netC B (.slice (some ⟨w.heap.size + 1 + 1, 0, none⟩) 0 0)) (fun i hi => by
      match i, hi with
      | 0, _ => rfl
      | 1, _ => rfl)
    rw [World.size_alloc, World.size_alloc, World.size_alloc] at h
    exact h
  · refine ⟨rfl, .inr ⟨_, 0, #[], rfl, Nat.le_refl _, ?_, by simp, by simp, by simp, by simp [cellsE]⟩⟩
    exact alloc_old _ _ (alloc_at _ _ (by simp))

set_option maxRecDepth 100000 in
set_option maxHeartbeats 8000000 in
/-- spec.l8Build -/
theorem l8Build_any (B : ByteArray) (A : Option Addr) (cap : Nat) (es : List (ByteArray × ByteArray)) (w : World) (hs : B.size ≤ maxLen) (hE : EdgesIn w w.heap.size A es) (hv : Valid B.data.toList (ebs es)) :
    Calls Tryz.prog 37 #[.agg #[.string B, .slice A es.length cap]] w (BuildPost B es w) := by
  have hF := facts_of hv
  have h16 := hF.few
  have h8 := hF.eight
  obtain ⟨i0, hi, hi0, hi1, hi2⟩ := info_parts edgeInfo
  have HI := Lib.hid hi; have HI0 := Lib.hid hi0; have HI1 := Lib.hid hi1; have HI2 := Lib.hid hi2
  obtain ⟨bt, hbt⟩ : ∃ bt : ByteArray, (⟨(names (backP B es) es.length).toArray⟩ : ByteArray) = bt := ⟨_, rfl⟩
  have HBD : Hid (bt.data.toList = names (backP B es) es.length) := Lib.hid (by rw [← hbt])
  have HBM : Hid (bt.size ≤ maxLen) := Lib.hid (by rw [← hbt, size_mk]; have := names_length (backP B es) es.length; unfold maxLen; omega)
  obtain ⟨ht, hht⟩ : ∃ ht : ByteArray, (⟨(headT B es).toArray⟩ : ByteArray) = ht := ⟨_, rfl⟩
  have HHD : Hid (ht.data.toList = headT B es) := Lib.hid (by rw [← hht])
  have HHZ : Hid (ht.size = (headT B es).length) := Lib.hid (by rw [← hht, size_mk])
  have HHS : Hid (ht.size ≤ 8) := Lib.hid (by rw [← hht, size_mk]; have := headT_len B es; omega)
  obtain ⟨tt, htt⟩ : ∃ tt : ByteArray, (⟨(tailT B es).toArray⟩ : ByteArray) = tt := ⟨_, rfl⟩
  have HTD : Hid (tt.data.toList = tailT B es) := Lib.hid (by rw [← htt])
  have HTZ : Hid (tt.size = (tailT B es).length) := Lib.hid (by rw [← htt, size_mk])
  have HTS : Hid (tt.size ≤ 8) := Lib.hid (by rw [← htt, size_mk]; have := tailT_len B es; omega)
  have FB : Hid (∀ W : World, EdgesIn W W.heap.size A es → Calls Tryz.prog 46 #[.agg #[.string B, .slice A es.length cap]] W fun e w' => e = .returned (.string bt) ∧ Below W.heap.size W w') := Lib.hid fun W h => by
    rw [← hbt]; exact l3Back_any B A cap es W h hF hs
  have FH : Hid (∀ W : World, EdgesIn W W.heap.size A es → Calls Tryz.prog 72 #[.agg #[.string B, .slice A es.length cap]] W fun e w' => e = .returned (.tuple #[.string ht, .bool true]) ∧ Below W.heap.size W w') := Lib.hid fun W h => by
    have h' := specHeadsOf_any B A cap es W hs h (by omega) (small_of hF)
    have hq : headsV B es = (ht, true) := by rw [← hht]; exact textV_yes hv
    rwa [hq] at h'
  have FT : Hid (∀ W : World, EdgesIn W W.heap.size A es → Calls Tryz.prog 73 #[.agg #[.string B, .slice A es.length cap]] W fun e w' => e = .returned (.tuple #[.string tt, .bool true]) ∧ Below W.heap.size W w') := Lib.hid fun W h => by
    have h' := specTailsOf_any B A cap es W hs h (by omega) (small_of hF)
    have hq : tailsV B es = (tt, true) := by rw [← htt]; exact textV_yes hv
    rwa [hq] at h'
  have FE : Hid (∀ W : World, Calls Tryz.prog 49 #[.agg #[.string B, .slice A es.length cap]] W fun e W' => e = .returned (.string (enT B)) ∧ Below W.heap.size W W') := Lib.hid fun W => l1Entry_any B _ W hF.one hs
  have FX : Hid (∀ W : World, Calls Tryz.prog 50 #[.agg #[.string B, .slice A es.length cap]] W fun e W' => e = .returned (.string (exT B)) ∧ Below W.heap.size W W') := Lib.hid fun W => l1Exit_any B _ W hF.one hs
  obtain ⟨en, hen⟩ : ∃ en, enT B = en := ⟨_, rfl⟩
  obtain ⟨ex, hex⟩ : ∃ ex, exT B = ex := ⟨_, rfl⟩
  rw [hen] at FE; rw [hex] at FX
  have HEN := Lib.hid hen; have HEX := Lib.hid hex
  have HL := laid8 w B A es.length cap
  have HE := Lib.hid hE
  clear hi hi0 hi1 hi2 hbt hht htt hen hex hF hv hs hE
  go_enter Tryz.func37, Tryz.ntmps37
  go_wp2_with fail
  generalize hW1 : (((w.alloc (.cells #[.string B, .slice A es.length cap] 31)).alloc (.cells #[.string ⟨#[]⟩, .slice none 0 0] 31)).alloc (.cells #[] 70)).alloc (.cells #[.string B, .slice (some ⟨w.heap.size + 1 + 1, 0, none⟩) 0 0] 31) = w1 at HL ⊢
  clear hW1
  obtain ⟨hb1, t1, hr1, hg1⟩ := HL
  refine (FB.out _ ((HE.out.below hb1).more hb1.size)).mono ?_
  rintro e w2 ⟨rfl, hb2⟩
  obtain ⟨n0, hn0⟩ : ∃ n0, w.heap.size = n0 := ⟨_, rfl⟩
  rw [hn0] at t1 hr1 hg1 ⊢
  have hz1 := hg1.1
  have t2 := t1.below hb2 (by omega)
  have HR2 := Lib.hid (hr1.of_block (hb2.block _ (by omega)))
  have HG2 := Lib.hid (hg1.below hb2)
  have HB2 := Lib.hid (hb1.trans (hb2.mono hb1.size))
  have hz2 := hb2.size
  have hd0 := t2.1; have hd1 := t2.2
  have HT2 := Lib.hid t2; have HN0 := Lib.hid hn0
  clear hb2 t1 hr1 hg1 hb1 t2 hn0 FB
  go_wp2_with fail
  obtain ⟨O, hO⟩ : ∃ O, n0 + 1 + 1 + 1 = O := ⟨_, rfl⟩
  obtain ⟨E, hE⟩ : ∃ E, n0 + 1 + 1 = E := ⟨_, rfl⟩
  rw [hO, hE] at HG2 ⊢
  rw [hO] at hz1
  have hne : n0 < E := by omega
  have hre : n0 + 1 < E := by omega
  have hez : E ≤ w2.heap.size := by omega
  clear hO hE hd0 hd1 hz1 hz2
  go_loopw [5, 24] (fun a c wr => ∃ (k : Nat) (s : ByteArray) (g cc : Nat), k ≤ es.length ∧ c = .int .i64 k ∧ a = .string s ∧ Hid (s.data.toList = (keptX es (keptI B es k)).map kindL) ∧ Hid (Grow wr O E B ((keptX es (keptI B es k)).map fun x => x.1) g cc) ∧ Hid (Below E w2 wr)) (fun _ c _ => es.length - (intOf c).toNat)
  case atStart => exact ⟨0, ⟨#[]⟩, E, 0, Nat.zero_le _, rfl, rfl, Lib.hid rfl, HG2, Lib.hid (Below.refl _ _)⟩
  case round =>
    clear HG2
    obtain ⟨k, s, g, cc, hk, rfl, rfl, HSD, HG, HB⟩ := hrel
    have hzr := HB.out.size
    have hss : s.size ≤ 16 := by
      have h1 := str_size HSD.out
      have h2 := keptI_len B es k
      rw [List.length_map] at h1
      simp only [keptX, List.length_map] at h1
      omega
    by_cases hlt : k < es.length
    case neg =>
      obtain rfl : k = es.length := by omega
      obtain ⟨X1, hX1⟩ : ∃ X1, keptX es (keptI B es es.length) = X1 := ⟨_, rfl⟩
      have HXL : Hid (X1.length ≤ 16) := Lib.hid (by rw [← hX1]; have := keptI_len B es es.length; simp only [keptX, List.length_map]; omega)
      have HX1 := Lib.hid hX1
      rw [hX1] at HSD HG
      have t2 := HT2.out.below HB.out hne
      have hd0 := t2.1; have hd1 := t2.2
      clear hX1 hss t2
      go_wp2_with fail
      refine (FH.out _ ((HE.out.below (HB2.out.trans (HB.out.mono (by rw [HN0.out]; omega)))).more (by have := HB2.out.size; omega))).mono ?_
      rintro e w3 ⟨rfl, hb3⟩
      have HG3 := Lib.hid (HG.out.below hb3)
      have HB3 := Lib.hid (HB.out.trans (hb3.mono (show E ≤ wr.heap.size by omega)))
      clear hd0 hd1 hb3 HG HB
      go_wp2_with fail
      go_loopw [5, 53] (fun a c wr => ∃ (i : Nat) (s : ByteArray) (g cc : Nat), i ≤ ht.size ∧ c = .int .i64 i ∧ a = .string s ∧ Hid (s.data.toList = (X1 ++ headX en ((headT B es).take i)).map kindL) ∧ Hid (Grow wr O E B ((X1 ++ headX en ((headT B es).take i)).map fun x => x.1) g cc) ∧ Hid (Below E w2 wr)) (fun _ c _ => ht.size - (intOf c).toNat)
      case atStart => exact ⟨0, s, g, cc, Nat.zero_le _, rfl, rfl, by simpa [headX] using HSD, by simpa [headX] using HG3, HB3⟩
      case round =>
        clear HG3 HSD HB3 hzr hk hlt
        obtain ⟨i, s, g, cc, hi, rfl, rfl, HSD, HG, HB⟩ := hrel
        have hzr := HB.out.size
        have hh8 := HHS.out
        have hss : s.size ≤ 24 := by
          have h1 := str_size HSD.out
          have := HXL.out; have := HHZ.out
          rw [List.length_map, List.length_append] at h1
          simp only [headX, List.length_map, List.length_take] at h1
          omega
        by_cases hlt : i < ht.size
        case neg =>
          have hie : (headT B es).take i = headT B es := List.take_of_length_le (by have := HHZ.out; omega)
          rw [hie] at HSD HG
          obtain ⟨X2, hX2⟩ : ∃ X2, X1 ++ headX en (headT B es) = X2 := ⟨_, rfl⟩
          have HX2L : Hid (X2.length ≤ 24) := Lib.hid (by
            rw [← hX2]
            have := HXL.out; have := HHZ.out
            simp only [headX, List.length_map, List.length_append]; omega)
          have HX2 := Lib.hid hX2
          rw [hX2] at HSD HG
          have t2 := HT2.out.below HB.out hne
          have hd0 := t2.1; have hd1 := t2.2
          clear hX2 hss t2 hie
          go_wp2_with fail
          refine (FT.out _ ((HE.out.below (HB2.out.trans (HB.out.mono (by rw [HN0.out]; omega)))).more (by have := HB2.out.size; omega))).mono ?_
          rintro e w3 ⟨rfl, hb3⟩
          have HG3 := Lib.hid (HG.out.below hb3)
          have HB3 := Lib.hid (HB.out.trans (hb3.mono (show E ≤ wr.heap.size by omega)))
          clear hd0 hd1 hb3 HG HB hlt hi hh8 hzr
          go_wp2_with fail
          go_loopw [5, 79] (fun a c wr => ∃ (i : Nat) (s : ByteArray) (g cc : Nat), i ≤ tt.size ∧ c = .int .i64 i ∧ a = .string s ∧ Hid (s.data.toList = (X2 ++ tailX ex ((tailT B es).take i)).map kindL) ∧ Hid (Grow wr O E B ((X2 ++ tailX ex ((tailT B es).take i)).map fun x => x.1) g cc) ∧ Hid (Below E w2 wr)) (fun _ c _ => tt.size - (intOf c).toNat)
          case atStart => exact ⟨0, s, g, cc, Nat.zero_le _, rfl, rfl, by simpa [tailX] using HSD, by simpa [tailX] using HG3, HB3⟩
          case round =>
            clear HG3 HSD HB3
            obtain ⟨i, s, g, cc, hi, rfl, rfl, HSD, HG, HB⟩ := hrel
            have hzr := HB.out.size
            have ht8 := HTS.out
            have hss : s.size ≤ 32 := by
              have h1 := str_size HSD.out
              have := HX2L.out; have := HTZ.out
              rw [List.length_map, List.length_append] at h1
              simp only [tailX, List.length_map, List.length_take] at h1
              omega
            by_cases hlt : i < tt.size
            case neg =>
              have hie : (tailT B es).take i = tailT B es := List.take_of_length_le (by have := HTZ.out; omega)
              have HXE : Hid (X2 ++ tailX ex (tailT B es) = cutX B es) := Lib.hid (by rw [← HX2.out, ← HX1.out, ← HEN.out, ← HEX.out]; rfl)
              rw [hie, HXE.out] at HSD HG
              have hse : s = ⟨(cutK B es).toArray⟩ := str_ext HSD.out
              obtain ⟨ck, hck⟩ : ∃ ck : ByteArray, (⟨(cutK B es).toArray⟩ : ByteArray) = ck := ⟨_, rfl⟩
              rw [hck] at hse
              subst hse
              obtain ⟨ce, hce⟩ : ∃ ce, cutE B es = ce := ⟨_, rfl⟩
              have hge : ((cutX B es).map fun x => x.1) = ce := by rw [← hce]; rfl
              rw [hge] at HG
              have HCE := Lib.hid hce; have HCK := Lib.hid hck
              obtain ⟨d0, d1, f1⟩ := HG.out.cells
              have hr := HR2.out.of_block (HB.out.block _ hre)
              have r0 := hr.cell (i := 0) (by omega); have r1 := hr.cell (i := 1) (by omega)
              have rf0 := hr.frozen 0; have rf1 := hr.frozen 1
              clear hie hck hce hge hss HXE HSD
              go_wp2_with fail
              obtain ⟨A5, c5, hv5, hE5, hO5⟩ := own_edges HG.out.2.2.2 rfl
              injection hv5 with e1 _ e2
              subst e1; subst e2
              have hg6 : wr.grownBy ((wr.setCell ⟨n0 + 1, 0, none⟩ (.string B)).setCell ⟨n0 + 1, 1, none⟩ (.slice (some ⟨g, 0, none⟩) ce.length cc)) (some (n0 + 1)) :=
                only_setCell_at (only_setCell_at (World.grownBy.refl wr _))
              have hne6 := hO5.ne (c := n0 + 1) hre
              refine bodyPost_ret (v := .tuple #[.agg #[.string B, .slice (some ⟨g, 0, none⟩) ce.length cc], .string s]) (by simp [results, Tryz.results37, go_sem, r0, r1]) rfl ?_
              refine ⟨some ⟨g, 0, none⟩, cc, by rw [HCE.out, HCK.out], ?_, ?_, ?_⟩
              · rw [HCE.out]
                exact (hE5.grown hg6 (Nat.le_refl _) hne6).more hg6.size
              · have hbw := HB2.out.trans (HB.out.mono (show w.heap.size ≤ E by rw [HN0.out]; omega))
                exact (hbw.setCell (by rw [HN0.out]; simp only; omega) _).setCell (by rw [HN0.out]; simp only; omega) _
              · rw [HCE.out]
                exact (hO5.grown hg6 hne6).mono (by rw [HN0.out]; omega)
            obtain ⟨xs, hxs⟩ : ∃ xs, ((X2 ++ tailX ex ((tailT B es).take i)).map fun x => x.1) = xs := ⟨_, rfl⟩
            have hxl : xs.length ≤ 32 := by
              rw [← hxs]
              have := HX2L.out; have := HTZ.out
              simp only [tailX, List.length_map, List.length_append, List.length_take]; omega
            have hci : i < (tailT B es).length := by have := HTZ.out; omega
            obtain ⟨ch, hch⟩ : ∃ ch, (tailT B es)[i] = ch := ⟨_, rfl⟩
            obtain ⟨p2, hp2⟩ : ∃ p2, tt.extract i (i + 1) = p2 := ⟨_, rfl⟩
            have HP2 : Hid (p2 = ⟨#[ch]⟩) := Lib.hid (by
              rw [← hp2]
              refine one_byte ?_
              rw [letter_at hlt, HTD.out]
              simp [List.getD, hci, hch])
            have HTK : Hid (tailX ex ((tailT B es).take (i + 1)) = tailX ex ((tailT B es).take i) ++ [((p2, ex), 2, 0)]) := Lib.hid (by
              rw [List.take_succ_eq_append_getElem hci, tailX_snoc, hch, HP2.out])
            have HXE : Hid (((X2 ++ tailX ex ((tailT B es).take (i + 1))).map fun x => x.1) = xs ++ [(p2, ex)]) := Lib.hid (by rw [HTK.out, ← List.append_assoc, List.map_append, hxs]; rfl)
            have HSE : Hid ((s ++ ⟨#[45]⟩).data.toList = (X2 ++ tailX ex ((tailT B es).take (i + 1))).map kindL) := Lib.hid (by
              rw [HTK.out, ← List.append_assoc, List.map_append]
              exact str_snoc HSD.out)
            rw [hxs] at HG
            have hwz : E ≤ wr.heap.size := by omega
            have HWZ := Lib.hid hwz
            obtain ⟨d0, d1, f1⟩ := HG.out.cells
            have t2 := HT2.out.below HB.out hne
            have hd0 := t2.1; have hd1 := t2.2
            have hO1 : O < wr.heap.size := HG.out.1
            have hsz : ¬ 9223372036854775807 < s.size + (⟨#[45]⟩ : ByteArray).size := by
              have : (⟨#[45]⟩ : ByteArray).size = 1 := rfl
              omega
            have a1 : (0 : Int) ≤ (i : Int) := by omega
            have a2 : (i : Int) < (tt.size : Int) := by omega
            have a4 : (0 : Int) ≤ (i : Int) + 1 := by omega
            have a5 : ((i : Int) + 1).toNat = i + 1 := by omega
            have a6 : (i : Int) + 1 ≤ (tt.size : Int) := by omega
            have a7 : i + 1 ≤ tt.size := by omega
            have a8 : (i : Int) ≤ (i : Int) + 1 := by omega
            have a3 : IntKind.i64.wrap ((i : Int) + 1) = (i : Int) + 1 := IntWalk.i64_in _ (by omega)
            clear hxs t2 hss hch hci HSD
            go_wp2_with fail
            go_region_law (first
              | (refine step_append_own' rfl (.tmp 83) (.tmp 92) 29 rfl E 70 i0 (.agg #[.string ⟨#[]⟩, .string ⟨#[]⟩]) 2 32 Tryz.underlying29 HI.out HI0.out HI1.out HI2.out rfl (by decide) _ xs.length (cellsE xs) rfl HG4.out.2.2.2 ⟨w4.heap.size, 0, none⟩ 1 1 [.string p2, .string ex] rfl rfl (grow_new w4 p2 ex) (grow_one p2 ex) (by unfold maxLen; omega) (by omega) HZ4.out ?_
                 go_must (
                 intro v5 w5 hown5 hgr5
                 obtain ⟨g5, c5, rfl⟩ := Go.Joins.ownsRow_form hown5 (by omega)
                 replace hgr5 : (w4.alloc (.cells #[.string p2, .string ex] 70)).grownBy w5 (some g) := hgr5
                 have hr5 := HG4.out.2.2.1.of_block (hgr5.block O HG4.out.1 HG4.out.ne)
                 have u1 := hr5.cell (i := 1) (by omega); have uf1 := hr5.frozen 1
                 have HG5 := Lib.hid (HG4.out.step hown5 hgr5)
                 have HB5 := Lib.hid (HG4.out.keeps (v := .slice (some ⟨g5, 0, none⟩) (xs.length + 1) c5) (Nat.le_refl _) HB4.out hgr5)
                 clear hr5 hown5 hgr5))
              | (refine step_call (f := 50) (args := #[.agg #[.string B, .slice A es.length cap]]) rfl (by go_simp) ((FX.out _).mono ?_)
                 go_must (
                 rintro e w4 ⟨rfl, hb4⟩
                 refine ⟨_, rfl, ?_⟩
                 have hbA : Below w4.heap.size w4 (w4.alloc (.cells #[.string p2, .string ex] 70)) := (Below.refl _ _).alloc (Nat.le_refl _) _
                 have hz4 : E ≤ w4.heap.size := Nat.le_trans HWZ.out hb4.size
                 have d1' : w4.cell? ⟨O, 1, none⟩ = some (.slice (some ⟨g, 0, none⟩) xs.length cc) := (hb4.cell hO1).trans d1
                 have HG4 := Lib.hid ((HG.out.below ((Below.refl _ _).drew.trans hb4)).below hbA)
                 have HB4 := Lib.hid ((HB.out.trans (((Below.refl _ _).drew.trans hb4).mono HWZ.out)).trans (hbA.mono hz4))
                 have HZ4 : Hid (E ≤ (w4.alloc (.cells #[.string p2, .string ex] 70)).heap.size) := Lib.hid (Nat.le_trans hz4 hbA.size)
                 have d1'' := HG4.out.cells.2.1
                 clear hbA hz4 hb4)))
            all_goals
              have HB6 := HB5
              have HG6 := HG5
              clear u1 uf1 d1' d1'' HG5 HB5 d0 d1 f1 hd0 hd1 HZ4 HG4 HB4
              go_wp2_with fail
              go_roundw
              case rel => exact ⟨i + 1, _, g5, c5, by omega, by go_num, rfl, HSE, by rw [HXE.out]; exact HG6, HB6⟩
              case measure => simp [intOf]; omega
        obtain ⟨xs, hxs⟩ : ∃ xs, ((X1 ++ headX en ((headT B es).take i)).map fun x => x.1) = xs := ⟨_, rfl⟩
        have hxl : xs.length ≤ 24 := by
          rw [← hxs]
          have := HXL.out; have := HHZ.out
          simp only [headX, List.length_map, List.length_append, List.length_take]; omega
        have hci : i < (headT B es).length := by have := HHZ.out; omega
        obtain ⟨ch, hch⟩ : ∃ ch, (headT B es)[i] = ch := ⟨_, rfl⟩
        obtain ⟨p2, hp2⟩ : ∃ p2, ht.extract i (i + 1) = p2 := ⟨_, rfl⟩
        have HP2 : Hid (p2 = ⟨#[ch]⟩) := Lib.hid (by
          rw [← hp2]
          refine one_byte ?_
          rw [letter_at hlt, HHD.out]
          simp [List.getD, hci, hch])
        have HTK : Hid (headX en ((headT B es).take (i + 1)) = headX en ((headT B es).take i) ++ [((en, p2), 1, 0)]) := Lib.hid (by
          rw [List.take_succ_eq_append_getElem hci, headX_snoc, hch, HP2.out])
        have HXE : Hid (((X1 ++ headX en ((headT B es).take (i + 1))).map fun x => x.1) = xs ++ [(en, p2)]) := Lib.hid (by rw [HTK.out, ← List.append_assoc, List.map_append, hxs]; rfl)
        have HSE : Hid ((s ++ ⟨#[43]⟩).data.toList = (X1 ++ headX en ((headT B es).take (i + 1))).map kindL) := Lib.hid (by
          rw [HTK.out, ← List.append_assoc, List.map_append]
          exact str_snoc HSD.out)
        rw [hxs] at HG
        have hwz : E ≤ wr.heap.size := by omega
        have HWZ := Lib.hid hwz
        obtain ⟨d0, d1, f1⟩ := HG.out.cells
        have t2 := HT2.out.below HB.out hne
        have hd0 := t2.1; have hd1 := t2.2
        have hO1 : O < wr.heap.size := HG.out.1
        have hsz : ¬ 9223372036854775807 < s.size + (⟨#[43]⟩ : ByteArray).size := by
          have : (⟨#[43]⟩ : ByteArray).size = 1 := rfl
          omega
        have a1 : (0 : Int) ≤ (i : Int) := by omega
        have a2 : (i : Int) < (ht.size : Int) := by omega
        have a4 : (0 : Int) ≤ (i : Int) + 1 := by omega
        have a5 : ((i : Int) + 1).toNat = i + 1 := by omega
        have a6 : (i : Int) + 1 ≤ (ht.size : Int) := by omega
        have a7 : i + 1 ≤ ht.size := by omega
        have a8 : (i : Int) ≤ (i : Int) + 1 := by omega
        have a3 : IntKind.i64.wrap ((i : Int) + 1) = (i : Int) + 1 := IntWalk.i64_in _ (by omega)
        clear hxs t2 hss hch hci HSD
        go_wp2_with fail
        go_region_law (first
          | (refine step_append_own' rfl (.tmp 57) (.tmp 66) 29 rfl E 70 i0 (.agg #[.string ⟨#[]⟩, .string ⟨#[]⟩]) 2 32 Tryz.underlying29 HI.out HI0.out HI1.out HI2.out rfl (by decide) _ xs.length (cellsE xs) rfl HG4.out.2.2.2 ⟨w4.heap.size, 0, none⟩ 1 1 [.string en, .string p2] rfl rfl (grow_new w4 en p2) (grow_one en p2) (by unfold maxLen; omega) (by omega) HZ4.out ?_
             go_must (
             intro v5 w5 hown5 hgr5
             obtain ⟨g5, c5, rfl⟩ := Go.Joins.ownsRow_form hown5 (by omega)
             replace hgr5 : (w4.alloc (.cells #[.string en, .string p2] 70)).grownBy w5 (some g) := hgr5
             have hr5 := HG4.out.2.2.1.of_block (hgr5.block O HG4.out.1 HG4.out.ne)
             have u1 := hr5.cell (i := 1) (by omega); have uf1 := hr5.frozen 1
             have HG5 := Lib.hid (HG4.out.step hown5 hgr5)
             have HB5 := Lib.hid (HG4.out.keeps (v := .slice (some ⟨g5, 0, none⟩) (xs.length + 1) c5) (Nat.le_refl _) HB4.out hgr5)
             clear hr5 hown5 hgr5))
          | (refine step_call (f := 49) (args := #[.agg #[.string B, .slice A es.length cap]]) rfl (by go_simp) ((FE.out _).mono ?_)
             go_must (
             rintro e w4 ⟨rfl, hb4⟩
             refine ⟨_, rfl, ?_⟩
             have hbA : Below w4.heap.size w4 (w4.alloc (.cells #[.string en, .string p2] 70)) := (Below.refl _ _).alloc (Nat.le_refl _) _
             have hz4 : E ≤ w4.heap.size := Nat.le_trans HWZ.out hb4.size
             have d1' : w4.cell? ⟨O, 1, none⟩ = some (.slice (some ⟨g, 0, none⟩) xs.length cc) := (hb4.cell hO1).trans d1
             have HG4 := Lib.hid ((HG.out.below ((Below.refl _ _).drew.trans hb4)).below hbA)
             have HB4 := Lib.hid ((HB.out.trans (((Below.refl _ _).drew.trans hb4).mono HWZ.out)).trans (hbA.mono hz4))
             have HZ4 : Hid (E ≤ (w4.alloc (.cells #[.string en, .string p2] 70)).heap.size) := Lib.hid (Nat.le_trans hz4 hbA.size)
             have d1'' := HG4.out.cells.2.1
             clear hbA hz4 hb4)))
        all_goals
          have HB6 := HB5
          have HG6 := HG5
          clear u1 uf1 d1' d1'' HG5 HB5 d0 d1 f1 hd0 hd1 HZ4 HG4 HB4
          go_wp2_with fail
          go_roundw
          case rel => exact ⟨i + 1, _, g5, c5, by omega, by go_num, rfl, HSE, by rw [HXE.out]; exact HG6, HB6⟩
          case measure => simp [intOf]; omega
    obtain ⟨p1, hp1⟩ : ∃ p1, es[k].1 = p1 := ⟨_, rfl⟩
    obtain ⟨p2, hp2⟩ : ∃ p2, es[k].2 = p2 := ⟨_, rfl⟩
    obtain ⟨eb, eo, rfl, hlow, q1, q2⟩ := (HE.out.below (HB2.out.trans (HB.out.mono (by rw [HN0.out]; omega)))) k hlt
    rw [hp1] at q1
    rw [hp2] at q2
    have HEA : Hid (eAt es k = (p1, p2)) := Lib.hid (by rw [eAt_at hlt, ← hp1, ← hp2])
    clear hp1 hp2
    obtain ⟨ix, hix⟩ : ∃ ix, Lib.indexByte bt.data.toList (nameOf k) = ix := ⟨_, rfl⟩
    have HIX : Hid (∀ W : World, Calls Tryz.prog 51 #[.string bt, .int .u8 (nameOf k).toNat] W fun e w' => e = .returned (.int .i64 ix) ∧ W = w') := Lib.hid fun W => by rw [← hix]; exact find_any bt (nameOf k) W HBM.out
    have HIV : Hid (0 ≤ ix ↔ backP B es k = true) := Lib.hid (by
      rw [← hix, indexByte_nonneg, HBD.out]
      exact mem_names (by omega) hlt)
    have s1 : (⟨#[nameOf k]⟩ : ByteArray).size = 1 := rfl
    have hbE : Below wr.heap.size wr (wr.alloc (.cells #[.string p1, .string p2] 70)) := (Below.refl _ _).alloc (Nat.le_refl _) _
    have hn0 : (wr.alloc (.cells #[.string p1, .string p2] 70)).cell? ⟨wr.heap.size, 0, none⟩ = some (.string p1) := by go_simp
    have hn1 : (wr.alloc (.cells #[.string p1, .string p2] 70)).cell? ⟨wr.heap.size, 1, none⟩ = some (.string p2) := by go_simp
    have hnz : (wr.alloc (.cells #[.string p1, .string p2] 70)).heap.size = wr.heap.size + 1 := by simp
    have HGa := Lib.hid (HG.out.below hbE)
    have HBa := Lib.hid (HB.out.trans (hbE.mono (show E ≤ wr.heap.size by omega)))
    clear hix hbE
    go_wp2_with fail
    generalize hWa : wr.alloc (.cells #[.string p1, .string p2] 70) = wa at hn0 hn1 hnz HGa HBa ⊢
    clear hWa
    refine (l1Name_any k (by omega) _).mono ?_
    rintro e w3 ⟨rfl, hb3⟩
    have c0 := (hb3.cell (by simp only; omega)).trans hn0
    have c1 := (hb3.cell (by simp only; omega)).trans hn1
    have HG3 := Lib.hid (HGa.out.below hb3)
    have HB3 := Lib.hid (HBa.out.trans (hb3.mono (show E ≤ wa.heap.size by omega)))
    clear q1 q2 hn0 hn1 hb3 HGa HBa
    go_wp2_with fail
    refine (HIX.out _).mono ?_
    rintro e w3' ⟨rfl, rfl⟩
    cases hbp : backP B es k with
    | true =>
      have hq : ¬ ix < 0 := by have := HIV.out.2 hbp; omega
      have HX : Hid (keptI B es (k + 1) = keptI B es k) := Lib.hid (keptI_no hbp)
      clear hbp
      go_wp2_with fail
      go_roundw
      case rel => exact ⟨k + 1, s, g, cc, by omega, by go_num, rfl, by rw [HX.out]; exact HSD, by rw [HX.out]; exact HG3, HB3⟩
      case measure => simp [intOf]; omega
    | false =>
      have hq : ix < 0 := by
        have h := HIV.out
        rw [hbp] at h
        by_cases hi : 0 ≤ ix
        · exact absurd (h.1 hi) (by simp)
        · omega
      have HX : Hid (keptX es (keptI B es (k + 1)) = keptX es (keptI B es k) ++ [((p1, p2), 0, k)]) := Lib.hid (by rw [keptI_yes hbp, keptX_snoc, HEA.out])
      clear hbp
      obtain ⟨xs, hxs⟩ : ∃ xs, ((keptX es (keptI B es k)).map fun x => x.1) = xs := ⟨_, rfl⟩
      have hxl : xs.length ≤ 16 := by
        rw [← hxs]
        have := keptI_len B es k
        simp only [keptX, List.length_map]; omega
      have HXE : Hid (((keptX es (keptI B es (k + 1))).map fun x => x.1) = xs ++ [(p1, p2)]) := Lib.hid (by rw [HX.out, List.map_append, hxs]; rfl)
      have HSE : Hid ((s ++ ⟨#[nameOf k]⟩).data.toList = (keptX es (keptI B es (k + 1))).map kindL) := Lib.hid (by
        rw [HX.out, List.map_append]
        exact str_snoc HSD.out)
      rw [hxs] at HG3
      clear hxs HG HSD
      have hz3 : E ≤ w3.heap.size := Nat.le_trans hez HB3.out.size
      have hEO := HG3.out.2.1
      have hbE : Below w3.heap.size w3 (w3.alloc (.cells #[.string p1, .string p2] 70)) := (Below.refl _ _).alloc (Nat.le_refl _) _
      have HG4 := Lib.hid (HG3.out.below hbE)
      have HB4 := Lib.hid (HB3.out.trans (hbE.mono hz3))
      have hz4 : E ≤ (w3.alloc (.cells #[.string p1, .string p2] 70)).heap.size := Nat.le_trans hz3 hbE.size
      have HZ4 := Lib.hid hz4
      obtain ⟨d0, d1, f1⟩ := HG3.out.cells
      have hsz : ¬ 9223372036854775807 < s.size + (⟨#[nameOf k]⟩ : ByteArray).size := by
        have : (⟨#[nameOf k]⟩ : ByteArray).size = 1 := rfl
        omega
      clear hbE hz4 HG3 HB3
      go_wp2_with (first
        | (at_builtin; refine wpList_append_own _ rfl (.tmp 36) (.tmp 38) 29 rfl E 70 i0 (.agg #[.string ⟨#[]⟩, .string ⟨#[]⟩]) 2 32 Tryz.underlying29 HI.out HI0.out HI1.out HI2.out rfl (by decide) _ xs.length (cellsE xs) rfl HG4.out.2.2.2 ⟨w3.heap.size, 0, none⟩ 1 1 [.string p1, .string p2] rfl rfl (grow_new w3 p1 p2) (grow_one p1 p2) (by unfold maxLen; omega) (by omega) HZ4.out ?_; intro v5 w5 hown5 hgr5 _; go_must (
           obtain ⟨g5, c5, rfl⟩ := Go.Joins.ownsRow_form hown5 (by omega)
           replace hgr5 : (w3.alloc (.cells #[.string p1, .string p2] 70)).grownBy w5 (some g) := hgr5
           have hr5 := HG4.out.2.2.1.of_block (hgr5.block O HG4.out.1 HG4.out.ne)
           have u1 := hr5.cell (i := 1) (by omega); have uf1 := hr5.frozen 1
           have HG5 := Lib.hid (HG4.out.step hown5 hgr5)
           have HB5 := Lib.hid (HG4.out.keeps (v := .slice (some ⟨g5, 0, none⟩) (xs.length + 1) c5) (Nat.le_refl _) HB4.out hgr5)
           clear hr5 hown5 hgr5))
        | (go_at_call 52; refine (l1Name_any k (by omega) _).mono ?_; rintro e w6 ⟨rfl, hb6⟩))
      have HG6 := Lib.hid (HG5.out.below hb6)
      have HB6 := Lib.hid (HB5.out.trans (hb6.mono (show E ≤ _ by have := HG5.out.1; omega)))
      clear u1 uf1 hb6 HG5 HB5
      go_roundw
      case rel => exact ⟨k + 1, _, g5, c5, by omega, by go_num, rfl, HSE, by rw [HXE.out]; exact HG6, HB6⟩
      case measure => simp [intOf]; omega

end Go.Proofs.YtpeafheljcjlhaaGreat

namespace Go.Proofs.YtpeafheljcjlhaaGreat
open Go.RowKit
set_option linter.unusedVariables false
set_option linter.unusedSimpArgs false

set_option maxRecDepth 100000 in
set_option maxHeartbeats 4000000 in
/-- spec.CanCut -/
theorem specCanCut_any (B : ByteArray) (A : Option Addr) (cap : Nat) (es : List (ByteArray × ByteArray)) (w : World) (hs : B.size ≤ maxLen) (hE : EdgesIn w w.heap.size A es) (hl : es.length ≤ 1099511627776) (_ : ∀ e ∈ es, e.1.size ≤ 1099511627776 ∧ e.2.size ≤ 1099511627776) :
    Calls Tryz.prog 26 #[.agg #[.string B, .slice A es.length cap]] w (BoolPost (decB (Cuttable B es)) w) := by
  have hl2 : es.length ≤ maxLen := by unfold maxLen; omega
  have HL := Lib.hid hl; have HL2 := Lib.hid hl2; have HM := Lib.hid hs
  clear hl hl2 hs
  have hb1 : Below w.heap.size w (w.alloc (.cells #[.string B, .slice A es.length cap] 31)) := (Below.refl _ _).alloc (Nat.le_refl _) _
  have t1 := Two.made w B A es.length cap 31
  have hz1 : (w.alloc (.cells #[.string B, .slice A es.length cap] 31)).heap.size = w.heap.size + 1 := by simp
  by_cases hv : Valid B.data.toList (ebs es)
  case neg =>
    have HD : Hid (decB (Valid B.data.toList (ebs es)) = false) := Lib.hid (decB_f hv)
    have HN : Hid (decB (Cuttable B es) = false) := Lib.hid (decB_f fun h => hv h.1)
    clear hv
    go_enter Tryz.func26, Tryz.ntmps26
    go_wp2_with fail
    refine (specValid_any B A cap es _ HM.out ((hE.below hb1).more hb1.size) HL2.out).mono ?_
    rw [HD.out]
    rintro e w2 ⟨rfl, hb2⟩
    have hb2' := hb1.trans (hb2.mono hb1.size)
    clear hb2
    go_wp2_with fail
    go_ret
    exact ⟨by rw [HN.out]; rfl, hb2'⟩
  have HD : Hid (decB (Valid B.data.toList (ebs es)) = true) := Lib.hid (decB_t hv)
  have HV := Lib.hid hv
  have hF := facts_of hv
  have h16 := hF.few
  have h8 := hF.eight
  have hce : (cutE B es).length ≤ 32 := by rw [cutE_len]; exact cutX_len h16 h8
  have HCQ : Hid (Cuttable B es ↔ ¬ SamePos B es ((List.range es.length).filter (backP B es)).length ∧ Valid B.data.toList (ebs (cutE B es))) := Lib.hid (by
    unfold Cuttable
    rw [same_pos]
    exact ⟨fun h => h.2, fun h => ⟨HV.out, h⟩⟩)
  obtain ⟨bt, hbt⟩ : ∃ bt : ByteArray, (⟨(names (backP B es) es.length).toArray⟩ : ByteArray) = bt := ⟨_, rfl⟩
  have HBD : Hid (bt.data.toList = ((List.range es.length).filter (backP B es)).map nameOf) := Lib.hid (by rw [← hbt]; rfl)
  have HBZ : Hid (bt.size = ((List.range es.length).filter (backP B es)).length) := Lib.hid (by rw [str_size HBD.out]; simp)
  have hb16 : bt.size ≤ 16 := by rw [HBZ.out]; exact Nat.le_trans (List.length_filter_le _ _) (by simpa using h16)
  have FB : Hid (∀ W : World, EdgesIn W W.heap.size A es → Calls Tryz.prog 46 #[.agg #[.string B, .slice A es.length cap]] W fun e w' => e = .returned (.string bt) ∧ Below W.heap.size W w') := Lib.hid fun W h => by
    rw [← hbt]; exact l3Back_any B A cap es W h hF HM.out
  obtain ⟨f, hf⟩ : ∃ f : ByteArray → ByteArray, f = fun S => (eAt es (eIdx es.length S.data.toList).toNat).1 := ⟨_, rfl⟩
  obtain ⟨g, hg⟩ : ∃ g : ByteArray → ByteArray, g = fun S => (eAt es (eIdx es.length S.data.toList).toNat).2 := ⟨_, rfl⟩
  have FL : Hid (∀ (S : ByteArray) (W : World), EdgesIn W W.heap.size A es → 0 ≤ eIdx es.length S.data.toList → Calls Tryz.prog 47 #[.agg #[.string B, .slice A es.length cap], .string S] W fun e w' => e = .returned (.agg #[.string (f S), .string (g S)]) ∧ Below W.heap.size W w') := Lib.hid fun S W h hx => by
    obtain ⟨j, hj, hi⟩ := eIdx_some hx
    have h' := l2Edge_any B A cap es S j W h HL.out hj hi
    have e1 : es[j].1 = f S := by rw [hf]; show es[j].1 = (eAt es (eIdx es.length S.data.toList).toNat).1; rw [hi, Int.toNat_natCast, eAt_at hj]
    have e2 : es[j].2 = g S := by rw [hg]; show es[j].2 = (eAt es (eIdx es.length S.data.toList).toNat).2; rw [hi, Int.toNat_natCast, eAt_at hj]
    rwa [e1, e2] at h'
  have HFG : Hid (∀ S, eAt es (eIdx es.length S.data.toList).toNat = (f S, g S)) := Lib.hid fun S => by rw [hf, hg]
  have HI : Hid (∀ j, j < bt.size → eIdx es.length (bt.extract j (j + 1)).data.toList = bkI B es j) := Lib.hid fun j hj => by
    have hj2 : j < ((List.range es.length).filter (backP B es)).length := by rw [← HBZ.out]; exact hj
    have hm := bkI_mem hj2
    rw [letter_at hj, HBD.out]
    have : (((List.range es.length).filter (backP B es)).map nameOf).getD j 0 = nameOf (bkI B es j) := by
      rw [bkI_at hj2]
      simp [List.getD, hj2]
    rw [this]
    exact eIdx_name hm.1 (by omega)
  clear hf hg hbt hv hF
  go_enter Tryz.func26, Tryz.ntmps26
  go_wp2_with fail
  refine (specValid_any B A cap es _ HM.out ((hE.below hb1).more hb1.size) HL2.out).mono ?_
  rw [HD.out]
  rintro e w2 ⟨rfl, hb2⟩
  have hb2' := hb1.trans (hb2.mono hb1.size)
  have t2 := t1.below hb2 (by omega)
  have hz2 := hb2'.size
  have hz2b := hb2.size
  have hd0 := t2.1; have hd1 := t2.2
  clear hb2 t1 hb1
  go_wp2_with fail
  refine (l8Build_any B A cap es _ HM.out ((hE.below hb2').more hb2'.size) HV.out).mono ?_
  rintro e w3 ⟨A2, c2, rfl, hE3, hb3, -⟩
  obtain ⟨ce, hce'⟩ : ∃ ce, cutE B es = ce := ⟨_, rfl⟩
  obtain ⟨ck, hck⟩ : ∃ ck : ByteArray, (⟨(cutK B es).toArray⟩ : ByteArray) = ck := ⟨_, rfl⟩
  rw [hce'] at hce hE3 HCQ
  rw [hce', hck]
  clear hce' hck
  have hb3' := hb2'.trans (hb3.mono hb2'.size)
  have t3 := t2.below hb3 (by omega)
  have hz3 := hb3.size
  have hb4 : Below w3.heap.size w3 (w3.alloc (.cells #[.string B, .slice A2 ce.length c2] 31)) := (Below.refl _ _).alloc (Nat.le_refl _) _
  have m4 := Two.made w3 B A2 ce.length c2 31
  have hE4 := (hE3.below hb4).more hb4.size
  have t4 := t3.below hb4 (by omega)
  have hb4' := hb3'.trans (hb4.mono hb3'.size)
  have hz4 : (w3.alloc (.cells #[.string B, .slice A2 ce.length c2] 31)).heap.size = w3.heap.size + 1 := by simp
  clear hd0 hd1 hb3 hb4 t2 t3 hE3
  have hd0 := t4.1; have hd1 := t4.2
  go_wp2_with fail
  generalize hW4 : w3.alloc (.cells #[.string B, .slice A2 ce.length c2] 31) = w4 at m4 hE4 t4 hb4' hz4 hd0 hd1 ⊢
  clear hW4
  refine (FB.out _ ((hE.below hb4').more hb4'.size)).mono ?_
  rintro e w5 ⟨rfl, hb5⟩
  have t5 := t4.below hb5 (by omega)
  have m5 := m4.below hb5 (by omega)
  have hz5 := hb5.size
  have HE5 := Lib.hid ((hE4.below hb5).more hb5.size)
  have HB5 := Lib.hid (hb4'.trans (hb5.mono hb4'.size))
  have HT5 := Lib.hid t5; have HM5 := Lib.hid m5
  have hl5 : w.heap.size < w5.heap.size := by omega
  have hm5 : w3.heap.size < w5.heap.size := by omega
  clear hd0 hd1 hb5 t4 m4 hE4 hb4' FB t5 m5 hz1 hz2 hz2b hz3 hz4 hz5 hb2' hb3'
  go_wp2_with fail
  go_loopw [20] (fun c wr => ∃ i : Nat, i ≤ bt.size ∧ c = .int .i64 i ∧ Hid (¬ SamePos B es i) ∧ Hid (Below w5.heap.size w5 wr)) (fun c _ => bt.size - (intOf c).toNat)
  case atStart => exact ⟨0, Nat.zero_le _, rfl, Lib.hid (samePos_zero B es), Lib.hid (Below.refl _ _)⟩
  case round =>
    obtain ⟨i, hi, rfl, HP, HB⟩ := hrel
    by_cases hlt : i < bt.size
    case neg =>
      have hib : i = bt.size := by omega
      have HPP : Hid (¬ SamePos B es ((List.range es.length).filter (backP B es)).length) := Lib.hid (by rw [← HBZ.out, ← hib]; exact HP.out)
      have HDC : Hid (decB (Valid B.data.toList (ebs ce)) = decB (Cuttable B es)) := Lib.hid (by
        by_cases hc : Valid B.data.toList (ebs ce)
        · rw [decB_t hc, decB_t (HCQ.out.2 ⟨HPP.out, hc⟩)]
        · rw [decB_f hc, decB_f (fun h => hc (HCQ.out.1 h).2)])
      have mr := HM5.out.below HB.out hm5
      have hd0 := mr.1; have hd1 := mr.2
      clear mr hib
      go_wp2_with fail
      refine (specValid_any B A2 c2 ce _ HM.out ((HE5.out.below HB.out).more HB.out.size) (by unfold maxLen; omega)).mono ?_
      rw [HDC.out]
      rintro e w6 ⟨rfl, hb6⟩
      obtain ⟨bv, hbv⟩ : ∃ bv, decB (Cuttable B es) = bv := ⟨_, rfl⟩
      have HBV := Lib.hid hbv
      rw [hbv]
      clear hbv hd0 hd1
      go_wp2_with fail
      go_ret
      have hbw := HB5.out.trans (HB.out.mono HB5.out.size)
      exact ⟨by rw [HBV.out]; rfl, hbw.trans (hb6.mono hbw.size)⟩
    go_wp2_with fail
    go_loopw [24] (fun c wr => ∃ k : Nat, k ≤ i ∧ c = .int .i64 k ∧ Hid (∀ b, b < k → eAt es (bkI B es i) ≠ eAt es (bkI B es b)) ∧ Hid (Below w5.heap.size w5 wr)) (fun c _ => i - (intOf c).toNat)
    case atStart => exact ⟨0, Nat.zero_le _, rfl, Lib.hid (fun b h => absurd h (by omega)), HB⟩
    case round =>
      clear HB
      obtain ⟨k, hk, rfl, HQ, HB⟩ := hrel
      by_cases hki : k < i
      case neg =>
        have hke : k = i := by omega
        have HP1 : Hid (¬ SamePos B es (i + 1)) := Lib.hid (samePos_step HP.out (by rw [← hke]; rw [hke]; exact fun b hb => HQ.out b (by omega)))
        clear hke
        go_wp2_with fail
        go_roundw
        case rel => exact ⟨i + 1, by omega, by go_num, HP1, HB⟩
        case measure => simp [intOf]; omega
      obtain ⟨S1, hS1⟩ : ∃ S1, bt.extract i (i + 1) = S1 := ⟨_, rfl⟩
      obtain ⟨S2, hS2⟩ : ∃ S2, bt.extract k (k + 1) = S2 := ⟨_, rfl⟩
      have HX1 : Hid (eIdx es.length S1.data.toList = bkI B es i) := Lib.hid (by rw [← hS1]; exact HI.out i hlt)
      have HX2 : Hid (eIdx es.length S2.data.toList = bkI B es k) := Lib.hid (by rw [← hS2]; exact HI.out k (by omega))
      have HY1 : Hid (0 ≤ eIdx es.length S1.data.toList) := Lib.hid (by rw [HX1.out]; omega)
      have HY2 : Hid (0 ≤ eIdx es.length S2.data.toList) := Lib.hid (by rw [HX2.out]; omega)
      have HE1 : Hid (eAt es (bkI B es i) = (f S1, g S1)) := Lib.hid (by rw [← HFG.out S1, HX1.out, Int.toNat_natCast])
      have HE2 : Hid (eAt es (bkI B es k) = (f S2, g S2)) := Lib.hid (by rw [← HFG.out S2, HX2.out, Int.toNat_natCast])
      obtain ⟨v, hv⟩ : ∃ v, decide ((f S1, g S1) = (f S2, g S2)) = v := ⟨_, rfl⟩
      have HVV := Lib.hid hv
      clear hv
      have tr := HT5.out.below HB.out hl5
      have x0 : ∀ x : After wr, x.W.cell? ⟨w.heap.size, 0, none⟩ = some (.string B) := fun x => x.cell (by simp only; have := HB.out.size; omega) tr.1
      have x1 : ∀ x : After wr, x.W.cell? ⟨w.heap.size, 1, none⟩ = some (.slice A es.length cap) := fun x => x.cell (by simp only; have := HB.out.size; omega) tr.2
      have XE : Hid (∀ x : After wr, EdgesIn x.W x.W.heap.size A es) := Lib.hid fun x => by
        have hbw := HB5.out.trans (HB.out.mono HB5.out.size)
        exact ((hE.below hbw).below (x.h.mono hbw.size)).more (Nat.le_trans hbw.size x.h.size)
      have a1 : (0 : Int) ≤ (i : Int) := by omega
      have a4 : (0 : Int) ≤ (i : Int) + 1 := by omega
      have a5 : ((i : Int) + 1).toNat = i + 1 := by omega
      have a6 : (i : Int) + 1 ≤ (bt.size : Int) := by omega
      have a7 : i + 1 ≤ bt.size := by omega
      have a8 : (i : Int) ≤ (i : Int) + 1 := by omega
      have a3 : IntKind.i64.wrap ((i : Int) + 1) = (i : Int) + 1 := IntWalk.i64_in _ (by omega)
      have b1 : (0 : Int) ≤ (k : Int) := by omega
      have b4 : (0 : Int) ≤ (k : Int) + 1 := by omega
      have b5 : ((k : Int) + 1).toNat = k + 1 := by omega
      have b6 : (k : Int) + 1 ≤ (bt.size : Int) := by omega
      have b7 : k + 1 ≤ bt.size := by omega
      have b8 : (k : Int) ≤ (k : Int) + 1 := by omega
      have b3 : IntKind.i64.wrap ((k : Int) + 1) = (k : Int) + 1 := IntWalk.i64_in _ (by omega)
      clear tr
      go_wp2_with fail
      refine wp_region_below (by kernel_rfl) (by kernel_rfl) ?_
      have hcmp : ∀ W : World, (binOp .eql 70 (.agg #[.string (f S1), .string (g S1)]) (.agg #[.string (f S2), .string (g S2)])).run Tryz.prog W = .ok (.bool v) W := fun W => by rw [edge_eql, HVV.out]
      repeat (go_big_quiet_step ((first
        | (go_at_call 47; exact After.call (FL.out _ _ (XE.out _) (by first | exact HY1.out | exact HY2.out))))))
      refine wpQuiet_nil ?_
      rintro _ ⟨x, rfl⟩
      have HBX := Lib.hid (HB.out.trans (x.h.mono HB.out.size))
      clear x0 x1 hcmp a1 a3 a4 a5 a6 a7 a8 b1 b3 b4 b5 b6 b7 b8
      cases v with
      | true =>
        have HN : Hid (decB (Cuttable B es) = false) := Lib.hid (decB_f fun h => (HCQ.out.1 h).1 ⟨i, k, hki, by rw [← HBZ.out]; exact hlt, by rw [HE1.out, HE2.out]; exact of_decide_eq_true HVV.out⟩)
        go_wp2_with fail
        go_ret
        exact ⟨by rw [HN.out]; rfl, HB5.out.trans (HBX.out.mono HB5.out.size)⟩
      | false =>
        have HQ1 : Hid (∀ b, b < k + 1 → eAt es (bkI B es i) ≠ eAt es (bkI B es b)) := Lib.hid fun b hb => by
          by_cases hbk : b < k
          · exact HQ.out b hbk
          · have : b = k := by omega
            subst this
            rw [HE1.out, HE2.out]
            exact of_decide_eq_false HVV.out
        go_wp2_with fail
        go_roundw
        case rel => exact ⟨k + 1, by omega, by go_num, HQ1, HBX⟩
        case measure => simp [intOf]; omega

end Go.Proofs.YtpeafheljcjlhaaGreat

namespace Go.Proofs.YtpeafheljcjlhaaGreat
open Go.RowKit
set_option linter.unusedVariables false
set_option linter.unusedSimpArgs false

/-- a net's variable and the result's, as a call begins -/
structure Begun (w : World) (B : ByteArray) (A : Option Addr) (n cap : Nat) (w1 : World) : Prop where
  below : Below w.heap.size w w1
  two : Two w1 w.heap.size B A n cap
  row : w1.rowIs (w.heap.size + 1) 31 2 (fun i => if i = 0 then .string ⟨#[]⟩ else .slice none 0 0)
  size : w.heap.size + 2 ≤ w1.heap.size

theorem begun (w : World) (B : ByteArray) (A : Option Addr) (n cap : Nat) : Begun w B A n cap ((w.alloc (.cells #[.string B, .slice A n cap] 31)).alloc (.cells #[.string ⟨#[]⟩, .slice none 0 0] 31)) := by
  refine ⟨((Below.refl _ _).alloc (Nat.le_refl _) _).alloc (by simp) _, ⟨by go_simp, by go_simp⟩, ?_, by simp⟩
  have h := World.rowIs_alloc (w.alloc (.cells #[.string B, .slice A n cap] 31)) #[.string ⟨#[]⟩, .slice none 0 0] 31 (fun i => if i = 0 then .string ⟨#[]⟩ else .slice none 0 0) (fun i hi => by
    match i, hi with
    | 0, _ => rfl
    | 1, _ => rfl)
  rwa [World.size_alloc] at h
theorem Begun.go {w w1 w2 : World} {B : ByteArray} {A : Option Addr} {n cap : Nat} (h : Begun w B A n cap w1) (k : Below w1.heap.size w1 w2) : Begun w B A n cap w2 :=
  ⟨h.below.trans (k.mono h.below.size), h.two.below k (by have := h.size; omega), h.row.of_block (k.block _ (by have := h.size; omega)), Nat.le_trans h.size k.size⟩
theorem Begun.cells {w w1 : World} {B : ByteArray} {A : Option Addr} {n cap : Nat} (h : Begun w B A n cap w1) :
    w1.cell? ⟨w.heap.size, 0, none⟩ = some (.string B) ∧ w1.cell? ⟨w.heap.size, 1, none⟩ = some (.slice A n cap) ∧ w1.cell? ⟨w.heap.size + 1, 0, none⟩ = some (.string ⟨#[]⟩) ∧ w1.cell? ⟨w.heap.size + 1, 1, none⟩ = some (.slice none 0 0) ∧
      w1.frozen? ⟨w.heap.size + 1, 0, none⟩ = false ∧ w1.frozen? ⟨w.heap.size + 1, 1, none⟩ = false := by
  have h0 := h.row.cell (i := 0) (by omega); have h1 := h.row.cell (i := 1) (by omega)
  exact ⟨h.two.1, h.two.2, h0, h1, h.row.frozen 0, h.row.frozen 1⟩

end Go.Proofs.YtpeafheljcjlhaaGreat

namespace Go.Proofs.YtpeafheljcjlhaaGreat
open Go.RowKit
set_option linter.unusedVariables false
set_option linter.unusedSimpArgs false

set_option maxRecDepth 100000 in
set_option maxHeartbeats 2000000 in
/-- spec.LoopNet -/
theorem specLoopNet_q (B : ByteArray) (A : Option Addr) (cap : Nat) (es : List (ByteArray × ByteArray)) (w : World) (hs : B.size ≤ maxLen) (hE : EdgesIn w w.heap.size A es) (hl : es.length ≤ 1099511627776) (hS : ∀ e ∈ es, e.1.size ≤ 1099511627776 ∧ e.2.size ≤ 1099511627776) :
    Calls Tryz.prog 40 #[.agg #[.string B, .slice A es.length cap]] w (QPost (cutQ B es) w) := by
  have HM := Lib.hid hs
  have FC : Hid (∀ W : World, EdgesIn W W.heap.size A es → Calls Tryz.prog 26 #[.agg #[.string B, .slice A es.length cap]] W (BoolPost (decB (Cuttable B es)) W)) := Lib.hid fun W h => specCanCut_any B A cap es W hs h hl hS
  have HB := Lib.hid (begun w B A es.length cap)
  clear hs hl hS
  by_cases hc : Cuttable B es
  case neg =>
    have HQ : Hid (cutQ B es = (⟨#[]⟩, [], false)) := Lib.hid (cutQ_no hc)
    have HD : Hid (decB (Cuttable B es) = false) := Lib.hid (decB_f hc)
    clear hc
    go_enter Tryz.func40, Tryz.ntmps40
    go_wp2_with fail
    generalize hW1 : (w.alloc (.cells #[.string B, .slice A es.length cap] 31)).alloc (.cells #[.string ⟨#[]⟩, .slice none 0 0] 31) = w1 at HB ⊢
    clear hW1
    refine (FC.out _ ((hE.below HB.out.below).more HB.out.below.size)).mono ?_
    rw [HD.out]
    rintro e w2 ⟨rfl, hb2⟩
    have HB2 := Lib.hid (HB.out.go hb2)
    clear hb2
    obtain ⟨-, -, d0, d1, f0, f1⟩ := HB2.out.cells
    go_wp2_with fail
    refine bodyPost_ret (v := .tuple #[.agg #[.string ⟨#[]⟩, .slice none 0 0], .bool false]) (by simp [results, Tryz.results40, go_sem, d0, d1]) rfl ?_
    rw [HQ.out]
    exact ⟨none, 0, rfl, fun i hi => absurd hi (by simp), (HB2.out.below.setCell (by simp only; omega) _).setCell (by simp only; omega) _⟩
  have HQ : Hid (cutQ B es = (B, cutE B es, true)) := Lib.hid (cutQ_yes hc)
  have HD : Hid (decB (Cuttable B es) = true) := Lib.hid (decB_t hc)
  have HV := Lib.hid hc.1
  obtain ⟨ce, hce⟩ : ∃ ce, cutE B es = ce := ⟨_, rfl⟩
  obtain ⟨ck, hck⟩ : ∃ ck : ByteArray, (⟨(cutK B es).toArray⟩ : ByteArray) = ck := ⟨_, rfl⟩
  have HCE := Lib.hid hce; have HCK := Lib.hid hck
  clear hc hce hck
  go_enter Tryz.func40, Tryz.ntmps40
  go_wp2_with fail
  generalize hW1 : (w.alloc (.cells #[.string B, .slice A es.length cap] 31)).alloc (.cells #[.string ⟨#[]⟩, .slice none 0 0] 31) = w1 at HB ⊢
  clear hW1
  refine (FC.out _ ((hE.below HB.out.below).more HB.out.below.size)).mono ?_
  rw [HD.out]
  rintro e w2 ⟨rfl, hb2⟩
  have HB2 := Lib.hid (HB.out.go hb2)
  clear hb2
  obtain ⟨d0, d1, -⟩ := HB2.out.cells
  go_wp2_with fail
  refine (l8Build_any B A cap es _ HM.out ((hE.below HB2.out.below).more HB2.out.below.size) HV.out).mono ?_
  rintro e w3 ⟨A3, c3, rfl, hE3, hb3, hO3⟩
  rw [HCE.out] at hE3 hO3
  rw [HCE.out, HCK.out]
  have hba : Below w3.heap.size w3 (w3.alloc (.cells #[.string B, .slice A3 ce.length c3] 31)) := (Below.refl _ _).alloc (Nat.le_refl _) _
  have t4 := Two.made w3 B A3 ce.length c3 31
  have HB4 := Lib.hid ((HB2.out.go hb3).go hba)
  have HE4 := Lib.hid ((hE3.below hba).more hba.size)
  have HO4 := Lib.hid (hO3.below hba)
  have hz2 := HB2.out.size
  have hz3 : w.heap.size + 2 ≤ w3.heap.size := (HB2.out.go hb3).size
  clear d0 d1 hb3 hba hE3 hO3
  have hr0 := t4.1; have hr1 := t4.2
  obtain ⟨-, -, d0, d1, f0, f1⟩ := HB4.out.cells
  go_wp2_with fail
  generalize hW4 : w3.alloc (.cells #[.string B, .slice A3 ce.length c3] 31) = w4 at HB4 HE4 HO4 t4 hr0 hr1 d0 d1 f0 f1 ⊢
  have hg6 : w4.grownBy ((w4.setCell ⟨w.heap.size + 1, 0, none⟩ (.string B)).setCell ⟨w.heap.size + 1, 1, none⟩ (.slice A3 ce.length c3)) (some (w.heap.size + 1)) :=
    only_setCell_at (only_setCell_at (World.grownBy.refl w4 _))
  have hne6 := HO4.out.ne (c := w.heap.size + 1) (by omega)
  refine bodyPost_ret (v := .tuple #[.agg #[.string B, .slice A3 ce.length c3], .bool true]) (by simp [results, Tryz.results40, go_sem, d0, d1]) rfl ?_
  rw [HQ.out, HCE.out]
  exact ⟨A3, c3, rfl, (HE4.out.grown hg6 (Nat.le_refl _) hne6).more hg6.size, (HB4.out.below.setCell (by simp only; omega) _).setCell (by simp only; omega) _⟩

end Go.Proofs.YtpeafheljcjlhaaGreat
