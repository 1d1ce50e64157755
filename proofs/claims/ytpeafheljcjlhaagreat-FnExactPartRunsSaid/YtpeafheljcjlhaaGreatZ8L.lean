/- Lists of texts. -/
import Derived.Test.YtpeafheljcjlhaaGreatRange
import Derived.Test.YtpeafheljcjlhaaGreatNet1
import Derived.Test.YtpeafheljcjlhaaGreatNetQ
import Derived.Test.YtpeafheljcjlhaaGreatGraph
import Derived.RangeFuncWrites
import Derived.Deep.RegionHeld3
import Derived.Laws.OwnMore
namespace Go.Proofs.YtpeafheljcjlhaaGreat
open Go.RowKit

/-- at the wide fence a round's contract says nothing of depth -/
theorem round_wide {P : Program} {m m' l : Nat} {f : FuncId} {tmps : Array Value} {assign body : Code} {w : World} {R : Ending → World → Prop} (h : RoundIn Fence.wide m P l f tmps assign body w R) : RoundIn Fence.wide m' P l f tmps assign body w R :=
  ⟨h.1, fun c cs _ => h.2 c cs (fun d hd => by cases hd)⟩
theorem yield_wide {P : Program} {m m' l : Nat} {args : Array Value} {W : World} {R : Ending → World → Prop} (h : YieldAt Fence.wide m P l args W R) : YieldAt Fence.wide m' P l args W R := by
  obtain ⟨fn, tmps, assign, body, h1, h2⟩ := h
  exact ⟨fn, tmps, assign, body, h1, round_wide h2⟩
theorem round_in {P : Program} {m l k : Nat} {f : FuncId} {tmps : Array Value} {assign body : Code} {w : World} {R : Ending → World → Prop} (h : RoundIn Fence.wide m P l f tmps assign body w R) : RoundIn (Fence.wide.inRound k) m P l f tmps assign body w R := h

/-- what an iterator keeps for its caller: the blocks below B, and every row of texts -/
structure KeepT (B : Nat) (A A' : World) : Prop where
  os : A'.os = A.os
  tape : A'.tape = A.tape
  output : A'.output = A.output
  size : A.heap.size ≤ A'.heap.size
  low : ∀ i, i < B → A'.heap[i]? = A.heap[i]?
  texts : ∀ (i : Nat) (C : Array Value) (fr : Nat × Nat), A.heap[i]? = some (Obj.cells C 9 fr) → A'.heap[i]? = some (Obj.cells C 9 fr)
theorem KeepT.refl (B : Nat) (A : World) : KeepT B A A := ⟨rfl, rfl, rfl, Nat.le_refl _, fun _ _ => rfl, fun _ _ _ h => h⟩
theorem KeepT.trans {B : Nat} {A A' A2 : World} (h : KeepT B A A') (k : KeepT B A' A2) : KeepT B A A2 :=
  ⟨k.os.trans h.os, k.tape.trans h.tape, k.output.trans h.output, Nat.le_trans h.size k.size, fun i hi => (k.low i hi).trans (h.low i hi), fun i C fr hi => k.texts i C fr (h.texts i C fr hi)⟩
theorem KeepT.mono {B B' : Nat} {A A' : World} (h : KeepT B A A') (hB : B' ≤ B) : KeepT B' A A' := ⟨h.os, h.tape, h.output, h.size, fun i hi => h.low i (by omega), h.texts⟩
theorem KeepT.below {B : Nat} {A A' : World} (h : Below A.heap.size A A') (hB : B ≤ A.heap.size) : KeepT B A A' :=
  ⟨h.os, h.tape, h.output, h.size, fun i hi => h.block i (by omega), fun i C fr hi => (h.block i (Array.getElem?_eq_some_iff.1 hi).1).trans hi⟩
theorem KeepT.put {B l : Nat} {W : World} {o o' : Obj} (h : W.heap[l]? = some o) (ho : o.isCells = false) (hB : B ≤ l) : KeepT B W (W.putObj l o') := by
  have hb := below_put (B := B) (o' := o') h hB
  refine ⟨hb.os, hb.tape, hb.output, hb.size, fun i hi => hb.block i hi, fun i C fr hi => ?_⟩
  by_cases e : i = l
  · subst e; rw [h] at hi; injection hi with hi; subst hi; simp [Obj.isCells] at ho
  · exact (World.putObj_heap_other e).trans hi

/-- what is said of a world stands whatever is done to blocks from B on that are no rows of texts -/
def StaysT {α : Type} (B : Nat) (J : List α → World → Prop) : Prop := ∀ s A A', J s A → KeepT B A A' → J s A'

/-- the contract of an iterator that leaves rows of texts alone -/
def SeqRunT {α : Type} (F : Fence) (n : Nat) (P : Program) (g : Nat) (lb : Array Value) (encs : α → Array Value) (Kp : World → World → Prop) (S Sp : List α → Prop) (N : Nat) (w : World) (l : Nat) : Prop :=
  ∀ (J Jx : List α → World → Prop) (W : World), Below w.heap.size w W → l < W.heap.size → StaysT W.heap.size J → StaysT W.heap.size Jx →
    (∀ pre x W1, J pre W1 → pre.length < N → YieldAt F (n - 1) P l (encs x) W1 fun e W' =>
      (e = .returned (.bool true) ∧ J (pre ++ [x]) W' ∧ Kp W1 W') ∨ (e = .returned (.bool false) ∧ Jx (pre ++ [x]) W' ∧ Kp W1 W')) →
    J [] W →
    CallsIn F n P g (#[.func (.yield l) #[] #[]] ++ lb) W fun e W' => (∃ v, e = .returned v) ∧ ((∃ xs, S xs ∧ J xs W') ∨ (∃ pre, Sp pre ∧ Jx pre W'))

variable {F : Fence} {n : Nat} {P : Program}

/-- how the body of a round may be left: what is no cells and lies from B on lies as it lay -/
def roundPostN {α : Type} (B : Nat) (Kp : World → World → Prop) (I : List α → World → Prop) (Ix : Code → List α → World → Prop) (xs : List α) (W : World) : Exit → Act → World → Prop
  | .normal, _, W' => KeepsFrom B W W' ∧ Kp W W' ∧ I xs W'
  | .ret, _, W' => KeepsFrom B W W' ∧ Kp W W' ∧ Ix .ret xs W'
  | _, _, _ => False

/-- the same, where a round may change what lay before the loop -/
theorem wpIn_range_texts {α : Type} {g : Operand} {ps : Array Tmp} {assign body : Code} {Q : Exit → Act → World → Prop} {a : Act} {w : World}
    (hro : F.round = none) (h1 : 1 ≤ n) {gf : Nat} {lb : Array Value} (hg : a.eval g = .func (.func gf) #[] lb) (hFg : F.fn gf) (eg : ∀ args w, (callFunc gf args).run P w = .ok (.enter gf args) w)
    {encs : α → Array Value} {Kp : World → World → Prop} {S Sp : List α → Prop} {N : Nat} {w0 : World} (hseq : SeqRunT F (n - 1) P gf lb encs Kp S Sp N w0 (w.heap.size + 1))
    (hKt : ∀ {A B C : World}, Kp A B → Kp B C → Kp A C)
    (hKb : ∀ (W : World) (o o' : Obj), W.heap[w.heap.size + 1]? = some o → o.isCells = false → o'.isCells = false → Kp W (W.putObj (w.heap.size + 1) o')) (hb0 : Below w0.heap.size w0 w) (hps : ∀ x, (encs x).size = ps.size)
    (I : List α → World → Prop) (Ix : Code → List α → World → Prop) (hI : StaysT w.heap.size I) (hIx : ∀ c, StaysT w.heap.size (Ix c)) (h0 : I [] w) (a₁ : α → Act)
    (hassign : ∀ (l : Nat) (x : α) (W : World) (K : Act → World → Prop), K (a₁ x) W →
      assign.wpIn (F.inRound l) (n - 1 - 1) P (Exit.then K (fun _ _ _ => False)) { tmps := (ps.zip (encs x)).foldl (fun t (p, v) => t.setIfInBounds p v) a.tmps, defers := [] } W)
    (hbody : ∀ (l : Nat) (pre : List α) (x : α) (W : World), I pre W → pre.length < N → w.heap.size < W.heap.size → body.wpIn (F.inRound l) (n - 1 - 1) P (roundPostN w.heap.size Kp I Ix (pre ++ [x]) W) (a₁ x) W)
    (hdone : ∀ (D : Nat) (xs : List α) (W : World), w.heap.size ≤ D → S xs → I xs W → W.heap[D]? = some (.deferred (some [])) → Q .normal { a with defers := { target := .collected D, args := #[] } :: a.defers } W)
    (hstop : ∀ (D : Nat) (pre : List α) (W : World), w.heap.size ≤ D → Sp pre → Ix .ret pre W → W.heap[D]? = some (.deferred (some [])) → Code.ret.wpIn F n P Q { a with defers := { target := .collected D, args := #[] } :: a.defers } W) :
    (Code.rangeFunc g ps assign body).wpIn F n P Q a w := by
  refine wpIn_rangeFunc fun fn hfn => ?_
  rw [hro]
  -- the loop's record, in its states; the world in which the iterator is called
  obtain ⟨rec, hrec⟩ : ∃ rec : LoopState → Option Code → Loop, rec = fun st pe => { state := st, pending := pe, fn, tmps := a.tmps, params := ps, assign, body, defers := w.heap.size } := ⟨_, rfl⟩
  have hsz : ((w.alloc (.deferred (some []))).alloc (.loop (rec .ready none))).heap.size = w.heap.size + 2 := by simp
  have hL1 : ((w.alloc (.deferred (some []))).alloc (.loop (rec .ready none))).heap[w.heap.size + 1]? = some (.loop (rec .ready none)) := by
    have := World.alloc_heap_new (w.alloc (.deferred (some []))) (.loop (rec .ready none))
    rwa [World.size_alloc] at this
  have hD1 : ((w.alloc (.deferred (some []))).alloc (.loop (rec .ready none))).heap[w.heap.size]? = some (.deferred (some [])) :=
    (Below.heap_alloc _ _ _ (by simp)).trans (World.alloc_heap_new w _)
  have hbe : Below w.heap.size w ((w.alloc (.deferred (some []))).alloc (.loop (rec .ready none))) := ((Below.refl _ w).alloc (Nat.le_refl _) _).alloc (by simp) _
  have henter := run_enterLoop_outer (P := P) (w := w) fn a.tmps ps assign body
  rw [show (({ state := .ready, pending := none, fn, tmps := a.tmps, params := ps, assign, body, defers := w.heap.size } : Loop)) = rec .ready none from by rw [hrec]] at henter
  generalize hW1 : (w.alloc (.deferred (some []))).alloc (.loop (rec .ready none)) = W1 at hsz hL1 hD1 hbe henter
  refine ⟨w.heap.size + 1, [{ target := .collected w.heap.size, args := #[] }], W1, { target := .fn (.func gf) lb, args := #[.func (.yield (w.heap.size + 1)) #[] #[]] }, W1, gf,
    #[.func (.yield (w.heap.size + 1)) #[] #[]] ++ lb, W1, henter, by simp only [resolve, hg]; simp [go_sem], fun f' hf' => by simp [Target.leads] at hf'; subst hf'; exact hFg, by simp [invoke, go_sem, eg], fun _ => h1, ?_⟩
  have hI1 : I [] W1 := hI _ _ _ h0 (KeepT.below hbe (Nat.le_refl _))
  refine (hseq
    (fun pre W => I pre W ∧ W.heap[w.heap.size + 1]? = some (.loop (rec .ready none)) ∧ W.heap[w.heap.size]? = some (.deferred (some [])))
    (fun pre W => Ix .ret pre W ∧ W.heap[w.heap.size + 1]? = some (.loop (rec .done (some .ret))) ∧ W.heap[w.heap.size]? = some (.deferred (some [])))
    W1 (hb0.trans (hbe.mono hb0.size)) (by omega)
    (fun s A A' hs hb => ⟨hI s A A' hs.1 (hb.mono (by omega)), (hb.low _ (by omega)).trans hs.2.1, (hb.low _ (by omega)).trans hs.2.2⟩)
    (fun s A A' hs hb => ⟨hIx _ s A A' hs.1 (hb.mono (by omega)), (hb.low _ (by omega)).trans hs.2.1, (hb.low _ (by omega)).trans hs.2.2⟩)
    ?_ ⟨hI1, hL1, hD1⟩).mono ?_
  · -- one round
    rintro pre x W ⟨hi, hl, hk⟩ hlen
    have hlt : w.heap.size + 1 < W.heap.size := (Array.getElem?_eq_some_iff.1 hl).1
    have hy := run_yield (P := P) (args := encs x) hl (by rw [hrec]; exact hps x)
    rw [hrec] at hy
    refine ⟨fn, _, assign, body, hy, roundIn_of_wpIn hfn (hassign _ x W _ ⟨_, run_beginRound hl (by rw [hrec]), ?_⟩)⟩
    have hl2 : (W.putObj (w.heap.size + 1) (.loop { rec .ready none with state := .busy })).heap[w.heap.size + 1]? = some (.loop { rec .ready none with state := .busy }) := World.putObj_heap_same hlt
    have hk2 : (W.putObj (w.heap.size + 1) (.loop { rec .ready none with state := .busy })).heap[w.heap.size]? = some (.deferred (some [])) := (World.putObj_heap_other (by omega)).trans hk
    have hp2 : Kp W (W.putObj (w.heap.size + 1) (.loop { rec .ready none with state := .busy })) := hKb _ _ _ hl rfl rfl
    refine wpIn_mono (hbody _ pre x _ (hI _ _ _ hi (KeepT.put hl rfl (by omega))) hlen (Nat.lt_of_lt_of_le (by omega) (below_put (B := 0) hl (Nat.zero_le _)).size)) ?_
    have fin : ∀ (jump : Option Code) (W3 : World), KeepsFrom w.heap.size (W.putObj (w.heap.size + 1) (.loop { rec .ready none with state := .busy })) W3 →
        (Instr.endRound (w.heap.size + 1) jump).run P W3 = .ok (.bool jump.isNone) (W3.putObj (w.heap.size + 1) (.loop (rec (if jump.isNone then .ready else .done) jump))) ∧
        W3.heap[w.heap.size + 1]? = some (.loop { rec .ready none with state := .busy }) ∧
        (W3.putObj (w.heap.size + 1) (.loop (rec (if jump.isNone then .ready else .done) jump))).heap[w.heap.size + 1]? = some (.loop (rec (if jump.isNone then .ready else .done) jump)) ∧
        (W3.putObj (w.heap.size + 1) (.loop (rec (if jump.isNone then .ready else .done) jump))).heap[w.heap.size]? = some (.deferred (some [])) := fun jump W3 hk3 => by
      have hl3 := hk3.same _ _ (by omega) hl2 rfl
      have := run_endRound (P := P) jump hl3
      rw [hrec] at this ⊢
      exact ⟨this, by rw [hrec] at hl3; exact hl3, World.putObj_heap_same (Array.getElem?_eq_some_iff.1 hl3).1, (World.putObj_heap_other (by omega)).trans (hk3.same _ _ (Nat.le_refl _) hk2 rfl)⟩
    rintro e a3 W3 hp
    cases e with
    | normal =>
      obtain ⟨hk3, hkp3, hi3⟩ := hp
      obtain ⟨hr, hl3, hl4, hk4⟩ := fin none W3 hk3
      exact ⟨_, _, hr, .inl ⟨rfl, ⟨hI _ _ _ hi3 (KeepT.put hl3 rfl (by omega)), hl4, hk4⟩, hKt (hKt hp2 hkp3) (hKb _ _ _ hl3 rfl rfl)⟩⟩
    | ret =>
      obtain ⟨hk3, hs3, hi3⟩ := hp
      obtain ⟨hr, hl3, hl4, hk4⟩ := fin (some .ret) W3 hk3
      exact ⟨_, _, hr, .inr ⟨rfl, ⟨hIx _ _ _ _ hi3 (KeepT.put hl3 rfl (by omega)), hl4, hk4⟩, hKt (hKt hp2 hs3) (hKb _ _ _ hl3 rfl rfl)⟩⟩
    | exit id => exact hp.elim
    | goto t => exact hp.elim
    | panic ch => exact hp.elim
    | outgrown => exact hp.elim
  · -- behind the iterator
    rintro e W2 ⟨⟨v, rfl⟩, (⟨xs, hS, hi, hl, hk⟩ | ⟨pre, hSp, hi, hl, hk⟩)⟩
    · exact ⟨none, _, by have := run_endLoop (P := P) hl (by rw [hrec]; simp); rw [hrec] at this; exact this, hdone _ xs _ (Nat.le_refl _) hS (hI _ _ _ hi (KeepT.put hl rfl (by omega))) ((World.putObj_heap_other (by omega)).trans hk)⟩
    · exact ⟨some .ret, _, by have := run_endLoop (P := P) hl (by rw [hrec]; simp); rw [hrec] at this; exact this, hstop _ pre _ (Nat.le_refl _) hSp (hIx _ _ _ _ hi (KeepT.put hl rfl (by omega))) ((World.putObj_heap_other (by omega)).trans hk)⟩

/-- what a yield keeps: the blocks below D; all cells but those of texts and of lists of texts; what is no cells and lies above l -/
structure KeepN (D l : Nat) (A B : World) : Prop where
  size : A.heap.size ≤ B.heap.size
  low : ∀ i, i < D → B.heap[i]? = A.heap[i]?
  cells : ∀ (i : Nat) (C : Array Value) (T : TypeId) (fr : Nat × Nat), A.heap[i]? = some (Obj.cells C T fr) → T ≠ 9 → T ≠ 26 → B.heap[i]? = some (Obj.cells C T fr)
  others : ∀ (i : Nat) (o : Obj), l < i → A.heap[i]? = some o → o.isCells = false → B.heap[i]? = some o
theorem KeepN.refl (D l : Nat) (A : World) : KeepN D l A A := ⟨Nat.le_refl _, fun _ _ => rfl, fun _ _ _ _ h _ _ => h, fun _ _ _ h _ => h⟩
theorem KeepN.trans {D l : Nat} {A B C : World} (h : KeepN D l A B) (k : KeepN D l B C) : KeepN D l A C :=
  ⟨Nat.le_trans h.size k.size, fun i hi => (k.low i hi).trans (h.low i hi), fun i X T fr hi h1 h2 => k.cells i X T fr (h.cells i X T fr hi h1 h2) h1 h2, fun i o hl hi ho => k.others i o hl (h.others i o hl hi ho) ho⟩
theorem KeepN.mono {D l l' : Nat} {A B : World} (h : KeepN D l A B) (hl : l ≤ l') : KeepN D l' A B := ⟨h.size, h.low, h.cells, fun i o hi => h.others i o (by omega)⟩
theorem KeepN.put {D l : Nat} {W : World} {o o' : Obj} (h : W.heap[l]? = some o) (ho : o.isCells = false) (hD : D ≤ l) : KeepN D l W (W.putObj l o') := by
  have hb := below_put (B := D) (o' := o') h hD
  refine ⟨hb.size, fun i hi => hb.block i hi, fun i C T fr hi _ _ => ?_, fun i o2 hl hi _ => (World.putObj_heap_other (by omega)).trans hi⟩
  by_cases e : i = l
  · subst e; rw [h] at hi; injection hi with hi; subst hi; simp [Obj.isCells] at ho
  · exact (World.putObj_heap_other e).trans hi
theorem KeepN.from {D l B : Nat} {A A' : World} (h : KeepN D l A A') (hl : l < B) : KeepsFrom B A A' := ⟨h.size, fun i o hi ho hc => h.others i o (by omega) ho hc⟩
/-- a step that writes one block of texts, or of lists of texts, that lies from D on -/
theorem KeepN.grown {D l : Nat} {A B : World} {row : Option Nat} (h : A.grownBy B row) (hr : ∀ g, row = some g → D ≤ g ∧ ∃ C T fr, A.heap[g]? = some (Obj.cells C T fr) ∧ (T = 9 ∨ T = 26)) (hD : D ≤ A.heap.size) : KeepN D l A B := by
  have key : ∀ (i : Nat) (o : Obj), A.heap[i]? = some o → (∀ C T fr, o = Obj.cells C T fr → T ≠ 9 ∧ T ≠ 26) → B.heap[i]? = some o := fun i o hi ho => by
    refine (h.block i (Array.getElem?_eq_some_iff.1 hi).1 fun e => ?_).trans hi
    obtain ⟨_, C, T, fr, hc, hT⟩ := hr i e.symm
    rw [hi] at hc; injection hc with hc
    obtain ⟨h1, h2⟩ := ho C T fr hc
    rcases hT with hT | hT
    · exact h1 hT
    · exact h2 hT
  refine ⟨h.size, fun i hi => h.block i (by omega) fun e => ?_, fun i C T fr hi h1 h2 => key i _ hi (fun C' T' fr' e => ?_), fun i o _ hi ho => key i o hi (fun C T fr e => ?_)⟩
  · have := (hr i e.symm).1; omega
  · injection e with _ e _; subst e; exact ⟨h1, h2⟩
  · subst e; simp [Obj.isCells] at ho

end Go.Proofs.YtpeafheljcjlhaaGreat

namespace Go.Proofs.YtpeafheljcjlhaaGreat
open Go.RowKit
attribute [local go_sem] Oper.semAt_some

/-- marks on the deferred calls, none of which hands over a call -/
def Marks (lo : Nat) : List Deferred → World → Prop
  | [], _ => True
  | d :: ds, V => ∃ D, d = { target := .collected D, args := #[] } ∧ lo ≤ D ∧ V.heap[D]? = some (.deferred (some [])) ∧ (∀ d' ∈ ds, d'.target ≠ .collected D) ∧ Marks lo ds V
theorem Marks.lt {lo : Nat} : ∀ {ds : List Deferred} {V : World}, Marks lo ds V → ∀ d ∈ ds, ∃ D, d.target = .collected D ∧ D < V.heap.size
  | [], _, _ => fun d h => by simp at h
  | d :: ds, V, h => fun d' hd => by
    obtain ⟨D, rfl, _, hD, _, hr⟩ := h
    rcases List.mem_cons.1 hd with e | hd
    · subst e; exact ⟨D, rfl, (Array.getElem?_eq_some_iff.1 hD).1⟩
    · exact hr.lt d' hd
theorem Marks.same {lo : Nat} : ∀ {ds : List Deferred} {V V' : World}, Marks lo ds V → (∀ D, (∃ d ∈ ds, d.target = .collected D) → V'.heap[D]? = V.heap[D]?) → Marks lo ds V'
  | [], _, _, _, _ => trivial
  | d :: ds, V, V', h, k => by
    obtain ⟨D, rfl, hlo, hD, hne, hr⟩ := h
    exact ⟨D, rfl, hlo, (k D ⟨{ target := .collected D, args := #[] }, List.mem_cons_self, rfl⟩).trans hD, hne, hr.same fun D' ⟨d', hd', e⟩ => k D' ⟨d', List.mem_cons_of_mem _ hd', e⟩⟩
theorem leaves_marks {F : Fence} {n : Nat} {P : Program} {fn : Func} {tmps : Array Value} {R : Ending → World → Prop} {lo : Nat} : ∀ (ds : List Deferred) (V : World), Marks lo ds V →
    (∀ V', KeepT lo V V' → LeavesIn F n P fn tmps R [] .returning V') → LeavesInM F n P fn tmps R ds .returning V
  | [], V, _, h => h V (KeepT.refl _ _)
  | d :: ds, V, hm, h => by
    obtain ⟨D, rfl, hlo, hD, hne, hr⟩ := hm
    refine ⟨by simp, .inl ⟨D, _, rfl, run_takeDeferred hD, ?_⟩⟩
    refine leaves_marks ds _ (hr.same fun D' ⟨d', hd', e⟩ => World.putObj_heap_other fun e2 => ?_) fun V' hk => h V' ((KeepT.put hD rfl hlo).trans hk)
    subst e2
    exact hne d' hd' e

theorem edges_low {w w' : World} {D : Nat} {A : Option Addr} {es : List (ByteArray × ByteArray)} (h : EdgesIn w D A es) (k : ∀ i, i < D → w'.heap[i]? = w.heap[i]?) : EdgesIn w' D A es := by
  intro i hi
  obtain ⟨b, o, e, hl, h1, h2⟩ := h i hi
  exact ⟨b, o, e, hl, (World.cell?_of_block (k b hl)).trans h1, (World.cell?_of_block (k b hl)).trans h2⟩
theorem Marks.low {lo : Nat} {ds : List Deferred} {V V' : World} (h : Marks lo ds V) (hB : ∀ i, i < V.heap.size → V'.heap[i]? = V.heap[i]?) : Marks lo ds V' :=
  h.same fun D ⟨d, hd, e⟩ => by
    obtain ⟨D', e', hl⟩ := h.lt d hd
    rw [e] at e'; injection e' with e'
    exact hB D (by omega)
theorem cell_of {W : World} {b : Nat} {u : Value} {T : TypeId} (h : W.heap[b]? = some (.cells #[u] T (0, 0))) : W.cell? ⟨b, 0, none⟩ = some u ∧ W.frozen? ⟨b, 0, none⟩ = false := by
  constructor
  · simp [World.cell?, h]
  · simp [World.frozen?, h]

/-- a path, handed to the body of a round -/
def encsT (p : List UInt8) : Array Value := #[.string ⟨p.toArray⟩]

end Go.Proofs.YtpeafheljcjlhaaGreat

namespace Go.Proofs.YtpeafheljcjlhaaGreat
open Go.RowKit

/-- texts that lie below a block, whatever their number -/
def TextsIn (w : World) (B : Nat) (A : Option Addr) (ts : List ByteArray) : Prop :=
  ∀ k, (h : k < ts.length) → ∃ b, A = some ⟨b, 0, none⟩ ∧ b < B ∧ w.cell? ⟨b, k, none⟩ = some (.string ts[k])

theorem TextsIn.below {w w' : World} {B : Nat} {A : Option Addr} {ts : List ByteArray} (h : TextsIn w B A ts) (hb : Below B w w') : TextsIn w' B A ts := by
  intro k hk
  obtain ⟨b, e, hl, h1⟩ := h k hk
  exact ⟨b, e, hl, (hb.cell hl).trans h1⟩
theorem TextsIn.more {w : World} {B B' : Nat} {A : Option Addr} {ts : List ByteArray} (h : TextsIn w B A ts) (hb : B ≤ B') : TextsIn w B' A ts := by
  intro k hk
  obtain ⟨b, e, hl, h1⟩ := h k hk
  exact ⟨b, e, by omega, h1⟩
theorem TextsIn.grown_low {W W' : World} {B : Nat} {row : Option Nat} {A : Option Addr} {ts : List ByteArray} (h : TextsIn W B A ts) (k : W.grownBy W' row) (hB : B ≤ W.heap.size) (hr : ∀ a, A = some a → some a.block ≠ row) : TextsIn W' B A ts := by
  intro i hi
  obtain ⟨b, e, hl, h1⟩ := h i hi
  exact ⟨b, e, hl, (World.cell?_of_block (k.block b (by omega) (hr _ e))).trans h1⟩

/-- texts that are a call's own: none, or a row from a block on -/
def OwnTexts (W : World) (base : Nat) (A : Option Addr) (n : Nat) : Prop :=
  (n = 0 ∧ A = none) ∨ ∃ g r f, A = some ⟨g, 0, none⟩ ∧ base ≤ g ∧ g < W.heap.size ∧ n ≤ r ∧ W.rowIs g 9 r f

theorem OwnTexts.grown {W W' : World} {base n : Nat} {row : Option Nat} {A : Option Addr} (h : OwnTexts W base A n) (k : W.grownBy W' row) (hr : ∀ a, A = some a → some a.block ≠ row) : OwnTexts W' base A n := by
  rcases h with h | ⟨g, r, f, rfl, hb, hg, hn, hrow⟩
  · exact .inl h
  · exact .inr ⟨g, r, f, rfl, hb, Nat.lt_of_lt_of_le hg k.size, hn, hrow.of_block (k.block g hg (hr _ rfl))⟩
theorem OwnTexts.below {W W' : World} {base n : Nat} {A : Option Addr} (h : OwnTexts W base A n) (k : Below W.heap.size W W') : OwnTexts W' base A n := by
  rcases h with h | ⟨g, r, f, rfl, hb, hg, hn, hrow⟩
  · exact .inl h
  · exact .inr ⟨g, r, f, rfl, hb, Nat.lt_of_lt_of_le hg k.size, hn, hrow.of_block (k.block g hg)⟩
theorem OwnTexts.ne {W : World} {base n : Nat} {A : Option Addr} (h : OwnTexts W base A n) {c : Nat} (hc : c < base) : ∀ a, A = some a → some a.block ≠ some c := by
  rintro a rfl e
  rcases h with ⟨_, h⟩ | ⟨g, r, f, h, hb, _⟩
  · simp at h
  · injection h with h
    subst h
    injection e with e
    simp only at e
    omega

theorem OwnTexts.mono {W : World} {base base' n : Nat} {A : Option Addr} (h : OwnTexts W base A n) (hb : base' ≤ base) : OwnTexts W base' A n := by
  rcases h with h | ⟨g, r, f, e, hg, rest⟩
  · exact .inl h
  · exact .inr ⟨g, r, f, e, by omega, rest⟩

theorem OwnTexts.row {W : World} {base n : Nat} {A : Option Addr} (h : OwnTexts W base A n) {c : Nat} (hc : c < base) : rowOf A ≠ some c := by
  rcases h with ⟨_, rfl⟩ | ⟨g, r, f, rfl, hb, _⟩
  · intro e; cases e
  · intro e; simp [rowOf] at e; omega
theorem below_after_texts {w W W' : World} {base n : Nat} {A : Option Addr} (h : Below w.heap.size w W) (ho : OwnTexts W base A n) (hb : w.heap.size ≤ base) (k : W.grownBy W' (rowOf A)) : Below w.heap.size w W' := by
  refine ⟨k.os.trans h.os, k.tape.trans h.tape, k.output.trans h.output, Nat.le_trans h.size k.size, fun i hi => (k.block i (Nat.lt_of_lt_of_le hi h.size) ?_).trans (h.block i hi)⟩
  exact fun e => ho.row (c := i) (by omega) e.symm
/-- texts below a block, behind a write to a row that lies higher -/
theorem TextsIn.low {W W' : World} {B : Nat} {row : Option Nat} {A : Option Addr} {ts : List ByteArray} (h : TextsIn W B A ts) (k : W.grownBy W' row) (hB : B ≤ W.heap.size) (hr : ∀ c, c < B → some c ≠ row) : TextsIn W' B A ts := by
  intro i hi
  obtain ⟨b, e, hl, h1⟩ := h i hi
  exact ⟨b, e, hl, (World.cell?_of_block (k.block b (by omega) (hr b hl))).trans h1⟩

/-- a row of the call's own, as texts -/
theorem own_texts {w : World} {base : Nat} {v : Value} {ts : List ByteArray} (h : w.ownsRow base 9 1 v ts.length (ts.map Value.string)) :
    ∃ A cap, v = .slice A ts.length cap ∧ TextsIn w w.heap.size A ts ∧ OwnTexts w base A ts.length := by
  rcases h.2 with ⟨rfl, h0⟩ | ⟨g, cap, cur, rfl, hb, hg, hn, hc, hs, htake⟩
  · exact ⟨none, 0, by rw [h0], fun k hk => absurd hk (by omega), .inl ⟨h0, rfl⟩⟩
  · have hlt : g < w.heap.size := (Array.getElem?_eq_some_iff.1 hg).1
    refine ⟨_, cap, rfl, fun k hk => ⟨g, rfl, hlt, ?_⟩, .inr ⟨g, cur.size, fun i => cur.getD i (.bool true), rfl, hb, hlt, by omega, cur, hg, rfl, fun i hi => by simp [hi]⟩⟩
    have := h.cells (g := g) rfl k (.string ts[k]) (by simp [hk])
    have e : ((⟨g, 0, none⟩ : Addr).add k) = ⟨g, k, none⟩ := by unfold Addr.add; split <;> simp_all
    rwa [e] at this

theorem textCell : (Tryz.prog.info? 9).map (fun i => (i.zero, i.size, i.bytes)) = some (some (.string ⟨#[]⟩), 1, 16) := by kernel_rfl

/-- what holds while texts are gathered -/
structure SeaV (w : World) (B : ByteArray) (A : Option Addr) (n cap : Nat) (v : Value) (xs : List Value) (wr : World) : Prop where
  below : Below w.heap.size w wr
  two : Two wr w.heap.size B A n cap
  own : wr.ownsRow (w.heap.size + 1) 9 1 v xs.length xs
  size : w.heap.size + 1 ≤ wr.heap.size
theorem SeaV.go {w wr W : World} {B : ByteArray} {A : Option Addr} {n cap : Nat} {v : Value} {xs : List Value} (h : SeaV w B A n cap v xs wr) (k : Below wr.heap.size wr W) : SeaV w B A n cap v xs W :=
  ⟨h.below.trans (k.mono h.below.size), h.two.below k (by have := h.size; omega), ownsRow_of_block h.own fun b hb => k.block b (ownBlock_lt h.own hb).2, Nat.le_trans h.size k.size⟩
theorem ownV_ne {W : World} {base n : Nat} {T : TypeId} {z : Nat} {v : Value} {xs : List Value} (h : W.ownsRow base T z v n xs) {c : Nat} (hc : c < base) : some c ≠ v.ownBlock := by
  rcases h.2 with ⟨rfl, _⟩ | ⟨g, cap, cur, rfl, hb, _⟩
  · intro e; cases e
  · intro e
    have e' : some c = some g := e
    injection e' with e'; omega
theorem SeaV.push {w wr W : World} {B : ByteArray} {A : Option Addr} {n cap : Nat} {v v' : Value} {xs xs' : List Value} (h : SeaV w B A n cap v xs wr) (k : wr.grownBy W v.ownBlock) (hq : W.ownsRow (w.heap.size + 1) 9 1 v' xs'.length xs') : SeaV w B A n cap v' xs' W := by
  have hn : ∀ c, c < w.heap.size + 1 → some c ≠ v.ownBlock := fun c hc => ownV_ne h.own hc
  exact ⟨h.below.grown k h.below.size (fun q e => Nat.le_of_not_lt fun hq => hn q (by omega) e.symm), h.two.grown k (by have := h.size; omega) (hn _ (by omega)), hq, Nat.le_trans h.size k.size⟩

/-- what is handed back: a row of texts of the call's own -/
def RowPost (ts : List ByteArray) (w : World) (e : Ending) (w' : World) : Prop :=
  ∃ A cap, e = .returned (.slice A ts.length cap) ∧ TextsIn w' w'.heap.size A ts ∧ Below w.heap.size w w' ∧ OwnTexts w' w.heap.size A ts.length

theorem one_new (w : World) (u : Value) : ∀ j x, [u][j]? = some x → (w.alloc (.cells #[u] 9)).cell? ((⟨w.heap.size, 0, none⟩ : Addr).add j) = some x := by
  intro j x hj
  match j, hj with
  | 0, hj => simp at hj; subst hj; simp [Addr.add]
  | j + 1, hj => simp at hj

/-- what is handed back -/
def CutPost (q : List ByteArray × Bool) (w : World) (e : Ending) (w' : World) : Prop :=
  ∃ A cap, e = .returned (.tuple #[.slice A q.1.length cap, .bool q.2]) ∧ TextsIn w' w'.heap.size A q.1 ∧ Below w.heap.size w w' ∧ OwnTexts w' w.heap.size A q.1.length
/-- no text, and a row of the call's own for it -/
theorem no_texts (w w2 : World) (hb : Below w.heap.size w w2) (e : Ending) (he : e = .returned (.tuple #[.slice (some ⟨w2.heap.size, 0, none⟩) 0 0, .bool false])) : CutPost ([], false) w e (w2.alloc (.cells #[] 9)) := by
  subst he
  have hb3 : Below w.heap.size w (w2.alloc (.cells #[] 9)) := hb.alloc hb.size _
  refine ⟨some ⟨w2.heap.size, 0, none⟩, 0, rfl, fun k hk => absurd hk (by simp), hb3, .inr ⟨w2.heap.size, 0, fun _ => .bool true, rfl, hb.size, by simp, Nat.le_refl _, ?_⟩⟩
  exact World.rowIs_alloc w2 #[] 9 _ (fun i hi => absurd hi (by simp))

end Go.Proofs.YtpeafheljcjlhaaGreat
