/- Nets as plain lists: shape, what can be come to, ways round, orders, paths, counts. No program here. -/
import Derived.Lib.Bytealg
import Derived.Lib.IndexLaws
namespace Go.Proofs.YtpeafheljcjlhaaGreat
/-- the place of a block in a text of blocks -/
def bIdx (B : List UInt8) (b : List UInt8) : Int := match b with
  | [c] => Lib.indexByte B c
  | _ => -1

/-- the truth of a statement -/
noncomputable def decB (p : Prop) : Bool := @decide p (Classical.propDecidable p)
theorem decB_t {p : Prop} (h : p) : decB p = true := @decide_eq_true p (Classical.propDecidable p) h
theorem decB_f {p : Prop} (h : ¬ p) : decB p = false := @decide_eq_false p (Classical.propDecidable p) h
theorem decB_iff {p : Prop} : decB p = true ↔ p := ⟨@of_decide_eq_true p (Classical.propDecidable p), decB_t⟩
theorem decB_not {p : Prop} : decB p = false ↔ ¬ p := ⟨@of_decide_eq_false p (Classical.propDecidable p), decB_f⟩
theorem decB_congr {p q : Prop} (h : p ↔ q) : decB p = decB q := by
  by_cases hp : p
  · rw [decB_t hp, decB_t (h.1 hp)]
  · rw [decB_f hp, decB_f (fun hq => hp (h.2 hq))]

abbrev Eds := List (List UInt8 × List UInt8)

/-- blocks are 2 to 8 different letters from A to H -/
def BlocksOk (l : List UInt8) : Prop := 2 ≤ l.length ∧ l.length ≤ 8 ∧ (∀ b ∈ l, 65 ≤ b.toNat ∧ b.toNat ≤ 72) ∧ l.Nodup

/-- an edge leads from one block to one, not from the exit, not to the entry -/
def EdgeOk (l : List UInt8) (e : List UInt8 × List UInt8) : Prop :=
  0 ≤ bIdx l e.1 ∧ 0 ≤ bIdx l e.2 ∧ bIdx l e.1 ≠ (l.length : Int) - 1 ∧ bIdx l e.2 ≠ 0

def EdgesOk (l : List UInt8) (E : Eds) : Prop := E.length ≤ 16 ∧ ∀ e ∈ E, EdgeOk l e
def ShapeOk (l : List UInt8) (E : Eds) : Prop := BlocksOk l ∧ EdgesOk l E

/-- there is a way along edges -/
inductive Way (E : Eds) : UInt8 → UInt8 → Prop
  | refl (a : UInt8) : Way E a a
  | step {a b c : UInt8} : Way E a b → ([b], [c]) ∈ E → Way E a c

def flip (E : Eds) : Eds := E.map fun e => (e.2, e.1)

theorem Way.trans {E : Eds} {a b c : UInt8} (h : Way E a b) (k : Way E b c) : Way E a c := by
  induction k with
  | refl => exact h
  | step _ he ih => exact .step ih he

theorem mem_flip {E : Eds} {a b : List UInt8} : (a, b) ∈ flip E ↔ (b, a) ∈ E := by
  simp only [flip, List.mem_map, Prod.mk.injEq]
  constructor
  · rintro ⟨e, he, rfl, rfl⟩; exact he
  · intro h; exact ⟨_, h, rfl, rfl⟩

theorem way_flip {E : Eds} {a b : UInt8} (h : Way E a b) : Way (flip E) b a := by
  induction h with
  | refl => exact .refl _
  | step _ he ih => exact Way.trans (.step (.refl _) (mem_flip.2 he)) ih

theorem flip_flip (E : Eds) : flip (flip E) = E := by simp [flip, Function.comp_def]

theorem way_flip_iff {E : Eds} {a b : UInt8} : Way (flip E) b a ↔ Way E a b :=
  ⟨fun h => by have := way_flip h; rwa [flip_flip] at this, way_flip⟩

/-- each block of a net can be come to from a block -/
def AllFrom (l : List UInt8) (E : Eds) (s : UInt8) : Prop := ∀ b ∈ l, Way E s b

def entry (l : List UInt8) : UInt8 := l.headD 0
def exit_ (l : List UInt8) : UInt8 := l.getLastD 0

/-- the document's valid net -/
def Valid (l : List UInt8) (E : Eds) : Prop := ShapeOk l E ∧ AllFrom l E (entry l) ∧ AllFrom l (flip E) (exit_ l)

/-- what a search has met: each block once, all that can be come to -/
structure Closed (E : Eds) (s : UInt8) (out : List UInt8) : Prop where
  nodup : out.Nodup
  start : s ∈ out
  way : ∀ x ∈ out, Way E s x
  closed : ∀ x ∈ out, ∀ y, ([x], [y]) ∈ E → y ∈ out

theorem Closed.all {E : Eds} {s : UInt8} {out : List UInt8} (h : Closed E s out) {x : UInt8} (hw : Way E s x) : x ∈ out := by
  induction hw with
  | refl => exact h.start
  | step _ he ih => exact h.closed _ ih _ he

theorem Closed.mem_iff {E : Eds} {s : UInt8} {out : List UInt8} (h : Closed E s out) (x : UInt8) : x ∈ out ↔ Way E s x := ⟨h.way x, h.all⟩

theorem nodup_len {α : Type} [DecidableEq α] : ∀ {a b : List α}, a.Nodup → (∀ x ∈ a, x ∈ b) → a.length ≤ b.length
  | [], _, _, _ => by simp
  | x :: a, b, hn, hs => by
    have hx := hs x (by simp)
    have hn' := List.nodup_cons.1 hn
    have h := nodup_len (a := a) (b := b.erase x) hn'.2 (fun y hy => by
      have hne : y ≠ x := fun e => hn'.1 (e ▸ hy)
      exact (List.mem_erase_of_ne hne).2 (hs y (by simp [hy])))
    rw [List.length_erase_of_mem hx] at h
    have := List.length_pos_of_mem hx
    simp; omega

/-- as many met as there are blocks: all are met -/
theorem Closed.count {E : Eds} {s : UInt8} {out l : List UInt8} (h : Closed E s out) (hl : l.Nodup) (hsub : ∀ x ∈ out, x ∈ l) : out.length = l.length ↔ AllFrom l E s := by
  constructor
  · intro he x hx
    refine h.way x (Classical.byContradiction fun hne => ?_)
    have h1 := nodup_len (a := x :: out) (b := l) (List.nodup_cons.2 ⟨hne, h.nodup⟩) (fun y hy => by
      rcases List.mem_cons.1 hy with rfl | hy
      · exact hx
      · exact hsub y hy)
    simp at h1; omega
  · intro ha
    have h1 := nodup_len h.nodup hsub
    have h2 := nodup_len hl (fun x hx => h.all (ha x hx))
    omega

theorem indexByte_nonneg {l : List UInt8} {c : UInt8} : 0 ≤ Lib.indexByte l c ↔ c ∈ l := by
  induction l with
  | nil => simp [Lib.indexByte]
  | cons b l ih =>
    have hg := Lib.indexByte_ge l c
    unfold Lib.indexByte
    by_cases hb : b = c
    · simp [hb]
    · have hb' : (b == c) = false := by simpa using hb
      have hc : ¬ c = b := fun h => hb h.symm
      simp only [hb', Bool.false_eq_true, if_false, List.mem_cons, hc, false_or, ← ih]
      split <;> rename_i hx <;> simp at hx <;> omega

theorem indexByte_lt {l : List UInt8} {c : UInt8} : Lib.indexByte l c < l.length := by
  induction l with
  | nil => simp [Lib.indexByte]
  | cons b l ih =>
    unfold Lib.indexByte
    split
    · simp
    · split <;> simp <;> omega

theorem indexByte_get {l : List UInt8} {c : UInt8} (h : c ∈ l) : l[(Lib.indexByte l c).toNat]? = some c := by
  have h0 := indexByte_nonneg.2 h
  obtain ⟨k, hk⟩ := Int.eq_ofNat_of_zero_le h0
  rw [hk]; simp
  exact (Lib.indexByte_some hk).1

theorem indexByte_of_get {l : List UInt8} (hn : l.Nodup) {i : Nat} {c : UInt8} (h : l[i]? = some c) : Lib.indexByte l c = i := by
  have hm : c ∈ l := List.mem_of_getElem? h
  have h1 := indexByte_get hm
  have h0 := indexByte_nonneg.2 hm
  have hi : i < l.length := by
    rw [List.getElem?_eq_some_iff] at h; exact h.1
  have hlt := indexByte_lt (l := l) (c := c)
  have := (List.getElem?_inj (by omega) hn).1 (h1.trans h.symm)
  omega

theorem bIdx_some {B b : List UInt8} (h : 0 ≤ bIdx B b) : ∃ c, b = [c] ∧ c ∈ B ∧ bIdx B b = Lib.indexByte B c := by
  unfold bIdx at h ⊢
  split at h
  · exact ⟨_, rfl, indexByte_nonneg.1 h, rfl⟩
  · omega

/-- no letter stands ahead of its place: the letters differ -/
theorem nodup_of_index {l : List UInt8} (h : ∀ (i : Nat) (b : UInt8), l[i]? = some b → ¬ Lib.indexByte l b < i) : l.Nodup := by
  refine List.pairwise_iff_getElem.2 fun i j hi hj hij he => ?_
  have hb : l[j]? = some l[i] := by rw [he, List.getElem?_eq_getElem hj]
  have h1 := h j _ hb
  have hm : l[i] ∈ l := List.getElem_mem hi
  obtain ⟨k, hk⟩ := Int.eq_ofNat_of_zero_le (indexByte_nonneg.2 hm)
  have h2 := (Lib.indexByte_some hk).2 i (by omega)
  exact h2 (List.getElem?_eq_getElem hi)

/-- a letter that does not stand in the part ahead of it -/
theorem nodup_of_take {l : List UInt8} (h : ∀ (i : Nat) (b : UInt8), l[i]? = some b → b ∉ l.take i) : l.Nodup := by
  refine List.pairwise_iff_getElem.2 fun i j hi hj hij he => ?_
  have hb : l[j]? = some l[i] := by rw [he, List.getElem?_eq_getElem hj]
  refine h j _ hb ?_
  exact List.mem_of_getElem? (i := i) (by rw [List.getElem?_take, if_pos hij, List.getElem?_eq_getElem hi])

theorem nodup_take {l : List UInt8} (hn : l.Nodup) {i : Nat} {b : UInt8} (h : l[i]? = some b) : b ∉ l.take i := by
  intro hm
  obtain ⟨j, hj⟩ := List.mem_iff_getElem?.1 hm
  rw [List.getElem?_take] at hj
  split at hj
  · have hi : i < l.length := (List.getElem?_eq_some_iff.1 h).1
    have := (List.getElem?_inj (by omega) hn).1 (hj.trans h.symm)
    omega
  · cases hj

end Go.Proofs.YtpeafheljcjlhaaGreat

namespace Go.Proofs.YtpeafheljcjlhaaGreat
/-- an edge comes to a block from one of some -/
def EntL (E : Eds) (S : List UInt8) (c : UInt8) : Prop := ∃ x ∈ S, ([x], [c]) ∈ E
/-- blocks that keep each other -/
def SelfEnt (E : Eds) (S : List UInt8) : Prop := ∀ c ∈ S, EntL E S c
/-- there are some that do -/
def Cyc (l : List UInt8) (E : Eds) : Prop := ∃ K, K ≠ [] ∧ (∀ c ∈ K, c ∈ l) ∧ SelfEnt E K

/-- blocks among which are all that keep each other -/
structure Big (l : List UInt8) (E : Eds) (S : List UInt8) : Prop where
  sub : ∀ c ∈ S, c ∈ l
  nodup : S.Nodup
  keeps : ∀ K : List UInt8, (∀ c ∈ K, c ∈ l) → SelfEnt E K → ∀ c ∈ K, c ∈ S

theorem EntL.more {E : Eds} {S T : List UInt8} {c : UInt8} (h : EntL E S c) (k : ∀ x ∈ S, x ∈ T) : EntL E T c := by
  obtain ⟨x, hx, he⟩ := h
  exact ⟨x, k x hx, he⟩

theorem Big.all {l : List UInt8} {E : Eds} (hn : l.Nodup) : Big l E l := ⟨fun _ h => h, hn, fun _ h _ => h⟩
theorem Big.erase {l : List UInt8} {E : Eds} {S : List UInt8} (h : Big l E S) {c : UInt8} (hc : ¬ EntL E S c) : Big l E (S.erase c) := by
  refine ⟨fun x hx => h.sub x (List.mem_of_mem_erase hx), h.nodup.erase c, fun K hK hs x hx => ?_⟩
  have hne : x ≠ c := fun e => hc ((hs c (e ▸ hx)).more (h.keeps K hK hs))
  exact (List.mem_erase_of_ne hne).2 (h.keeps K hK hs x hx)
theorem Big.cut {l : List UInt8} {E : Eds} {S : List UInt8} (h : Big l E S) {i : Nat} (hi : i < S.length) (hc : ¬ EntL E S S[i]) : Big l E (S.take i ++ S.drop (i + 1)) := by
  rw [← List.eraseIdx_eq_take_drop_succ]
  refine ⟨fun x hx => h.sub x (List.mem_of_mem_eraseIdx hx), h.nodup.eraseIdx i, fun K hK hs x hx => ?_⟩
  have hne : x ≠ S[i] := fun e => hc ((hs S[i] (e ▸ hx)).more (h.keeps K hK hs))
  obtain ⟨j, hj, hjx⟩ := List.getElem_of_mem (h.keeps K hK hs x hx)
  rw [List.mem_eraseIdx_iff_getElem]
  exact ⟨j, hj, fun e => hne (by subst e; exact hjx.symm), hjx⟩
theorem Big.done {l : List UInt8} {E : Eds} {S : List UInt8} (h : Big l E S) (hs : SelfEnt E S) : S = [] ↔ ¬ Cyc l E := by
  constructor
  · rintro rfl ⟨K, hne, hK, hsK⟩
    cases K with
    | nil => exact hne rfl
    | cons a K => exact absurd (h.keeps _ hK hsK a (by simp)) (by simp)
  · intro hn
    exact Classical.byContradiction fun hne => hn ⟨S, hne, h.sub, hs⟩

end Go.Proofs.YtpeafheljcjlhaaGreat

namespace Go.Proofs.YtpeafheljcjlhaaGreat
/-- the block to which an edge leads from a block -/
def toFrom (b : UInt8) (e : List UInt8 × List UInt8) : Option UInt8 := match e with
  | ([x], [y]) => if x = b then some y else none
  | _ => none
/-- the blocks to which the edges of a block lead -/
def tos (E : Eds) (b : UInt8) : List UInt8 := E.filterMap (toFrom b)

/-- what has been begun, and what has been put -/
abbrev Gone := List UInt8 × List UInt8

/-- to go through a block -/
def visit (E : Eds) : Nat → UInt8 → Gone → Gone
  | 0, _, st => st
  | f + 1, b, st =>
    let r := (tos E b).foldr (fun c st => if c ∈ st.1 then st else visit E f c st) (st.1 ++ [b], st.2)
    (r.1, b :: r.2)
/-- to go through a block, if it has not been begun -/
def stepV (E : Eds) (f : Nat) (c : UInt8) (st : Gone) : Gone := if c ∈ st.1 then st else visit E f c st
theorem stepV_no {E : Eds} {f : Nat} {c : UInt8} {st : Gone} (h : c ∈ st.1) : stepV E f c st = st := if_pos h
theorem stepV_yes {E : Eds} {f : Nat} {c : UInt8} {st : Gone} (h : c ∉ st.1) : stepV E f c st = visit E f c st := if_neg h
/-- so many of the blocks gone through, the last ones first -/
def partV (E : Eds) (f : Nat) (st : Gone) (cs : List UInt8) : Gone := cs.foldr (stepV E f) st
theorem partV_nil (E : Eds) (f : Nat) (st : Gone) : partV E f st [] = st := rfl
theorem partV_cons (E : Eds) (f : Nat) (st : Gone) (c : UInt8) (cs : List UInt8) : partV E f st (c :: cs) = stepV E f c (partV E f st cs) := rfl
theorem visit_succ (E : Eds) (f : Nat) (b : UInt8) (st : Gone) : visit E (f + 1) b st = ((partV E f (st.1 ++ [b], st.2) (tos E b)).1, b :: (partV E f (st.1 ++ [b], st.2) (tos E b)).2) := rfl

/-- blocks of the net, each once, no more put than begun -/
structure GoneOk (l : List UInt8) (st : Gone) : Prop where
  nodup : st.1.Nodup
  sub : ∀ x ∈ st.1, x ∈ l
  len : st.2.length ≤ st.1.length

/-- what comes of it -/
structure GoneOn (l : List UInt8) (st st' : Gone) : Prop where
  ok : GoneOk l st'
  pre : st.1 <+: st'.1
  bal : st'.2.length + st.1.length = st'.1.length + st.2.length

theorem GoneOn.refl {l : List UInt8} {st : Gone} (h : GoneOk l st) : GoneOn l st st := ⟨h, List.prefix_refl _, by omega⟩
theorem GoneOn.trans {l : List UInt8} {a b c : Gone} (h : GoneOn l a b) (k : GoneOn l b c) : GoneOn l a c := ⟨k.ok, h.pre.trans k.pre, by have := h.bal; have := k.bal; omega⟩

/-- edges lead to blocks of the net -/
def Into (l : List UInt8) (E : Eds) : Prop := ∀ x y, ([x], [y]) ∈ E → y ∈ l
theorem tos_sub {l : List UInt8} {E : Eds} (hl : Into l E) (b : UInt8) : ∀ c ∈ tos E b, c ∈ l := by
  intro c hc
  obtain ⟨e, he, h⟩ := List.mem_filterMap.1 hc
  unfold toFrom at h
  split at h
  · rename_i x y
    split at h
    · injection h with h
      subst h
      exact hl _ _ he
    · cases h
  · cases h

theorem begin_ok {l : List UInt8} {b : UInt8} {st : Gone} (h : GoneOk l st) (hb : b ∈ l) (hn : b ∉ st.1) : GoneOk l (st.1 ++ [b], st.2) := by
  refine ⟨List.nodup_append.2 ⟨h.nodup, by simp, fun a ha c hc => by simp at hc; subst hc; exact fun e => hn (e ▸ ha)⟩, fun x hx => ?_, by have := h.len; simp; omega⟩
  rcases List.mem_append.1 hx with hx | hx
  · exact h.sub x hx
  · simp at hx; subst hx; exact hb

theorem visit_on {l : List UInt8} {E : Eds} (hl : Into l E) : ∀ (f : Nat) (b : UInt8) (st : Gone), GoneOk l st → b ∈ l → b ∉ st.1 → GoneOn l st (visit E f b st)
  | 0, _, _, h, _, _ => .refl h
  | f + 1, b, st, h, hb, hn => by
    have hp : ∀ (cs : List UInt8) (st : Gone), GoneOk l st → (∀ c ∈ cs, c ∈ l) → GoneOn l st (partV E f st cs) := by
      intro cs
      induction cs with
      | nil => intro st h _; exact .refl h
      | cons c cs ih =>
        intro st h hc
        have h1 := ih st h (fun x hx => hc x (by simp [hx]))
        rw [partV_cons]
        by_cases hm : c ∈ (partV E f st cs).1
        · rw [stepV_no hm]; exact h1
        · rw [stepV_yes hm]
          exact h1.trans (visit_on hl f c _ h1.ok (hc c (by simp)) hm)
    have h0 := begin_ok h hb hn
    have h1 := hp (tos E b) _ h0 (tos_sub hl b)
    rw [visit_succ]
    have e1 := h1.bal
    simp only [List.length_append, List.length_cons, List.length_nil] at e1
    exact ⟨⟨h1.ok.nodup, h1.ok.sub, by have := h.len; simp only [List.length_cons]; omega⟩, (List.prefix_append _ _).trans h1.pre, by simp only [List.length_cons]; omega⟩
theorem partV_on {l : List UInt8} {E : Eds} (hl : Into l E) (f : Nat) (st : Gone) (h : GoneOk l st) : ∀ (cs : List UInt8), (∀ c ∈ cs, c ∈ l) → GoneOn l st (partV E f st cs)
  | [], _ => .refl h
  | c :: cs, hc => by
    have h1 := partV_on hl f st h cs (fun x hx => hc x (by simp [hx]))
    rw [partV_cons]
    by_cases hm : c ∈ (partV E f st cs).1
    · rw [stepV_no hm]; exact h1
    · rw [stepV_yes hm]
      exact h1.trans (visit_on hl f c _ h1.ok (hc c (by simp)) hm)

/-- the blocks behind the edges from a place on -/
theorem tos_drop {E : Eds} {b : UInt8} {k : Nat} {e : List UInt8 × List UInt8} (h : E[k]? = some e) : tos (E.drop k) b = (match toFrom b e with | some y => [y] | none => []) ++ tos (E.drop (k + 1)) b := by
  obtain ⟨hk, he⟩ := List.getElem?_eq_some_iff.1 h
  rw [List.drop_eq_getElem_cons hk, he]
  unfold tos
  rw [List.filterMap_cons]
  cases toFrom b e <;> rfl
theorem tos_drop_yes {E : Eds} {b y : UInt8} {k : Nat} (h : E[k]? = some ([b], [y])) : tos (E.drop k) b = y :: tos (E.drop (k + 1)) b := by
  rw [tos_drop h]; simp [toFrom]
theorem tos_drop_no {E : Eds} {b x y : UInt8} {k : Nat} (h : E[k]? = some ([x], [y])) (hx : x ≠ b) : tos (E.drop k) b = tos (E.drop (k + 1)) b := by
  rw [tos_drop h]; simp [toFrom, hx]
theorem tos_end (E : Eds) (b : UInt8) {k : Nat} (h : E.length ≤ k) : tos (E.drop k) b = [] := by
  rw [List.drop_of_length_le h]; rfl

/-- the way order -/
def orderE (l : List UInt8) (E : Eds) : List UInt8 := (visit E 8 (entry l) ([], [])).2
theorem orderE_len {l : List UInt8} {E : Eds} (hl : Into l E) (hE : entry l ∈ l) (h8 : l.length ≤ 8) : (orderE l E).length ≤ 8 := by
  have h := visit_on hl 8 (entry l) ([], []) ⟨by simp, by simp, by simp⟩ hE (by simp)
  have := nodup_len h.ok.nodup h.ok.sub
  have := h.ok.len
  unfold orderE; omega

end Go.Proofs.YtpeafheljcjlhaaGreat

namespace Go.Proofs.YtpeafheljcjlhaaGreat
/-- a walk, its last block first -/
def Trail (E : Eds) : List UInt8 → Prop
  | [] => True
  | [_] => True
  | c :: b :: r => ([b], [c]) ∈ E ∧ Trail E (b :: r)

theorem trail_seg {E : Eds} : ∀ (r : List UInt8) (b : UInt8), Trail E (b :: r) → ∀ c ∈ b :: r, ∃ K : List UInt8, b ∈ K ∧ c ∈ K ∧ (∀ x ∈ K, x ∈ b :: r) ∧ ∀ x ∈ K, x ≠ c → EntL E K x
  | r, b, ht, c, hc => by
    by_cases hcb : c = b
    · exact ⟨[b], by simp, by simp [hcb], by simp, fun x hx hne => by simp at hx; exact absurd (hx.trans hcb.symm) hne⟩
    · match r, ht, hc with
      | [], _, hc => simp at hc; exact absurd hc hcb
      | b' :: r', ht, hc =>
        obtain ⟨K, h1, h2, h3, h4⟩ := trail_seg r' b' ht.2 c (by
          rcases List.mem_cons.1 hc with h | h
          · exact absurd h hcb
          · exact h)
        refine ⟨b :: K, by simp, by simp [h2], fun x hx => ?_, fun x hx hne => ?_⟩
        · rcases List.mem_cons.1 hx with h | h
          · simp [h]
          · exact List.mem_cons_of_mem _ (h3 x h)
        · rcases List.mem_cons.1 hx with h | h
          · subst h; exact ⟨b', by simp [h1], ht.1⟩
          · exact (h4 x h hne).more fun z hz => by simp [hz]

/-- without ways round, a walk comes to no block twice -/
theorem trail_new {l : List UInt8} {E : Eds} {r : List UInt8} {b c : UInt8} (h : ¬ Cyc l E) (ht : Trail E (b :: r)) (hl : ∀ x ∈ b :: r, x ∈ l) (he : ([b], [c]) ∈ E) : c ∉ b :: r := fun hc => by
  obtain ⟨K, h1, h2, h3, h4⟩ := trail_seg r b ht c hc
  refine h ⟨K, fun e => by rw [e] at h1; simp at h1, fun x hx => hl x (h3 x hx), fun x hx => ?_⟩
  by_cases hxc : x = c
  · subst hxc; exact ⟨b, h1, he⟩
  · exact h4 x hx hxc

/-- edges lead to blocks that stand behind -/
def Topo (E : Eds) : List UInt8 → Prop
  | [] => True
  | x :: r => (∀ y, ([x], [y]) ∈ E → y ∈ r) ∧ Topo E r
theorem Topo.drop {E : Eds} : ∀ {a r : List UInt8}, Topo E (a ++ r) → Topo E r
  | [], _, h => h
  | _ :: a, _, h => Topo.drop (a := a) h.2
theorem Topo.closed {E : Eds} : ∀ {r : List UInt8}, Topo E r → ∀ x ∈ r, ∀ y, ([x], [y]) ∈ E → y ∈ r
  | [], _, x, hx, _, _ => by simp at hx
  | a :: r, h, x, hx, y, he => by
    rcases List.mem_cons.1 hx with e | hx
    · subst e; exact List.mem_cons_of_mem _ (h.1 y he)
    · exact List.mem_cons_of_mem _ (Topo.closed h.2 x hx y he)

/-- while blocks are gone through: those that are put lead on, the others that are begun lie on the walk -/
structure Deep (E : Eds) (r : List UInt8) (st : Gone) : Prop where
  topo : Topo E st.2
  cover : ∀ x ∈ st.1, x ∈ st.2 ∨ x ∈ r

theorem mem_tos {E : Eds} {b c : UInt8} : c ∈ tos E b ↔ ([b], [c]) ∈ E := by
  unfold tos
  rw [List.mem_filterMap]
  constructor
  · rintro ⟨e, he, h⟩
    unfold toFrom at h
    split at h
    · rename_i x y
      split at h
      · rename_i hx; injection h with h; subst h; subst hx; exact he
      · cases h
    · cases h
  · intro h; exact ⟨_, h, by simp [toFrom]⟩

theorem visit_deep {l : List UInt8} {E : Eds} (hl : Into l E) (hc : ¬ Cyc l E) : ∀ (f : Nat) (b : UInt8) (r : List UInt8) (st : Gone), GoneOk l st → b ∉ st.1 → Trail E (b :: r) → (∀ x ∈ b :: r, x ∈ l) → l.length ≤ st.1.length + f → Deep E r st →
    Deep E r (visit E f b st) ∧ b ∈ (visit E f b st).2 ∧ ∀ x ∈ st.2, x ∈ (visit E f b st).2
  | 0, b, r, st, h, hn, _, hs, hf, _ => by
    have h1 := nodup_len (a := b :: st.1) (b := l) (List.nodup_cons.2 ⟨hn, h.nodup⟩) (fun x hx => by
      rcases List.mem_cons.1 hx with e | hx
      · subst e; exact hs _ (by simp)
      · exact h.sub x hx)
    simp at h1; omega
  | f + 1, b, r, st, h, hn, ht, hs, hf, hd => by
    have hb : b ∈ l := hs b (by simp)
    have h0 := begin_ok h hb hn
    have hd0 : Deep E (b :: r) (st.1 ++ [b], st.2) := ⟨hd.topo, fun x hx => by
      rcases List.mem_append.1 hx with hx | hx
      · rcases hd.cover x hx with h | h
        · exact .inl h
        · exact .inr (by simp [h])
      · simp at hx; exact .inr (by simp [hx])⟩
    have hp : ∀ cs : List UInt8, (∀ c ∈ cs, ([b], [c]) ∈ E) → Deep E (b :: r) (partV E f (st.1 ++ [b], st.2) cs) ∧ (∀ c ∈ cs, c ∈ (partV E f (st.1 ++ [b], st.2) cs).2) ∧ ∀ x ∈ st.2, x ∈ (partV E f (st.1 ++ [b], st.2) cs).2 := by
      intro cs
      induction cs with
      | nil => intro _; exact ⟨hd0, by simp, fun x hx => hx⟩
      | cons c cs ih =>
        intro hcs
        obtain ⟨i1, i2, i3⟩ := ih (fun x hx => hcs x (by simp [hx]))
        have hon := partV_on hl f _ h0 cs (fun x hx => hl _ _ (hcs x (by simp [hx])))
        rw [partV_cons]
        have he := hcs c (by simp)
        by_cases hm : c ∈ (partV E f (st.1 ++ [b], st.2) cs).1
        · rw [stepV_no hm]
          have hin : c ∈ (partV E f (st.1 ++ [b], st.2) cs).2 := (i1.cover c hm).resolve_right (trail_new hc ht hs he)
          exact ⟨i1, fun x hx => by
            rcases List.mem_cons.1 hx with e | hx
            · subst e; exact hin
            · exact i2 x hx, i3⟩
        · rw [stepV_yes hm]
          have hlen : (st.1 ++ [b]).length ≤ (partV E f (st.1 ++ [b], st.2) cs).1.length := by
            obtain ⟨t, ht⟩ := hon.pre
            simp only at ht
            rw [← ht]; simp
          obtain ⟨j1, j2, j3⟩ := visit_deep hl hc f c (b :: r) _ hon.ok hm ⟨he, ht⟩ (fun x hx => by
            rcases List.mem_cons.1 hx with e | hx
            · subst e; exact hl _ _ he
            · exact hs x hx) (by simp at hlen; omega) i1
          exact ⟨j1, fun x hx => by
            rcases List.mem_cons.1 hx with e | hx
            · subst e; exact j2
            · exact j3 x (i2 x hx), fun x hx => j3 x (i3 x hx)⟩
    obtain ⟨k1, k2, k3⟩ := hp (tos E b) (fun c hc => mem_tos.1 hc)
    rw [visit_succ]
    refine ⟨⟨⟨fun y hy => k2 y (mem_tos.2 hy), k1.topo⟩, fun x hx => ?_⟩, by simp, fun x hx => by simp [k3 x hx]⟩
    rcases k1.cover x hx with h | h
    · exact .inl (by simp [h])
    · rcases List.mem_cons.1 h with e | h
      · exact .inl (by simp [e])
      · exact .inr h

/-- the way order of a net without ways round -/
theorem order_topo {l : List UInt8} {E : Eds} (hl : Into l E) (hc : ¬ Cyc l E) (he : entry l ∈ l) (h8 : l.length ≤ 8) : Topo E (orderE l E) ∧ entry l ∈ orderE l E := by
  have h := visit_deep hl hc 8 (entry l) [] ([], []) ⟨by simp, by simp, by simp⟩ (by simp) (by simp [Trail]) (by simpa using he) (by simp; omega) ⟨by simp [Topo], by simp⟩
  exact ⟨h.1.topo, h.2.1⟩
theorem order_all {l : List UInt8} {E : Eds} (hl : Into l E) (hc : ¬ Cyc l E) (he : entry l ∈ l) (h8 : l.length ≤ 8) {x : UInt8} (hw : Way E (entry l) x) : x ∈ orderE l E := by
  obtain ⟨h1, h2⟩ := order_topo hl hc he h8
  induction hw with
  | refl => exact h2
  | step _ hx ih => exact h1.closed _ ih _ hx

end Go.Proofs.YtpeafheljcjlhaaGreat

namespace Go.Proofs.YtpeafheljcjlhaaGreat
/-- one edge looked at, from block b -/
def lookV (E : Eds) (f : Nat) (b : UInt8) (st : Gone) (i : Nat) : Gone := match E[i]? with
  | some e => match toFrom b e with
    | some y => stepV E f y st
    | none => st
  | none => st
theorem lookV_none {E : Eds} {f : Nat} {b : UInt8} {st : Gone} {i : Nat} (h : E.length ≤ i) : lookV E f b st i = st := by
  unfold lookV; rw [List.getElem?_eq_none h]
theorem lookV_no {E : Eds} {f : Nat} {b x y : UInt8} {st : Gone} {i : Nat} (h : E[i]? = some ([x], [y])) (hx : x ≠ b) : lookV E f b st i = st := by
  unfold lookV; rw [h]; simp [toFrom, hx]
theorem lookV_yes {E : Eds} {f : Nat} {b y : UInt8} {st : Gone} {i : Nat} (h : E[i]? = some ([b], [y])) : lookV E f b st i = stepV E f y st := by
  unfold lookV; rw [h]; simp [toFrom]

/-- so many places looked at -/
def looksV (E : Eds) (f : Nat) (b : UInt8) (st : Gone) (is : List Nat) : Gone := is.foldl (lookV E f b) st
theorem looksV_snoc (E : Eds) (f : Nat) (b : UInt8) (st : Gone) (is : List Nat) (i : Nat) : looksV E f b st (is ++ [i]) = lookV E f b (looksV E f b st is) i := by
  simp [looksV, List.foldl_append]

theorem lookV_on {l : List UInt8} {E : Eds} (hl : Into l E) (f : Nat) (b : UInt8) {st : Gone} (h : GoneOk l st) (i : Nat) : GoneOn l st (lookV E f b st i) := by
  unfold lookV
  split
  · rename_i e he
    split
    · rename_i y hy
      have hm : ([b], [y]) ∈ E := by
        unfold toFrom at hy
        split at hy
        · rename_i x z
          split at hy
          · rename_i hx; injection hy with hy; subst hy; subst hx; exact List.mem_of_getElem? he
          · cases hy
        · cases hy
      unfold stepV
      split
      · exact .refl h
      · rename_i hn; exact visit_on hl f y st h (hl _ _ hm) hn
    · exact .refl h
  · exact .refl h
theorem looksV_on {l : List UInt8} {E : Eds} (hl : Into l E) (f : Nat) (b : UInt8) {st : Gone} (h : GoneOk l st) : ∀ is : List Nat, GoneOn l st (looksV E f b st is) := by
  intro is
  induction is generalizing st with
  | nil => exact .refl h
  | cons i is ih => exact (lookV_on hl f b h i).trans (ih (lookV_on hl f b h i).ok)

/-- the last place first: as the blocks behind the edges -/
theorem looksV_all (E : Eds) (f : Nat) (b : UInt8) (st : Gone) : looksV E f b st (List.range E.length).reverse = partV E f st (tos E b) := by
  have main : ∀ k, k ≤ E.length → looksV E f b st ((List.range E.length).reverse.take (E.length - k)) = partV E f st (tos (E.drop k) b) := by
    intro k hk
    obtain ⟨j, hj⟩ : ∃ j, E.length - k = j := ⟨_, rfl⟩
    induction j generalizing k with
    | zero => rw [hj, tos_end E b (by omega)]; rfl
    | succ j ih =>
      have hkl : k < E.length := by omega
      have h1 := ih (k + 1) (by omega) (by omega)
      have e : (List.range E.length).reverse.take (E.length - k) = (List.range E.length).reverse.take (E.length - (k + 1)) ++ [k] := by
        rw [show E.length - k = (E.length - (k + 1)) + 1 by omega, List.take_succ_eq_append_getElem (by simp; omega)]
        have : E.length - 1 - (E.length - (k + 1)) = k := by omega
        simp [this]
      have hg : E[k]? = some E[k] := List.getElem?_eq_getElem hkl
      rw [e, looksV_snoc, h1, tos_drop hg]
      unfold lookV
      rw [hg]
      cases hq : toFrom b E[k] with
      | none => simp only [hq]; rfl
      | some y => simp only [hq]; rfl
  have := main 0 (Nat.zero_le _)
  rwa [Nat.sub_zero, List.take_of_length_le (by simp), List.drop_zero] at this

end Go.Proofs.YtpeafheljcjlhaaGreat

namespace Go.Proofs.YtpeafheljcjlhaaGreat
/-- the paths that begin with an edge, from block b, where g has the paths from the blocks behind -/
def stepP (E : Eds) (g : UInt8 → List (List UInt8)) (b : UInt8) (i : Nat) : List (List UInt8) := match E[i]? with
  | some ([x], [y]) => if x = b then (g y).map ((97 + i).toUInt8 :: ·) else []
  | _ => []
def rowP (E : Eds) (g : UInt8 → List (List UInt8)) (b : UInt8) (ks : List Nat) : List (List UInt8) := ks.flatMap (stepP E g b)
/-- all paths to t, of those with so many edges at most -/
def pathsF (E : Eds) (t : UInt8) : Nat → UInt8 → List (List UInt8)
  | 0, b => if b = t then [[]] else []
  | f + 1, b => if b = t then [[]] else rowP E (pathsF E t f) b (List.range E.length)
theorem stepP_yes {E : Eds} {g : UInt8 → List (List UInt8)} {b y : UInt8} {i : Nat} (h : E[i]? = some ([b], [y])) : stepP E g b i = (g y).map ((97 + i).toUInt8 :: ·) := by
  unfold stepP; rw [h]; simp only; rw [if_pos trivial]
theorem stepP_no {E : Eds} {g : UInt8 → List (List UInt8)} {b x y : UInt8} {i : Nat} (h : E[i]? = some ([x], [y])) (hx : x ≠ b) : stepP E g b i = [] := by
  unfold stepP; rw [h]; simp only; rw [if_neg hx]
theorem rowP_snoc (E : Eds) (g : UInt8 → List (List UInt8)) (b : UInt8) (ks : List Nat) (k : Nat) : rowP E g b (ks ++ [k]) = rowP E g b ks ++ stepP E g b k := by simp [rowP]
theorem rowP_filter (E : Eds) (g : UInt8 → List (List UInt8)) (b : UInt8) (q : Nat → Bool) : ∀ (ks : List Nat), (∀ k ∈ ks, q k = false → stepP E g b k = []) → rowP E g b (ks.filter q) = rowP E g b ks
  | [], _ => rfl
  | k :: ks, h => by
    have ih := rowP_filter E g b q ks fun j hj => h j (by simp [hj])
    unfold rowP at ih ⊢
    cases hq : q k with
    | true => rw [List.filter_cons_of_pos hq, List.flatMap_cons, List.flatMap_cons, ih]
    | false => rw [List.filter_cons_of_neg (by rw [hq]; exact Bool.false_ne_true), List.flatMap_cons, h k (by simp) hq, List.nil_append, ih]
theorem rowP_congr {E : Eds} {g g' : UInt8 → List (List UInt8)} {b : UInt8} (h : ∀ y, ([b], [y]) ∈ E → g y = g' y) (ks : List Nat) : rowP E g b ks = rowP E g' b ks := by
  have step : ∀ (i : Nat), stepP E g b i = stepP E g' b i := by
    intro i
    unfold stepP
    split
    · rename_i x y he
      by_cases hx : x = b
      · subst hx; rw [h y (List.mem_of_getElem? he)]
      · rw [if_neg hx, if_neg hx]
    · rfl
  unfold rowP; rw [funext step]

/-- where edges lead on, more edges make no more paths -/
theorem pathsF_same {E : Eds} {t : UInt8} : ∀ (n : Nat) (r : List UInt8) (b : UInt8), r.length ≤ n → Topo E (b :: r) → ∀ f g, r.length < f → r.length < g → pathsF E t f b = pathsF E t g b
  | 0, r, b, hn, ht, f, g, hf, hg => by
    obtain ⟨f, rfl⟩ : ∃ k, f = k + 1 := ⟨f - 1, by omega⟩
    obtain ⟨g, rfl⟩ : ∃ k, g = k + 1 := ⟨g - 1, by omega⟩
    have hr : r = [] := List.length_eq_zero_iff.1 (by omega)
    subst hr
    unfold pathsF
    rw [rowP_congr (fun y hy => absurd (ht.1 y hy) (by simp)) _]
  | n + 1, r, b, hn, ht, f, g, hf, hg => by
    obtain ⟨f, rfl⟩ : ∃ k, f = k + 1 := ⟨f - 1, by omega⟩
    obtain ⟨g, rfl⟩ : ∃ k, g = k + 1 := ⟨g - 1, by omega⟩
    unfold pathsF
    rw [rowP_congr (fun y hy => ?_) _]
    obtain ⟨a, r2, hr⟩ := List.append_of_mem (ht.1 y hy)
    have h2 : Topo E (y :: r2) := Topo.drop (a := a) (by rw [← hr]; exact ht.2)
    have hl := congrArg List.length hr
    simp at hl
    exact pathsF_same n r2 y (by omega) h2 f g (by omega) (by omega)

/-- all paths from a block to t -/
def pathsE (E : Eds) (t b : UInt8) : List (List UInt8) := pathsF E t 8 b
theorem pathsE_at {E : Eds} {t : UInt8} : pathsE E t t = [[]] := by
  unfold pathsE pathsF; exact if_pos rfl
theorem pathsE_fix {E : Eds} {t : UInt8} {r : List UInt8} {b : UInt8} (ht : Topo E (b :: r)) (hr : r.length ≤ 7) (hb : b ≠ t) : pathsE E t b = rowP E (pathsE E t) b (List.range E.length) := by
  have e : pathsE E t b = rowP E (pathsF E t 7) b (List.range E.length) := by
    unfold pathsE; rw [pathsF]; exact if_neg hb
  rw [e]
  refine rowP_congr (fun y hy => ?_) _
  obtain ⟨a, r2, hr2⟩ := List.append_of_mem (ht.1 y hy)
  have h2 : Topo E (y :: r2) := Topo.drop (a := a) (by rw [← hr2]; exact ht.2)
  have hl := congrArg List.length hr2
  simp at hl
  exact pathsF_same r2.length r2 y (Nat.le_refl _) h2 7 8 (by omega) (by omega)
theorem pathsF_len {E : Eds} {t : UInt8} : ∀ (f : Nat) (b : UInt8), ∀ p ∈ pathsF E t f b, p.length ≤ f
  | 0, b, p, hp => by
    unfold pathsF at hp
    split at hp
    · simp at hp; subst hp; simp
    · simp at hp
  | f + 1, b, p, hp => by
    unfold pathsF at hp
    split at hp
    · simp at hp; subst hp; simp
    · unfold rowP at hp
      obtain ⟨i, _, hi⟩ := List.mem_flatMap.1 hp
      unfold stepP at hi
      split at hi
      · split at hi
        · obtain ⟨q, hq, rfl⟩ := List.mem_map.1 hi
          have := pathsF_len f _ q hq
          simp; omega
        · simp at hi
      · simp at hi
theorem pathsE_len {E : Eds} {t b : UInt8} {p : List UInt8} (h : p ∈ pathsE E t b) : p.length ≤ 8 := pathsF_len 8 b p h

/-- the paths, as texts -/
def tx (R : List (List UInt8)) : List ByteArray := R.map fun p => ⟨p.toArray⟩
theorem tx_length (R : List (List UInt8)) : (tx R).length = R.length := by simp [tx]

end Go.Proofs.YtpeafheljcjlhaaGreat

namespace Go.Proofs.YtpeafheljcjlhaaGreat
/-- one edge looked at, from block b, where g has the paths from the blocks behind -/
def stepG (E : Eds) (g : UInt8 → List UInt8) (b : UInt8) (out : List UInt8) (i : Nat) : List UInt8 := match E[i]? with
  | some ([x], [y]) => if x = b ∧ out.length < (g y).length + 1 then (97 + i).toUInt8 :: g y else out
  | _ => out
def rowG (E : Eds) (g : UInt8 → List UInt8) (b : UInt8) (ks : List Nat) : List UInt8 := ks.foldl (stepG E g b) []
/-- the longest path, of those with so many edges at most -/
def long (E : Eds) : Nat → UInt8 → List UInt8
  | 0, _ => []
  | f + 1, b => rowG E (long E f) b (List.range E.length)
theorem long_succ (E : Eds) (f : Nat) (b : UInt8) : long E (f + 1) b = rowG E (long E f) b (List.range E.length) := rfl
theorem rowG_snoc (E : Eds) (g : UInt8 → List UInt8) (b : UInt8) (ks : List Nat) (k : Nat) : rowG E g b (ks ++ [k]) = stepG E g b (rowG E g b ks) k := by simp [rowG, List.foldl_append]
theorem stepG_yes {E : Eds} {g : UInt8 → List UInt8} {b y : UInt8} {out : List UInt8} {i : Nat} (h : E[i]? = some ([b], [y])) (hl : out.length < (g y).length + 1) : stepG E g b out i = (97 + i).toUInt8 :: g y := by
  unfold stepG; rw [h]; simp only; rw [if_pos ⟨trivial, hl⟩]
theorem stepG_short {E : Eds} {g : UInt8 → List UInt8} {b y : UInt8} {out : List UInt8} {i : Nat} (h : E[i]? = some ([b], [y])) (hl : ¬ out.length < (g y).length + 1) : stepG E g b out i = out := by
  unfold stepG; rw [h]; simp only; rw [if_neg fun q => hl q.2]
theorem stepG_no {E : Eds} {g : UInt8 → List UInt8} {b x y : UInt8} {out : List UInt8} {i : Nat} (h : E[i]? = some ([x], [y])) (hx : x ≠ b) : stepG E g b out i = out := by
  unfold stepG; rw [h]; simp only; rw [if_neg fun q => hx q.1]
theorem rowG_filter (E : Eds) (g : UInt8 → List UInt8) (b : UInt8) (q : Nat → Bool) (ks : List Nat) (h : ∀ k ∈ ks, q k = false → ∀ out, stepG E g b out k = out) : rowG E g b (ks.filter q) = rowG E g b ks := by
  have main : ∀ (ks : List Nat) (out : List UInt8), (∀ k ∈ ks, q k = false → ∀ out, stepG E g b out k = out) → (ks.filter q).foldl (stepG E g b) out = ks.foldl (stepG E g b) out := by
    intro ks
    induction ks with
    | nil => intro out _; rfl
    | cons k ks ih =>
      intro out h
      have ih' := fun o => ih o (fun j hj => h j (by simp [hj]))
      cases hq : q k with
      | true => rw [List.filter_cons_of_pos hq]; exact ih' _
      | false =>
        rw [List.filter_cons_of_neg (by rw [hq]; exact Bool.false_ne_true), ih' out, List.foldl_cons, h k (by simp) hq]
  exact main ks [] h

theorem stepG_len {E : Eds} {g : UInt8 → List UInt8} {b : UInt8} {out : List UInt8} {i m : Nat} (hg : ∀ y, (g y).length ≤ m) (h : out.length ≤ m + 1) : (stepG E g b out i).length ≤ m + 1 := by
  unfold stepG
  split
  · rename_i x y _
    split
    · have := hg y; simp; omega
    · exact h
  · exact h
theorem rowG_len {E : Eds} {g : UInt8 → List UInt8} {b : UInt8} {m : Nat} (hg : ∀ y, (g y).length ≤ m) (ks : List Nat) : (rowG E g b ks).length ≤ m + 1 := by
  have main : ∀ (ks : List Nat) (out : List UInt8), out.length ≤ m + 1 → (ks.foldl (stepG E g b) out).length ≤ m + 1 := by
    intro ks
    induction ks with
    | nil => intro out h; exact h
    | cons k ks ih => intro out h; exact ih _ (stepG_len hg h)
  exact main ks [] (by simp)
theorem long_len (E : Eds) : ∀ (f : Nat) (b : UInt8), (long E f b).length ≤ f
  | 0, _ => by simp [long]
  | f + 1, b => by rw [long_succ]; exact rowG_len (long_len E f) _

theorem rowG_congr {E : Eds} {g g' : UInt8 → List UInt8} {b : UInt8} (h : ∀ y, ([b], [y]) ∈ E → g y = g' y) (ks : List Nat) : rowG E g b ks = rowG E g' b ks := by
  have step : ∀ (out : List UInt8) (i : Nat), stepG E g b out i = stepG E g' b out i := by
    intro out i
    unfold stepG
    split
    · rename_i x y he
      by_cases hx : x = b
      · subst hx; rw [h y (List.mem_of_getElem? he)]
      · rw [if_neg fun q => hx q.1, if_neg fun q => hx q.1]
    · rfl
  have : stepG E g b = stepG E g' b := funext fun o => funext fun i => step o i
  unfold rowG; rw [this]

/-- where edges lead on, more edges make no longer path -/
theorem long_same {E : Eds} : ∀ (n : Nat) (r : List UInt8) (b : UInt8), r.length ≤ n → Topo E (b :: r) → ∀ f g, r.length < f → r.length < g → long E f b = long E g b
  | 0, r, b, hn, ht, f, g, hf, hg => by
    obtain ⟨f, rfl⟩ : ∃ k, f = k + 1 := ⟨f - 1, by omega⟩
    obtain ⟨g, rfl⟩ : ∃ k, g = k + 1 := ⟨g - 1, by omega⟩
    have hr : r = [] := List.length_eq_zero_iff.1 (by omega)
    subst hr
    rw [long_succ, long_succ]
    exact rowG_congr (fun y hy => absurd (ht.1 y hy) (by simp)) _
  | n + 1, r, b, hn, ht, f, g, hf, hg => by
    obtain ⟨f, rfl⟩ : ∃ k, f = k + 1 := ⟨f - 1, by omega⟩
    obtain ⟨g, rfl⟩ : ∃ k, g = k + 1 := ⟨g - 1, by omega⟩
    rw [long_succ, long_succ]
    refine rowG_congr (fun y hy => ?_) _
    obtain ⟨a, r2, hr⟩ := List.append_of_mem (ht.1 y hy)
    have h2 : Topo E (y :: r2) := Topo.drop (a := a) (by rw [← hr]; exact ht.2)
    have hl := congrArg List.length hr
    simp at hl
    exact long_same n r2 y (by omega) h2 f g (by omega) (by omega)

/-- the longest path from a block -/
def longE (E : Eds) (b : UInt8) : List UInt8 := long E 8 b
theorem longE_len (E : Eds) (b : UInt8) : (longE E b).length ≤ 8 := long_len E 8 b
theorem longE_fix {E : Eds} {r : List UInt8} {b : UInt8} (ht : Topo E (b :: r)) (hr : r.length ≤ 7) : longE E b = rowG E (longE E) b (List.range E.length) := by
  unfold longE
  rw [long_succ]
  refine rowG_congr (fun y hy => ?_) _
  obtain ⟨a, r2, hr2⟩ := List.append_of_mem (ht.1 y hy)
  have h2 : Topo E (y :: r2) := Topo.drop (a := a) (by rw [← hr2]; exact ht.2)
  have hl := congrArg List.length hr2
  simp at hl
  exact long_same r2.length r2 y (Nat.le_refl _) h2 7 8 (by omega) (by omega)

end Go.Proofs.YtpeafheljcjlhaaGreat

namespace Go.Proofs.YtpeafheljcjlhaaGreat
theorem nodup_full {a b : List UInt8} (ha : a.Nodup) (hs : ∀ x ∈ a, x ∈ b) (hl : b.length ≤ a.length) : b.Nodup := by
  have h : ∀ s x t, b = s ++ x :: t → x ∉ t := by
    intro s x t hb hx
    have h1 := nodup_len (b := s ++ t) ha (fun y hy => by
      have := hs y hy
      rw [hb] at this
      rcases List.mem_append.1 this with h | h
      · exact List.mem_append_left _ h
      · rcases List.mem_cons.1 h with e | h
        · subst e; exact List.mem_append_right _ hx
        · exact List.mem_append_right _ h)
    rw [hb] at hl
    simp at h1 hl; omega
  have main : ∀ b : List UInt8, (∀ s x t, b = s ++ x :: t → x ∉ t) → b.Nodup := by
    intro b
    induction b with
    | nil => intro _; simp
    | cons y t ih =>
      intro h
      exact List.nodup_cons.2 ⟨h [] y t rfl, ih fun s x u e => h (y :: s) x u (by rw [e]; rfl)⟩
  exact main b h

theorem order_nodup {l : List UInt8} {E : Eds} (hl : Into l E) (hc : ¬ Cyc l E) (he : entry l ∈ l) (h8 : l.length ≤ 8) : (orderE l E).Nodup := by
  have h0 : GoneOk l (([], []) : Gone) := ⟨by simp, by simp, by simp⟩
  have h := visit_deep hl hc 8 (entry l) [] ([], []) h0 (by simp) (by simp [Trail]) (by simpa using he) (by simp; omega) ⟨by simp [Topo], by simp⟩
  have hon := visit_on hl 8 (entry l) ([], []) h0 he (by simp)
  have hb := hon.bal
  simp only [List.length_nil, Nat.add_zero] at hb
  exact nodup_full hon.ok.nodup (fun x hx => (h.1.cover x hx).resolve_right (by simp)) (by unfold orderE; omega)

/-- no edge leads from a block to itself -/
theorem topo_self {E : Eds} : ∀ (n : Nat) (r : List UInt8) (b : UInt8), r.length ≤ n → Topo E (b :: r) → ([b], [b]) ∉ E
  | 0, r, b, hn, ht, he => by
    have := ht.1 b he
    have hr : r = [] := List.length_eq_zero_iff.1 (by omega)
    subst hr; simp at this
  | n + 1, r, b, hn, ht, he => by
    obtain ⟨a, r2, hr⟩ := List.append_of_mem (ht.1 b he)
    have hl := congrArg List.length hr
    simp at hl
    exact topo_self n r2 b (by omega) (Topo.drop (a := a) (by rw [← hr]; exact ht.2)) he

/-- what is known of the blocks: the longest paths of those that are done -/
def tab (E : Eds) (l done : List UInt8) (i : Nat) : List UInt8 := match l[i]? with
  | some c => if c ∈ done then longE E c else []
  | none => []
theorem tab_len (E : Eds) (l done : List UInt8) (i : Nat) : (tab E l done i).length ≤ 8 := by
  unfold tab
  split
  · split
    · exact longE_len _ _
    · simp
  · simp
theorem tab_in {E : Eds} {l done : List UInt8} {i : Nat} {c : UInt8} (h : l[i]? = some c) (hc : c ∈ done) : tab E l done i = longE E c := by
  unfold tab; rw [h]; simp only; rw [if_pos hc]
theorem tab_out {E : Eds} {l done : List UInt8} {i : Nat} {c : UInt8} (h : l[i]? = some c) (hc : c ∉ done) : tab E l done i = [] := by
  unfold tab; rw [h]; simp only; rw [if_neg hc]
theorem tab_nil (E : Eds) (l : List UInt8) (i : Nat) : tab E l [] i = [] := by
  unfold tab; split
  · simp
  · rfl
theorem tab_cons {E : Eds} {l r : List UInt8} {b : UInt8} {h : Nat} (hn : l.Nodup) (hb : l[h]? = some b) (i : Nat) : tab E l (b :: r) i = if i = h then longE E b else tab E l r i := by
  by_cases hi : i = h
  · subst hi; rw [if_pos rfl, tab_in hb (by simp)]
  · rw [if_neg hi]
    unfold tab
    cases hc : l[i]? with
    | none => rfl
    | some c =>
      have hne : c ≠ b := fun e => hi (by
        subst e
        have h1 : i < l.length := (List.getElem?_eq_some_iff.1 hc).1
        exact (List.getElem?_inj h1 hn).1 (hc.trans hb.symm))
      simp only [List.mem_cons, hne, false_or]

end Go.Proofs.YtpeafheljcjlhaaGreat

namespace Go.Proofs.YtpeafheljcjlhaaGreat
/-- what one edge adds, from block b, where g has the counts of the blocks behind -/
def stepC (E : Eds) (g : UInt8 → Nat) (b : UInt8) (i : Nat) : Nat := match E[i]? with
  | some ([x], [y]) => if x = b then g y else 0
  | _ => 0
def sumC (E : Eds) (g : UInt8 → Nat) (b : UInt8) (ks : List Nat) : Nat := (ks.map (stepC E g b)).sum
theorem stepC_yes {E : Eds} {g : UInt8 → Nat} {b y : UInt8} {i : Nat} (h : E[i]? = some ([b], [y])) : stepC E g b i = g y := by
  unfold stepC; rw [h]; simp only; rw [if_pos trivial]
theorem stepC_no {E : Eds} {g : UInt8 → Nat} {b x y : UInt8} {i : Nat} (h : E[i]? = some ([x], [y])) (hx : x ≠ b) : stepC E g b i = 0 := by
  unfold stepC; rw [h]; simp only; rw [if_neg hx]
theorem sumC_nil (E : Eds) (g : UInt8 → Nat) (b : UInt8) : sumC E g b [] = 0 := rfl
theorem sumC_snoc (E : Eds) (g : UInt8 → Nat) (b : UInt8) (ks : List Nat) (k : Nat) : sumC E g b (ks ++ [k]) = sumC E g b ks + stepC E g b k := by simp [sumC]
theorem sumC_range (E : Eds) (g : UInt8 → Nat) (b : UInt8) (k : Nat) : sumC E g b (List.range (k + 1)) = sumC E g b (List.range k) + stepC E g b k := by rw [List.range_succ, sumC_snoc]
theorem sumC_filter (E : Eds) (g : UInt8 → Nat) (b : UInt8) (q : Nat → Bool) : ∀ (ks : List Nat), (∀ k ∈ ks, q k = false → stepC E g b k = 0) → sumC E g b (ks.filter q) = sumC E g b ks
  | [], _ => rfl
  | k :: ks, h => by
    have ih := sumC_filter E g b q ks fun j hj => h j (by simp [hj])
    unfold sumC at ih ⊢
    cases hq : q k with
    | true => rw [List.filter_cons_of_pos hq, List.map_cons, List.map_cons, List.sum_cons, List.sum_cons, ih]
    | false => rw [List.filter_cons_of_neg (by rw [hq]; exact Bool.false_ne_true), List.map_cons, List.sum_cons, h k (by simp) hq, Nat.zero_add, ih]
theorem sumC_le {E : Eds} {g : UInt8 → Nat} {b : UInt8} {M : Nat} (h : ∀ y, ([b], [y]) ∈ E → g y ≤ M) : ∀ ks : List Nat, sumC E g b ks ≤ ks.length * M
  | [] => by simp [sumC]
  | k :: ks => by
    have ih := sumC_le h ks
    have h1 : stepC E g b k ≤ M := by
      unfold stepC
      split
      · rename_i x y he
        by_cases hx : x = b
        · subst hx; rw [if_pos rfl]; exact h y (List.mem_of_getElem? he)
        · rw [if_neg hx]; exact Nat.zero_le _
      · exact Nat.zero_le _
    unfold sumC at ih ⊢
    rw [List.map_cons, List.sum_cons, List.length_cons, Nat.succ_mul]
    omega
theorem sumC_zero {E : Eds} {g : UInt8 → Nat} {b : UInt8} (h : ∀ y, ([b], [y]) ∉ E) (ks : List Nat) : sumC E g b ks = 0 := by
  have := sumC_le (g := g) (M := 0) (fun y hy => absurd hy (h y)) ks
  omega

/-- how many paths there are from a block to t -/
def cntE (E : Eds) (t b : UInt8) : Nat := (pathsE E t b).length
theorem rowP_len (E : Eds) (g : UInt8 → List (List UInt8)) (b : UInt8) : ∀ ks : List Nat, (rowP E g b ks).length = sumC E (fun y => (g y).length) b ks
  | [] => rfl
  | k :: ks => by
    have ih := rowP_len E g b ks
    have h1 : (stepP E g b k).length = stepC E (fun y => (g y).length) b k := by
      by_cases hx : ∃ x y, E[k]? = some ([x], [y])
      · obtain ⟨x, y, he⟩ := hx
        by_cases hxb : x = b
        · subst hxb; rw [stepP_yes he, stepC_yes he, List.length_map]
        · rw [stepP_no he hxb, stepC_no he hxb]; rfl
      · have e1 : stepP E g b k = [] := by
          unfold stepP
          split
          · rename_i x y he; exact absurd ⟨x, y, he⟩ hx
          · rfl
        have e2 : stepC E (fun y => (g y).length) b k = 0 := by
          unfold stepC
          split
          · rename_i x y he; exact absurd ⟨x, y, he⟩ hx
          · rfl
        rw [e1, e2]; rfl
    unfold rowP sumC at ih ⊢
    rw [List.flatMap_cons, List.length_append, List.map_cons, List.sum_cons, ih, h1]
theorem cntE_at (E : Eds) (t : UInt8) : cntE E t t = 1 := by unfold cntE; rw [pathsE_at]; rfl
theorem cntE_fix {E : Eds} {t : UInt8} {r : List UInt8} {b : UInt8} (ht : Topo E (b :: r)) (hr : r.length ≤ 7) (hb : b ≠ t) : cntE E t b = sumC E (cntE E t) b (List.range E.length) := by
  unfold cntE; rw [pathsE_fix ht hr hb, rowP_len]
/-- where no edge leaves t -/
theorem cntE_all {E : Eds} {t : UInt8} (hno : ∀ y, ([t], [y]) ∉ E) {r : List UInt8} {b : UInt8} (ht : Topo E (b :: r)) (hr : r.length ≤ 7) : cntE E t b = (if b = t then 1 else 0) + sumC E (cntE E t) b (List.range E.length) := by
  by_cases hb : b = t
  · subst hb; rw [if_pos rfl, cntE_at, sumC_zero hno]
  · rw [if_neg hb, Nat.zero_add]; exact cntE_fix ht hr hb
theorem pathsF_few {E : Eds} {t : UInt8} (h16 : E.length ≤ 16) : ∀ (n : Nat) (r : List UInt8) (b : UInt8), r.length ≤ n → Topo E (b :: r) → ∀ f, (pathsF E t f b).length ≤ 16 ^ n
  | n, r, b, hn, ht, 0 => by
    unfold pathsF
    have h1 : 1 ≤ 16 ^ n := Nat.one_le_pow _ _ (by omega)
    split
    · exact h1
    · simp
  | n, r, b, hn, ht, f + 1 => by
    have h1 : 1 ≤ 16 ^ n := Nat.one_le_pow _ _ (by omega)
    unfold pathsF
    split
    · exact h1
    · rw [rowP_len]
      cases n with
      | zero =>
        have hr : r = [] := List.length_eq_zero_iff.1 (by omega)
        subst hr
        rw [sumC_zero (fun y hy => absurd (ht.1 y hy) (by simp))]
        exact Nat.zero_le _
      | succ n =>
        refine Nat.le_trans (sumC_le (M := 16 ^ n) (fun y hy => ?_) _) ?_
        · obtain ⟨a, r2, hr2⟩ := List.append_of_mem (ht.1 y hy)
          have h2 : Topo E (y :: r2) := Topo.drop (a := a) (by rw [← hr2]; exact ht.2)
          have hl := congrArg List.length hr2
          simp at hl
          exact pathsF_few h16 n r2 y (by omega) h2 f
        · rw [List.length_range, Nat.pow_succ, Nat.mul_comm (16 ^ n) 16]
          exact Nat.mul_le_mul_right _ h16
theorem cntE_few {E : Eds} {t : UInt8} (h16 : E.length ≤ 16) {r : List UInt8} {b : UInt8} (ht : Topo E (b :: r)) (hr : r.length ≤ 7) : cntE E t b ≤ 268435456 := pathsF_few h16 7 r b hr ht 8
theorem topo_to {E : Eds} {r : List UInt8} {b y : UInt8} (ht : Topo E (b :: r)) (hr : r.length ≤ 7) (he : ([b], [y]) ∈ E) : ∃ r2, Topo E (y :: r2) ∧ r2.length ≤ 7 ∧ r2.length < r.length := by
  obtain ⟨a, r2, hr2⟩ := List.append_of_mem (ht.1 y he)
  have h2 : Topo E (y :: r2) := Topo.drop (a := a) (by rw [← hr2]; exact ht.2)
  have hl := congrArg List.length hr2
  simp at hl
  exact ⟨r2, h2, by omega, by omega⟩
theorem topo_at {E : Eds} {r : List UInt8} {b : UInt8} (ht : Topo E r) (h8 : r.length ≤ 8) (hb : b ∈ r) : ∃ r2, Topo E (b :: r2) ∧ r2.length ≤ 7 := by
  obtain ⟨a, r2, hr2⟩ := List.append_of_mem hb
  have hl := congrArg List.length hr2
  simp at hl
  exact ⟨r2, Topo.drop (a := a) (by rw [← hr2]; exact ht), by omega⟩
theorem sumC_few {E : Eds} {t : UInt8} (h16 : E.length ≤ 16) {r : List UInt8} {b : UInt8} (ht : Topo E (b :: r)) (hr : r.length ≤ 7) {k : Nat} (hk : k ≤ 16) : sumC E (cntE E t) b (List.range k) ≤ 4294967296 := by
  have h := sumC_le (E := E) (g := cntE E t) (b := b) (M := 268435456) (fun y hy => by
    obtain ⟨r2, h2, h3, _⟩ := topo_to ht hr hy
    exact cntE_few h16 h2 h3) (List.range k)
  rw [List.length_range] at h
  have : k * 268435456 ≤ 16 * 268435456 := Nat.mul_le_mul_right _ hk
  omega

/-- the value of an edge -/
def valE (E : Eds) (t : UInt8) (i : Nat) : Nat := match E[i]? with
  | some ([x], _) => sumC E (cntE E t) x (List.range i)
  | _ => 0
theorem valE_eq {E : Eds} {t x y : UInt8} {i : Nat} (h : E[i]? = some ([x], [y])) : valE E t i = sumC E (cntE E t) x (List.range i) := by
  unfold valE; rw [h]

end Go.Proofs.YtpeafheljcjlhaaGreat

namespace Go.Proofs.YtpeafheljcjlhaaGreat
/-- the name of an edge, as a letter -/
def nameL (k : Nat) : UInt8 := (97 + k).toUInt8

/-- blocks that have been met, with the paths that lead to them, in the order of the search -/
abbrev Met := List (UInt8 × List UInt8)
def keysM (D : Met) : List UInt8 := D.map (·.1)

/-- one edge looked at, from block b, to which path p leads -/
def stepE (E : Eds) (b : UInt8) (p : List UInt8) (D : Met) (k : Nat) : Met :=
  match E[k]? with
  | some ([x], [y]) => if x = b ∧ y ∉ keysM D then D ++ [(y, p ++ [nameL k])] else D
  | _ => D
/-- so many edges looked at -/
def rowE (E : Eds) (b : UInt8) (p : List UInt8) (D : Met) (n : Nat) : Met := (List.range n).foldl (stepE E b p) D
/-- so many blocks gone on from -/
def bfs (E : Eds) (s : UInt8) : Nat → Met
  | 0 => [(s, [])]
  | j + 1 => match (bfs E s j)[j]? with
    | some (b, p) => rowE E b p (bfs E s j) E.length
    | none => bfs E s j
/-- the path that the search finds to a block -/
def pathE (E : Eds) (s t : UInt8) : List UInt8 := ((bfs E s 8).find? (fun x => x.1 == t)).elim [] (·.2)

theorem rowE_zero (E : Eds) (b : UInt8) (p : List UInt8) (D : Met) : rowE E b p D 0 = D := rfl
theorem rowE_succ (E : Eds) (b : UInt8) (p : List UInt8) (D : Met) (n : Nat) : rowE E b p D (n + 1) = stepE E b p (rowE E b p D n) n := by
  simp [rowE, List.range_succ, List.foldl_append]

/-- what the search has met: each block once, of the net's -/
structure MetOk (l : List UInt8) (D : Met) : Prop where
  nodup : (keysM D).Nodup
  sub : ∀ x ∈ keysM D, x ∈ l

theorem stepE_yes {E : Eds} {b x y : UInt8} {p : List UInt8} {D : Met} {k : Nat} (he : E[k]? = some ([x], [y])) (hx : x = b) (hy : y ∉ keysM D) : stepE E b p D k = D ++ [(y, p ++ [nameL k])] := by
  unfold stepE; rw [he]; simp only; rw [if_pos ⟨hx, hy⟩]
theorem stepE_no {E : Eds} {b x y : UInt8} {p : List UInt8} {D : Met} {k : Nat} (he : E[k]? = some ([x], [y])) (h : ¬ (x = b ∧ y ∉ keysM D)) : stepE E b p D k = D := by
  unfold stepE; rw [he]; simp only; rw [if_neg h]
theorem stepE_pre (E : Eds) (b : UInt8) (p : List UInt8) (D : Met) (k : Nat) : D <+: stepE E b p D k := by
  unfold stepE
  split
  · split
    · exact ⟨_, rfl⟩
    · exact List.prefix_refl _
  · exact List.prefix_refl _
theorem stepE_ok {l : List UInt8} {E : Eds} {b : UInt8} {p : List UInt8} {D : Met} {k : Nat} (hl : ∀ x y, ([x], [y]) ∈ E → y ∈ l) (h : MetOk l D) : MetOk l (stepE E b p D k) := by
  unfold stepE
  split
  · rename_i x y he
    split
    · rename_i hc
      have hk : keysM (D ++ [(y, p ++ [nameL k])]) = keysM D ++ [y] := by simp [keysM]
      refine ⟨?_, ?_⟩
      · rw [hk, List.nodup_append]
        exact ⟨h.nodup, by simp, fun a ha b hb => by simp at hb; subst hb; exact fun e => hc.2 (e ▸ ha)⟩
      · rw [hk]
        intro z hz
        rcases List.mem_append.1 hz with hz | hz
        · exact h.sub z hz
        · simp at hz; subst hz
          exact hl _ _ (List.mem_of_getElem? he)
    · exact h
  · exact h
theorem rowE_pre (E : Eds) (b : UInt8) (p : List UInt8) (D : Met) : ∀ {m n : Nat}, m ≤ n → rowE E b p D m <+: rowE E b p D n
  | m, 0, h => by rw [show m = 0 by omega]; exact List.prefix_refl _
  | m, n + 1, h => by
    by_cases hm : m = n + 1
    · rw [hm]; exact List.prefix_refl _
    · rw [rowE_succ]
      exact (rowE_pre E b p D (show m ≤ n by omega)).trans (stepE_pre _ _ _ _ _)
theorem rowE_ok {l : List UInt8} {E : Eds} {b : UInt8} {p : List UInt8} {D : Met} (hl : ∀ x y, ([x], [y]) ∈ E → y ∈ l) (h : MetOk l D) : ∀ n, MetOk l (rowE E b p D n)
  | 0 => h
  | n + 1 => by rw [rowE_succ]; exact stepE_ok hl (rowE_ok hl h n)

theorem bfs_some {E : Eds} {s b : UInt8} {p : List UInt8} {j : Nat} (h : (bfs E s j)[j]? = some (b, p)) : bfs E s (j + 1) = rowE E b p (bfs E s j) E.length := by
  rw [bfs, h]
theorem bfs_none {E : Eds} {s : UInt8} {j : Nat} (h : (bfs E s j).length ≤ j) : bfs E s (j + 1) = bfs E s j := by
  rw [bfs, List.getElem?_eq_none h]
theorem bfs_pre (E : Eds) (s : UInt8) : ∀ {i j : Nat}, i ≤ j → bfs E s i <+: bfs E s j
  | i, 0, h => by rw [show i = 0 by omega]; exact List.prefix_refl _
  | i, j + 1, h => by
    by_cases hi : i = j + 1
    · rw [hi]; exact List.prefix_refl _
    · refine (bfs_pre E s (show i ≤ j by omega)).trans ?_
      cases hj : (bfs E s j)[j]? with
      | none => rw [bfs_none (List.getElem?_eq_none_iff.1 hj)]; exact List.prefix_refl _
      | some x =>
        obtain ⟨b, p⟩ := x
        rw [bfs_some hj]
        have h0 := rowE_pre E b p (bfs E s j) (Nat.zero_le E.length)
        rwa [rowE_zero] at h0
theorem bfs_ok {l : List UInt8} {E : Eds} {s : UInt8} (hl : ∀ x y, ([x], [y]) ∈ E → y ∈ l) (hs : s ∈ l) : ∀ j, MetOk l (bfs E s j)
  | 0 => ⟨by simp [bfs, keysM], by simp [bfs, keysM, hs]⟩
  | j + 1 => by
    cases hj : (bfs E s j)[j]? with
    | none => rw [bfs_none (List.getElem?_eq_none_iff.1 hj)]; exact bfs_ok hl hs j
    | some x =>
      obtain ⟨b, p⟩ := x
      rw [bfs_some hj]
      exact rowE_ok hl (bfs_ok hl hs j) _
theorem MetOk.len {l : List UInt8} {D : Met} (h : MetOk l D) : D.length ≤ l.length := by
  have := nodup_len h.nodup h.sub
  simpa [keysM] using this
theorem bfs_still {E : Eds} {s : UInt8} {i : Nat} (h : (bfs E s i).length ≤ i) : ∀ j, i ≤ j → bfs E s j = bfs E s i
  | 0, hj => by rw [show i = 0 by omega]
  | j + 1, hj => by
    by_cases hi : i = j + 1
    · rw [hi]
    · have := bfs_still h j (by omega)
      rw [bfs_none (by rw [this]; omega), this]

theorem stepE_plen {E : Eds} {b : UInt8} {p : List UInt8} {D : Met} {k m : Nat} (hp : p.length < m) (h : ∀ x ∈ D, x.2.length ≤ m) : ∀ x ∈ stepE E b p D k, x.2.length ≤ m := by
  unfold stepE
  split
  · split
    · intro x hx
      rcases List.mem_append.1 hx with hx | hx
      · exact h x hx
      · simp at hx; subst hx; simp; omega
    · exact h
  · exact h
theorem rowE_plen {E : Eds} {b : UInt8} {p : List UInt8} {D : Met} {m : Nat} (hp : p.length < m) (h : ∀ x ∈ D, x.2.length ≤ m) : ∀ n, ∀ x ∈ rowE E b p D n, x.2.length ≤ m
  | 0 => h
  | n + 1 => by rw [rowE_succ]; exact stepE_plen hp (rowE_plen hp h n)
theorem bfs_plen {E : Eds} {s : UInt8} : ∀ j, ∀ x ∈ bfs E s j, x.2.length ≤ j
  | 0 => by simp [bfs]
  | j + 1 => by
    cases hj : (bfs E s j)[j]? with
    | none =>
      rw [bfs_none (List.getElem?_eq_none_iff.1 hj)]
      exact fun x hx => Nat.le_succ_of_le (bfs_plen j x hx)
    | some x =>
      obtain ⟨b, p⟩ := x
      rw [bfs_some hj]
      have := bfs_plen j (b, p) (List.mem_of_getElem? hj)
      exact rowE_plen (by simp only at this; omega) (fun x hx => Nat.le_succ_of_le (bfs_plen j x hx)) _

/-- the one entry of a block -/
theorem find_one : ∀ {D : Met} {t : UInt8} {p : List UInt8}, (keysM D).Nodup → (t, p) ∈ D → D.find? (fun x => x.1 == t) = some (t, p)
  | [], _, _, _, h => absurd h (by simp)
  | (a, q) :: D, t, p, hn, h => by
    simp only [keysM, List.map_cons, List.nodup_cons] at hn
    rcases List.mem_cons.1 h with h | h
    · injection h with h1 h2
      subst h1; subst h2
      simp
    · have hne : a ≠ t := fun e => hn.1 (by subst e; exact List.mem_map_of_mem (f := (·.1)) h)
      rw [List.find?_cons_of_neg (by simpa using hne)]
      exact find_one hn.2 h
theorem pathE_of {l : List UInt8} {E : Eds} {s t : UInt8} {p : List UInt8} {D : Met} (hl : ∀ x y, ([x], [y]) ∈ E → y ∈ l) (hs : s ∈ l) (hp : D <+: bfs E s 8) (h : (t, p) ∈ D) : pathE E s t = p := by
  unfold pathE
  rw [find_one (bfs_ok hl hs 8).nodup (hp.subset h)]
  rfl
theorem pathE_none {E : Eds} {s t : UInt8} {i : Nat} (h : (bfs E s i).length ≤ i) (hi : i ≤ 8) (ht : t ∉ keysM (bfs E s i)) : pathE E s t = [] := by
  unfold pathE
  rw [bfs_still h 8 hi]
  have : (bfs E s i).find? (fun x => x.1 == t) = none := by
    rw [List.find?_eq_none]
    intro x hx he
    simp at he
    exact ht (he ▸ List.mem_map_of_mem (f := (·.1)) hx)
  rw [this]
  rfl

/-- so many of some edges looked at -/
def rowO (E : Eds) (b : UInt8) (p : List UInt8) (D : Met) (ks : List Nat) : Met := ks.foldl (stepE E b p) D
theorem rowO_nil (E : Eds) (b : UInt8) (p : List UInt8) (D : Met) : rowO E b p D [] = D := rfl
theorem rowO_snoc (E : Eds) (b : UInt8) (p : List UInt8) (D : Met) (ks : List Nat) (k : Nat) : rowO E b p D (ks ++ [k]) = stepE E b p (rowO E b p D ks) k := by
  simp [rowO, List.foldl_append]
theorem rowO_filter (E : Eds) (b : UInt8) (p : List UInt8) (q : Nat → Bool) : ∀ (ks : List Nat) (D : Met), (∀ k ∈ ks, q k = false → ∀ D', stepE E b p D' k = D') → rowO E b p D (ks.filter q) = rowO E b p D ks
  | [], _, _ => rfl
  | k :: ks, D, h => by
    have ih := fun D' => rowO_filter E b p q ks D' (fun j hj => h j (by simp [hj]))
    cases hq : q k with
    | true => rw [List.filter_cons_of_pos hq]; exact ih _
    | false =>
      rw [List.filter_cons_of_neg (by simp [hq]), ih D]
      show rowO E b p D ks = rowO E b p (stepE E b p D k) ks
      rw [h k (by simp) hq]
theorem rowO_ok {l : List UInt8} {E : Eds} {b : UInt8} {p : List UInt8} {D : Met} (hl : ∀ x y, ([x], [y]) ∈ E → y ∈ l) (h : MetOk l D) (ks : List Nat) : MetOk l (rowO E b p D ks) := by
  induction ks generalizing D with
  | nil => exact h
  | cons k ks ih => exact ih (stepE_ok hl h)
theorem rowO_pre (E : Eds) (b : UInt8) (p : List UInt8) (D : Met) (ks : List Nat) : D <+: rowO E b p D ks := by
  induction ks generalizing D with
  | nil => exact List.prefix_refl _
  | cons k ks ih => exact (stepE_pre _ _ _ _ _).trans (ih _)

end Go.Proofs.YtpeafheljcjlhaaGreat
