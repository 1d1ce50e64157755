/- Going through blocks, the last edge first, as plain lists. No program here. -/
import Derived.Test.YtcfcmlbbnpfejaaMath
namespace Go.Proofs.Ytcfcmlbbnpfejaa

/-- the block to which an edge leads from a block -/
def toFrom (b : UInt8) (e : List UInt8 × List UInt8) : Option UInt8 := match e with
  | ([x], [y]) => if x = b then some y else none
  | _ => none
/-- the blocks to which the edges of a block lead -/
def tos (E : Eds) (b : UInt8) : List UInt8 := E.filterMap (toFrom b)

/-- what has been begun, and what has been put -/
abbrev Gone := List UInt8 × List UInt8

/-- to go through a block -/
def visit (E : Eds) : Nat → UInt8 → Gone → Gone
  | 0, _, st => st
  | f + 1, b, st =>
    let r := (tos E b).foldr (fun c st => if c ∈ st.1 then st else visit E f c st) (st.1 ++ [b], st.2)
    (r.1, b :: r.2)
/-- to go through a block, if it has not been begun -/
def stepV (E : Eds) (f : Nat) (c : UInt8) (st : Gone) : Gone := if c ∈ st.1 then st else visit E f c st
theorem stepV_no {E : Eds} {f : Nat} {c : UInt8} {st : Gone} (h : c ∈ st.1) : stepV E f c st = st := if_pos h
theorem stepV_yes {E : Eds} {f : Nat} {c : UInt8} {st : Gone} (h : c ∉ st.1) : stepV E f c st = visit E f c st := if_neg h
/-- so many of the blocks gone through, the last ones first -/
def partV (E : Eds) (f : Nat) (st : Gone) (cs : List UInt8) : Gone := cs.foldr (stepV E f) st
theorem partV_nil (E : Eds) (f : Nat) (st : Gone) : partV E f st [] = st := rfl
theorem partV_cons (E : Eds) (f : Nat) (st : Gone) (c : UInt8) (cs : List UInt8) : partV E f st (c :: cs) = stepV E f c (partV E f st cs) := rfl
theorem visit_succ (E : Eds) (f : Nat) (b : UInt8) (st : Gone) : visit E (f + 1) b st = ((partV E f (st.1 ++ [b], st.2) (tos E b)).1, b :: (partV E f (st.1 ++ [b], st.2) (tos E b)).2) := rfl

/-- blocks of the net, each once, no more put than begun -/
structure GoneOk (l : List UInt8) (st : Gone) : Prop where
  nodup : st.1.Nodup
  sub : ∀ x ∈ st.1, x ∈ l
  len : st.2.length ≤ st.1.length

/-- what comes of it -/
structure GoneOn (l : List UInt8) (st st' : Gone) : Prop where
  ok : GoneOk l st'
  pre : st.1 <+: st'.1
  bal : st'.2.length + st.1.length = st'.1.length + st.2.length

theorem GoneOn.refl {l : List UInt8} {st : Gone} (h : GoneOk l st) : GoneOn l st st := ⟨h, List.prefix_refl _, by omega⟩
theorem GoneOn.trans {l : List UInt8} {a b c : Gone} (h : GoneOn l a b) (k : GoneOn l b c) : GoneOn l a c := ⟨k.ok, h.pre.trans k.pre, by have := h.bal; have := k.bal; omega⟩

/-- edges lead to blocks of the net -/
def Into (l : List UInt8) (E : Eds) : Prop := ∀ x y, ([x], [y]) ∈ E → y ∈ l
theorem tos_sub {l : List UInt8} {E : Eds} (hl : Into l E) (b : UInt8) : ∀ c ∈ tos E b, c ∈ l := by
  intro c hc
  obtain ⟨e, he, h⟩ := List.mem_filterMap.1 hc
  unfold toFrom at h
  split at h
  · rename_i x y
    split at h
    · injection h with h
      subst h
      exact hl _ _ he
    · cases h
  · cases h

theorem begin_ok {l : List UInt8} {b : UInt8} {st : Gone} (h : GoneOk l st) (hb : b ∈ l) (hn : b ∉ st.1) : GoneOk l (st.1 ++ [b], st.2) := by
  refine ⟨List.nodup_append.2 ⟨h.nodup, by simp, fun a ha c hc => by simp at hc; subst hc; exact fun e => hn (e ▸ ha)⟩, fun x hx => ?_, by have := h.len; simp; omega⟩
  rcases List.mem_append.1 hx with hx | hx
  · exact h.sub x hx
  · simp at hx; subst hx; exact hb

theorem visit_on {l : List UInt8} {E : Eds} (hl : Into l E) : ∀ (f : Nat) (b : UInt8) (st : Gone), GoneOk l st → b ∈ l → b ∉ st.1 → GoneOn l st (visit E f b st)
  | 0, _, _, h, _, _ => .refl h
  | f + 1, b, st, h, hb, hn => by
    have hp : ∀ (cs : List UInt8) (st : Gone), GoneOk l st → (∀ c ∈ cs, c ∈ l) → GoneOn l st (partV E f st cs) := by
      intro cs
      induction cs with
      | nil => intro st h _; exact .refl h
      | cons c cs ih =>
        intro st h hc
        have h1 := ih st h (fun x hx => hc x (by simp [hx]))
        rw [partV_cons]
        by_cases hm : c ∈ (partV E f st cs).1
        · rw [stepV_no hm]; exact h1
        · rw [stepV_yes hm]
          exact h1.trans (visit_on hl f c _ h1.ok (hc c (by simp)) hm)
    have h0 := begin_ok h hb hn
    have h1 := hp (tos E b) _ h0 (tos_sub hl b)
    rw [visit_succ]
    have e1 := h1.bal
    simp only [List.length_append, List.length_cons, List.length_nil] at e1
    exact ⟨⟨h1.ok.nodup, h1.ok.sub, by have := h.len; simp only [List.length_cons]; omega⟩, (List.prefix_append _ _).trans h1.pre, by simp only [List.length_cons]; omega⟩
theorem partV_on {l : List UInt8} {E : Eds} (hl : Into l E) (f : Nat) (st : Gone) (h : GoneOk l st) : ∀ (cs : List UInt8), (∀ c ∈ cs, c ∈ l) → GoneOn l st (partV E f st cs)
  | [], _ => .refl h
  | c :: cs, hc => by
    have h1 := partV_on hl f st h cs (fun x hx => hc x (by simp [hx]))
    rw [partV_cons]
    by_cases hm : c ∈ (partV E f st cs).1
    · rw [stepV_no hm]; exact h1
    · rw [stepV_yes hm]
      exact h1.trans (visit_on hl f c _ h1.ok (hc c (by simp)) hm)

/-- the blocks behind the edges from a place on -/
theorem tos_drop {E : Eds} {b : UInt8} {k : Nat} {e : List UInt8 × List UInt8} (h : E[k]? = some e) : tos (E.drop k) b = (match toFrom b e with | some y => [y] | none => []) ++ tos (E.drop (k + 1)) b := by
  obtain ⟨hk, he⟩ := List.getElem?_eq_some_iff.1 h
  rw [List.drop_eq_getElem_cons hk, he]
  unfold tos
  rw [List.filterMap_cons]
  cases toFrom b e <;> rfl
theorem tos_drop_yes {E : Eds} {b y : UInt8} {k : Nat} (h : E[k]? = some ([b], [y])) : tos (E.drop k) b = y :: tos (E.drop (k + 1)) b := by
  rw [tos_drop h]; simp [toFrom]
theorem tos_drop_no {E : Eds} {b x y : UInt8} {k : Nat} (h : E[k]? = some ([x], [y])) (hx : x ≠ b) : tos (E.drop k) b = tos (E.drop (k + 1)) b := by
  rw [tos_drop h]; simp [toFrom, hx]
theorem tos_end (E : Eds) (b : UInt8) {k : Nat} (h : E.length ≤ k) : tos (E.drop k) b = [] := by
  rw [List.drop_of_length_le h]; rfl

/-- the way order -/
def orderE (l : List UInt8) (E : Eds) : List UInt8 := (visit E 8 (entry l) ([], [])).2
theorem orderE_len {l : List UInt8} {E : Eds} (hl : Into l E) (hE : entry l ∈ l) (h8 : l.length ≤ 8) : (orderE l E).length ≤ 8 := by
  have h := visit_on hl 8 (entry l) ([], []) ⟨by simp, by simp, by simp⟩ hE (by simp)
  have := nodup_len h.ok.nodup h.ok.sub
  have := h.ok.len
  unfold orderE; omega
end Go.Proofs.Ytcfcmlbbnpfejaa
