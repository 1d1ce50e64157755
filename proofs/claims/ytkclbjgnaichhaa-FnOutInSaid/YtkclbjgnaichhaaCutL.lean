/- A text cut at each letter of one kind, as lists; the one net of a text. -/
import Derived.Test.YtkclbjgnaichhaaFmt
import Derived.Test.YtkclbjgnaichhaaNetQ
import Derived.Test.YtkclbjgnaichhaaSpec2
namespace Go.Proofs.Ytkclbjgnaichhaa
open Go.RowKit

/-- the parts of a text that lie between letters c -/
def cutL (c : UInt8) : List UInt8 → List (List UInt8)
  | [] => [[]]
  | b :: r => if b = c then [] :: cutL c r else match cutL c r with
    | [] => [[b]]
    | p :: ps => (b :: p) :: ps
theorem cutL_ne (c : UInt8) : ∀ l : List UInt8, cutL c l ≠ []
  | [] => by simp [cutL]
  | b :: r => by
    unfold cutL
    split
    · simp
    · split <;> simp
theorem cutL_yes (c : UInt8) (r : List UInt8) : cutL c (c :: r) = [] :: cutL c r := by rw [cutL, if_pos rfl]
theorem cutL_no {c b : UInt8} (h : b ≠ c) {r p : List UInt8} {ps : List (List UInt8)} (hr : cutL c r = p :: ps) : cutL c (b :: r) = (b :: p) :: ps := by
  rw [cutL, if_neg h, hr]
theorem cutL_plain {c : UInt8} : ∀ {p : List UInt8}, c ∉ p → cutL c p = [p]
  | [], _ => rfl
  | b :: p, h => by
    have h1 : b ≠ c := fun e => h (by simp [e])
    have h2 : c ∉ p := fun e => h (by simp [e])
    rw [cutL_no h1 (cutL_plain h2)]
theorem cutL_app {c : UInt8} (r : List UInt8) : ∀ {p : List UInt8}, c ∉ p → cutL c (p ++ c :: r) = p :: cutL c r
  | [], _ => cutL_yes c r
  | b :: p, h => by
    have h1 : b ≠ c := fun e => h (by simp [e])
    have h2 : c ∉ p := fun e => h (by simp [e])
    rw [List.cons_append, cutL_no h1 (cutL_app r h2)]
theorem cutL_snoc_yes (c : UInt8) : ∀ l : List UInt8, cutL c (l ++ [c]) = cutL c l ++ [[]]
  | [] => by simp [cutL]
  | b :: r => by
    have ih := cutL_snoc_yes c r
    by_cases h : b = c
    · subst h; rw [List.cons_append, cutL_yes, cutL_yes, ih]; rfl
    · rw [List.cons_append]
      match hr : cutL c r with
      | [] => exact absurd hr (cutL_ne c r)
      | p :: ps =>
        rw [hr] at ih
        rw [cutL_no h hr, cutL_no h ih]; rfl
theorem cutL_snoc_no {c b : UInt8} (h : b ≠ c) : ∀ (l : List UInt8) (R : List (List UInt8)) (x : List UInt8), cutL c l = R ++ [x] → cutL c (l ++ [b]) = R ++ [x ++ [b]]
  | [], R, x, hl => by
    have : R = [] ∧ x = [] := by
      cases R with
      | nil => simp [cutL] at hl; exact ⟨rfl, hl⟩
      | cons a R => simp [cutL] at hl
    obtain ⟨rfl, rfl⟩ := this
    simp [cutL, h]
  | a :: r, R, x, hl => by
    obtain ⟨R', x', hr⟩ : ∃ R' x', cutL c r = R' ++ [x'] := ⟨(cutL c r).dropLast, (cutL c r).getLast (cutL_ne c r), (List.dropLast_concat_getLast (cutL_ne c r)).symm⟩
    have ih := cutL_snoc_no h r R' x' hr
    by_cases ha : a = c
    · subst ha
      rw [cutL_yes, hr] at hl
      rw [List.cons_append, cutL_yes, ih]
      have e : R = [] :: R' ∧ x = x' := by
        have h2 : ([] :: R') ++ [x'] = R ++ [x] := by rw [← hl]; rfl
        have := List.append_inj' h2 rfl
        exact ⟨this.1.symm, by have := this.2; simp at this; exact this.symm⟩
      rw [e.1, e.2]; rfl
    · cases R' with
      | nil =>
        rw [List.nil_append] at hr ih
        rw [cutL_no ha hr] at hl
        have e : R = [] ∧ x = a :: x' := by
          have h2 : ([] : List (List UInt8)) ++ [a :: x'] = R ++ [x] := by rw [← hl]; rfl
          have := List.append_inj' h2 rfl
          exact ⟨this.1.symm, by have := this.2; simp at this; exact this.symm⟩
        rw [List.cons_append, cutL_no ha ih, e.1, e.2]; rfl
      | cons y Y =>
        rw [List.cons_append] at hr ih
        rw [cutL_no ha hr] at hl
        have e : R = (a :: y) :: Y ∧ x = x' := by
          have h2 : ((a :: y) :: Y) ++ [x'] = R ++ [x] := by rw [← hl]; rfl
          have := List.append_inj' h2 rfl
          exact ⟨this.1.symm, by have := this.2; simp at this; exact this.symm⟩
        rw [List.cons_append, cutL_no ha ih, e.1, e.2]; rfl
theorem cutL_len (c : UInt8) : ∀ l : List UInt8, (cutL c l).length ≤ l.length + 1
  | [] => by simp [cutL]
  | b :: r => by
    have ih := cutL_len c r
    by_cases h : b = c
    · subst h; rw [cutL_yes]; simp; omega
    · match hr : cutL c r with
      | [] => exact absurd hr (cutL_ne c r)
      | p :: ps => rw [cutL_no h hr]; rw [hr] at ih; simp at ih ⊢; omega

/-- the parts of a net's text -/
def tailF (es : List (ByteArray × ByteArray)) : List UInt8 := es.flatMap fun e => [32] ++ e.1.data.toList ++ e.2.data.toList
theorem fmt_tail (B : ByteArray) (es : List (ByteArray × ByteArray)) : fmt B es es.length = B.data.toList ++ [58] ++ tailF es := by
  unfold fmt tailF; rw [List.take_length]
theorem cut_tail : ∀ (es : List (ByteArray × ByteArray)) (p : List UInt8), (32 : UInt8) ∉ p → (∀ e ∈ es, (32 : UInt8) ∉ e.1.data.toList ∧ (32 : UInt8) ∉ e.2.data.toList) → cutL 32 (p ++ tailF es) = p :: es.map fun e => e.1.data.toList ++ e.2.data.toList
  | [], p, hp, _ => by simp [tailF, cutL_plain hp]
  | e :: es, p, hp, he => by
    obtain ⟨h1, h2⟩ := he e (by simp)
    have ih := cut_tail es (e.1.data.toList ++ e.2.data.toList) (by simp [h1, h2]) fun x hx => he x (by simp [hx])
    have : p ++ tailF (e :: es) = p ++ 32 :: (e.1.data.toList ++ e.2.data.toList ++ tailF es) := by simp [tailF]
    rw [this, cutL_app _ hp, ih]; rfl

/-- a text that is that of a valid net -/
def TextOf (t : List UInt8) (B : ByteArray) (es : List (ByteArray × ByteArray)) : Prop := Valid B.data.toList (ebs es) ∧ t = fmt B es es.length
theorem letter_of {B : List UInt8} (h : BlocksOk B) {b : List UInt8} (hb : 0 ≤ bIdx B b) : ∃ c, b = [c] ∧ c ≠ 32 ∧ c ≠ 58 := by
  obtain ⟨c, hc, hm, _⟩ := bIdx_some hb
  have := h.2.2.1 c hm
  exact ⟨c, hc, fun e => by subst e; simp at this, fun e => by subst e; simp at this⟩
theorem TextOf.ones {t : List UInt8} {B : ByteArray} {es : List (ByteArray × ByteArray)} (h : TextOf t B es) : ∀ e ∈ es, ∃ x y, e.1.data.toList = [x] ∧ e.2.data.toList = [y] ∧ x ≠ 32 ∧ y ≠ 32 := fun e he => by
  have hm : (e.1.data.toList, e.2.data.toList) ∈ ebs es := List.mem_map.2 ⟨e, he, rfl⟩
  obtain ⟨h1, h2, _, _⟩ := h.1.1.2.2 _ hm
  obtain ⟨x, e1, hx, _⟩ := letter_of h.1.1.1 h1
  obtain ⟨y, e2, hy, _⟩ := letter_of h.1.1.1 h2
  exact ⟨x, y, e1, e2, hx, hy⟩
theorem TextOf.blocks {t : List UInt8} {B : ByteArray} {es : List (ByteArray × ByteArray)} (h : TextOf t B es) : (32 : UInt8) ∉ B.data.toList ∧ (58 : UInt8) ∉ B.data.toList := by
  constructor <;> intro hm <;> have := h.1.1.1.2.2.1 _ hm <;> simp at this
theorem TextOf.cut {t : List UInt8} {B : ByteArray} {es : List (ByteArray × ByteArray)} (h : TextOf t B es) : cutL 32 t = (B.data.toList ++ [58]) :: es.map fun e => e.1.data.toList ++ e.2.data.toList := by
  rw [h.2, fmt_tail]
  refine cut_tail es _ (by have := h.blocks.1; simp [this]) fun e he => ?_
  obtain ⟨x, y, e1, e2, hx, hy⟩ := h.ones e he
  rw [e1, e2]
  exact ⟨by simp [Ne.symm hx], by simp [Ne.symm hy]⟩
/-- a text is that of one net at most -/
theorem TextOf.one {t : List UInt8} {B B' : ByteArray} {es es' : List (ByteArray × ByteArray)} (h : TextOf t B es) (h' : TextOf t B' es') : B = B' ∧ es = es' := by
  have hc := h.cut.symm.trans h'.cut
  injection hc with h1 h2
  refine ⟨bytes_ext (List.append_cancel_right h1), ?_⟩
  have main : ∀ (a b : List (ByteArray × ByteArray)), (∀ e ∈ a, ∃ x y, e.1.data.toList = [x] ∧ e.2.data.toList = [y] ∧ x ≠ 32 ∧ y ≠ 32) → (∀ e ∈ b, ∃ x y, e.1.data.toList = [x] ∧ e.2.data.toList = [y] ∧ x ≠ 32 ∧ y ≠ 32) →
      (a.map fun e => e.1.data.toList ++ e.2.data.toList) = (b.map fun e => e.1.data.toList ++ e.2.data.toList) → a = b := by
    intro a
    induction a with
    | nil => intro b _ _ h; cases b with
      | nil => rfl
      | cons => simp at h
    | cons x a ih =>
      intro b ha hb h
      cases b with
      | nil => simp at h
      | cons y b =>
        simp only [List.map_cons, List.cons.injEq] at h
        have := ih b (fun e he => ha e (by simp [he])) (fun e he => hb e (by simp [he])) h.2
        obtain ⟨p, q, e1, e2, _⟩ := ha x (by simp)
        obtain ⟨p', q', e3, e4, _⟩ := hb y (by simp)
        have h3 := h.1
        rw [e1, e2, e3, e4] at h3
        simp at h3
        have f1 : x.1 = y.1 := bytes_ext (by rw [e1, e3, h3.1])
        have f2 : x.2 = y.2 := bytes_ext (by rw [e2, e4, h3.2])
        rw [this]
        congr 1
        exact Prod.ext f1 f2
  exact main es es' h.ones h'.ones h2

/-- the net of a text, or none, and whether there is one -/
noncomputable def parseQ (t : ByteArray) : NetQ := open Classical in
  if h : ∃ x : ByteArray × List (ByteArray × ByteArray), TextOf t.data.toList x.1 x.2 then (h.choose.1, h.choose.2, true) else (⟨#[]⟩, [], false)
theorem parseQ_yes {t B : ByteArray} {es : List (ByteArray × ByteArray)} (h : TextOf t.data.toList B es) : parseQ t = (B, es, true) := by
  have hx : ∃ x : ByteArray × List (ByteArray × ByteArray), TextOf t.data.toList x.1 x.2 := ⟨(B, es), h⟩
  unfold parseQ
  rw [dif_pos hx]
  obtain ⟨h1, h2⟩ := hx.choose_spec.one h
  rw [h1, h2]
theorem parseQ_no {t : ByteArray} (h : ∀ B es, ¬ TextOf t.data.toList B es) : parseQ t = (⟨#[]⟩, [], false) := by
  unfold parseQ
  rw [dif_neg]
  rintro ⟨x, hx⟩
  exact h _ _ hx
theorem parseQ_len (t : ByteArray) : (parseQ t).2.1.length ≤ 16 := by
  unfold parseQ
  split
  · rename_i h
    exact (valid_sizes h.choose_spec.1).2
  · simp

end Go.Proofs.Ytkclbjgnaichhaa
