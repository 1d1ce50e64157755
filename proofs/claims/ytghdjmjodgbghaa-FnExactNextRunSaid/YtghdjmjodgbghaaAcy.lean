/- What a net without ways round gives: an order in which all edges lead on. -/
import Derived.Test.YtghdjmjodgbghaaOrderV
import Derived.Test.YtghdjmjodgbghaaMath
namespace Go.Proofs.Ytghdjmjodgbghaa
open Go.RowKit

/-- a net without ways round, in words that a walk can use: in O all edges lead on -/
structure Acy (B : ByteArray) (es : List (ByteArray × ByteArray)) (O : List UInt8) : Prop where
  F : Facts B es
  topo : Topo (ebs es) O
  nd : O.Nodup
  eight : O.length ≤ 8
  sub : ∀ x ∈ O, x ∈ B.data.toList
  all : ∀ x ∈ B.data.toList, x ∈ O
  lnd : B.data.toList.Nodup
  no : ∀ y, ([exit_ B.data.toList], [y]) ∉ ebs es
  tin : exit_ B.data.toList ∈ B.data.toList
  tix : B.data.toList[B.size - 1]? = some (exit_ B.data.toList)
  out : ∀ b ∈ B.data.toList, b ≠ exit_ B.data.toList → ∃ (i : Nat) (y : UInt8), (ebs es)[i]? = some ([b], [y])

theorem no_out {B : ByteArray} {es : List (ByteArray × ByteArray)} (hv : Valid B.data.toList (ebs es)) : B.data.toList[B.size - 1]? = some (exit_ B.data.toList) ∧ ∀ y, ([exit_ B.data.toList], [y]) ∉ ebs es := by
  have hlen : B.data.toList.length = B.size := by simp
  have h2 := hv.1.1.1
  have hx : B.data.toList[B.size - 1]? = some (exit_ B.data.toList) := by
    unfold exit_
    have hne : B.data.toList ≠ [] := fun e => by rw [e] at h2; simp at h2
    rw [List.getLastD_eq_getLast?, List.getLast?_eq_some_getLast hne, Option.getD_some, List.getLast_eq_getElem, ← List.getElem?_eq_getElem, hlen]
  refine ⟨hx, fun y hy => ?_⟩
  have h3 := (hv.1.2.2 _ hy).2.2.1
  simp only [bIdx] at h3
  rw [indexByte_of_get hv.1.1.2.2.2 hx] at h3
  omega

theorem acy_of {B : ByteArray} {es : List (ByteArray × ByteArray)} (hv : Valid B.data.toList (ebs es)) (hc : ¬ Cyc B.data.toList (ebs es)) : Acy B es (orderE B.data.toList (ebs es)) := by
  have hF := facts_of hv
  obtain ⟨htopo, _⟩ := order_topo hF.into hc hF.ent hF.small
  have hosub : ∀ x ∈ orderE B.data.toList (ebs es), x ∈ B.data.toList := by
    have h0 : GoneOk B.data.toList (([], []) : Gone) := ⟨by simp, by simp, by simp⟩
    have h := visit_deep hF.into hc 8 (entry B.data.toList) [] ([], []) h0 (by simp) (by simp [Trail]) (by simpa using hF.ent) (by have := hF.small; simpa using this) ⟨by simp [Topo], by simp⟩
    have hon := visit_on hF.into 8 (entry B.data.toList) ([], []) h0 hF.ent (by simp)
    intro x hx
    have hb := hon.bal
    simp only [List.length_nil, Nat.add_zero] at hb
    have hs1 : ∀ y ∈ (visit (ebs es) 8 (entry B.data.toList) ([], [])).1, y ∈ (visit (ebs es) 8 (entry B.data.toList) ([], [])).2 := fun y hy => (h.1.cover y hy).resolve_right (by simp)
    refine hon.ok.sub x (Classical.byContradiction fun hn => ?_)
    have h2 := nodup_len (a := x :: (visit (ebs es) 8 (entry B.data.toList) ([], [])).1) (b := (visit (ebs es) 8 (entry B.data.toList) ([], [])).2) (List.nodup_cons.2 ⟨hn, hon.ok.nodup⟩) (fun y hy => by
      rcases List.mem_cons.1 hy with e | hy
      · subst e; exact hx
      · exact hs1 y hy)
    simp at h2; omega
  obtain ⟨hx, hno⟩ := no_out hv
  exact ⟨hF, htopo, order_nodup hF.into hc hF.ent hF.small, orderE_len hF.into hF.ent hF.small, hosub, fun x hx => order_all hF.into hc hF.ent hF.small (hv.2.1 x hx), hv.1.1.2.2.2, hno, List.mem_of_getElem? hx, hx, fun b hb hne => by
    have hw := hv.2.2 b hb
    cases hw with
    | refl => exact absurd rfl hne
    | step _ he =>
      obtain ⟨i, hi⟩ := List.mem_iff_getElem?.1 (mem_flip.1 he)
      exact ⟨i, _, hi⟩⟩

theorem Acy.at_ {B : ByteArray} {es : List (ByteArray × ByteArray)} {O : List UInt8} (h : Acy B es O) {b : UInt8} (hb : b ∈ B.data.toList) : ∃ r, Topo (ebs es) (b :: r) ∧ r.length ≤ 7 := topo_at h.topo h.eight (h.all b hb)
theorem ebs_len (es : List (ByteArray × ByteArray)) : (ebs es).length = es.length := by simp [ebs]

/-- what is known of the blocks: the counts of those that are done, and that of the exit -/
def tabC (E : Eds) (t : UInt8) (l done : List UInt8) (i : Nat) : Nat := match l[i]? with
  | some c => if c ∈ done ∨ c = t then cntE E t c else 0
  | none => 0
theorem tabC_in {E : Eds} {t : UInt8} {l done : List UInt8} {i : Nat} {c : UInt8} (h : l[i]? = some c) (hc : c ∈ done ∨ c = t) : tabC E t l done i = cntE E t c := by
  unfold tabC; rw [h]; simp only; rw [if_pos hc]
theorem tabC_out {E : Eds} {t : UInt8} {l done : List UInt8} {i : Nat} {c : UInt8} (h : l[i]? = some c) (hc : c ∉ done) : tabC E t l done i = if c = t then 1 else 0 := by
  unfold tabC; rw [h]; simp only
  by_cases ht : c = t
  · subst ht; rw [if_pos (.inr rfl), if_pos rfl, cntE_at]
  · rw [if_neg (fun q => q.elim hc ht), if_neg ht]
theorem tabC_cons {E : Eds} {t : UInt8} {l r : List UInt8} {b : UInt8} {h : Nat} (hn : l.Nodup) (hb : l[h]? = some b) (i : Nat) : tabC E t l (b :: r) i = if i = h then cntE E t b else tabC E t l r i := by
  by_cases hi : i = h
  · subst hi; rw [if_pos rfl, tabC_in hb (.inl (by simp))]
  · rw [if_neg hi]
    unfold tabC
    cases hc : l[i]? with
    | none => rfl
    | some c =>
      have hne : c ≠ b := fun e => hi (by
        subst e
        have h1 : i < l.length := (List.getElem?_eq_some_iff.1 hc).1
        exact (List.getElem?_inj h1 hn).1 (hc.trans hb.symm))
      simp only [List.mem_cons, hne, false_or]

end Go.Proofs.Ytghdjmjodgbghaa
