/- A net without ways round, turned: its order the other way. -/
import Derived.Test.YtghdjmjodgbghaaCountC
import Derived.Test.YtghdjmjodgbghaaCountM
namespace Go.Proofs.Ytghdjmjodgbghaa
open Go.RowKit

/-- edges the other way -/
def turnE (es : List (ByteArray × ByteArray)) : List (ByteArray × ByteArray) := es.map fun e => (e.2, e.1)
theorem turnE_len (es : List (ByteArray × ByteArray)) : (turnE es).length = es.length := by simp [turnE]
theorem ebs_turnE (es : List (ByteArray × ByteArray)) : ebs (turnE es) = flip (ebs es) := by simp [ebs, turnE, flip, Function.comp_def]
theorem lets_turnE {l : List UInt8} {es : List (ByteArray × ByteArray)} (h : Lets l es) : Lets l (turnE es) := by
  intro e he
  obtain ⟨e', he', rfl⟩ := List.mem_map.1 he
  obtain ⟨x, y, h1, h2, h3, h4⟩ := h e' he'
  exact ⟨y, x, h2, h1, h4, h3⟩
theorem turnE_at {es : List (ByteArray × ByteArray)} {i : Nat} {x y : List UInt8} (h : (ebs es)[i]? = some (x, y)) : (ebs (turnE es))[i]? = some (y, x) := by
  rw [ebs_turnE]; simp [flip, h]

theorem topo_flip {E : Eds} {O : List UInt8} (ht : Topo E O) (hn : O.Nodup) (hs : ∀ x y, ([x], [y]) ∈ E → x ∈ O) : ∀ (a r : List UInt8), O = a.reverse ++ r → Topo (flip E) a
  | [], _, _ => by simp [Topo]
  | z :: a, r, h => by
    have h1 : O = a.reverse ++ (z :: r) := by rw [h]; simp
    refine ⟨fun y hy => ?_, topo_flip ht hn hs a (z :: r) h1⟩
    have he : ([y], [z]) ∈ E := mem_flip.1 hy
    have hyO := hs y z he
    rw [h1] at hyO
    rcases List.mem_append.1 hyO with hy | hy
    · exact List.mem_reverse.1 hy
    · exfalso
      have htz : Topo E (z :: r) := Topo.drop (a := a.reverse) (by rw [← h1]; exact ht)
      have hnz : z ∉ r := by
        rw [h1] at hn
        exact (List.nodup_cons.1 (List.nodup_append.1 hn).2.1).1
      rcases List.mem_cons.1 hy with e | hy
      · subst e; exact topo_self _ _ _ (Nat.le_refl _) htz he
      · exact hnz (htz.2.closed _ hy _ he)

/-- nothing comes to the entry -/
theorem no_in {B : ByteArray} {es : List (ByteArray × ByteArray)} (hv : Valid B.data.toList (ebs es)) : ∀ y, ([y], [entry B.data.toList]) ∉ ebs es := fun y hy => by
  have h3 := (hv.1.2.2 _ hy).2.2.2
  simp only [bIdx] at h3
  have h2 := hv.1.1.1
  have hx : B.data.toList[0]? = some (entry B.data.toList) := by
    unfold entry
    match hB : B.data.toList, h2 with
    | a :: l, _ => rfl
  rw [indexByte_of_get hv.1.1.2.2.2 hx] at h3
  exact h3 rfl

theorem entry_rev' (l : List UInt8) : entry l.reverse = exit_ l := by
  unfold entry exit_
  rw [List.headD_eq_head?_getD, List.head?_reverse, List.getLastD_eq_getLast?]
theorem exit_rev' (l : List UInt8) : exit_ l.reverse = entry l := by
  unfold entry exit_
  rw [List.headD_eq_head?_getD, List.getLastD_eq_getLast?, List.getLast?_reverse]

/-- the order of the net that is turned -/
theorem Acy.flip_topo {B : ByteArray} {es : List (ByteArray × ByteArray)} {O : List UInt8} (h : Acy B es O) : Topo (ebs (turnE es)) O.reverse := by
  rw [ebs_turnE]
  refine topo_flip h.topo h.nd (fun x y hxy => h.all x ?_) O.reverse [] (by simp)
  simp only [ebs, List.mem_map, Prod.mk.injEq] at hxy
  obtain ⟨e, he, h1, _⟩ := hxy
  obtain ⟨x', y', hx', _, hxl, _⟩ := h.F.lets e he
  rw [hx'] at h1
  injection h1 with h1
  subst h1; exact hxl
theorem Acy.flip_at {B : ByteArray} {es : List (ByteArray × ByteArray)} {O : List UInt8} (h : Acy B es O) {b : UInt8} (hb : b ∈ B.data.toList) : ∃ r, Topo (ebs (turnE es)) (b :: r) ∧ r.length ≤ 7 :=
  topo_at h.flip_topo (by simp; exact h.eight) (by simp; exact h.all b hb)
theorem lead_flip {B rb : ByteArray} {es : List (ByteArray × ByteArray)} {O : List UInt8} (h : Acy B es O) (hin : ∀ y, ([y], [entry B.data.toList]) ∉ ebs es) (hr : rb.data.toList = B.data.toList.reverse) : Lead rb (turnE es) O.reverse (exit_ B.data.toList) (entry B.data.toList) := by
  have hz : rb.size = B.size := by
    have h1 : rb.data.toList.length = rb.size := by simp
    have h2 : B.data.toList.length = B.size := by simp
    rw [← h1, hr, List.length_reverse, h2]
  have h1 : 1 ≤ rb.size := by have := h.F.one; omega
  have hf := one_byte (entry_bytes (B := rb) h1).1
  have hl := one_byte (exit_bytes (B := rb) h1).1
  rw [hr, entry_rev'] at hf
  rw [hr, exit_rev'] at hl
  refine ⟨by rw [turnE_len]; exact h.F.few, ?_, h.flip_topo, by simp; exact h.eight, by simp; exact h.all _ h.tin, h1, by rw [hz]; exact h.F.eight, hf, hl, fun y hy => ?_⟩
  · intro e he
    obtain ⟨x, y, q1, q2, q3, q4⟩ := lets_turnE h.F.lets e he
    rw [hr]
    exact ⟨x, y, q1, q2, by simpa using q3, by simpa using q4⟩
  · rw [ebs_turnE] at hy
    exact hin y (mem_flip.1 hy)

/-- how many runs have an edge -/
noncomputable def throughV (B : ByteArray) (es : List (ByteArray × ByteArray)) (b : ByteArray) : Int :=
  if acycV B es = true ∧ 0 ≤ eIdx es.length b.data.toList then
    ((cntE (ebs (turnE es)) (entry B.data.toList) (((ebs es).getD (eIdx es.length b.data.toList).toNat ([], [])).1.headD 0) * cntE (ebs es) (exit_ B.data.toList) (((ebs es).getD (eIdx es.length b.data.toList).toNat ([], [])).2.headD 0) : Nat) : Int)
  else -1

end Go.Proofs.Ytghdjmjodgbghaa
