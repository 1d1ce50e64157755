/- Out and In of the blocks of a net: pure. -/
import Derived.Test.YtkclbjgnaichhaaDeg
import Derived.Test.YtkclbjgnaichhaaOutL
import Derived.Test.YtkclbjgnaichhaaInL
namespace Go.Proofs.Ytkclbjgnaichhaa

def ltr1 (es : List (ByteArray × ByteArray)) (k : Nat) : UInt8 := (es.getD k (⟨#[]⟩, ⟨#[]⟩)).1.data.toList.headD 0
def ltr2 (es : List (ByteArray × ByteArray)) (k : Nat) : UInt8 := (es.getD k (⟨#[]⟩, ⟨#[]⟩)).2.data.toList.headD 0

theorem ltrs {l : List UInt8} {es : List (ByteArray × ByteArray)} (hv : Valid l (ebs es)) {k : Nat} (hk : k < es.length) :
    es[k].1 = ⟨#[ltr1 es k]⟩ ∧ es[k].2 = ⟨#[ltr2 es k]⟩ ∧ ltr1 es k ∈ l ∧ ltr2 es k ∈ l ∧ (ebs es)[k]? = some ([ltr1 es k], [ltr2 es k]) := by
  obtain ⟨x, y, hx, hy, hxl, hyl⟩ := lets_of hv.1.2 es[k] (List.getElem_mem hk)
  have e : es.getD k (⟨#[]⟩, ⟨#[]⟩) = es[k] := by rw [List.getD_eq_getElem?_getD, List.getElem?_eq_getElem hk]; rfl
  have e1 : ltr1 es k = x := by unfold ltr1; rw [e, hx]; rfl
  have e2 : ltr2 es k = y := by unfold ltr2; rw [e, hy]; rfl
  rw [e1, e2]
  exact ⟨bytes_one hx, bytes_one hy, hxl, hyl, by simp only [ebs, List.getElem?_map, List.getElem?_eq_getElem hk, Option.map_some, hx, hy]⟩

theorem one_same (x c : UInt8) : ((⟨#[x]⟩ : ByteArray).toList == (⟨#[c]⟩ : ByteArray).toList) = (x == c) := by
  rw [Lib.toList_data, Lib.toList_data]
  by_cases h : x = c
  · subst h; simp
  · have h1 : (x == c) = false := by simpa using h
    rw [h1, beq_eq_false_iff_ne]
    intro e
    simp at e
    exact h e

theorem outB_ltr {l : List UInt8} {es : List (ByteArray × ByteArray)} (hv : Valid l (ebs es)) (c : UInt8) {k : Nat} (hk : k < es.length) : outB es ⟨#[c]⟩ k = (ltr1 es k == c) := by
  rw [outB_at hk, (ltrs hv hk).1, one_same]
theorem intoB_ltr {l : List UInt8} {es : List (ByteArray × ByteArray)} (hv : Valid l (ebs es)) (c : UInt8) {k : Nat} (hk : k < es.length) : intoB es ⟨#[c]⟩ k = (ltr2 es k == c) := by
  rw [intoB_at hk, (ltrs hv hk).2.1, one_same]
theorem out_names {l : List UInt8} {es : List (ByteArray × ByteArray)} (hv : Valid l (ebs es)) (c : UInt8) : names (outB es ⟨#[c]⟩) es.length = names (fun k => ltr1 es k == c) es.length := names_same fun _ hk => outB_ltr hv c hk
theorem into_names {l : List UInt8} {es : List (ByteArray × ByteArray)} (hv : Valid l (ebs es)) (c : UInt8) : names (intoB es ⟨#[c]⟩) es.length = names (fun k => ltr2 es k == c) es.length := names_same fun _ hk => intoB_ltr hv c hk

theorem out_nil {l : List UInt8} {es : List (ByteArray × ByteArray)} (hv : Valid l (ebs es)) {c : UInt8} (hc : c ∈ l) : names (outB es ⟨#[c]⟩) es.length = [] ↔ c = exit_ l := by
  rw [out_names hv, names_nil, ← leave_none hv hc]
  constructor
  · intro h y hy
    obtain ⟨k, hk, he⟩ := List.mem_iff_getElem.1 hy
    have hk' : k < es.length := by simpa [ebs] using hk
    have h5 := (ltrs hv hk').2.2.2.2
    rw [List.getElem?_eq_getElem hk, he] at h5
    injection h5 with h5
    injection h5 with h5 _
    injection h5 with h5
    have := h k hk'
    rw [← h5] at this
    simp at this
  · intro h k hk
    rw [beq_eq_false_iff_ne]
    rintro e
    have h5 := (ltrs hv hk).2.2.2.2
    rw [e] at h5
    exact h _ (List.mem_of_getElem? h5)
theorem into_nil {l : List UInt8} {es : List (ByteArray × ByteArray)} (hv : Valid l (ebs es)) {c : UInt8} (hc : c ∈ l) : names (intoB es ⟨#[c]⟩) es.length = [] ↔ c = entry l := by
  rw [into_names hv, names_nil, ← come_none hv hc]
  constructor
  · intro h x hx
    obtain ⟨k, hk, he⟩ := List.mem_iff_getElem.1 hx
    have hk' : k < es.length := by simpa [ebs] using hk
    have h5 := (ltrs hv hk').2.2.2.2
    rw [List.getElem?_eq_getElem hk, he] at h5
    injection h5 with h5
    injection h5 with _ h5
    injection h5 with h5
    have := h k hk'
    rw [← h5] at this
    simp at this
  · intro h k hk
    rw [beq_eq_false_iff_ne]
    rintro e
    have h5 := (ltrs hv hk).2.2.2.2
    rw [e] at h5
    exact h _ (List.mem_of_getElem? h5)

/-- the edges that leave the blocks, all told -/
theorem outs_all {l : List UInt8} {es : List (ByteArray × ByteArray)} (hv : Valid l (ebs es)) : degTo (ltr1 es) es.length l l.length = es.length := degTo_all hv.1.1.2.2.2 fun _ hk => (ltrs hv hk).2.2.1
theorem ins_all {l : List UInt8} {es : List (ByteArray × ByteArray)} (hv : Valid l (ebs es)) : degTo (ltr2 es) es.length l l.length = es.length := degTo_all hv.1.1.2.2.2 fun _ hk => (ltrs hv hk).2.2.2.1

end Go.Proofs.Ytkclbjgnaichhaa
