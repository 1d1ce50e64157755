/- The text of a net: what it is. -/
import Derived.Test.YtkclbjgnaichhaaValid
import Derived.Test.YtkclbjgnaichhaaSpec2
namespace Go.Proofs.Ytkclbjgnaichhaa
open Go.RowKit

/-- the text of a net up to an edge -/
def fmt (B : ByteArray) (es : List (ByteArray × ByteArray)) (k : Nat) : List UInt8 := B.data.toList ++ [58] ++ (es.take k).flatMap fun e => [32] ++ e.1.data.toList ++ e.2.data.toList
theorem fmt_zero (B : ByteArray) (es : List (ByteArray × ByteArray)) : fmt B es 0 = B.data.toList ++ [58] := by simp [fmt]
theorem fmt_succ {B : ByteArray} {es : List (ByteArray × ByteArray)} {k : Nat} (h : k < es.length) : fmt B es (k + 1) = fmt B es k ++ [32] ++ es[k].1.data.toList ++ es[k].2.data.toList := by
  simp only [fmt, List.take_succ_eq_append_getElem h, List.flatMap_append, List.flatMap_cons, List.flatMap_nil, List.append_nil, List.append_assoc]
theorem fmt_all (B : ByteArray) (es : List (ByteArray × ByteArray)) {k : Nat} (h : k = es.length) : fmt B es k = fmt B es es.length := by rw [h]

/-- the text of a net that is one -/
noncomputable def fmtV (B : ByteArray) (es : List (ByteArray × ByteArray)) : ByteArray := open Classical in if Valid B.data.toList (ebs es) then ⟨(fmt B es es.length).toArray⟩ else ⟨#[]⟩
theorem fmtV_yes {B : ByteArray} {es : List (ByteArray × ByteArray)} (h : Valid B.data.toList (ebs es)) : fmtV B es = ⟨(fmt B es es.length).toArray⟩ := if_pos h
theorem fmtV_no {B : ByteArray} {es : List (ByteArray × ByteArray)} (h : ¬ Valid B.data.toList (ebs es)) : fmtV B es = ⟨#[]⟩ := if_neg h

theorem valid_ones {B : ByteArray} {es : List (ByteArray × ByteArray)} (h : Valid B.data.toList (ebs es)) {k : Nat} (hk : k < es.length) : es[k].1.size = 1 ∧ es[k].2.size = 1 := by
  have hm : (es[k].1.data.toList, es[k].2.data.toList) ∈ ebs es := List.mem_map.2 ⟨es[k], List.getElem_mem hk, rfl⟩
  obtain ⟨h1, h2, _, _⟩ := h.1.2.2 _ hm
  obtain ⟨c, e1, _⟩ := bIdx_some h1
  obtain ⟨d, e2, _⟩ := bIdx_some h2
  simp only at e1 e2
  exact ⟨str_size e1, str_size e2⟩

/-- what is handed back: a text -/
def OnePost (q : ByteArray) (w : World) (e : Ending) (w' : World) : Prop := e = .returned (.string q) ∧ Below w.heap.size w w'

end Go.Proofs.Ytkclbjgnaichhaa
