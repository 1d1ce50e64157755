/- Names of edges by the model. -/
import Derived.Test.YtghdjmjodgbghaaNet1
import Derived.Test.YtghdjmjodgbghaaTurn
namespace Go.Proofs.Ytghdjmjodgbghaa
open Go.RowKit

set_option maxRecDepth 100000 in
/-- spec.l1Name -/
theorem l1Name_any (k : Nat) (hk : k ≤ 100) (w : World) :
    Calls Try.prog 49 #[.int .i64 k] w fun e w' => e = .returned (.string ⟨#[nameOf k]⟩) ∧ Below w.heap.size w w' := by
  have hback : (convert 80 9 (.slice (some ⟨w.heap.size, 0, none⟩) 1 1)).run Try.prog (w.alloc (.cells #[.int .u8 (97 + (k : Int))] 5)) = .ok (.string ⟨#[nameOf k]⟩) (w.alloc (.cells #[.int .u8 (97 + (k : Int))] 5)) := by
    have h := run_convert_bytes_back (P := Try.prog) (w.alloc (.cells #[.int .u8 (97 + (k : Int))] 5)) 80 9 5 ⟨w.heap.size, 0, none⟩ 1 [nameOf k] Try.underlying80 Try.underlying5 Try.underlying9 (fun j hj => by
      have hj0 : j = 0 := by simpa using hj
      subst hj0
      have hu := nameOf_toNat hk
      simp [Addr.add, hu])
    simpa using h
  have hb : Below w.heap.size w (w.alloc (.cells #[.int .u8 (97 + (k : Int))] 5)) := (Below.refl _ _).alloc (Nat.le_refl _) _
  go_enter Try.func49, Try.ntmps49
  go_wp2_with fail
  go_ret
  exact ⟨rfl, hb⟩

theorem str_ext {s : ByteArray} {l : List UInt8} (h : s.data.toList = l) : s = ⟨l.toArray⟩ := by
  subst h
  exact (Go.Joins.bytes_eta s).symm
theorem str_snoc {s : ByteArray} {l : List UInt8} {c : UInt8} (h : s.data.toList = l) : (s ++ ⟨#[c]⟩).data.toList = l ++ [c] := by
  rw [Go.Joins.data_append, h]
theorem str_size {s : ByteArray} {l : List UInt8} (h : s.data.toList = l) : s.size = l.length := by
  rw [← h]; simp

/-- a text, if there is one -/
noncomputable def textV (ok : Prop) (l : List UInt8) : ByteArray × Bool := open Classical in if ok then (⟨l.toArray⟩, true) else (⟨#[]⟩, false)
theorem textV_yes {ok : Prop} {l : List UInt8} (h : ok) : textV ok l = (⟨l.toArray⟩, true) := if_pos h
theorem textV_no {ok : Prop} {l : List UInt8} (h : ¬ ok) : textV ok l = (⟨#[]⟩, false) := if_neg h

/-- what is handed back: a text, and whether there is one -/
def TextPost (q : ByteArray × Bool) (w : World) (e : Ending) (w' : World) : Prop := e = .returned (.tuple #[.string q.1, .bool q.2]) ∧ Below w.heap.size w w'

end Go.Proofs.Ytghdjmjodgbghaa
