/- An edge's letters are no more than all. -/
import Derived.Test.YtcfcmlbbnpfejaaLaw
namespace Go.Proofs.Ytcfcmlbbnpfejaa

theorem letters_mem {es : List (ByteArray × ByteArray)} {e : ByteArray × ByteArray} (h : e ∈ es) : e.1.size + e.2.size ≤ letters es := by
  unfold letters
  induction es with
  | nil => cases h
  | cons a l ih =>
    simp only [List.map_cons, List.sum_cons]
    rcases List.mem_cons.1 h with rfl | h
    · omega
    · have := ih h; omega

end Go.Proofs.Ytcfcmlbbnpfejaa
