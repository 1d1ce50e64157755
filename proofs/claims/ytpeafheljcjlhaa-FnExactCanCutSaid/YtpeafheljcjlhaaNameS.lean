/- Names of edges by the model. -/
import Derived.Test.YtpeafheljcjlhaaNet1
import Derived.Test.YtpeafheljcjlhaaTurn
namespace Go.Proofs.Ytpeafheljcjlhaa
open Go.RowKit

set_option maxRecDepth 100000 in
/-- spec.l1Name -/
theorem l1Name_any (k : Nat) (hk : k ≤ 100) (w : World) :
    Calls Try.prog 33 #[.int .i64 k] w fun e w' => e = .returned (.string ⟨#[nameOf k]⟩) ∧ Below w.heap.size w w' := by
  have hback : (convert 51 9 (.slice (some ⟨w.heap.size, 0, none⟩) 1 1)).run Try.prog (w.alloc (.cells #[.int .u8 (97 + (k : Int))] 5)) = .ok (.string ⟨#[nameOf k]⟩) (w.alloc (.cells #[.int .u8 (97 + (k : Int))] 5)) := by
    have h := run_convert_bytes_back (P := Try.prog) (w.alloc (.cells #[.int .u8 (97 + (k : Int))] 5)) 51 9 5 ⟨w.heap.size, 0, none⟩ 1 [nameOf k] Try.underlying51 Try.underlying5 Try.underlying9 (fun j hj => by
      have hj0 : j = 0 := by simpa using hj
      subst hj0
      have hu := nameOf_toNat hk
      simp [Addr.add, hu])
    simpa using h
  have hb : Below w.heap.size w (w.alloc (.cells #[.int .u8 (97 + (k : Int))] 5)) := (Below.refl _ _).alloc (Nat.le_refl _) _
  go_enter Try.func33, Try.ntmps33
  go_wp2_with fail
  go_ret
  exact ⟨rfl, hb⟩

end Go.Proofs.Ytpeafheljcjlhaa
