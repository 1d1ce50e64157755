/- Names of edges by the model. -/
import Derived.Test.YtpeafheljcjlhaaGreatNet1
import Derived.Test.YtpeafheljcjlhaaGreatTurn
namespace Go.Proofs.YtpeafheljcjlhaaGreat
open Go.RowKit

set_option maxRecDepth 100000 in
/-- spec.l1Name -/
theorem l1Name_any (k : Nat) (hk : k ≤ 100) (w : World) :
    Calls Tryz.prog 52 #[.int .i64 k] w fun e w' => e = .returned (.string ⟨#[nameOf k]⟩) ∧ Below w.heap.size w w' := by
  have hback : (convert 93 9 (.slice (some ⟨w.heap.size, 0, none⟩) 1 1)).run Tryz.prog (w.alloc (.cells #[.int .u8 (97 + (k : Int))] 5)) = .ok (.string ⟨#[nameOf k]⟩) (w.alloc (.cells #[.int .u8 (97 + (k : Int))] 5)) := by
    have h := run_convert_bytes_back (P := Tryz.prog) (w.alloc (.cells #[.int .u8 (97 + (k : Int))] 5)) 93 9 5 ⟨w.heap.size, 0, none⟩ 1 [nameOf k] Tryz.underlying93 Tryz.underlying5 Tryz.underlying9 (fun j hj => by
      have hj0 : j = 0 := by simpa using hj
      subst hj0
      have hu := nameOf_toNat hk
      simp [Addr.add, hu])
    simpa using h
  have hb : Below w.heap.size w (w.alloc (.cells #[.int .u8 (97 + (k : Int))] 5)) := (Below.refl _ _).alloc (Nat.le_refl _) _
  go_enter Tryz.func52, Tryz.ntmps52
  go_wp2_with fail
  go_ret
  exact ⟨rfl, hb⟩

end Go.Proofs.YtpeafheljcjlhaaGreat
