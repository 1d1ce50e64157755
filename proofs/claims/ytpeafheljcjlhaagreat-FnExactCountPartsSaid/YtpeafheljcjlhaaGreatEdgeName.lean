/- The name of an edge, by the program. -/
import Derived.Test.YtpeafheljcjlhaaGreatPaths
import Derived.Test.YtpeafheljcjlhaaGreatNet1
namespace Go.Proofs.YtpeafheljcjlhaaGreat
open Go.RowKit

theorem encode_name {k : Nat} (h : k ≤ 20) : Utf8.encode (97 + (k : Int)) = ⟨#[nameOf k]⟩ :=
  (by decide +kernel : ∀ k : Fin 21, Utf8.encode (97 + ((k : Nat) : Int)) = ⟨#[nameOf k]⟩) ⟨k, by omega⟩

set_option maxRecDepth 100000 in
/-- impl.edgeName -/
theorem edgeName_any (k : Nat) (hk : k ≤ 20) (w : World) :
    Calls Tryz.prog 95 #[.int .i64 k] w fun e w' => e = .returned (.string ⟨#[nameOf k]⟩) ∧ w = w' := by
  have HE := Lib.hid (encode_name hk)
  go_enter Tryz.func95, Tryz.ntmps95
  go_wp2_with fail
  go_ret
  exact ⟨by rw [← HE.out]; rfl, rfl⟩

end Go.Proofs.YtpeafheljcjlhaaGreat
