/- The name of an edge, by the program. -/
import Derived.Test.YtpeafheljcjlhaaPaths
import Derived.Test.YtpeafheljcjlhaaNet1
namespace Go.Proofs.Ytpeafheljcjlhaa
open Go.RowKit

theorem encode_name {k : Nat} (h : k ≤ 20) : Utf8.encode (97 + (k : Int)) = ⟨#[nameOf k]⟩ :=
  (by decide +kernel : ∀ k : Fin 21, Utf8.encode (97 + ((k : Nat) : Int)) = ⟨#[nameOf k]⟩) ⟨k, by omega⟩

set_option maxRecDepth 100000 in
/-- impl.edgeName -/
theorem edgeName_any (k : Nat) (hk : k ≤ 20) (w : World) :
    Calls Try.prog 26 #[.int .i64 k] w fun e w' => e = .returned (.string ⟨#[nameOf k]⟩) ∧ w = w' := by
  have HE := Lib.hid (encode_name hk)
  go_enter Try.func26, Try.ntmps26
  go_wp2_with fail
  go_ret
  exact ⟨by rw [← HE.out]; rfl, rfl⟩

end Go.Proofs.Ytpeafheljcjlhaa
