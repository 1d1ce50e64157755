/- strings.Index and strings.ContainsAny of letters. -/
import Derived.Test.YtpeafheljcjlhaaGreatBase
import Derived.Test.YtpeafheljcjlhaaGreatSpec2
namespace Go.Proofs.YtpeafheljcjlhaaGreat
open Go.RowKit

set_option maxRecDepth 100000 in
/-- strings.Index, of one letter -/
theorem index_any (s : ByteArray) (c : UInt8) (w : World) (_ : s.size ≤ maxLen) :
    Calls Tryz.prog 94 #[.string s, .string ⟨#[c]⟩] w fun e w' => e = .returned (.int .i64 (Lib.indexByte s.data.toList c)) ∧ w = w' := by
  have hc : ((c.toNat : Int).toNat).toUInt8 = c := by simp
  have hx : ∀ w, (callFunc 143 #[.string s, .int .u8 c.toNat]).run Tryz.prog w = .ok (.value (.int .i64 (Lib.indexByte s.data.toList c))) w := fun w => by
    rw [run_callFunc_extern Tryz.func143 (by kernel_rfl) (by kernel_rfl) (by kernel_rfl) (e := Extern.BytealgIndexByte.indexByte) (by kernel_rfl), Lib.run_indexByteString, hc]
    rfl
  obtain ⟨v, hv⟩ : ∃ v, Lib.indexByte s.data.toList c = v := ⟨_, rfl⟩
  have hv0 : ([c] == s.toList) = true → v = 0 := fun h => by
    have h' : [c] = s.data.toList := by rw [← Lib.toList_data]; simpa using h
    rw [← hv, ← h']
    simp [Lib.indexByte]
  have HV0 := Lib.hid hv0
  rw [hv] at hx ⊢
  clear hv hc hv0
  have hb : Calls Tryz.prog 132 #[.string s, .int .u8 c.toNat] w fun e w' => e = .returned (.int .i64 v) ∧ w = w' := by
    go_enter Tryz.func132, Tryz.ntmps132
    go_wp2
    go_ret
    exact ⟨rfl, rfl⟩
  have HB := Lib.hid hb
  clear hb hx
  have hi : Calls Tryz.prog 121 #[.string s, .string ⟨#[c]⟩] w fun e w' => e = .returned (.int .i64 v) ∧ w = w' := by
    have h1 : (⟨#[c]⟩ : ByteArray).size = 1 := rfl
    obtain ⟨q, hq⟩ : ∃ q, ([c] == s.toList) = q := ⟨_, rfl⟩
    cases q with
    | true =>
      have e0 := HV0.out hq
      subst e0
      go_enter Tryz.func121, Tryz.ntmps121
      go_wp2_with fail
      go_ret
      exact ⟨rfl, rfl⟩
    | false =>
      go_enter Tryz.func121, Tryz.ntmps121
      go_wp2_with fail
      refine HB.out.mono ?_
      rintro e w' ⟨rfl, rfl⟩
      go_wp2_with fail
      go_ret
      exact ⟨rfl, rfl⟩
  have HI := Lib.hid hi
  clear hi
  go_enter Tryz.func94, Tryz.ntmps94
  go_wp2_with fail
  refine HI.out.mono ?_
  rintro e w' ⟨rfl, rfl⟩
  go_wp2_with fail
  go_ret
  exact ⟨rfl, rfl⟩

end Go.Proofs.YtpeafheljcjlhaaGreat
