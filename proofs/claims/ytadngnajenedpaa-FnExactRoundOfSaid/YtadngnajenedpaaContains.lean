/- Whether a text has a letter: strings.Contains. -/
import Derived.Test.YtadngnajenedpaaBase
import Derived.Lib.SmallJoins
namespace Go.Proofs.Ytadngnajenedpaa
open Go.RowKit

/-- strings.Contains, of one letter -/
theorem contains_any (s : ByteArray) (c : UInt8) (w : World) (_ : s.size ≤ maxLen) :
    Calls Try.prog 52 #[.string s, .string ⟨#[c]⟩] w fun e w' => e = .returned (.bool (decide (0 ≤ Lib.indexByte s.data.toList c))) ∧ w = w' := by
  have hc : ((c.toNat : Int).toNat).toUInt8 = c := by simp
  have hx : ∀ w, (callFunc 114 #[.string s, .int .u8 c.toNat]).run Try.prog w = .ok (.value (.int .i64 (Lib.indexByte s.data.toList c))) w := fun w => by
    rw [run_callFunc_extern Try.func114 (by kernel_rfl) (by kernel_rfl) (by kernel_rfl) (e := Extern.BytealgIndexByte.indexByte) (by kernel_rfl), Lib.run_indexByteString, hc]
    rfl
  obtain ⟨v, hv⟩ : ∃ v, Lib.indexByte s.data.toList c = v := ⟨_, rfl⟩
  have hv0 : ([c] == s.toList) = true → v = 0 := fun h => by
    have h' : [c] = s.data.toList := by rw [← Lib.toList_data]; simpa using h
    rw [← hv, ← h']
    simp [Lib.indexByte]
  have HV0 := Lib.hid hv0
  rw [hv] at hx ⊢
  clear hv hc hv0
  have hb : Calls Try.prog 106 #[.string s, .int .u8 c.toNat] w fun e w' => e = .returned (.int .i64 v) ∧ w = w' := by
    go_enter Try.func106, Try.ntmps106
    go_wp2
    go_ret
    exact ⟨rfl, rfl⟩
  have HB := Lib.hid hb
  clear hb hx
  have hi : Calls Try.prog 105 #[.string s, .string ⟨#[c]⟩] w fun e w' => e = .returned (.int .i64 v) ∧ w = w' := by
    have h1 : (⟨#[c]⟩ : ByteArray).size = 1 := rfl
    obtain ⟨q, hq⟩ : ∃ q, ([c] == s.toList) = q := ⟨_, rfl⟩
    cases q with
    | true =>
      have e0 := HV0.out hq
      subst e0
      go_enter Try.func105, Try.ntmps105
      go_wp2_with fail
      go_ret
      exact ⟨rfl, rfl⟩
    | false =>
      go_enter Try.func105, Try.ntmps105
      go_wp2_with fail
      refine HB.out.mono ?_
      rintro e w' ⟨rfl, rfl⟩
      go_wp2_with fail
      go_ret
      exact ⟨rfl, rfl⟩
  have HI := Lib.hid hi
  clear hi
  have hj : Calls Try.prog 90 #[.string s, .string ⟨#[c]⟩] w fun e w' => e = .returned (.int .i64 v) ∧ w = w' := by
    go_enter Try.func90, Try.ntmps90
    go_wp2_with fail
    refine HI.out.mono ?_
    rintro e w' ⟨rfl, rfl⟩
    go_wp2_with fail
    go_ret
    exact ⟨rfl, rfl⟩
  have HJ := Lib.hid hj
  clear hj
  go_enter Try.func52, Try.ntmps52
  go_wp2_with fail
  refine HJ.out.mono ?_
  rintro e w' ⟨rfl, rfl⟩
  go_wp2_with fail
  go_ret
  exact ⟨rfl, rfl⟩

end Go.Proofs.Ytadngnajenedpaa
