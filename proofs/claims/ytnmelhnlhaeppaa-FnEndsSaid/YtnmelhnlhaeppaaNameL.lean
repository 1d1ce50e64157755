/- Lists of names by the model. -/
import Derived.Test.YtnmelhnlhaeppaaNameS
namespace Go.Proofs.Ytnmelhnlhaeppaa
open Go.RowKit

set_option maxRecDepth 100000 in
set_option maxHeartbeats 1000000 in
/-- spec.l1Names -/
theorem l1Names_any (B : ByteArray) (A : Option Addr) (n cap : Nat) (w : World) (hn : n ≤ 100) :
    Calls Try.prog 45 #[.agg #[.string B, .slice A n cap]] w fun e w' => e = .returned (.string ⟨(names (fun _ => true) n).toArray⟩) ∧ Below w.heap.size w w' := by
  have hb1 : Below w.heap.size w (w.alloc (.cells #[.string B, .slice A n cap] 25)) := (Below.refl _ _).alloc (Nat.le_refl _) _
  go_enter Try.func45, Try.ntmps45
  go_wp2_with fail
  generalize hW1 : w.alloc (.cells #[.string B, .slice A n cap] 25) = w1 at hb1 ⊢
  clear hW1
  go_loopw [3, 8] (fun out i wr => ∃ (k : Nat) (s : ByteArray), k ≤ n ∧ i = .int .i64 k ∧ out = .string s ∧ s.data.toList = names (fun _ => true) k ∧ Below w.heap.size w wr) (fun _ i _ => n - (intOf i).toNat)
  case atStart => exact ⟨0, ⟨#[]⟩, Nat.zero_le _, rfl, rfl, rfl, hb1⟩
  case round =>
    obtain ⟨k, s, hkn, rfl, rfl, hs, hb⟩ := hrel
    have hz := str_size hs
    have hz2 := names_length (fun _ => true) k
    have HS := Lib.hid hs
    clear hs
    by_cases hkl : k < n
    · have hsz : ¬ 9223372036854775807 < s.size + (⟨#[nameOf k]⟩ : ByteArray).size := by
        have : (⟨#[nameOf k]⟩ : ByteArray).size = 1 := rfl
        omega
      clear hz hz2
      go_wp2_with (go_at_call 58; refine (l1Name_any k (by omega) _).mono ?_; rintro e w3 ⟨rfl, hb3⟩)
      go_roundw
      case rel => exact ⟨k + 1, _, by omega, by go_num, rfl, by rw [names_yes rfl]; exact str_snoc HS.out, hb.trans (hb3.mono hb.size)⟩
      case measure => simp [intOf]; omega
    · go_wp2_with fail
      go_ret
      have hkn' : k = n := by omega
      subst hkn'
      exact ⟨by rw [str_ext HS.out]; rfl, hb⟩

end Go.Proofs.Ytnmelhnlhaeppaa
