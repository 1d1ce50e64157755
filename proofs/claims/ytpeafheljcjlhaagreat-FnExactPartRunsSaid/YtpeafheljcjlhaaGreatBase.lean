/- Leaf contracts: bytes found in a text, by the program and by the model. -/
import Derived.Test.YtpeafheljcjlhaaGreatProg
import Derived.WalkKit
import Derived.WalkSpells
import Derived.WalkLawsBesides
import Derived.Lib.Bytealg
import Derived.Lib.Hide
import Derived.Lib.IndexLaws
namespace Go.Proofs.YtpeafheljcjlhaaGreat
open Go.RowKit

theorem ret_int {k : IntKind} {a b : Int} (h : a = b) : Ending.returned (.int k a) = .returned (.int k b) := by rw [h]
theorem ret_bool {a b : Bool} (h : a = b) : Ending.returned (.bool a) = .returned (.bool b) := by rw [h]

theorem find_at (l : List UInt8) (c : UInt8) : ∀ k : Nat, (hk : k < l.length) → l[k] = c → (∀ j : Nat, j < k → l[j]? ≠ some c) → Lib.indexByte l c = k := by
  induction l with
  | nil => intro k hk; simp at hk
  | cons b l ih =>
    intro k hk he hn
    cases k with
    | zero => simp at he; simp [Lib.indexByte, he]
    | succ k =>
      have h0 : b ≠ c := fun h => hn 0 (by omega) (by simp [h])
      have h1 := ih k (by simpa using hk) (by simpa using he) (fun j hj => by simpa using hn (j + 1) (by omega))
      have hb : (b == c) = false := by simpa using h0
      rw [Lib.indexByte, hb, h1]
      have : ((k : Int) == -1) = false := by rw [beq_eq_false_iff_ne]; omega
      simp [this]

theorem find_no (l : List UInt8) (c : UInt8) (h : ∀ j : Nat, j < l.length → l[j]? ≠ some c) : Lib.indexByte l c = -1 := by
  induction l with
  | nil => rfl
  | cons b l ih =>
    have h0 : b ≠ c := fun e => h 0 (by simp) (by simp [e])
    have hb : (b == c) = false := by simpa using h0
    have h1 := ih (fun j hj => by simpa using h (j + 1) (by simpa using hj))
    rw [Lib.indexByte, hb, h1]; rfl

/-- strings.IndexByte -/
theorem indexByte_any (s : ByteArray) (c : Int) (w : World) :
    Calls Tryz.prog 114 #[.string s, .int .u8 c] w fun e w' => e = .returned (.int .i64 (Lib.indexByte s.data.toList c.toNat.toUInt8)) ∧ w = w' := by
  have hx : ∀ w, (callFunc 143 #[.string s, .int .u8 c]).run Tryz.prog w = .ok (.value (.int .i64 (Lib.indexByte s.data.toList c.toNat.toUInt8))) w := fun w => by
    rw [run_callFunc_extern Tryz.func143 (by kernel_rfl) (by kernel_rfl) (by kernel_rfl) (e := Extern.BytealgIndexByte.indexByte) (by kernel_rfl), Lib.run_indexByteString]
    rfl
  go_enter Tryz.func114, Tryz.ntmps114
  go_wp2
  go_ret
  exact ⟨rfl, rfl⟩


/-- spec.l16Find -/
theorem find_any (s : ByteArray) (c : UInt8) (w : World) (hs : s.size ≤ maxLen) :
    Calls Tryz.prog 51 #[.string s, .int .u8 c.toNat] w fun e w' => e = .returned (.int .i64 (Lib.indexByte s.data.toList c)) ∧ w = w' := by
  unfold maxLen at hs
  go_enter Tryz.func51, Tryz.ntmps51
  go_wp2
  go_loop [5] (fun i => ∃ k : Nat, k ≤ s.size ∧ i = .int .i64 k ∧ ∀ j : Nat, j < k → s.data.toList[j]? ≠ some c) (fun i => s.size - (intOf i).toNat)
  case atStart => exact ⟨0, Nat.zero_le _, rfl, fun j h => absurd h (by omega)⟩
  case round =>
    obtain ⟨k, hk, rfl, hr⟩ := hrel
    by_cases hlt : k < s.size
    · by_cases hc : s[k] = c
      · have hb : ((↑(s[k].toNat) : Int) == ↑c.toNat) = true := by simp [hc]
        go_wp2
        go_ret
        exact ⟨ret_int (find_at s.data.toList c k (by simpa using hlt) hc hr).symm, rfl⟩
      · have hb : ((↑(s[k].toNat) : Int) == ↑c.toNat) = false := by
          rw [beq_eq_false_iff_ne]; intro h; exact hc (UInt8.toNat_inj.1 (by omega))
        go_wp2
        go_round
        case rel => exact ⟨k + 1, by omega, by go_num, fun j hj => by
          rcases Nat.lt_or_ge j k with h | h
          · exact hr j h
          · obtain rfl : j = k := by omega
            rw [List.getElem?_eq_getElem (by simpa using hlt)]; intro h; injection h with h; exact hc h⟩
        case measure => simp [intOf]; omega
    · obtain rfl : k = s.size := by omega
      go_wp2
      go_ret
      exact ⟨ret_int (find_no s.data.toList c hr).symm, rfl⟩

end Go.Proofs.YtpeafheljcjlhaaGreat
