/- The place of an edge, by the model. -/
import Derived.Test.YtpeafheljcjlhaaGreatValid
import Derived.Test.YtpeafheljcjlhaaGreatSpec2
import Derived.RegionCalls
namespace Go.Proofs.YtpeafheljcjlhaaGreat
open Go.RowKit

/-- the place of an edge among so many -/
def eIdx (n : Nat) (b : List UInt8) : Int := match b with
  | [c] => if 97 ≤ c.toNat ∧ c.toNat < 97 + n then (c.toNat : Int) - 97 else -1
  | _ => -1

theorem eIdx_some {n : Nat} {b : List UInt8} (h : 0 ≤ eIdx n b) : ∃ k : Nat, k < n ∧ eIdx n b = k := by
  unfold eIdx at h ⊢
  split at h
  · split at h
    · rename_i c hc; rw [if_pos hc]; exact ⟨c.toNat - 97, by omega, by omega⟩
    · omega
  · omega
theorem eIdx_neg {n : Nat} {b : List UInt8} (h : ¬ 0 ≤ eIdx n b) : eIdx n b = -1 := by
  unfold eIdx at h ⊢
  split at h
  · split at h
    · rename_i c hc; omega
    · rename_i c hc; rw [if_neg hc]
  · rfl

theorem data_one {b : ByteArray} (h : b.size = 1) : b.data.toList = [b[0]] := by
  obtain ⟨⟨l⟩⟩ := b
  match l, h with
  | [c], _ => rfl
theorem data_not_one {b : ByteArray} (h : ¬ b.size = 1) (n : Nat) : eIdx n b.data.toList = -1 := by
  obtain ⟨⟨l⟩⟩ := b
  match l, h with
  | [], _ => rfl
  | [c], h => exact absurd rfl h
  | _ :: _ :: _, _ => rfl

set_option maxRecDepth 100000 in
set_option maxHeartbeats 1000000 in
/-- spec.l1Index -/
theorem l1Index_any (bl : Value) (A : Option Addr) (n cap : Nat) (b : ByteArray) (w : World) (hn : n ≤ 1099511627776) :
    Calls Tryz.prog 87 #[.agg #[bl, .slice A n cap], .string b] w fun e w' => e = .returned (.int .i64 (eIdx n b.data.toList)) ∧ Below w.heap.size w w' := by
  by_cases h : b.size = 1
  case neg =>
    have h1 : ((b.size : Int) != 1) = true := by simp; omega
    have HE := Lib.hid (data_not_one h n)
    clear h
    go_enter Tryz.func87, Tryz.ntmps87
    go_wp2
    go_quiet (fail)
    go_wp2
    go_ret
    exact ⟨by rw [HE.out]; rfl, below_drewN ((Below.refl _ _).alloc (Nat.le_refl _) _) _⟩
  have h1 : ((b.size : Int) != 1) = false := by simp [h]
  have h2 : 0 < b.size := by omega
  have hu : (b[0].toNat : Int) < 256 := by have := b[0].toNat_lt; omega
  have hd : eIdx n b.data.toList = if 97 ≤ b[0].toNat ∧ b[0].toNat < 97 + n then (b[0].toNat : Int) - 97 else -1 := by rw [data_one h]; rfl
  have HD := Lib.hid hd
  clear hd h
  by_cases hin : (97 : Int) ≤ (b[0].toNat : Int) ∧ (b[0].toNat : Int) ≤ 97 + n - 1
  case neg =>
    have HE : Hid (eIdx n b.data.toList = -1) := Lib.hid (by rw [HD.out, if_neg (by omega)])
    have HIN := Lib.hid hin; clear hin
    go_enter Tryz.func87, Tryz.ntmps87
    go_wp2
    go_quiet ((go_at_call 78; exact quiet_l (l1In_f _ _ _ _ HIN.out)))
    go_wp2
    go_ret
    exact ⟨by rw [HE.out]; rfl, below_drewN ((Below.refl _ _).alloc (Nat.le_refl _) _) _⟩
  have HE : Hid (eIdx n b.data.toList = (b[0].toNat : Int) - 97) := Lib.hid (by rw [HD.out, if_pos (by omega)])
  have h97 := hin.1
  have HIN := Lib.hid hin; clear hin
  go_enter Tryz.func87, Tryz.ntmps87
  go_wp2
  go_quiet ((go_at_call 78; exact quiet_l (l1In_t _ _ _ _ HIN.out)))
  go_wp2
  go_ret
  exact ⟨by rw [HE.out]; rfl, below_drewN ((Below.refl _ _).alloc (Nat.le_refl _) _) _⟩

end Go.Proofs.YtpeafheljcjlhaaGreat
