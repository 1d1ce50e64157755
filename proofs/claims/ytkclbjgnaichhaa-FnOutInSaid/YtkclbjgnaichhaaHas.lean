/- A letter in a text: laws.pcHas. -/
import Derived.Test.YtkclbjgnaichhaaEnds
import Derived.Test.YtkclbjgnaichhaaSpec1
namespace Go.Proofs.Ytkclbjgnaichhaa
open Go.RowKit

theorem letter_atH {p : ByteArray} {i : Nat} (h : i < p.size) : (p.extract i (i + 1)).data.toList = [p.data.toList.getD i 0] := by
  have hl : i < p.data.toList.length := by simpa using h
  rw [Lib.extract_data, show i + 1 - i = 1 by omega, List.drop_eq_getElem_cons hl]
  simp [List.getD, h]

set_option maxRecDepth 100000 in
set_option maxHeartbeats 1000000 in
/-- laws.pcHas, of one letter -/
theorem pcHas_one (s : ByteArray) (x : UInt8) (w : World) (hs : s.size ≤ 1000) (v : Bool) (hv : decide (x ∈ s.data.toList) = v) :
    Calls Try.prog 14 #[.string s, .string ⟨#[x]⟩] w fun e w' => e = .returned (.bool v) ∧ w = w' := by
  obtain ⟨ct, hct⟩ : ∃ ct : ByteArray, (⟨#[x]⟩ : ByteArray) = ct := ⟨_, rfl⟩
  rw [hct]
  have HCT := Lib.hid hct; have HV := Lib.hid hv
  clear hct hv
  go_enter Try.func14, Try.ntmps14
  go_wp2_with fail
  go_loop [8] (fun i => ∃ k : Nat, k ≤ s.size ∧ i = .int .i64 k ∧ ∀ j : Nat, j < k → s.data.toList[j]? ≠ some x) (fun i => s.size - (intOf i).toNat)
  case atStart => exact ⟨0, Nat.zero_le _, rfl, fun j h => absurd h (by omega)⟩
  case round =>
    obtain ⟨k, hk, rfl, hr⟩ := hrel
    by_cases hlt : k < s.size
    case neg =>
      have hks : k = s.size := by omega
      have HR : Hid (Ending.returned (.bool false) = .returned (.bool v)) := Lib.hid (by
        rw [← HV.out]
        have hn : x ∉ s.data.toList := fun h => by
          obtain ⟨j, hj, he⟩ := List.mem_iff_getElem.1 h
          have : s.data.toList.length = s.size := by simp
          exact hr j (by omega) (by rw [List.getElem?_eq_getElem hj, he])
        simp [hn])
      clear hks hr
      go_wp2_with fail
      go_ret
      exact ⟨HR.out, rfl⟩
    have hle := letter_atH (p := s) hlt
    obtain ⟨y, hy⟩ : ∃ y, s.data.toList.getD k 0 = y := ⟨_, rfl⟩
    rw [hy] at hle
    have hget : s.data.toList[k]? = some y := by
      have hl : k < s.data.toList.length := by simpa using hlt
      rw [← hy, List.getD_eq_getElem?_getD, List.getElem?_eq_getElem hl]; rfl
    obtain ⟨et, het⟩ : ∃ et, s.extract k (k + 1) = et := ⟨_, rfl⟩
    have HET : Hid (et = ⟨#[y]⟩) := Lib.hid (by rw [← het]; exact bytes_one hle)
    have a1 : (0 : Int) ≤ (k : Int) := by omega
    have a4 : (0 : Int) ≤ (k : Int) + 1 := by omega
    have a5 : ((k : Int) + 1).toNat = k + 1 := by omega
    have a6 : (k : Int) + 1 ≤ (s.size : Int) := by omega
    have a7 : k + 1 ≤ s.size := by omega
    have a8 : (k : Int) ≤ (k : Int) + 1 := by omega
    have a9 : IntKind.i64.wrap ((k : Int) + 1) = (k : Int) + 1 := IntWalk.i64_in _ (by omega)
    clear hle hy
    by_cases hxy : y = x
    · have hq : ct = et := by rw [HET.out, ← HCT.out, hxy]
      have HR : Hid (Ending.returned (.bool true) = .returned (.bool v)) := Lib.hid (by
        rw [← HV.out]
        have hn : x ∈ s.data.toList := by rw [← hxy]; exact List.mem_of_getElem? hget
        simp [hn])
      subst hq
      clear hr hget hxy
      go_wp2_with fail
      go_ret
      exact ⟨HR.out, rfl⟩
    · have hq : (et.toList == ct.toList) = false := by
        rw [HET.out, ← HCT.out]; simp [Lib.toList_data]; exact hxy
      have HNX : Hid (∀ j : Nat, j < k + 1 → s.data.toList[j]? ≠ some x) := Lib.hid fun j hj => by
        rcases Nat.lt_or_ge j k with h | h
        · exact hr j h
        · obtain rfl : j = k := by omega
          rw [hget]; intro h; injection h with h; exact hxy h
      clear hr hget hxy
      go_wp2_with fail
      go_round
      case rel => exact ⟨k + 1, by omega, by go_num, HNX.out⟩
      case measure => simp [intOf]; omega

end Go.Proofs.Ytkclbjgnaichhaa
