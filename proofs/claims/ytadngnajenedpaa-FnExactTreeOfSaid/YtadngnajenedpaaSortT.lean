/- Names of edges that are in a text, by the model: spec.l5Sorted. -/
import Derived.Test.YtadngnajenedpaaNameL
import Derived.Test.YtadngnajenedpaaPart
namespace Go.Proofs.Ytadngnajenedpaa
open Go.RowKit

/-- the name of an edge are in a text -/
def hasB (t : List UInt8) (k : Nat) : Bool := decide (0 ≤ Lib.indexByte t (nameOf k))

set_option maxRecDepth 100000 in
set_option maxHeartbeats 2000000 in
/-- spec.l5Sorted -/
theorem l5Sorted_any (B : ByteArray) (A : Option Addr) (n cap : Nat) (t : ByteArray) (w : World) (hn : n ≤ 16) (hz : t.size ≤ 1099511627776) :
    Calls Try.prog 83 #[.agg #[.string B, .slice A n cap], .string t] w fun e w' => e = .returned (.string ⟨(names (hasB t.data.toList) n).toArray⟩) ∧ Below w.heap.size w w' := by
  have HZ : Hid (t.size ≤ maxLen) := Lib.hid (by unfold maxLen; omega)
  have hb1 : Below w.heap.size w (w.alloc (.cells #[.string B, .slice A n cap] 30)) := (Below.refl _ _).alloc (Nat.le_refl _) _
  obtain ⟨o, ho⟩ : ∃ o : ByteArray, (⟨(names (fun _ => true) n).toArray⟩ : ByteArray) = o := ⟨_, rfl⟩
  have hod : o.data.toList = (List.range n).map nameOf := by
    rw [← ho]
    show names (fun _ => true) n = _
    unfold names
    rw [List.filter_eq_self.2 (by simp)]
  have hos : o.size = n := by rw [str_size hod]; simp
  have FN : Hid (∀ W : World, Calls Try.prog 82 #[.agg #[.string B, .slice A n cap]] W fun e w' => e = .returned (.string o) ∧ Below W.heap.size W w') := Lib.hid fun W => by
    rw [← ho]; exact l1Names_any B A n cap W (by omega)
  have HOD := Lib.hid hod; have HOS := Lib.hid hos
  clear hz ho hod hos
  go_enter Try.func83, Try.ntmps83
  go_wp2_with fail
  refine (FN.out _).mono ?_
  rintro e w2 ⟨rfl, hb2⟩
  have hb2' := hb1.trans (hb2.mono hb1.size)
  clear hb1 hb2 FN
  go_wp2_with fail
  have hos' := HOS.out
  go_loopw [5, 12] (fun a c wr => ∃ (k : Nat) (s : ByteArray), k ≤ o.size ∧ c = .int .i64 k ∧ a = .string s ∧ s.data.toList = names (hasB t.data.toList) k ∧ Below w.heap.size w wr) (fun _ c _ => o.size - (intOf c).toNat)
  case atStart => exact ⟨0, ⟨#[]⟩, Nat.zero_le _, rfl, rfl, rfl, hb2'⟩
  case round =>
    obtain ⟨k, s, hk, rfl, rfl, hs, hb⟩ := hrel
    have HS := Lib.hid hs
    have hsz0 : s.size ≤ k := by rw [str_size hs]; exact names_length _ _
    have hon := HOS.out
    have hk16 : k ≤ 16 := by omega
    clear hs hb2' hos'
    by_cases hlt : k < o.size
    case neg =>
      have hkn : k = n := by omega
      have HE : Hid (s = ⟨(names (hasB t.data.toList) n).toArray⟩) := Lib.hid (str_ext (by rw [HS.out, hkn]))
      clear hkn hon
      go_wp2_with fail
      go_ret
      exact ⟨by rw [HE.out]; rfl, hb⟩
    obtain ⟨c, hc⟩ : ∃ c, nameOf k = c := ⟨_, rfl⟩
    have hkl : k < o.data.toList.length := by simpa using hlt
    have hgk : o.data.toList[k]? = some c := by
      have hkn : k < n := by omega
      rw [HOD.out, ← hc, List.getElem?_map, List.getElem?_range hkn]; rfl
    have hbk : o[k]'hlt = c := by
      have h : o.data.toList[k]? = some o[k] := List.getElem?_eq_getElem hkl
      rw [hgk] at h
      injection h with h
      exact h.symm
    have hkey := bytes_one (letter_at hlt)
    rw [List.getD_eq_getElem?_getD, hgk] at hkey
    simp only [Option.getD_some] at hkey
    have hsz : ¬ 9223372036854775807 < s.size + (o.extract k (k + 1)).size := by
      rw [hkey]
      have : (⟨#[c]⟩ : ByteArray).size = 1 := rfl
      omega
    have HKEY := Lib.hid hkey
    obtain ⟨v, hv⟩ : ∃ v, Lib.indexByte t.data.toList c = v := ⟨_, rfl⟩
    have HF : Hid (∀ W : World, Calls Try.prog 60 #[.string t, .int .u8 c.toNat] W fun e w' => e = .returned (.int .i64 v) ∧ W = w') := Lib.hid fun W => by
      rw [← hv]; exact find_any t c W HZ.out
    have HP : Hid (hasB t.data.toList k = decide (0 ≤ v)) := Lib.hid (by rw [← hv, ← hc]; rfl)
    have HC := Lib.hid hc
    clear hc hkey hv hgk hkl hon
    by_cases hp : 0 ≤ v
    case neg =>
      have HNX : Hid (names (hasB t.data.toList) (k + 1) = names (hasB t.data.toList) k) := Lib.hid (names_no (by rw [HP.out]; simpa using hp))
      go_wp2_with (go_at_call 60; (try rw [hbk]); refine (HF.out _).mono ?_; rintro e w3 ⟨rfl, rfl⟩)
      go_roundw
      case rel => exact ⟨k + 1, s, by omega, by go_num, rfl, by rw [HNX.out]; exact HS.out, hb⟩
      case measure => simp [intOf]; omega
    case pos =>
      have HNX : Hid (names (hasB t.data.toList) (k + 1) = names (hasB t.data.toList) k ++ [c]) := Lib.hid (by rw [names_yes (by rw [HP.out]; simpa using hp), HC.out])
      go_wp2_with (go_at_call 60; (try rw [hbk]); refine (HF.out _).mono ?_; rintro e w3 ⟨rfl, rfl⟩)
      go_roundw
      case rel => exact ⟨k + 1, _, by omega, by go_num, rfl, by rw [HNX.out, HKEY.out]; exact str_snoc HS.out, hb⟩
      case measure => simp [intOf]; omega

end Go.Proofs.Ytadngnajenedpaa
