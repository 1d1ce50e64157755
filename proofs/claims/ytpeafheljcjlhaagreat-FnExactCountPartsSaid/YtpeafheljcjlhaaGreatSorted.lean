/- Blocks of a text in the order of a net: spec.l3Sorted. -/
import Derived.Test.YtpeafheljcjlhaaGreatKept
import Derived.Test.YtpeafheljcjlhaaGreatBase
namespace Go.Proofs.YtpeafheljcjlhaaGreat
open Go.RowKit

/-- a letter stands in a text -/
def inB (s : List UInt8) (c : UInt8) : Bool := decide (0 ≤ Lib.indexByte s c)
theorem inB_iff {s : List UInt8} {c : UInt8} : inB s c = true ↔ c ∈ s := by
  unfold inB; rw [decide_eq_true_iff]; exact indexByte_nonneg

set_option maxRecDepth 100000 in
set_option maxHeartbeats 2000000 in
/-- spec.l3Sorted -/
theorem l3Sorted_any (B : ByteArray) (A : Option Addr) (n cap : Nat) (s : ByteArray) (w : World) (hs : B.size ≤ maxLen) (hz : s.size ≤ 1099511627776) :
    Calls Tryz.prog 103 #[.agg #[.string B, .slice A n cap], .string s] w fun e w' => e = .returned (.string ⟨(B.data.toList.filter (inB s.data.toList)).toArray⟩) ∧ Below w.heap.size w w' := by
  have HLEN : Hid (B.data.toList.length = B.size) := Lib.hid (by simp)
  have HZ : Hid (s.size ≤ maxLen) := Lib.hid (by unfold maxLen; omega)
  have hb1 : Below w.heap.size w (w.alloc (.cells #[.string B, .slice A n cap] 31)) := (Below.refl _ _).alloc (Nat.le_refl _) _
  have t1 := Two.made w B A n cap 31
  clear hz
  unfold maxLen at hs
  go_enter Tryz.func103, Tryz.ntmps103
  go_wp2_with fail
  generalize hW1 : w.alloc (.cells #[.string B, .slice A n cap] 31) = w1 at hb1 t1 ⊢
  clear hW1
  have hd0 := t1.1
  clear t1
  go_wp2_with fail
  go_loopw [5, 10] (fun a c wr => ∃ (k : Nat) (o : ByteArray), k ≤ B.size ∧ c = .int .i64 k ∧ a = .string o ∧ o.data.toList = kept (inB s.data.toList) B.data.toList k ∧ Below w.heap.size w wr ∧ wr.cell? ⟨w.heap.size, 0, none⟩ = some (.string B)) (fun _ c _ => B.size - (intOf c).toNat)
  case atStart => exact ⟨0, ⟨#[]⟩, Nat.zero_le _, rfl, rfl, rfl, hb1, hd0⟩
  case round =>
    obtain ⟨k, o, hk, rfl, rfl, ho, hbw, hdw⟩ := hrel
    have HO := Lib.hid ho
    have hos : o.size ≤ k := by
      rw [str_size ho]
      exact Nat.le_trans (List.length_filter_le _ _) (by simp; omega)
    clear ho
    by_cases hlt : k < B.size
    case neg =>
      have hkn : k = B.size := by omega
      have HS : Hid (o = ⟨(B.data.toList.filter (inB s.data.toList)).toArray⟩) := Lib.hid (str_ext (by rw [HO.out, kept_all _ (by rw [HLEN.out]; omega)]))
      go_wp2_with fail
      go_ret
      exact ⟨by rw [HS.out]; rfl, hbw⟩
    obtain ⟨c, hc⟩ : ∃ c, B.data.toList.getD k 0 = c := ⟨_, rfl⟩
    have hkl : k < B.data.toList.length := by rw [HLEN.out]; exact hlt
    have hbk : B[k]'hlt = c := by
      rw [← hc, List.getD_eq_getElem?_getD, List.getElem?_eq_getElem hkl]; rfl
    have hkey := bytes_one (letter_at hlt)
    rw [hc] at hkey
    have HKEY := Lib.hid hkey; have HC := Lib.hid hc
    have hsz : ¬ 9223372036854775807 < o.size + (B.extract k (k + 1)).size := by
      rw [hkey]
      have : (⟨#[c]⟩ : ByteArray).size = 1 := rfl
      omega
    obtain ⟨v, hv⟩ : ∃ v, Lib.indexByte s.data.toList c = v := ⟨_, rfl⟩
    have HF : Hid (∀ W : World, Calls Tryz.prog 51 #[.string s, .int .u8 c.toNat] W fun e w' => e = .returned (.int .i64 v) ∧ W = w') := Lib.hid fun W => by
      rw [← hv]; exact find_any s c W HZ.out
    have HP : Hid (inB s.data.toList c = decide (0 ≤ v)) := Lib.hid (by rw [← hv]; rfl)
    clear hc hkey hv
    by_cases hp : 0 ≤ v
    case neg =>
      have HN : Hid (kept (inB s.data.toList) B.data.toList (k + 1) = kept (inB s.data.toList) B.data.toList k) := Lib.hid (kept_no hkl (by rw [HC.out, HP.out]; simpa using hp))
      clear hkl
      go_wp2_with (go_at_call 51; (try rw [hbk]); refine (HF.out _).mono ?_; rintro e w3 ⟨rfl, rfl⟩)
      go_roundw
      case rel => exact ⟨k + 1, o, by omega, by go_num, rfl, by rw [HN.out]; exact HO.out, hbw, hdw⟩
      case measure => simp [intOf]; omega
    case pos =>
      have HN : Hid (kept (inB s.data.toList) B.data.toList (k + 1) = kept (inB s.data.toList) B.data.toList k ++ [c]) := Lib.hid (by have := kept_yes hkl (p := inB s.data.toList) (by rw [HC.out, HP.out]; simpa using hp); rw [this, HC.out])
      clear hkl
      go_wp2_with (go_at_call 51; (try rw [hbk]); refine (HF.out _).mono ?_; rintro e w3 ⟨rfl, rfl⟩)
      go_roundw
      case rel => exact ⟨k + 1, _, by omega, by go_num, rfl, by rw [HN.out, HKEY.out]; exact str_snoc HO.out, hbw, hdw⟩
      case measure => simp [intOf]; omega

end Go.Proofs.YtpeafheljcjlhaaGreat
