/- A text cut at a sign, by the program: the library's text, walked. -/
import Derived.Test.YtghdjmjodgbghaaDoorNet1
import Derived.BigRegion
import Derived.BigQuiet
namespace Go.Proofs.YtghdjmjodgbghaaDoor
open Go.RowKit

set_option maxRecDepth 100000 in
/-- internal/stringslite.Index at one sign -/
theorem index_one (s : ByteArray) (c : UInt8) (w : World) :
    Calls Tryd.prog 33 #[.string s, .string ⟨#[c]⟩] w fun e w' => e = .returned (.int .i64 (Lib.indexByte s.data.toList c)) ∧ w = w' := by
  have hx : ∀ w, (callFunc 44 #[.string s, .int .u8 c.toNat]).run Tryd.prog w = .ok (.value (.int .i64 (Lib.indexByte s.data.toList c))) w := fun w => by
    rw [run_callFunc_extern Tryd.func44 (by kernel_rfl) (by kernel_rfl) (by kernel_rfl) (e := Extern.BytealgIndexByte.indexByte) (by kernel_rfl), Lib.run_indexByteString]
    simp
  by_cases hcs : [c] = s.toList
  · have hq : ([c] == s.toList) = true := by rw [← hcs]; simp
    have hv : Lib.indexByte s.data.toList c = 0 := by
      rw [ByteArray.toList_eq] at hcs
      rw [← hcs]; simp [Lib.indexByte]
    clear hcs
    go_enter Tryd.func33, Tryd.ntmps33
    go_wp2
    go_ret
    exact ⟨by rw [hv]; rfl, rfl⟩
  · have hq : ([c] == s.toList) = false := by rw [beq_eq_false_iff_ne]; exact hcs
    clear hcs
    have he : ∀ h, (⟨#[c]⟩ : ByteArray)[0]'h = c := fun _ => rfl
    go_enter Tryd.func33, Tryd.ntmps33
    go_wp2
    go_ret
    exact ⟨rfl, rfl⟩

/-- what is handed back: what lies ahead of the sign and behind it, or all of it -/
def cutV (s : ByteArray) (c : UInt8) : Value :=
  if 0 ≤ Lib.indexByte s.data.toList c then .tuple #[.string (s.extract 0 (Lib.indexByte s.data.toList c).toNat), .string (s.extract ((Lib.indexByte s.data.toList c).toNat + 1) s.size), .bool true]
  else .tuple #[.string s, .string ⟨#[]⟩, .bool false]

theorem index_lt (l : List UInt8) (c : UInt8) : ∀ k : Nat, Lib.indexByte l c = k → k < l.length := by
  induction l with
  | nil => intro k h; simp [Lib.indexByte] at h
  | cons b l ih =>
    intro k h
    unfold Lib.indexByte at h
    split at h
    · simp; omega
    · split at h
      · omega
      · rename_i h2
        have hne : Lib.indexByte l c ≠ -1 := by simpa using h2
        have := ih (k - 1) (by omega)
        simp; omega

set_option maxRecDepth 100000 in
/-- internal/stringslite.Cut at one sign -/
theorem cutLite_one (s : ByteArray) (c : UInt8) (w : World) (hs : s.size ≤ 1048576) :
    Calls Tryd.prog 25 #[.string s, .string ⟨#[c]⟩] w fun e w' => e = .returned (cutV s c) ∧ Below w.heap.size w w' := by
  obtain ⟨i, hi⟩ : ∃ i, Lib.indexByte s.data.toList c = i := ⟨_, rfl⟩
  have hcv : cutV s c = if 0 ≤ i then .tuple #[.string (s.extract 0 i.toNat), .string (s.extract (i.toNat + 1) s.size), .bool true] else .tuple #[.string s, .string ⟨#[]⟩, .bool false] := by rw [cutV, hi]
  rw [hcv]
  have HI := Lib.hid hi
  by_cases h0 : 0 ≤ i
  · obtain ⟨k, rfl⟩ : ∃ k : Nat, i = k := ⟨i.toNat, by omega⟩
    have hlt : k < s.size := by have := index_lt _ _ k hi; simpa using this
    rw [if_pos h0]
    have a1 : (k : Int) ≤ (s.size : Int) := by omega
    obtain ⟨k1, hk1⟩ : ∃ k1, k1 = k + 1 := ⟨_, rfl⟩
    have a2 : IntKind.i64.wrap ((k : Int) + 1) = (k1 : Int) := by rw [IntWalk.i64_in _ (by omega)]; omega
    have a3 : (k1 : Int) ≤ (s.size : Int) := by omega
    have a4 : (0 : Int) ≤ (k1 : Int) := by omega
    have a5 : k ≤ s.size := by omega
    have a6 : k1 ≤ s.size := by omega
    have HK1 := Lib.hid hk1
    have h0' : (k : Int) ≥ 0 := by omega
    clear hi hcv hlt hk1
    go_enter Tryd.func25, Tryd.ntmps25
    go_wp2_with (go_at_call 33; refine (index_one _ _ _).mono ?_; rw [HI.out]; rintro e w' ⟨rfl, rfl⟩)
    go_quiet (fail)
    go_wp2
    refine bodyPost_ret (v := .tuple #[.string (s.extract 0 k), .string (s.extract k1 s.size), .bool true]) (by simp [results, Tryd.results25, go_sem]) rfl ?_
    exact ⟨by rw [HK1.out]; rfl, below_drewN (Below.refl _ _) _⟩
  · rw [if_neg h0]
    clear hi hcv
    go_enter Tryd.func25, Tryd.ntmps25
    go_wp2_with (go_at_call 33; refine (index_one _ _ _).mono ?_; rw [HI.out]; rintro e w' ⟨rfl, rfl⟩)
    refine bodyPost_ret (v := .tuple #[.string s, .string ⟨#[]⟩, .bool false]) (by simp [results, Tryd.results25, go_sem]) rfl ?_
    exact ⟨rfl, Below.refl _ _⟩

/-- strings.Cut at one sign -/
theorem cut_one (s : ByteArray) (c : UInt8) (w : World) (hs : s.size ≤ 1048576) :
    Calls Tryd.prog 16 #[.string s, .string ⟨#[c]⟩] w fun e w' => e = .returned (cutV s c) ∧ Below w.heap.size w w' := by
  obtain ⟨a, b, f, hv⟩ : ∃ a b f, cutV s c = .tuple #[.string a, .string b, .bool f] := by
    unfold cutV
    split
    · exact ⟨_, _, _, rfl⟩
    · exact ⟨_, _, _, rfl⟩
  have HV := Lib.hid hv
  rw [hv]
  clear hv
  go_enter Tryd.func16, Tryd.ntmps16
  go_wp2_with (go_at_call 25; refine (cutLite_one _ _ _ hs).mono ?_; rw [HV.out]; rintro e w' ⟨rfl, hbel⟩)
  refine bodyPost_ret (v := .tuple #[.string a, .string b, .bool f]) (by simp [results, Tryd.results16, go_sem]) rfl ?_
  exact ⟨rfl, hbel⟩

end Go.Proofs.YtghdjmjodgbghaaDoor
