/- The edges of a block (Out), by the model: the list alone. -/
import Derived.Test.YtpeafheljcjlhaaGreatNameS
import Derived.Test.YtpeafheljcjlhaaGreatValid
import Derived.Test.YtpeafheljcjlhaaGreatSpec2
namespace Go.Proofs.YtpeafheljcjlhaaGreat
open Go.RowKit

/-- the edges of the block -/
def outB (es : List (ByteArray × ByteArray)) (b : ByteArray) (i : Nat) : Bool := (es.getD i (⟨#[]⟩, ⟨#[]⟩)).1.toList == b.toList
theorem outB_at {es : List (ByteArray × ByteArray)} {b : ByteArray} {k : Nat} (h : k < es.length) : outB es b k = (es[k].1.toList == b.toList) := by simp [outB, List.getD, h]

/-- their names, of a net that is one -/
noncomputable def outV (B : ByteArray) (es : List (ByteArray × ByteArray)) (b : ByteArray) : ByteArray × Bool := textV (Valid B.data.toList (ebs es) ∧ 0 ≤ bIdx B.data.toList b.data.toList) (names (outB es b) es.length)

set_option maxRecDepth 100000 in
set_option maxHeartbeats 2000000 in
/-- spec.l1Out -/
theorem outList_any (B : ByteArray) (A : Option Addr) (cap : Nat) (es : List (ByteArray × ByteArray)) (b : ByteArray) (w : World) (hE : EdgesIn w w.heap.size A es) (hn : es.length ≤ 100) :
    Calls Tryz.prog 104 #[.agg #[.string B, .slice A es.length cap], .string b] w fun e w' => e = .returned (.string ⟨(names (outB es b) es.length).toArray⟩) ∧ Below w.heap.size w w' := by
  have hb1 : Below w.heap.size w (w.alloc (.cells #[.string B, .slice A es.length cap] 31)) := (Below.refl _ _).alloc (Nat.le_refl _) _
  go_enter Tryz.func104, Tryz.ntmps104
  go_wp2_with fail
  generalize hW1 : w.alloc (.cells #[.string B, .slice A es.length cap] 31) = w1 at hb1 ⊢
  clear hW1
  go_loopw [5, 11] (fun out i wr => ∃ (k : Nat) (s : ByteArray), k ≤ es.length ∧ i = .int .i64 k ∧ out = .string s ∧ s.data.toList = names (outB es b) k ∧ Below w.heap.size w wr) (fun _ i _ => es.length - (intOf i).toNat)
  case atStart => exact ⟨0, ⟨#[]⟩, Nat.zero_le _, rfl, rfl, rfl, hb1⟩
  case round =>
    obtain ⟨k, s, hkn, rfl, rfl, hs, hb⟩ := hrel
    have hz := str_size hs
    have hz2 := names_length (outB es b) k
    have HS := Lib.hid hs
    clear hs
    by_cases hkl : k < es.length
    · have hsz : ¬ 9223372036854775807 < s.size + (⟨#[nameOf k]⟩ : ByteArray).size := by
        have : (⟨#[nameOf k]⟩ : ByteArray).size = 1 := rfl
        omega
      clear hz hz2
      obtain ⟨eb, eo, rfl, hlow, h1, h2⟩ := (hE.below hb) k hkl
      have hbn : Below w.heap.size w (wr.alloc (.cells #[.string es[k].1, .string es[k].2] 70)) := hb.alloc hb.size _
      have hp := outB_at (b := b) hkl
      cases ht : (es[k].1.toList == b.toList) with
      | false =>
        have HP : Hid (names (outB es b) (k + 1) = names (outB es b) k) := Lib.hid (names_no (hp.trans ht))
        clear hp
        go_wp2_with fail
        go_roundw
        case rel => exact ⟨k + 1, s, by omega, by go_num, rfl, by rw [HP.out]; exact HS.out, hbn⟩
        case measure => simp [intOf]; omega
      | true =>
        have HP : Hid (names (outB es b) (k + 1) = names (outB es b) k ++ [nameOf k]) := Lib.hid (names_yes (hp.trans ht))
        clear hp
        go_wp2_with (go_at_call 52; refine (l1Name_any k (by omega) _).mono ?_; rintro e w3 ⟨rfl, hb3⟩)
        go_roundw
        case rel => exact ⟨k + 1, _, by omega, by go_num, rfl, by rw [HP.out]; exact str_snoc HS.out, hbn.trans (hb3.mono hbn.size)⟩
        case measure => simp [intOf]; omega
    · go_wp2_with fail
      go_ret
      have hkn' : k = es.length := by omega
      subst hkn'
      exact ⟨by rw [str_ext HS.out]; rfl, hb⟩

end Go.Proofs.YtpeafheljcjlhaaGreat
