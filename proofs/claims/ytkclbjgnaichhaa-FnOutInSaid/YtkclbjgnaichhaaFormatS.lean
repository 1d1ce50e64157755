/- The text of a net, by the model. -/
import Derived.Test.YtkclbjgnaichhaaFmt
namespace Go.Proofs.Ytkclbjgnaichhaa
open Go.RowKit

set_option maxRecDepth 100000 in
set_option maxHeartbeats 2000000 in
/-- spec.FormatNet -/
theorem specFormatNet_any (B : ByteArray) (A : Option Addr) (cap : Nat) (es : List (ByteArray × ByteArray)) (w : World) (hs : B.size ≤ maxLen) (hE : EdgesIn w w.heap.size A es) (hl : es.length ≤ 1099511627776) (_hS : ∀ e ∈ es, e.1.size ≤ 1099511627776 ∧ e.2.size ≤ 1099511627776) :
    Calls Try.prog 78 #[.agg #[.string B, .slice A es.length cap]] w (OnePost (fmtV B es) w) := by
  have hl2 : es.length ≤ maxLen := by unfold maxLen; omega
  have HL2 := Lib.hid hl2; have HM := Lib.hid hs
  clear hl hl2 hs _hS
  have hb1 : Below w.heap.size w (w.alloc (.cells #[.string B, .slice A es.length cap] 25)) := (Below.refl _ _).alloc (Nat.le_refl _) _
  have hc0 : (w.alloc (.cells #[.string B, .slice A es.length cap] 25)).cell? ⟨w.heap.size, 0, none⟩ = some (.string B) := by go_simp
  have hc1 : (w.alloc (.cells #[.string B, .slice A es.length cap] 25)).cell? ⟨w.heap.size, 1, none⟩ = some (.slice A es.length cap) := by go_simp
  by_cases hv : Valid B.data.toList (ebs es)
  case neg =>
    have HD : Hid (decB (Valid B.data.toList (ebs es)) = false) := Lib.hid (decB_f hv)
    have HN : Hid (fmtV B es = ⟨#[]⟩) := Lib.hid (fmtV_no hv)
    clear hv
    go_enter Try.func78, Try.ntmps78
    go_wp2_with fail
    refine (specValid_any B A cap es _ HM.out ((hE.below hb1).more hb1.size) HL2.out).mono ?_
    rw [HD.out]
    rintro e w2 ⟨rfl, hb2⟩
    have hb2' := hb1.trans (hb2.mono hb1.size)
    clear hb2
    go_wp2_with fail
    go_ret
    exact ⟨by rw [HN.out]; rfl, hb2'⟩
  have HD : Hid (decB (Valid B.data.toList (ebs es)) = true) := Lib.hid (decB_t hv)
  have HN : Hid (fmtV B es = ⟨(fmt B es es.length).toArray⟩) := Lib.hid (fmtV_yes hv)
  have h8 : B.size ≤ 8 := by have := hv.1.1.2.1; simpa using this
  have h16 : es.length ≤ 16 := by have := hv.1.2.1; simpa [ebs] using this
  have HO : Hid (∀ k, (h : k < es.length) → es[k].1.size = 1 ∧ es[k].2.size = 1) := Lib.hid fun k h => valid_ones hv h
  have hz0 : ¬ 9223372036854775807 < B.size + 1 := by omega
  clear hv
  go_enter Try.func78, Try.ntmps78
  go_wp2_with fail
  refine (specValid_any B A cap es _ HM.out ((hE.below hb1).more hb1.size) HL2.out).mono ?_
  rw [HD.out]
  rintro e w2 ⟨rfl, hb2⟩
  have hb2' := hb1.trans (hb2.mono hb1.size)
  have hd0 := (hb2.cell (p := ⟨w.heap.size, 0, none⟩) (by simp)).trans hc0
  have hd1 := (hb2.cell (p := ⟨w.heap.size, 1, none⟩) (by simp)).trans hc1
  clear hb2 hc0 hc1
  go_wp2_with fail
  go_loopw [3, 15] (fun out i wr => ∃ (k : Nat) (s : ByteArray), k ≤ es.length ∧ i = .int .i64 k ∧ out = .string s ∧ s.data.toList = fmt B es k ∧ s.size ≤ 9 + 3 * k ∧ Below w.heap.size w wr) (fun _ i _ => es.length - (intOf i).toNat)
  case atStart => exact ⟨0, _, Nat.zero_le _, rfl, rfl, by rw [fmt_zero]; exact Go.Joins.data_append _ _, by have : (⟨#[58]⟩ : ByteArray).size = 1 := rfl; simp; omega, hb2'⟩
  case round =>
    obtain ⟨k, s, hkn, rfl, rfl, hs, hz, hb⟩ := hrel
    have HS := Lib.hid hs
    clear hs
    by_cases hkl : k < es.length
    · obtain ⟨o1, o2⟩ := HO.out k hkl
      have z1 : ¬ 9223372036854775807 < s.size + 1 := by omega
      have z2 : ¬ 9223372036854775807 < s.size + 1 + es[k].1.size := by omega
      have z3 : ¬ 9223372036854775807 < s.size + 1 + es[k].1.size + es[k].2.size := by omega
      have HO1 := Lib.hid o1; have HO2 := Lib.hid o2; have HZ := Lib.hid hz
      clear o1 o2 hz
      obtain ⟨eb, eo, rfl, hlow, h1, h2⟩ := (hE.below hb) k hkl
      have hbn : Below w.heap.size w (wr.alloc (.cells #[.string es[k].1, .string es[k].2] 46)) := hb.alloc hb.size _
      go_wp2_with fail
      go_roundw
      case rel =>
        refine ⟨k + 1, _, by omega, by go_num, rfl, ?_, ?_, hbn⟩
        · rw [fmt_succ hkl, Go.Joins.data_append, Go.Joins.data_append, Go.Joins.data_append, HS.out]
        · have := HO1.out; have := HO2.out; have := HZ.out; have : (⟨#[32]⟩ : ByteArray).size = 1 := rfl; simp; omega
      case measure => simp [intOf]; omega
    · go_wp2_with fail
      go_ret
      have hkn' : k = es.length := by omega
      exact ⟨by rw [HN.out, ← fmt_all B es hkn', ← str_ext HS.out]; rfl, hb⟩

end Go.Proofs.Ytkclbjgnaichhaa
