/- The edges of a block (In), by the model; both. -/
import Derived.Test.YtkclbjgnaichhaaInI
namespace Go.Proofs.Ytkclbjgnaichhaa
open Go.RowKit

set_option maxRecDepth 100000 in
set_option maxHeartbeats 2000000 in
/-- spec.InOf -/
theorem specInOf_any (B : ByteArray) (A : Option Addr) (cap : Nat) (es : List (ByteArray × ByteArray)) (b : ByteArray) (w : World) (hs : B.size ≤ maxLen) (hE : EdgesIn w w.heap.size A es) (hl : es.length ≤ 1099511627776) (hS : ∀ e ∈ es, e.1.size ≤ 1099511627776 ∧ e.2.size ≤ 1099511627776) :
    Calls Try.prog 11 #[.agg #[.string B, .slice A es.length cap], .string b] w (TextPost (intoV B es b) w) := by
  have hl2 : es.length ≤ maxLen := by unfold maxLen; omega
  have HL2 := Lib.hid hl2; have HM := Lib.hid hs
  clear hl hl2 hs hS
  have hb1 : Below w.heap.size w (w.alloc (.cells #[.string B, .slice A es.length cap] 25)) := (Below.refl _ _).alloc (Nat.le_refl _) _
  have hc0 : (w.alloc (.cells #[.string B, .slice A es.length cap] 25)).cell? ⟨w.heap.size, 0, none⟩ = some (.string B) := by go_simp
  have hc1 : (w.alloc (.cells #[.string B, .slice A es.length cap] 25)).cell? ⟨w.heap.size, 1, none⟩ = some (.slice A es.length cap) := by go_simp
  by_cases hv : Valid B.data.toList (ebs es)
  case neg =>
    have HD : Hid (decB (Valid B.data.toList (ebs es)) = false) := Lib.hid (decB_f hv)
    have HN : Hid (intoV B es b = (⟨#[]⟩, false)) := Lib.hid (textV_no fun h => hv h.1)
    clear hv
    go_enter Try.func11, Try.ntmps11
    go_wp2_with fail
    refine (specValid_any B A cap es _ HM.out ((hE.below hb1).more hb1.size) HL2.out).mono ?_
    rw [HD.out]
    rintro e w2 ⟨rfl, hb2⟩
    have hb2' := hb1.trans (hb2.mono hb1.size)
    clear hb2
    go_wp2_with fail
    go_ret2
    exact ⟨by rw [HN.out]; rfl, hb2'⟩
  have HD : Hid (decB (Valid B.data.toList (ebs es)) = true) := Lib.hid (decB_t hv)
  have h16 : es.length ≤ 100 := by have := hv.1.2.1; simp [ebs] at this; omega
  have hz1 : (w.alloc (.cells #[.string B, .slice A es.length cap] 25)).heap.size = w.heap.size + 1 := by simp
  by_cases hi : 0 ≤ bIdx B.data.toList b.data.toList
  case neg =>
    have HN : Hid (intoV B es b = (⟨#[]⟩, false)) := Lib.hid (textV_no fun h => hi h.2)
    have HI := Lib.hid hi
    clear hv hi
    go_enter Try.func11, Try.ntmps11
    go_wp2_with fail
    refine (specValid_any B A cap es _ HM.out ((hE.below hb1).more hb1.size) HL2.out).mono ?_
    rw [HD.out]
    rintro e w2 ⟨rfl, hb2⟩
    have hb2' := hb1.trans (hb2.mono hb1.size)
    have hd0 := (hb2.cell (p := ⟨w.heap.size, 0, none⟩) (by simp)).trans hc0
    have hd1 := (hb2.cell (p := ⟨w.heap.size, 1, none⟩) (by simp)).trans hc1
    clear hb2 hc0 hc1
    go_wp2_with fail
    refine (l1Block_f B b _ _ HM.out (by have := HI.out; omega)).mono ?_
    rintro e w3 ⟨rfl, hb3⟩
    have hb3' := hb2'.trans (hb3.mono hb2'.size)
    clear hb3
    go_wp2_with fail
    go_ret2
    exact ⟨by rw [HN.out]; rfl, hb3'⟩
  have HN : Hid (intoV B es b = (⟨(names (intoB es b) es.length).toArray⟩, true)) := Lib.hid (textV_yes ⟨hv, hi⟩)
  have HI := Lib.hid hi
  clear hv hi
  go_enter Try.func11, Try.ntmps11
  go_wp2_with fail
  refine (specValid_any B A cap es _ HM.out ((hE.below hb1).more hb1.size) HL2.out).mono ?_
  rw [HD.out]
  rintro e w2 ⟨rfl, hb2⟩
  have hb2' := hb1.trans (hb2.mono hb1.size)
  have hd0 := (hb2.cell (p := ⟨w.heap.size, 0, none⟩) (by simp)).trans hc0
  have hd1 := (hb2.cell (p := ⟨w.heap.size, 1, none⟩) (by simp)).trans hc1
  have hz2 := hb2.size
  rw [hz1] at hz2
  clear hb2 hc0 hc1
  go_wp2_with fail
  refine (l1Block_t B b _ _ HM.out HI.out).mono ?_
  rintro e w3 ⟨rfl, hb3⟩
  have hb3' := hb2'.trans (hb3.mono hb2'.size)
  have he0 := (hb3.cell (p := ⟨w.heap.size, 0, none⟩) (by simp only; omega)).trans hd0
  have he1 := (hb3.cell (p := ⟨w.heap.size, 1, none⟩) (by simp only; omega)).trans hd1
  clear hb3 hd0 hd1
  go_wp2_with fail
  refine (intoList_any B A cap es b _ ((hE.below hb3').more hb3'.size) h16).mono ?_
  rintro e w4 ⟨rfl, hb4⟩
  have hb4' := hb3'.trans (hb4.mono hb3'.size)
  clear hb4
  go_wp2_with fail
  go_ret2
  exact ⟨by rw [HN.out]; rfl, hb4'⟩

end Go.Proofs.Ytkclbjgnaichhaa
