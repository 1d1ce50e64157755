/- All names, by the program alone. -/
import Derived.Test.YtkclbjgnaichhaaNames
import Derived.Test.YtkclbjgnaichhaaValid
import Derived.Test.YtkclbjgnaichhaaSpec2
namespace Go.Proofs.Ytkclbjgnaichhaa
open Go.RowKit

theorem valid_few {l : List UInt8} {E : Eds} (h : Valid l E) : E.length ≤ 16 := h.1.2.1

/-- all names, of a net that is one -/
noncomputable def namesV (B : ByteArray) (es : List (ByteArray × ByteArray)) : ByteArray × Bool := textV (Valid B.data.toList (ebs es)) (names (fun _ => true) es.length)

set_option maxRecDepth 100000 in
/-- impl.NamesOf$1 -/
theorem keepAll_any (k : Nat) (w : World) :
    Calls Try.prog 37 (#[.int .i64 k] ++ #[]) w fun e w' => e = .returned (.bool true) ∧ Below w.heap.size w w' := by
  go_enter Try.func37, Try.ntmps37
  go_wp2_with fail
  go_ret
  exact ⟨rfl, Below.refl _ _⟩

set_option maxRecDepth 100000 in
set_option maxHeartbeats 1000000 in
/-- impl.NamesOf -/
theorem implNamesOf_any (B : ByteArray) (A : Option Addr) (cap : Nat) (es : List (ByteArray × ByteArray)) (w : World) (hs : B.size ≤ maxLen) (hE : EdgesIn w w.heap.size A es) (hl : es.length ≤ 1099511627776) (hS : ∀ e ∈ es, e.1.size ≤ 1099511627776 ∧ e.2.size ≤ 1099511627776) :
    Calls Try.prog 12 #[.agg #[.string B, .slice A es.length cap]] w (TextPost (namesV B es) w) := by
  have hl2 : es.length ≤ maxLen := by unfold maxLen; omega
  have HL2 := Lib.hid hl2; have HM := Lib.hid hs
  clear hl hl2 hs hS
  have hb1 : Below w.heap.size w (w.alloc (.cells #[.string B, .slice A es.length cap] 25)) := (Below.refl _ _).alloc (Nat.le_refl _) _
  have hc0 : (w.alloc (.cells #[.string B, .slice A es.length cap] 25)).cell? ⟨w.heap.size, 0, none⟩ = some (.string B) := by go_simp
  have hc1 : (w.alloc (.cells #[.string B, .slice A es.length cap] 25)).cell? ⟨w.heap.size, 1, none⟩ = some (.slice A es.length cap) := by go_simp
  by_cases hv : Valid B.data.toList (ebs es)
  case neg =>
    have HD : Hid (decB (Valid B.data.toList (ebs es)) = false) := Lib.hid (decB_f hv)
    have HN : Hid (namesV B es = (⟨#[]⟩, false)) := Lib.hid (textV_no hv)
    clear hv
    go_enter Try.func12, Try.ntmps12
    go_wp2_with fail
    refine (valid_any B A cap es _ HM.out ((hE.below hb1).more hb1.size) HL2.out).mono ?_
    rw [HD.out]
    rintro e w2 ⟨rfl, hb2⟩
    have hb2' := hb1.trans (hb2.mono hb1.size)
    clear hb2
    go_wp2_with fail
    go_ret2
    exact ⟨by rw [HN.out]; rfl, hb2'⟩
  have HD : Hid (decB (Valid B.data.toList (ebs es)) = true) := Lib.hid (decB_t hv)
  have HN : Hid (namesV B es = (⟨(names (fun _ => true) es.length).toArray⟩, true)) := Lib.hid (textV_yes hv)
  have h16 : es.length ≤ 100 := by have := valid_few hv; simp [ebs] at this; omega
  clear hv
  go_enter Try.func12, Try.ntmps12
  go_wp2_with fail
  refine (valid_any B A cap es _ HM.out ((hE.below hb1).more hb1.size) HL2.out).mono ?_
  rw [HD.out]
  rintro e w2 ⟨rfl, hb2⟩
  have hb2' := hb1.trans (hb2.mono hb1.size)
  have hd0 := (hb2.cell (p := ⟨w.heap.size, 0, none⟩) (by simp)).trans hc0
  have hd1 := (hb2.cell (p := ⟨w.heap.size, 1, none⟩) (by simp)).trans hc1
  clear hb2 hc0 hc1
  go_wp2_with fail
  refine (namesWhere_any B A es.length cap 37 #[] (fun _ => true) _ h16 (enters_of Try.func37 (by kernel_rfl) rfl) (fun i W _ _ => keepAll_any i W)).mono ?_
  rintro e w3 ⟨rfl, hb3⟩
  have hb3' := hb2'.trans (hb3.mono hb2'.size)
  clear hb3
  go_wp2_with fail
  go_ret2
  exact ⟨by rw [HN.out]; rfl, hb3'⟩

end Go.Proofs.Ytkclbjgnaichhaa
