/- The edges of a block (Out), by the program. -/
import Derived.Test.YtpeafheljcjlhaaGreatNames
import Derived.Test.YtpeafheljcjlhaaGreatOutL
import Derived.Test.YtpeafheljcjlhaaGreatNetQ
namespace Go.Proofs.YtpeafheljcjlhaaGreat
open Go.RowKit
set_option linter.unusedVariables false
set_option linter.unusedSimpArgs false

set_option maxRecDepth 100000 in
/-- impl.OutOf$1 -/
theorem outKeep_any (B : ByteArray) (A : Option Addr) (cap : Nat) (es : List (ByteArray × ByteArray)) (b : ByteArray) (k g1 g2 M : Nat) (w : World) (hk : k < es.length) (hn : es.length ≤ 100) (hE : EdgesIn w M A es)
    (h1 : w.cell? ⟨g1, 1, none⟩ = some (.slice A es.length cap)) (h2 : w.cell? ⟨g2, 0, none⟩ = some (.string b)) :
    Calls Tryz.prog 142 (#[.int .i64 k] ++ #[.pointer (some ⟨g1, 0, none⟩), .pointer (some ⟨g2, 0, none⟩)]) w fun e w' => e = .returned (.bool (outB es b k)) ∧ Below w.heap.size w w' := by
  obtain ⟨eb, eo, rfl, hlow, q1, q2⟩ := hE k hk
  have hp := Lib.hid (outB_at (b := b) hk)
  go_enter Tryz.func142, Tryz.ntmps142
  go_wp2_with fail
  go_quiet (fail)
  go_wp2_with fail
  go_ret
  exact ⟨ret_bool hp.out.symm, below_drewN (Below.refl _ _) _⟩

set_option maxRecDepth 100000 in
set_option maxHeartbeats 2000000 in
/-- impl.OutOf -/
theorem implOutOf_any (B : ByteArray) (A : Option Addr) (cap : Nat) (es : List (ByteArray × ByteArray)) (b : ByteArray) (w : World) (hs : B.size ≤ maxLen) (hE : EdgesIn w w.heap.size A es) (hl : es.length ≤ 1099511627776) (hS : ∀ e ∈ es, e.1.size ≤ 1099511627776 ∧ e.2.size ≤ 1099511627776) :
    Calls Tryz.prog 127 #[.agg #[.string B, .slice A es.length cap], .string b] w (TextPost (outV B es b) w) := by
  have hl2 : es.length ≤ maxLen := by unfold maxLen; omega
  have HL2 := Lib.hid hl2; have HM := Lib.hid hs
  clear hl hl2 hs hS
  have hb1 : Below w.heap.size w ((w.alloc (.cells #[.string B, .slice A es.length cap] 31)).alloc (.cells #[.string b] 9)) := ((Below.refl _ _).alloc (Nat.le_refl _) _).alloc (by simp) _
  have hc0 : ((w.alloc (.cells #[.string B, .slice A es.length cap] 31)).alloc (.cells #[.string b] 9)).cell? ⟨w.heap.size, 0, none⟩ = some (.string B) := by go_simp
  have hc1 : ((w.alloc (.cells #[.string B, .slice A es.length cap] 31)).alloc (.cells #[.string b] 9)).cell? ⟨w.heap.size, 1, none⟩ = some (.slice A es.length cap) := by go_simp
  have hc2 : ((w.alloc (.cells #[.string B, .slice A es.length cap] 31)).alloc (.cells #[.string b] 9)).cell? ⟨w.heap.size + 1, 0, none⟩ = some (.string b) := by go_simp
  have hz1 : ((w.alloc (.cells #[.string B, .slice A es.length cap] 31)).alloc (.cells #[.string b] 9)).heap.size = w.heap.size + 2 := by simp
  generalize hW1 : (w.alloc (.cells #[.string B, .slice A es.length cap] 31)).alloc (.cells #[.string b] 9) = w1 at hb1 hc0 hc1 hc2 hz1
  have HW1 := Lib.hid hW1
  clear hW1
  by_cases hv : Valid B.data.toList (ebs es)
  case neg =>
    have HD : Hid (decB (Valid B.data.toList (ebs es)) = false) := Lib.hid (decB_f hv)
    have HN : Hid (outV B es b = (⟨#[]⟩, false)) := Lib.hid (textV_no fun h => hv h.1)
    clear hv
    go_enter Tryz.func127, Tryz.ntmps127
    go_wp2_with fail
    rw [HW1.out]
    refine (valid_any B A cap es _ HM.out ((hE.below hb1).more hb1.size) HL2.out).mono ?_
    rw [HD.out]
    rintro e w2 ⟨rfl, hb2⟩
    have hb2' := hb1.trans (hb2.mono hb1.size)
    clear hb2
    go_wp2_with fail
    go_ret2
    exact ⟨by rw [HN.out]; rfl, hb2'⟩
  have HD : Hid (decB (Valid B.data.toList (ebs es)) = true) := Lib.hid (decB_t hv)
  have h16 : es.length ≤ 100 := by have := hv.1.2.1; simp [ebs] at this; omega
  obtain ⟨bi, hbi⟩ : ∃ bi, bIdx B.data.toList b.data.toList = bi := ⟨_, rfl⟩
  have HBI := Lib.hid hbi
  by_cases hi : bi < 0
  · have HN : Hid (outV B es b = (⟨#[]⟩, false)) := Lib.hid (textV_no fun h => by have := h.2; rw [hbi] at this; omega)
    clear hv hbi
    go_enter Tryz.func127, Tryz.ntmps127
    go_wp2_with fail
    rw [HW1.out]
    refine (valid_any B A cap es _ HM.out ((hE.below hb1).more hb1.size) HL2.out).mono ?_
    rw [HD.out]
    rintro e w2 ⟨rfl, hb2⟩
    have hb2' := hb1.trans (hb2.mono hb1.size)
    have hd0 := (hb2.cell (p := ⟨w.heap.size, 0, none⟩) (by simp only; omega)).trans hc0
    have hd1 := (hb2.cell (p := ⟨w.heap.size, 1, none⟩) (by simp only; omega)).trans hc1
    have hd2 := (hb2.cell (p := ⟨w.heap.size + 1, 0, none⟩) (by simp only; omega)).trans hc2
    clear hb2 hc0 hc1 hc2
    go_wp2_with fail
    refine (blockIndex_any B b _ _).mono ?_
    rw [HBI.out]
    rintro e w3 ⟨rfl, hb3⟩
    have hb3' := hb2'.trans (hb3.mono hb2'.size)
    clear hb3
    go_wp2_with fail
    go_ret2
    exact ⟨by rw [HN.out]; rfl, hb3'⟩
  have HN : Hid (outV B es b = (⟨(names (outB es b) es.length).toArray⟩, true)) := Lib.hid (textV_yes ⟨hv, by rw [hbi]; omega⟩)
  clear hv hbi
  go_enter Tryz.func127, Tryz.ntmps127
  go_wp2_with fail
  rw [HW1.out]
  refine (valid_any B A cap es _ HM.out ((hE.below hb1).more hb1.size) HL2.out).mono ?_
  rw [HD.out]
  rintro e w2 ⟨rfl, hb2⟩
  have hb2' := hb1.trans (hb2.mono hb1.size)
  have hd0 := (hb2.cell (p := ⟨w.heap.size, 0, none⟩) (by simp only; omega)).trans hc0
  have hd1 := (hb2.cell (p := ⟨w.heap.size, 1, none⟩) (by simp only; omega)).trans hc1
  have hd2 := (hb2.cell (p := ⟨w.heap.size + 1, 0, none⟩) (by simp only; omega)).trans hc2
  have hz2 := hb2.size
  rw [hz1] at hz2
  clear hb2 hc0 hc1 hc2
  go_wp2_with fail
  refine (blockIndex_any B b _ _).mono ?_
  rw [HBI.out]
  rintro e w3 ⟨rfl, hb3⟩
  have hb3' := hb2'.trans (hb3.mono hb2'.size)
  have he0 := (hb3.cell (p := ⟨w.heap.size, 0, none⟩) (by simp only; omega)).trans hd0
  have he1 := (hb3.cell (p := ⟨w.heap.size, 1, none⟩) (by simp only; omega)).trans hd1
  have he2 := (hb3.cell (p := ⟨w.heap.size + 1, 0, none⟩) (by simp only; omega)).trans hd2
  have hz3 := Nat.le_trans hz2 hb3.size
  clear hb3 hd0 hd1 hd2
  go_wp2_with fail
  refine (namesWhere_any B A es.length cap 142 #[.pointer (some ⟨w.heap.size, 0, none⟩), .pointer (some ⟨w.heap.size + 1, 0, none⟩)] (outB es b) _ h16 (enters_of Tryz.func142 (by kernel_rfl) rfl)
    (fun i W hiw hbw => outKeep_any B A cap es b i w.heap.size (w.heap.size + 1) w.heap.size W hiw h16 (hE.below (hb3'.trans (hbw.mono hb3'.size))) ((hbw.cell (by simp only; omega)).trans he1) ((hbw.cell (by simp only; omega)).trans he2))).mono ?_
  rintro e w4 ⟨rfl, hb4⟩
  have hb4' := hb3'.trans (hb4.mono hb3'.size)
  clear hb4
  go_wp2_with fail
  go_ret2
  exact ⟨by rw [HN.out]; rfl, hb4'⟩

end Go.Proofs.YtpeafheljcjlhaaGreat
