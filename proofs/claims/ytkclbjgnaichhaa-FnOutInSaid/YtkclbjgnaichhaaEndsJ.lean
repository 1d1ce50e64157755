/- Both blocks of an edge: by the program alone. -/
import Derived.Test.YtkclbjgnaichhaaEnds
import Derived.Test.YtkclbjgnaichhaaRegion
import Derived.Deep.RegionHeld3
namespace Go.Proofs.Ytkclbjgnaichhaa
open Go.RowKit

/-- both blocks of an edge, if there is one -/
noncomputable def endsV (B : ByteArray) (es : List (ByteArray × ByteArray)) (b : ByteArray) : ByteArray × Bool :=
  open Classical in if Valid B.data.toList (ebs es) ∧ 0 ≤ eIdx es.length b.data.toList then ((es.getD (eIdx es.length b.data.toList).toNat (⟨#[]⟩, ⟨#[]⟩)).1 ++ (es.getD (eIdx es.length b.data.toList).toNat (⟨#[]⟩, ⟨#[]⟩)).2, true) else (⟨#[]⟩, false)

theorem endsV_no {B : ByteArray} {es : List (ByteArray × ByteArray)} {b : ByteArray} (h : ¬ (Valid B.data.toList (ebs es) ∧ 0 ≤ eIdx es.length b.data.toList)) : endsV B es b = (⟨#[]⟩, false) := if_neg h
theorem endsV_yes {B : ByteArray} {es : List (ByteArray × ByteArray)} {b : ByteArray} {k : Nat} (hv : Valid B.data.toList (ebs es)) (hk : k < es.length) (h : eIdx es.length b.data.toList = k) : endsV B es b = (es[k].1 ++ es[k].2, true) := by
  refine (if_pos ⟨hv, by omega⟩).trans ?_
  rw [h]
  simp [List.getD, hk]

/-- what is handed back -/
def EndsPost (B : ByteArray) (es : List (ByteArray × ByteArray)) (b : ByteArray) (w : World) (e : Ending) (w' : World) : Prop :=
  e = .returned (.tuple #[.string (endsV B es b).1, .bool (endsV B es b).2]) ∧ Below w.heap.size w w'

/-- an edge that is made before a call, as it lies behind it -/
theorem edge_made (w : World) : ∀ w' : World, Below (w.drew.alloc (.cells #[.string ⟨#[]⟩, .string ⟨#[]⟩] 46)).heap.size (w.drew.alloc (.cells #[.string ⟨#[]⟩, .string ⟨#[]⟩] 46)) w' →
    w'.cell? ⟨w.heap.size, 0, none⟩ = some (.string ⟨#[]⟩) ∧ w'.cell? ⟨w.heap.size, 1, none⟩ = some (.string ⟨#[]⟩) ∧ w'.frozen? ⟨w.heap.size, 0, none⟩ = false ∧ w'.frozen? ⟨w.heap.size, 1, none⟩ = false := fun w' h =>
  ⟨(h.cell (by simp)).trans (by go_simp), (h.cell (by simp)).trans (by go_simp), (h.frozen (by simp)).trans (by go_simp), (h.frozen (by simp)).trans (by go_simp)⟩

set_option maxRecDepth 100000 in
set_option maxHeartbeats 2000000 in
/-- impl.EndsOf -/
theorem implEnds_any (B : ByteArray) (A : Option Addr) (cap : Nat) (es : List (ByteArray × ByteArray)) (b : ByteArray) (w : World) (hs : B.size ≤ maxLen) (hE : EdgesIn w w.heap.size A es) (hl : es.length ≤ 1099511627776) (hS : ∀ e ∈ es, e.1.size ≤ 1099511627776 ∧ e.2.size ≤ 1099511627776) :
    Calls Try.prog 13 #[.agg #[.string B, .slice A es.length cap], .string b] w (EndsPost B es b w) := by
  have hl2 : es.length ≤ maxLen := by unfold maxLen; omega
  have HL := Lib.hid hl; have HL2 := Lib.hid hl2; have HM := Lib.hid hs; have HS := Lib.hid hS
  clear hl hl2 hs hS
  have hb1 : Below w.heap.size w (w.alloc (.cells #[.string B, .slice A es.length cap] 25)) := (Below.refl _ _).alloc (Nat.le_refl _) _
  have hc0 : (w.alloc (.cells #[.string B, .slice A es.length cap] 25)).cell? ⟨w.heap.size, 0, none⟩ = some (.string B) := by go_simp
  have hc1 : (w.alloc (.cells #[.string B, .slice A es.length cap] 25)).cell? ⟨w.heap.size, 1, none⟩ = some (.slice A es.length cap) := by go_simp
  have hz1 : (w.alloc (.cells #[.string B, .slice A es.length cap] 25)).heap.size = w.heap.size + 1 := by simp
  by_cases hv : Valid B.data.toList (ebs es)
  case neg =>
    have HD : Hid (decB (Valid B.data.toList (ebs es)) = false) := Lib.hid (decB_f hv)
    have HN : Hid (endsV B es b = (⟨#[]⟩, false)) := Lib.hid (endsV_no fun h => hv h.1)
    clear hv
    go_enter Try.func13, Try.ntmps13
    go_wp2_with fail
    refine (edgeIndex_any _ A es.length cap b _ HL.out).mono ?_
    rintro e w2 ⟨rfl, hb2⟩
    have hb2' := hb1.trans (hb2.mono hb1.size)
    have hd0 := (hb2.cell (p := ⟨w.heap.size, 0, none⟩) (by simp)).trans hc0
    have hd1 := (hb2.cell (p := ⟨w.heap.size, 1, none⟩) (by simp)).trans hc1
    clear hb2 hc0 hc1
    go_wp2_with fail
    refine (valid_any B A cap es _ HM.out ((hE.below hb2').more hb2'.size) HL2.out).mono ?_
    rw [HD.out]
    rintro e w3 ⟨rfl, hb3⟩
    have hb3' := hb2'.trans (hb3.mono hb2'.size)
    clear hb3
    go_wp2_with fail
    go_ret2
    exact ⟨by rw [HN.out]; rfl, hb3'⟩
  have HD : Hid (decB (Valid B.data.toList (ebs es)) = true) := Lib.hid (decB_t hv)
  have HV := Lib.hid hv; clear hv
  by_cases hi : 0 ≤ eIdx es.length b.data.toList
  case neg =>
    have HN : Hid (endsV B es b = (⟨#[]⟩, false)) := Lib.hid (endsV_no fun h => hi h.2)
    have HI : Hid (eIdx es.length b.data.toList = -1) := Lib.hid (eIdx_neg hi)
    clear hi
    go_enter Try.func13, Try.ntmps13
    go_wp2_with fail
    refine (edgeIndex_any _ A es.length cap b _ HL.out).mono ?_
    rw [HI.out]
    rintro e w2 ⟨rfl, hb2⟩
    have hb2' := hb1.trans (hb2.mono hb1.size)
    have hd0 := (hb2.cell (p := ⟨w.heap.size, 0, none⟩) (by simp)).trans hc0
    have hd1 := (hb2.cell (p := ⟨w.heap.size, 1, none⟩) (by simp)).trans hc1
    clear hb2 hc0 hc1
    go_wp2_with fail
    refine (valid_any B A cap es _ HM.out ((hE.below hb2').more hb2'.size) HL2.out).mono ?_
    rw [HD.out]
    rintro e w3 ⟨rfl, hb3⟩
    have hb3' := hb2'.trans (hb3.mono hb2'.size)
    clear hb3
    go_wp2_with fail
    go_ret2
    exact ⟨by rw [HN.out]; rfl, hb3'⟩
  obtain ⟨k, hk, hik⟩ := eIdx_some hi
  have HN : Hid (endsV B es b = (es[k].1 ++ es[k].2, true)) := Lib.hid (endsV_yes HV.out hk hik)
  have HI := Lib.hid hik
  clear hi hik
  go_enter Try.func13, Try.ntmps13
  go_wp2_with fail
  refine (edgeIndex_any _ A es.length cap b _ HL.out).mono ?_
  rw [HI.out]
  rintro e w2 ⟨rfl, hb2⟩
  have hb2' := hb1.trans (hb2.mono hb1.size)
  have hd0 := (hb2.cell (p := ⟨w.heap.size, 0, none⟩) (by simp)).trans hc0
  have hd1 := (hb2.cell (p := ⟨w.heap.size, 1, none⟩) (by simp)).trans hc1
  have hz2 := hb2.size
  rw [hz1] at hz2
  clear hb2 hc0 hc1
  go_wp2_with fail
  refine (valid_any B A cap es _ HM.out ((hE.below hb2').more hb2'.size) HL2.out).mono ?_
  rw [HD.out]
  rintro e w3 ⟨rfl, hb3⟩
  have hb3' := hb2'.trans (hb3.mono hb2'.size)
  have he0 := (hb3.cell (p := ⟨w.heap.size, 0, none⟩) (by simp only; omega)).trans hd0
  have he1 := (hb3.cell (p := ⟨w.heap.size, 1, none⟩) (by simp only; omega)).trans hd1
  clear hb3 hd0 hd1
  obtain ⟨eb, eo, rfl, hlow, h1, h2⟩ := (hE.below hb3') k hk
  have hsz : ¬ 9223372036854775807 < es[k].1.size + es[k].2.size := by
    have := HS.out es[k] (List.getElem_mem hk)
    omega
  go_wp2_with fail
  go_quiet (fail)
  go_wp2_with fail
  go_ret2
  exact ⟨by rw [HN.out]; rfl, below_drewN hb3' _⟩

end Go.Proofs.Ytkclbjgnaichhaa
