/- What the laws do with nets: copied, the same. -/
import Derived.Test.YtcfcmlbbnpfejaaLaw
namespace Go.Proofs.Ytcfcmlbbnpfejaa
open Go.RowKit

/-- laws.toEdge -/
theorem toEdge_any (a b : ByteArray) (w : World) :
    Calls Try.prog 147 #[.agg #[.string a, .string b]] w fun e w' => e = .returned (.agg #[.string a, .string b]) ∧ Below w.heap.size w w' := by
  go_enter Try.func147, Try.ntmps147
  go_wp2
  refine bodyPost_ret (v := .agg #[.string a, .string b]) (by simp [results, Try.results147, go_sem]) rfl ⟨rfl, ?_⟩
  repeat (first | exact Below.refl _ _ | (refine Below.setCell ?_ (by simp) _) | (refine Below.alloc ?_ (by simp; try omega) _))

/-- what is handed back: the same edges, in new memory -/
def CopyPost (es : List (ByteArray × ByteArray)) (w : World) (e : Ending) (w' : World) : Prop :=
  ∃ g, e = .returned (.slice (some ⟨g, 0, none⟩) es.length es.length) ∧ w.heap.size ≤ g ∧ EdgesIn w' w'.heap.size (some ⟨g, 0, none⟩) es ∧ Below w.heap.size w w'

/-- .. in a row that is the call's own -/
def CopyRow (es : List (ByteArray × ByteArray)) (w : World) (e : Ending) (w' : World) : Prop :=
  ∃ g, e = .returned (.slice (some ⟨g, 0, none⟩) es.length es.length) ∧ w.heap.size ≤ g ∧ EdgesIn w' w'.heap.size (some ⟨g, 0, none⟩) es ∧ Below w.heap.size w w' ∧ g < w'.heap.size ∧ ∃ f, w'.rowIs g 72 (es.length * 2) f

set_option maxRecDepth 100000 in
set_option maxHeartbeats 2000000 in
/-- laws.toEdgeS -/
theorem toEdgeS_row (A : Option Addr) (cap : Nat) (es : List (ByteArray × ByteArray)) (w : World) (hE : EdgesIn w w.heap.size A es) (hl : es.length ≤ 1099511627776) :
    Calls Try.prog 109 #[.slice A es.length cap] w (CopyRow es w) := by
  have hmk := fun W => make_edges es.length hl W
  go_enter Try.func109, Try.ntmps109
  go_wp2
  clear hmk
  obtain ⟨g, hg⟩ : ∃ g, w.heap.size = g := ⟨_, rfl⟩
  have hrow : ∃ f, (w.alloc (.cells (madeCells #[.string ⟨#[]⟩, .string ⟨#[]⟩] (es.length * 2)) 72)).rowIs g 72 (es.length * 2) f := by
    have h := World.rowIs_alloc w (madeCells #[.string ⟨#[]⟩, .string ⟨#[]⟩] (es.length * 2)) 72 (fun i => (madeCells #[.string ⟨#[]⟩, .string ⟨#[]⟩] (es.length * 2)).getD i undef) (fun i hi => by simp [hi])
    rw [size_madeCells, hg] at h
    exact ⟨_, h⟩
  have hb3 : Below g w (w.alloc (.cells (madeCells #[.string ⟨#[]⟩, .string ⟨#[]⟩] (es.length * 2)) 72)) := (Below.refl _ _).alloc (by omega) _
  have hs3 : (w.alloc (.cells (madeCells #[.string ⟨#[]⟩, .string ⟨#[]⟩] (es.length * 2)) 72)).heap.size = g + 1 := by simp [hg]
  rw [hg] at hE ⊢
  generalize hW3 : w.alloc (.cells (madeCells #[.string ⟨#[]⟩, .string ⟨#[]⟩] (es.length * 2)) 72) = w3 at hrow hb3 hs3 ⊢
  clear hW3
  have HS3 := Lib.hid hs3; have HGG := Lib.hid hg
  clear hs3 hg
  go_loopw [4] (fun i wr => ∃ k : Nat, k ≤ es.length ∧ i = .int .i64 k ∧ Below g w wr ∧ (∃ f, wr.rowIs g 72 (es.length * 2) f) ∧ g < wr.heap.size ∧
    ∀ i, (h : i < es.length) → i < k → wr.cell? ⟨g, i * 2, none⟩ = some (.string es[i].1) ∧ wr.cell? ⟨g, i * 2 + 1, none⟩ = some (.string es[i].2)) (fun i _ => es.length - (intOf i).toNat)
  case atStart => exact ⟨0, Nat.zero_le _, rfl, hb3, hrow, by have := HS3.out; omega, by intro i _ h; omega⟩
  case round =>
    clear hb3 hrow
    obtain ⟨k, hk, rfl, hb, ⟨f, hrow⟩, hz, hcs⟩ := hrel
    have HR := Lib.hid hrow; have HCS := Lib.hid hcs
    clear hrow hcs
    by_cases hlt : k < es.length
    · obtain ⟨eb, eo, rfl, hlow, h1, h2⟩ := (hE.below hb) k hlt
      go_wp2_with (go_at_call 147; refine (toEdge_any _ _ _).mono ?_; rintro e w1 ⟨rfl, hb1⟩; have hr1 := HR.out.of_block (hb1.block g hz); have hst1 := hr1.cell (i := k * 2) (by omega); have hst2 := hr1.cell (i := k * 2 + 1) (by omega); have hsf1 := hr1.frozen (k * 2); have hsf2 := hr1.frozen (k * 2 + 1); have HR1 := Lib.hid hr1; clear hr1; have hz1 := hb1.size)
      have hcsn : ∀ i, (h : i < es.length) → i < k + 1 → ((w1.setCell ⟨g, k * 2, none⟩ (.string es[k].1)).setCell ⟨g, k * 2 + 1, none⟩ (.string es[k].2)).cell? ⟨g, i * 2, none⟩ = some (.string es[i].1) ∧ ((w1.setCell ⟨g, k * 2, none⟩ (.string es[k].1)).setCell ⟨g, k * 2 + 1, none⟩ (.string es[k].2)).cell? ⟨g, i * 2 + 1, none⟩ = some (.string es[i].2) := by
        intro i hi hik
        by_cases hik' : i = k
        · subst hik'
          refine ⟨(World.cell?_setCell_other _ _ _ _ (by intro e; injection e with _ e; omega)).trans (World.cell?_setCell_same' _ _ _ (by rw [hst1]; rfl)), World.cell?_setCell_same' _ _ _ ?_⟩
          rw [World.cell?_setCell_other _ _ _ _ (by intro e; injection e with _ e; omega), hst2]; rfl
        · obtain ⟨q1, q2⟩ := HCS.out i hi (by omega)
          exact ⟨(World.cell?_setCell_other _ _ _ _ (by intro e; injection e with _ e; omega)).trans ((World.cell?_setCell_other _ _ _ _ (by intro e; injection e with _ e; omega)).trans ((hb1.cell hz).trans q1)),
            (World.cell?_setCell_other _ _ _ _ (by intro e; injection e with _ e; omega)).trans ((World.cell?_setCell_other _ _ _ _ (by intro e; injection e with _ e; omega)).trans ((hb1.cell hz).trans q2))⟩
      have HCN := Lib.hid hcsn; clear hcsn hst1 hst2 hsf1 hsf2
      go_roundw
      case rel => exact ⟨k + 1, by omega, by go_num, ((hb.trans (hb1.mono (by omega))).setCell (by simp only; omega) _).setCell (by simp only; omega) _, ⟨_, (HR1.out.set _ _).set _ _⟩, by simp [World.setCell]; omega, HCN.out⟩
      case measure => simp [intOf]; omega
    · go_wp2
      go_ret
      refine ⟨g, rfl, Nat.le_of_eq HGG.out, fun i hi => ⟨g, 0, rfl, hz, ?_, ?_⟩, by rw [HGG.out]; exact hb, hz, ⟨_, HR.out⟩⟩
      · rw [Nat.zero_add]; exact (HCS.out i hi (by omega)).1
      · rw [Nat.zero_add]; exact (HCS.out i hi (by omega)).2
theorem toEdgeS_any (A : Option Addr) (cap : Nat) (es : List (ByteArray × ByteArray)) (w : World) (hE : EdgesIn w w.heap.size A es) (hl : es.length ≤ 1099511627776) :
    Calls Try.prog 109 #[.slice A es.length cap] w (CopyPost es w) :=
  (toEdgeS_row A cap es w hE hl).mono fun _ _ ⟨g, a, b, c, d, _⟩ => ⟨g, a, b, c, d⟩

/-- what is handed back: the same net, in new memory -/
def NetPost (B : ByteArray) (es : List (ByteArray × ByteArray)) (w : World) (e : Ending) (w' : World) : Prop :=
  ∃ g, e = .returned (.agg #[.string B, .slice (some ⟨g, 0, none⟩) es.length es.length]) ∧ w.heap.size ≤ g ∧ EdgesIn w' w'.heap.size (some ⟨g, 0, none⟩) es ∧ Below w.heap.size w w'

/-- .. in a row that is the call's own -/
def NetRow (B : ByteArray) (es : List (ByteArray × ByteArray)) (w : World) (e : Ending) (w' : World) : Prop :=
  ∃ g, e = .returned (.agg #[.string B, .slice (some ⟨g, 0, none⟩) es.length es.length]) ∧ w.heap.size ≤ g ∧ EdgesIn w' w'.heap.size (some ⟨g, 0, none⟩) es ∧ Below w.heap.size w w' ∧ g < w'.heap.size ∧ ∃ f, w'.rowIs g 72 (es.length * 2) f

/-- laws.toNet -/
theorem toNet_row (B : ByteArray) (A : Option Addr) (cap : Nat) (es : List (ByteArray × ByteArray)) (w : World) (hE : EdgesIn w w.heap.size A es) (hl : es.length ≤ 1099511627776) :
    Calls Try.prog 51 #[.agg #[.string B, .slice A es.length cap]] w (NetRow B es w) := by
  have hb3 : Below w.heap.size w (((w.alloc (.cells #[.string B, .slice A es.length cap] 49)).alloc (.cells #[.string ⟨#[]⟩, .slice none 0 0] 25)).alloc (.cells #[.string B, .slice none 0 0] 25)) :=
    (((Below.refl _ _).alloc (Nat.le_refl _) _).alloc (by simp) _).alloc (by simp; omega) _
  have hs3 : (((w.alloc (.cells #[.string B, .slice A es.length cap] 49)).alloc (.cells #[.string ⟨#[]⟩, .slice none 0 0] 25)).alloc (.cells #[.string B, .slice none 0 0] 25)).heap.size = w.heap.size + 3 := by simp
  have hr1 : (((w.alloc (.cells #[.string B, .slice A es.length cap] 49)).alloc (.cells #[.string ⟨#[]⟩, .slice none 0 0] 25)).alloc (.cells #[.string B, .slice none 0 0] 25)).rowIs (w.heap.size + 1) 25 2 (fun i => if i = 0 then .string ⟨#[]⟩ else .slice none 0 0) := by
    have h := (World.rowIs_alloc (w.alloc (.cells #[.string B, .slice A es.length cap] 49)) #[.string ⟨#[]⟩, .slice none 0 0] 25 (fun i => if i = 0 then .string ⟨#[]⟩ else .slice none 0 0) (fun i hi => by
      match i, hi with
      | 0, _ => rfl
      | 1, _ => rfl)).alloc (.cells #[.string B, .slice none 0 0] 25)
    rwa [World.size_alloc] at h
  have hr2 : (((w.alloc (.cells #[.string B, .slice A es.length cap] 49)).alloc (.cells #[.string ⟨#[]⟩, .slice none 0 0] 25)).alloc (.cells #[.string B, .slice none 0 0] 25)).rowIs (w.heap.size + 1 + 1) 25 2 (fun i => if i = 0 then .string B else .slice none 0 0) := by
    have h := World.rowIs_alloc ((w.alloc (.cells #[.string B, .slice A es.length cap] 49)).alloc (.cells #[.string ⟨#[]⟩, .slice none 0 0] 25)) #[.string B, .slice none 0 0] 25 (fun i => if i = 0 then .string B else .slice none 0 0) (fun i hi => by
      match i, hi with
      | 0, _ => rfl
      | 1, _ => rfl)
    rwa [World.size_alloc, World.size_alloc] at h
  have HR1 := Lib.hid hr1; have HR2 := Lib.hid hr2; have HS3 := Lib.hid hs3; have HB3 := Lib.hid hb3
  clear hr1 hr2 hs3 hb3
  go_enter Try.func51, Try.ntmps51
  go_wp2_with fail
  refine (toEdgeS_row A cap es _ ((hE.below HB3.out).more HB3.out.size) hl).mono ?_
  rintro e w4 ⟨g, rfl, hg, hE4, hb4, hgl, f, hrow⟩
  have HROW := Lib.hid hrow
  clear hrow
  have HG := Lib.hid hg
  have hw4 : w.heap.size + 3 ≤ g := by have := HS3.out; omega
  have hw5 : w.heap.size + 3 ≤ w4.heap.size := by have := hb4.size; have := HS3.out; omega
  have hq1 := HR1.out.of_block (hb4.block _ (by have := HS3.out; omega))
  have hq2 := HR2.out.of_block (hb4.block _ (by have := HS3.out; omega))
  have h10 := hq1.cell (i := 0) (by omega); have h11 := hq1.cell (i := 1) (by omega)
  have h20 := hq2.cell (i := 0) (by omega); have h21 := hq2.cell (i := 1) (by omega)
  have f10 := hq1.frozen 0; have f11 := hq1.frozen 1; have f20 := hq2.frozen 0; have f21 := hq2.frozen 1
  have HB4 : Hid (Below w.heap.size w w4) := Lib.hid (HB3.out.trans (hb4.mono HB3.out.size))
  simp only [if_true] at h10 h20
  clear hq1 hq2 hb4 hg
  go_wp2_with fail
  refine bodyPost_ret (v := .agg #[.string B, .slice (some ⟨g, 0, none⟩) es.length es.length]) (by simp [results, Try.results51, go_sem, h10, h11]) rfl ?_
  have hfar : (((w4.setCell ⟨w.heap.size + 1 + 1, 1, none⟩ (.slice (some ⟨g, 0, none⟩) es.length es.length)).setCell ⟨w.heap.size + 1, 0, none⟩ (.string B)).setCell ⟨w.heap.size + 1, 1, none⟩ (.slice (some ⟨g, 0, none⟩) es.length es.length)).heap[g]? = w4.heap[g]? :=
    (Below.heap_setCell _ _ _ _ (by simp only; omega)).trans ((Below.heap_setCell _ _ _ _ (by simp only; omega)).trans (Below.heap_setCell _ _ _ _ (by simp only; omega)))
  refine ⟨g, rfl, by omega, fun i hi => ?_, ((HB4.out.setCell (by simp only; omega) _).setCell (by simp only; omega) _).setCell (by simp only; omega) _, by simp [World.setCell]; exact hgl, ⟨f, HROW.out.of_block hfar⟩⟩
  obtain ⟨b, o, e, hl', q1, q2⟩ := hE4 i hi
  injection e with e
  injection e with e1 e2 _
  subst e1; subst e2
  exact ⟨g, 0, rfl, by simp [World.setCell]; exact hl', (World.cell?_of_block (a := ⟨g, 0 + i * 2, none⟩) hfar).trans q1, (World.cell?_of_block (a := ⟨g, 0 + i * 2 + 1, none⟩) hfar).trans q2⟩
theorem toNet_any (B : ByteArray) (A : Option Addr) (cap : Nat) (es : List (ByteArray × ByteArray)) (w : World) (hE : EdgesIn w w.heap.size A es) (hl : es.length ≤ 1099511627776) :
    Calls Try.prog 51 #[.agg #[.string B, .slice A es.length cap]] w (NetPost B es w) :=
  (toNet_row B A cap es w hE hl).mono fun _ _ ⟨g, a, b, c, d, _⟩ => ⟨g, a, b, c, d⟩

/-! ### the same -/

/-- laws.eqEdge -/
theorem eqEdge_t (a b : ByteArray) (w : World) :
    Calls Try.prog 149 #[.agg #[.string a, .string b], .agg #[.string a, .string b]] w fun e w' => e = .returned (.bool true) ∧ Below w.heap.size w w' := by
  have q1 : (a.toList == a.toList) = true := by simp
  have q2 : (b.toList == b.toList) = true := by simp
  go_enter Try.func149, Try.ntmps149
  go_wp2
  go_ret
  exact ⟨rfl, ((Below.refl _ _).alloc (Nat.le_refl _) _).alloc (by simp) _⟩

set_option maxRecDepth 100000 in
set_option maxHeartbeats 2000000 in
/-- laws.eqEdgeS, at the same edges -/
theorem eqEdgeS_t (A A' : Option Addr) (cap cap' : Nat) (es : List (ByteArray × ByteArray)) (w : World) (hE : EdgesIn w w.heap.size A es) (hE' : EdgesIn w w.heap.size A' es) (hl : es.length ≤ 1099511627776) :
    Calls Try.prog 112 #[.slice A es.length cap, .slice A' es.length cap'] w fun e w' => e = .returned (.bool true) ∧ Below w.heap.size w w' := by
  have q0 : ((es.length : Int) != es.length) = false := by simp
  go_enter Try.func112, Try.ntmps112
  go_wp2
  go_loopw [5] (fun i wr => ∃ k : Nat, k ≤ es.length ∧ i = .int .i64 k ∧ Below w.heap.size w wr) (fun i _ => es.length - (intOf i).toNat)
  case atStart => exact ⟨0, Nat.zero_le _, rfl, Below.refl _ _⟩
  case round =>
    obtain ⟨k, hk, rfl, hb⟩ := hrel
    by_cases hlt : k < es.length
    · obtain ⟨b1, o1, rfl, hlow1, h1, h2⟩ := (hE.below hb) k hlt
      obtain ⟨b2, o2, rfl, hlow2, h3, h4⟩ := (hE'.below hb) k hlt
      have hsz := hb.size
      have x1 : ∀ x : After wr, x.W.cell? ⟨b1, o1 + k * 2, none⟩ = some (.string es[k].1) := fun x => x.cell (by simp only; omega) h1
      have x2 : ∀ x : After wr, x.W.cell? ⟨b1, o1 + k * 2 + 1, none⟩ = some (.string es[k].2) := fun x => x.cell (by simp only; omega) h2
      have x3 : ∀ x : After wr, x.W.cell? ⟨b2, o2 + k * 2, none⟩ = some (.string es[k].1) := fun x => x.cell (by simp only; omega) h3
      have x4 : ∀ x : After wr, x.W.cell? ⟨b2, o2 + k * 2 + 1, none⟩ = some (.string es[k].2) := fun x => x.cell (by simp only; omega) h4
      go_wp2
      refine wp_region_below (by kernel_rfl) (by kernel_rfl) ?_
      repeat (go_big_quiet_step ((go_at_call 149; exact After.call (eqEdge_t _ _ _))))
      refine wpQuiet_nil ?_
      rintro _ ⟨x, rfl⟩
      clear x1 x2 x3 x4
      go_wp2
      go_roundw
      case rel => exact ⟨k + 1, by omega, by go_num, hb.trans (x.h.mono hb.size)⟩
      case measure => simp [intOf]; omega
    · go_wp2
      go_ret
      exact ⟨rfl, hb⟩

/-- laws.eqNet, at the same net -/
theorem eqNet_t (B : ByteArray) (A A' : Option Addr) (cap cap' : Nat) (es : List (ByteArray × ByteArray)) (w : World) (hE : EdgesIn w w.heap.size A es) (hE' : EdgesIn w w.heap.size A' es) (hl : es.length ≤ 1099511627776) :
    Calls Try.prog 54 #[.agg #[.string B, .slice A es.length cap], .agg #[.string B, .slice A' es.length cap']] w fun e w' => e = .returned (.bool true) ∧ Below w.heap.size w w' := by
  have q1 : (B.toList == B.toList) = true := by simp
  have hb2 : Below w.heap.size w ((w.alloc (.cells #[.string B, .slice A es.length cap] 25)).alloc (.cells #[.string B, .slice A' es.length cap'] 25)) := ((Below.refl _ _).alloc (Nat.le_refl _) _).alloc (by simp) _
  go_enter Try.func54, Try.ntmps54
  go_wp2_with fail
  refine (eqEdgeS_t A A' cap cap' es _ ((hE.below hb2).more hb2.size) ((hE'.below hb2).more hb2.size) hl).mono ?_
  rintro e w3 ⟨rfl, hb3⟩
  go_wp2_with fail
  go_ret
  exact ⟨rfl, hb2.trans (hb3.mono hb2.size)⟩

end Go.Proofs.Ytcfcmlbbnpfejaa
