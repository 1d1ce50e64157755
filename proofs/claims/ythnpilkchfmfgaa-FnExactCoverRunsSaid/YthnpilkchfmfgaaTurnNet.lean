/- A net turned round, by the model and by the program. -/
import Derived.Test.YthnpilkchfmfgaaValid
import Derived.Test.YthnpilkchfmfgaaSpec2
import Derived.Test.YthnpilkchfmfgaaTurn
import Derived.Lib.SmallJoins
namespace Go.Proofs.Ythnpilkchfmfgaa
open Go.RowKit

/-- blocks in the other order -/
def revB (B : ByteArray) : ByteArray := ⟨B.data.toList.reverse.toArray⟩
/-- edges the other way -/
def swapE (es : List (ByteArray × ByteArray)) : List (ByteArray × ByteArray) := es.map fun e => (e.2, e.1)

/-- what is handed back where there is none: the empty net -/
def NonePost (w : World) (e : Ending) (w' : World) : Prop := e = .returned (.tuple #[.agg #[.string ⟨#[]⟩, .slice none 0 0], .bool false]) ∧ Below w.heap.size w w'

/-- what is handed back: a net in a row of its own -/
def RowPost (B : ByteArray) (es : List (ByteArray × ByteArray)) (w : World) (e : Ending) (w' : World) : Prop :=
  ∃ g, e = .returned (.tuple #[.agg #[.string B, .slice (some ⟨g, 0, none⟩) es.length es.length], .bool true]) ∧ w.heap.size ≤ g ∧ EdgesIn w' w'.heap.size (some ⟨g, 0, none⟩) es ∧ Below w.heap.size w w' ∧ g < w'.heap.size ∧ ∃ f, w'.rowIs g 55 (es.length * 2) f

set_option maxRecDepth 100000 in
set_option maxHeartbeats 1000000 in
/-- impl.TurnNet, of a net that is none -/
theorem implTurn_no (B : ByteArray) (A : Option Addr) (cap : Nat) (es : List (ByteArray × ByteArray)) (w : World) (hs : B.size ≤ maxLen) (hE : EdgesIn w w.heap.size A es) (hl : es.length ≤ maxLen) (hv : ¬ Valid B.data.toList (ebs es)) :
    Calls Try.prog 18 #[.agg #[.string B, .slice A es.length cap]] w (NonePost w) := by
  have hb1 : Below w.heap.size w ((w.alloc (.cells #[.string B, .slice A es.length cap] 28)).alloc (.cells #[.string ⟨#[]⟩, .slice none 0 0] 28)) := ((Below.refl _ _).alloc (Nat.le_refl _) _).alloc (by simp) _
  have hr1 : ((w.alloc (.cells #[.string B, .slice A es.length cap] 28)).alloc (.cells #[.string ⟨#[]⟩, .slice none 0 0] 28)).rowIs (w.heap.size + 1) 28 2 (fun i => if i = 0 then .string ⟨#[]⟩ else .slice none 0 0) := by
    have h := World.rowIs_alloc (w.alloc (.cells #[.string B, .slice A es.length cap] 28)) #[.string ⟨#[]⟩, .slice none 0 0] 28 (fun i => if i = 0 then .string ⟨#[]⟩ else .slice none 0 0) (fun i hi => by
      match i, hi with
      | 0, _ => rfl
      | 1, _ => rfl)
    rwa [World.size_alloc] at h
  have HD : Hid (decB (Valid B.data.toList (ebs es)) = false) := Lib.hid (decB_f hv)
  have HM := Lib.hid hs; have HL := Lib.hid hl; have HR := Lib.hid hr1
  clear hv hs hl hr1
  go_enter Try.func18, Try.ntmps18
  go_wp2_with fail
  refine (valid_any B A cap es _ HM.out ((hE.below hb1).more hb1.size) HL.out).mono ?_
  rw [HD.out]
  rintro e w2 ⟨rfl, hb2⟩
  have hr2 := HR.out.of_block (hb2.block _ (by simp))
  have h0 := hr2.cell (i := 0) (by omega); have h1 := hr2.cell (i := 1) (by omega)
  have f0 := hr2.frozen 0; have f1 := hr2.frozen 1
  have hb2' := hb1.trans (hb2.mono hb1.size)
  clear hb2 hr2
  go_wp2_with fail
  refine bodyPost_ret (v := .tuple #[.agg #[.string ⟨#[]⟩, .slice none 0 0], .bool false]) (by simp [results, Try.results18, go_sem, h0, h1]) rfl ⟨rfl, (hb2'.setCell (by simp only; omega) _).setCell (by simp only; omega) _⟩

set_option maxRecDepth 100000 in
set_option maxHeartbeats 2000000 in
/-- impl.TurnNet, of a net -/
theorem implTurn_yes (B : ByteArray) (A : Option Addr) (cap : Nat) (es : List (ByteArray × ByteArray)) (w : World) (hs : B.size ≤ 8) (hE : EdgesIn w w.heap.size A es) (hl : es.length ≤ 16) (hv : Valid B.data.toList (ebs es)) :
    Calls Try.prog 18 #[.agg #[.string B, .slice A es.length cap]] w (RowPost (revB B) (swapE es) w) := by
  have hb1 : Below w.heap.size w ((w.alloc (.cells #[.string B, .slice A es.length cap] 28)).alloc (.cells #[.string ⟨#[]⟩, .slice none 0 0] 28)) := ((Below.refl _ _).alloc (Nat.le_refl _) _).alloc (by simp) _
  have hr1 : ((w.alloc (.cells #[.string B, .slice A es.length cap] 28)).alloc (.cells #[.string ⟨#[]⟩, .slice none 0 0] 28)).rowIs (w.heap.size + 1) 28 2 (fun i => if i = 0 then .string ⟨#[]⟩ else .slice none 0 0) := by
    have h := World.rowIs_alloc (w.alloc (.cells #[.string B, .slice A es.length cap] 28)) #[.string ⟨#[]⟩, .slice none 0 0] 28 (fun i => if i = 0 then .string ⟨#[]⟩ else .slice none 0 0) (fun i hi => by
      match i, hi with
      | 0, _ => rfl
      | 1, _ => rfl)
    rwa [World.size_alloc] at h
  have hc0 : ((w.alloc (.cells #[.string B, .slice A es.length cap] 28)).alloc (.cells #[.string ⟨#[]⟩, .slice none 0 0] 28)).cell? ⟨w.heap.size, 0, none⟩ = some (.string B) := by go_simp
  have hc1 : ((w.alloc (.cells #[.string B, .slice A es.length cap] 28)).alloc (.cells #[.string ⟨#[]⟩, .slice none 0 0] 28)).cell? ⟨w.heap.size, 1, none⟩ = some (.slice A es.length cap) := by go_simp
  have HD : Hid (decB (Valid B.data.toList (ebs es)) = true) := Lib.hid (decB_t hv)
  have HM : Hid (B.size ≤ maxLen) := Lib.hid (by unfold maxLen; omega)
  have HL : Hid (es.length ≤ maxLen) := Lib.hid (by unfold maxLen; omega)
  have HR := Lib.hid hr1
  clear hv hr1
  go_enter Try.func18, Try.ntmps18
  go_wp2_with fail
  refine (valid_any B A cap es _ HM.out ((hE.below hb1).more hb1.size) HL.out).mono ?_
  rw [HD.out]
  rintro e w2 ⟨rfl, hb2⟩
  have hr2 := HR.out.of_block (hb2.block _ (by simp))
  have hb2' := hb1.trans (hb2.mono hb1.size)
  have hd0 := (hb2.cell (p := ⟨w.heap.size, 0, none⟩) (by simp; omega)).trans hc0
  have hd1 := (hb2.cell (p := ⟨w.heap.size, 1, none⟩) (by simp; omega)).trans hc1
  have hz2 : w.heap.size + 2 ≤ w2.heap.size := by have := hb2.size; simp at this; omega
  have HR2 := Lib.hid hr2
  clear hb2 hr2 hc0 hc1
  go_wp2_with fail
  refine (turned_row B A cap es _ (by omega) ((hE.below hb2').more hb2'.size) (by omega)).mono ?_
  rintro e w3 ⟨rb, g, rfl, hrb, hg, hE3, hb3, hgl, f, hrow⟩
  have hrb' : rb = revB B := by
    unfold revB
    rw [← hrb]
  subst hrb'
  have HE3 := Lib.hid hE3; have HROW := Lib.hid hrow
  clear hrb hE3 hrow
  have hr3 := HR2.out.of_block (hb3.block _ (by omega))
  have h0 := hr3.cell (i := 0) (by omega); have h1 := hr3.cell (i := 1) (by omega)
  have f0 := hr3.frozen 0; have f1 := hr3.frozen 1
  have hb3' := hb2'.trans (hb3.mono hb2'.size)
  clear hr3 hb3
  go_wp2_with fail
  have hfar : ((w3.setCell ⟨w.heap.size + 1, 0, none⟩ (.string (revB B))).setCell ⟨w.heap.size + 1, 1, none⟩ (.slice (some ⟨g, 0, none⟩) es.length es.length)).heap[g]? = w3.heap[g]? :=
    (Below.heap_setCell _ _ _ _ (by simp only; omega)).trans (Below.heap_setCell _ _ _ _ (by simp only; omega))
  have hlen : (swapE es).length = es.length := by simp [swapE]
  refine bodyPost_ret (v := .tuple #[.agg #[.string (revB B), .slice (some ⟨g, 0, none⟩) es.length es.length], .bool true]) (by simp [results, Try.results18, go_sem, h0, h1]) rfl ?_
  refine ⟨g, by rw [hlen], by omega, fun i hi => ?_, (hb3'.setCell (by simp only; omega) _).setCell (by simp only; omega) _, by simp [World.setCell]; omega, ⟨f, by rw [hlen]; exact HROW.out.of_block hfar⟩⟩
  obtain ⟨b, o, e, hl', q1, q2⟩ := HE3.out i hi
  injection e with e
  injection e with e1 e2 _
  subst e1; subst e2
  exact ⟨g, 0, rfl, by simp [World.setCell]; exact hl', (World.cell?_of_block (a := ⟨g, 0 + i * 2, none⟩) hfar).trans q1, (World.cell?_of_block (a := ⟨g, 0 + i * 2 + 1, none⟩) hfar).trans q2⟩

end Go.Proofs.Ythnpilkchfmfgaa
