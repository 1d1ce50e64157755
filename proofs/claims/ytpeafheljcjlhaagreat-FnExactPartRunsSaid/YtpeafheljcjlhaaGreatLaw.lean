/- What the laws call: sizes, copies, the same nets. -/
import Derived.Test.YtpeafheljcjlhaaGreatEq
import Derived.Test.YtpeafheljcjlhaaGreatNet1
import Derived.Test.YtpeafheljcjlhaaGreatMem
import Derived.Test.YtpeafheljcjlhaaGreatRegion
import Derived.Test.YtpeafheljcjlhaaGreatSpec1
import Derived.Deep.OwnRows
namespace Go.Proofs.YtpeafheljcjlhaaGreat
open Go.RowKit

/-- what is left of two texts -/
def szv2 (a b : Nat) (left : Int) : Int := if (a : Int) + b ≤ left then left - a - b else -1

/-- laws.szEdge -/
theorem szEdge_any (a b : ByteArray) (left : Int) (w : World) (ha : a.size ≤ maxLen) (hb : b.size ≤ maxLen) (h0 : 0 ≤ left) (h1 : left ≤ 1048576) :
    Calls Tryz.prog 44 #[.agg #[.string a, .string b], .int .i64 left] w fun e w' => e = .returned (.int .i64 (szv2 a.size b.size left)) ∧ Below w.heap.size w w' := by
  unfold maxLen at ha hb
  by_cases h2 : left < a.size
  · have hf : ¬ ((a.size : Int) + b.size ≤ left) := by omega
    rw [show szv2 a.size b.size left = -1 from if_neg hf]
    clear hf
    go_enter Tryz.func44, Tryz.ntmps44
    go_wp2
    go_ret
    exact ⟨rfl, (Below.refl _ _).alloc (Nat.le_refl _) _⟩
  · by_cases h3 : left - a.size < b.size
    · have hf : ¬ ((a.size : Int) + b.size ≤ left) := by omega
      rw [show szv2 a.size b.size left = -1 from if_neg hf]
      clear hf
      go_enter Tryz.func44, Tryz.ntmps44
      go_wp2
      go_ret
      exact ⟨rfl, (Below.refl _ _).alloc (Nat.le_refl _) _⟩
    · rw [show szv2 a.size b.size left = left - a.size - b.size from if_pos (by omega)]
      go_enter Tryz.func44, Tryz.ntmps44
      go_wp2
      go_ret
      exact ⟨rfl, (Below.refl _ _).alloc (Nat.le_refl _) _⟩

/-- the letters of edges -/
def letters (es : List (ByteArray × ByteArray)) : Nat := (es.map fun e => e.1.size + e.2.size).sum

/-- what is left, -1 if it is too little -/
def szv (k : Nat) (left : Int) : Int := if (k : Int) ≤ left then left - k else -1
theorem szv_no {k : Nat} {left : Int} (h : left < k) : szv k left = -1 := if_neg (by omega)
theorem szv_yes {k : Nat} {left : Int} (h : (k : Int) ≤ left) : szv k left = left - k := if_pos h

/-- what is handed back: nothing is left, or all fits -/
def SzPost (k : Nat) (left : Int) (w : World) (e : Ending) (w' : World) : Prop := e = .returned (.int .i64 (szv k left)) ∧ Below w.heap.size w w'

theorem letters_take {es : List (ByteArray × ByteArray)} {k : Nat} (h : k < es.length) : letters (es.take (k + 1)) = letters (es.take k) + (es[k].1.size + es[k].2.size) := by
  unfold letters
  rw [List.take_succ_eq_append_getElem h]
  simp only [List.map_append, List.sum_append, List.map_cons, List.map_nil, List.sum_cons, List.sum_nil, Nat.add_zero]

theorem letters_le (es : List (ByteArray × ByteArray)) (k : Nat) : letters (es.take k) ≤ letters es := by
  unfold letters
  have h : (es.map fun e => e.1.size + e.2.size) = ((es.take k).map fun e => e.1.size + e.2.size) ++ ((es.drop k).map fun e => e.1.size + e.2.size) := by rw [← List.map_append, List.take_append_drop]
  rw [h, List.sum_append]; omega

/-- laws.szEdgeS -/
theorem szEdgeS_any (A : Option Addr) (cap : Nat) (es : List (ByteArray × ByteArray)) (left : Int) (w : World) (hE : EdgesIn w w.heap.size A es) (hl : es.length ≤ maxLen) (hS : ∀ e ∈ es, e.1.size ≤ maxLen ∧ e.2.size ≤ maxLen) (h0 : 0 ≤ left) (h1 : left ≤ 1048576) :
    Calls Tryz.prog 25 #[.slice A es.length cap, .int .i64 left] w (SzPost (es.length + letters es) left w) := by
  have HL := Lib.hid hl
  unfold maxLen at hl
  by_cases h2 : left < es.length
  · have HF : Hid (szv (es.length + letters es) left = -1) := Lib.hid (szv_no (by omega))
    go_enter Tryz.func25, Tryz.ntmps25
    go_wp2
    go_ret
    exact ⟨by rw [HF.out]; rfl, Below.refl _ _⟩
  go_enter Tryz.func25, Tryz.ntmps25
  go_wp2
  go_loopw [1, 5] (fun v i wr => ∃ k : Nat, k ≤ es.length ∧ i = .int .i64 k ∧ 0 ≤ left - es.length - letters (es.take k) ∧ v = .int .i64 (left - es.length - letters (es.take k)) ∧ Below w.heap.size w wr) (fun _ i _ => es.length - (intOf i).toNat)
  case atStart => exact ⟨0, Nat.zero_le _, rfl, by simp [letters]; omega, by simp [letters], Below.refl _ _⟩
  case round =>
    obtain ⟨k, hk, rfl, hp, rfl, hb⟩ := hrel
    by_cases hlt : k < es.length
    · obtain ⟨eb, eo, rfl, hlow, q1, q2⟩ := (hE.below hb) k hlt
      obtain ⟨s1, s2⟩ := hS es[k] (List.getElem_mem hlt)
      have hlet := letters_take hlt
      have HLET := Lib.hid hlet; clear hlet
      have hlk : 0 ≤ (letters (es.take k) : Int) := by omega
      obtain ⟨r, hr⟩ : ∃ r : Int, left - es.length - letters (es.take k) = r := ⟨_, rfl⟩
      rw [hr] at hp ⊢
      have HR := Lib.hid hr
      have hr1 : r ≤ 1048576 := by omega
      clear hr
      by_cases hfit : (es[k].1.size : Int) + es[k].2.size ≤ r
      · have HIF : Hid (szv2 es[k].1.size es[k].2.size r = r - es[k].1.size - es[k].2.size) := Lib.hid (if_pos hfit)
        obtain ⟨r', hr'⟩ : ∃ r' : Int, r - es[k].1.size - es[k].2.size = r' := ⟨_, rfl⟩
        have HR' := Lib.hid hr'
        have hr0 : 0 ≤ r' := by omega
        clear hr' hfit
        go_wp2_with (go_at_call 44; refine (szEdge_any _ _ _ _ s1 s2 hp hr1).mono ?_; rw [HIF.out, HR'.out]; rintro e w1 ⟨rfl, hb1⟩)
        go_roundw
        case rel =>
          have e1 : left - es.length - letters (es.take (k + 1)) = r' := by have := HLET.out; have := HR.out; have := HR'.out; omega
          exact ⟨k + 1, by omega, by go_num, by rw [e1]; exact hr0, by rw [e1], hb.trans (hb1.mono hb.size)⟩
        case measure => simp [intOf]; omega
      · have HIF : Hid (szv2 es[k].1.size es[k].2.size r = -1) := Lib.hid (if_neg hfit)
        have HF : Hid (szv (es.length + letters es) left = -1) := Lib.hid (szv_no (by
          have := HLET.out; have := HR.out; have := letters_le es (k + 1); omega))
        clear hfit
        go_wp2_with (go_at_call 44; refine (szEdge_any _ _ _ _ s1 s2 hp hr1).mono ?_; rw [HIF.out]; rintro e w1 ⟨rfl, hb1⟩)
        go_ret
        exact ⟨by rw [HF.out]; rfl, hb.trans (hb1.mono hb.size)⟩
    · have HK : Hid (letters (es.take k) = letters es) := Lib.hid (by rw [List.take_of_length_le (by omega)])
      obtain ⟨r, hr⟩ : ∃ r : Int, left - es.length - letters (es.take k) = r := ⟨_, rfl⟩
      rw [hr] at hp ⊢
      have HR := Lib.hid hr
      clear hr
      go_wp2
      go_ret
      refine ⟨?_, hb⟩
      have := HR.out; have := HK.out
      rw [szv_yes (by omega)]
      exact ret_int (by show r = _; omega)

/-- laws.szNet -/
theorem szNet_any (B : ByteArray) (A : Option Addr) (cap : Nat) (es : List (ByteArray × ByteArray)) (left : Int) (w : World) (hs : B.size ≤ maxLen) (hE : EdgesIn w w.heap.size A es) (hl : es.length ≤ maxLen) (hS : ∀ e ∈ es, e.1.size ≤ maxLen ∧ e.2.size ≤ maxLen) (h0 : 0 ≤ left) (h1 : left ≤ 1048576) :
    Calls Tryz.prog 7 #[.agg #[.string B, .slice A es.length cap], .int .i64 left] w (SzPost (B.size + (es.length + letters es)) left w) := by
  unfold maxLen at hs
  have hbn : Below w.heap.size w (w.alloc (.cells #[.string B, .slice A es.length cap] 24)) := (Below.refl _ _).alloc (Nat.le_refl _) _
  by_cases h2 : left < B.size
  · have HF : Hid (szv (B.size + (es.length + letters es)) left = -1) := Lib.hid (szv_no (by omega))
    go_enter Tryz.func7, Tryz.ntmps7
    go_wp2
    go_ret
    exact ⟨by rw [HF.out]; rfl, hbn⟩
  obtain ⟨r, hr⟩ : ∃ r : Int, left - B.size = r := ⟨_, rfl⟩
  have HR := Lib.hid hr
  have hr0 : 0 ≤ r := by omega
  have hr1 : r ≤ 1048576 := by omega
  clear hr
  by_cases h3 : ((es.length + letters es : Nat) : Int) ≤ r
  · have HI : Hid (szv (es.length + letters es) r = r - (es.length + letters es : Nat)) := Lib.hid (szv_yes h3)
    obtain ⟨q, hq⟩ : ∃ q : Int, r - (es.length + letters es : Nat) = q := ⟨_, rfl⟩
    have HQ := Lib.hid hq
    have hq0 : 0 ≤ q := by omega
    clear hq h3
    go_enter Tryz.func7, Tryz.ntmps7
    go_wp2_with fail
    rw [HR.out]
    refine (szEdgeS_any A cap es r _ ((hE.below hbn).more hbn.size) hl hS hr0 hr1).mono ?_
    unfold SzPost
    rw [HI.out, HQ.out]
    rintro e w1 ⟨rfl, hb1⟩
    go_wp2_with fail
    go_ret
    refine ⟨?_, hbn.trans (hb1.mono hbn.size)⟩
    have := HR.out; have := HQ.out
    rw [szv_yes (by omega)]
    exact ret_int (by show q = _; omega)
  · have HI : Hid (szv (es.length + letters es) r = -1) := Lib.hid (szv_no (by omega))
    have HF : Hid (szv (B.size + (es.length + letters es)) left = -1) := Lib.hid (szv_no (by have := HR.out; omega))
    clear h3
    go_enter Tryz.func7, Tryz.ntmps7
    go_wp2_with fail
    rw [HR.out]
    refine (szEdgeS_any A cap es r _ ((hE.below hbn).more hbn.size) hl hS hr0 hr1).mono ?_
    unfold SzPost
    rw [HI.out]
    rintro e w1 ⟨rfl, hb1⟩
    go_wp2_with fail
    go_ret
    exact ⟨by rw [HF.out]; rfl, hbn.trans (hb1.mono hbn.size)⟩

end Go.Proofs.YtpeafheljcjlhaaGreat

namespace Go.Proofs.YtpeafheljcjlhaaGreat
theorem letters_mem {es : List (ByteArray × ByteArray)} {e : ByteArray × ByteArray} (h : e ∈ es) : e.1.size + e.2.size ≤ letters es := by
  unfold letters
  induction es with
  | nil => cases h
  | cons a l ih =>
    simp only [List.map_cons, List.sum_cons]
    rcases List.mem_cons.1 h with rfl | h
    · omega
    · have := ih h; omega

end Go.Proofs.YtpeafheljcjlhaaGreat

namespace Go.Proofs.YtpeafheljcjlhaaGreat
open Go.RowKit

/-- laws.toEdge -/
theorem toEdge_any (a b : ByteArray) (w : World) :
    Calls Tryz.prog 54 #[.agg #[.string a, .string b]] w fun e w' => e = .returned (.agg #[.string a, .string b]) ∧ Below w.heap.size w w' := by
  go_enter Tryz.func54, Tryz.ntmps54
  go_wp2
  refine bodyPost_ret (v := .agg #[.string a, .string b]) (by simp [results, Tryz.results54, go_sem]) rfl ⟨rfl, ?_⟩
  repeat (first | exact Below.refl _ _ | (refine Below.setCell ?_ (by simp) _) | (refine Below.alloc ?_ (by simp; try omega) _))

/-- what is handed back: the same edges, in new memory -/
def CopyPost (es : List (ByteArray × ByteArray)) (w : World) (e : Ending) (w' : World) : Prop :=
  ∃ g, e = .returned (.slice (some ⟨g, 0, none⟩) es.length es.length) ∧ w.heap.size ≤ g ∧ EdgesIn w' w'.heap.size (some ⟨g, 0, none⟩) es ∧ Below w.heap.size w w'

/-- .. in a row that is the call's own -/
def CopyRow (es : List (ByteArray × ByteArray)) (w : World) (e : Ending) (w' : World) : Prop :=
  ∃ g, e = .returned (.slice (some ⟨g, 0, none⟩) es.length es.length) ∧ w.heap.size ≤ g ∧ EdgesIn w' w'.heap.size (some ⟨g, 0, none⟩) es ∧ Below w.heap.size w w' ∧ g < w'.heap.size ∧ ∃ f, w'.rowIs g 70 (es.length * 2) f

set_option maxRecDepth 100000 in
set_option maxHeartbeats 2000000 in
/-- laws.toEdgeS -/
theorem toEdgeS_row (A : Option Addr) (cap : Nat) (es : List (ByteArray × ByteArray)) (w : World) (hE : EdgesIn w w.heap.size A es) (hl : es.length ≤ 1099511627776) :
    Calls Tryz.prog 29 #[.slice A es.length cap] w (CopyRow es w) := by
  have hmk := fun W => make_edges es.length hl W
  go_enter Tryz.func29, Tryz.ntmps29
  go_wp2
  clear hmk
  obtain ⟨g, hg⟩ : ∃ g, w.heap.size = g := ⟨_, rfl⟩
  have hrow : ∃ f, (w.alloc (.cells (madeCells #[.string ⟨#[]⟩, .string ⟨#[]⟩] (es.length * 2)) 70)).rowIs g 70 (es.length * 2) f := by
    have h := World.rowIs_alloc w (madeCells #[.string ⟨#[]⟩, .string ⟨#[]⟩] (es.length * 2)) 70 (fun i => (madeCells #[.string ⟨#[]⟩, .string ⟨#[]⟩] (es.length * 2)).getD i undef) (fun i hi => by simp [hi])
    rw [size_madeCells, hg] at h
    exact ⟨_, h⟩
  have hb3 : Below g w (w.alloc (.cells (madeCells #[.string ⟨#[]⟩, .string ⟨#[]⟩] (es.length * 2)) 70)) := (Below.refl _ _).alloc (by omega) _
  have hs3 : (w.alloc (.cells (madeCells #[.string ⟨#[]⟩, .string ⟨#[]⟩] (es.length * 2)) 70)).heap.size = g + 1 := by simp [hg]
  rw [hg] at hE ⊢
  generalize hW3 : w.alloc (.cells (madeCells #[.string ⟨#[]⟩, .string ⟨#[]⟩] (es.length * 2)) 70) = w3 at hrow hb3 hs3 ⊢
  clear hW3
  have HS3 := Lib.hid hs3; have HGG := Lib.hid hg
  clear hs3 hg
  go_loopw [4] (fun i wr => ∃ k : Nat, k ≤ es.length ∧ i = .int .i64 k ∧ Below g w wr ∧ (∃ f, wr.rowIs g 70 (es.length * 2) f) ∧ g < wr.heap.size ∧
    ∀ i, (h : i < es.length) → i < k → wr.cell? ⟨g, i * 2, none⟩ = some (.string es[i].1) ∧ wr.cell? ⟨g, i * 2 + 1, none⟩ = some (.string es[i].2)) (fun i _ => es.length - (intOf i).toNat)
  case atStart => exact ⟨0, Nat.zero_le _, rfl, hb3, hrow, by have := HS3.out; omega, by intro i _ h; omega⟩
  case round =>
    clear hb3 hrow
    obtain ⟨k, hk, rfl, hb, ⟨f, hrow⟩, hz, hcs⟩ := hrel
    have HR := Lib.hid hrow; have HCS := Lib.hid hcs
    clear hrow hcs
    by_cases hlt : k < es.length
    · obtain ⟨eb, eo, rfl, hlow, h1, h2⟩ := (hE.below hb) k hlt
      go_wp2_with (go_at_call 54; refine (toEdge_any _ _ _).mono ?_; rintro e w1 ⟨rfl, hb1⟩; have hr1 := HR.out.of_block (hb1.block g hz); have hst1 := hr1.cell (i := k * 2) (by omega); have hst2 := hr1.cell (i := k * 2 + 1) (by omega); have hsf1 := hr1.frozen (k * 2); have hsf2 := hr1.frozen (k * 2 + 1); have HR1 := Lib.hid hr1; clear hr1; have hz1 := hb1.size)
      have hcsn : ∀ i, (h : i < es.length) → i < k + 1 → ((w1.setCell ⟨g, k * 2, none⟩ (.string es[k].1)).setCell ⟨g, k * 2 + 1, none⟩ (.string es[k].2)).cell? ⟨g, i * 2, none⟩ = some (.string es[i].1) ∧ ((w1.setCell ⟨g, k * 2, none⟩ (.string es[k].1)).setCell ⟨g, k * 2 + 1, none⟩ (.string es[k].2)).cell? ⟨g, i * 2 + 1, none⟩ = some (.string es[i].2) := by
        intro i hi hik
        by_cases hik' : i = k
        · subst hik'
          refine ⟨(World.cell?_setCell_other _ _ _ _ (by intro e; injection e with _ e; omega)).trans (World.cell?_setCell_same' _ _ _ (by rw [hst1]; rfl)), World.cell?_setCell_same' _ _ _ ?_⟩
          rw [World.cell?_setCell_other _ _ _ _ (by intro e; injection e with _ e; omega), hst2]; rfl
        · obtain ⟨q1, q2⟩ := HCS.out i hi (by omega)
          exact ⟨(World.cell?_setCell_other _ _ _ _ (by intro e; injection e with _ e; omega)).trans ((World.cell?_setCell_other _ _ _ _ (by intro e; injection e with _ e; omega)).trans ((hb1.cell hz).trans q1)),
            (World.cell?_setCell_other _ _ _ _ (by intro e; injection e with _ e; omega)).trans ((World.cell?_setCell_other _ _ _ _ (by intro e; injection e with _ e; omega)).trans ((hb1.cell hz).trans q2))⟩
      have HCN := Lib.hid hcsn; clear hcsn hst1 hst2 hsf1 hsf2
      go_roundw
      case rel => exact ⟨k + 1, by omega, by go_num, ((hb.trans (hb1.mono (by omega))).setCell (by simp only; omega) _).setCell (by simp only; omega) _, ⟨_, (HR1.out.set _ _).set _ _⟩, by simp [World.setCell]; omega, HCN.out⟩
      case measure => simp [intOf]; omega
    · go_wp2
      go_ret
      refine ⟨g, rfl, Nat.le_of_eq HGG.out, fun i hi => ⟨g, 0, rfl, hz, ?_, ?_⟩, by rw [HGG.out]; exact hb, hz, ⟨_, HR.out⟩⟩
      · rw [Nat.zero_add]; exact (HCS.out i hi (by omega)).1
      · rw [Nat.zero_add]; exact (HCS.out i hi (by omega)).2
theorem toEdgeS_any (A : Option Addr) (cap : Nat) (es : List (ByteArray × ByteArray)) (w : World) (hE : EdgesIn w w.heap.size A es) (hl : es.length ≤ 1099511627776) :
    Calls Tryz.prog 29 #[.slice A es.length cap] w (CopyPost es w) :=
  (toEdgeS_row A cap es w hE hl).mono fun _ _ ⟨g, a, b, c, d, _⟩ => ⟨g, a, b, c, d⟩

/-- what is handed back: the same net, in new memory -/
def NetPost (B : ByteArray) (es : List (ByteArray × ByteArray)) (w : World) (e : Ending) (w' : World) : Prop :=
  ∃ g, e = .returned (.agg #[.string B, .slice (some ⟨g, 0, none⟩) es.length es.length]) ∧ w.heap.size ≤ g ∧ EdgesIn w' w'.heap.size (some ⟨g, 0, none⟩) es ∧ Below w.heap.size w w'

/-- .. in a row that is the call's own -/
def NetRow (B : ByteArray) (es : List (ByteArray × ByteArray)) (w : World) (e : Ending) (w' : World) : Prop :=
  ∃ g, e = .returned (.agg #[.string B, .slice (some ⟨g, 0, none⟩) es.length es.length]) ∧ w.heap.size ≤ g ∧ EdgesIn w' w'.heap.size (some ⟨g, 0, none⟩) es ∧ Below w.heap.size w w' ∧ g < w'.heap.size ∧ ∃ f, w'.rowIs g 70 (es.length * 2) f

/-- laws.toNet -/
theorem toNet_row (B : ByteArray) (A : Option Addr) (cap : Nat) (es : List (ByteArray × ByteArray)) (w : World) (hE : EdgesIn w w.heap.size A es) (hl : es.length ≤ 1099511627776) :
    Calls Tryz.prog 9 #[.agg #[.string B, .slice A es.length cap]] w (NetRow B es w) := by
  have hb3 : Below w.heap.size w (((w.alloc (.cells #[.string B, .slice A es.length cap] 24)).alloc (.cells #[.string ⟨#[]⟩, .slice none 0 0] 31)).alloc (.cells #[.string B, .slice none 0 0] 31)) :=
    (((Below.refl _ _).alloc (Nat.le_refl _) _).alloc (by simp) _).alloc (by simp; omega) _
  have hs3 : (((w.alloc (.cells #[.string B, .slice A es.length cap] 24)).alloc (.cells #[.string ⟨#[]⟩, .slice none 0 0] 31)).alloc (.cells #[.string B, .slice none 0 0] 31)).heap.size = w.heap.size + 3 := by simp
  have hr1 : (((w.alloc (.cells #[.string B, .slice A es.length cap] 24)).alloc (.cells #[.string ⟨#[]⟩, .slice none 0 0] 31)).alloc (.cells #[.string B, .slice none 0 0] 31)).rowIs (w.heap.size + 1) 31 2 (fun i => if i = 0 then .string ⟨#[]⟩ else .slice none 0 0) := by
    have h := (World.rowIs_alloc (w.alloc (.cells #[.string B, .slice A es.length cap] 24)) #[.string ⟨#[]⟩, .slice none 0 0] 31 (fun i => if i = 0 then .string ⟨#[]⟩ else .slice none 0 0) (fun i hi => by
      match i, hi with
      | 0, _ => rfl
      | 1, _ => rfl)).alloc (.cells #[.string B, .slice none 0 0] 31)
    rwa [World.size_alloc] at h
  have hr2 : (((w.alloc (.cells #[.string B, .slice A es.length cap] 24)).alloc (.cells #[.string ⟨#[]⟩, .slice none 0 0] 31)).alloc (.cells #[.string B, .slice none 0 0] 31)).rowIs (w.heap.size + 1 + 1) 31 2 (fun i => if i = 0 then .string B else .slice none 0 0) := by
    have h := World.rowIs_alloc ((w.alloc (.cells #[.string B, .slice A es.length cap] 24)).alloc (.cells #[.string ⟨#[]⟩, .slice none 0 0] 31)) #[.string B, .slice none 0 0] 31 (fun i => if i = 0 then .string B else .slice none 0 0) (fun i hi => by
      match i, hi with
      | 0, _ => rfl
      | 1, _ => rfl)
    rwa [World.size_alloc, World.size_alloc] at h
  have HR1 := Lib.hid hr1; have HR2 := Lib.hid hr2; have HS3 := Lib.hid hs3; have HB3 := Lib.hid hb3
  clear hr1 hr2 hs3 hb3
  go_enter Tryz.func9, Tryz.ntmps9
  go_wp2_with fail
  refine (toEdgeS_row A cap es _ ((hE.below HB3.out).more HB3.out.size) hl).mono ?_
  rintro e w4 ⟨g, rfl, hg, hE4, hb4, hgl, f, hrow⟩
  have HROW := Lib.hid hrow
  clear hrow
  have HG := Lib.hid hg
  have hw4 : w.heap.size + 3 ≤ g := by have := HS3.out; omega
  have hw5 : w.heap.size + 3 ≤ w4.heap.size := by have := hb4.size; have := HS3.out; omega
  have hq1 := HR1.out.of_block (hb4.block _ (by have := HS3.out; omega))
  have hq2 := HR2.out.of_block (hb4.block _ (by have := HS3.out; omega))
  have h10 := hq1.cell (i := 0) (by omega); have h11 := hq1.cell (i := 1) (by omega)
  have h20 := hq2.cell (i := 0) (by omega); have h21 := hq2.cell (i := 1) (by omega)
  have f10 := hq1.frozen 0; have f11 := hq1.frozen 1; have f20 := hq2.frozen 0; have f21 := hq2.frozen 1
  have HB4 : Hid (Below w.heap.size w w4) := Lib.hid (HB3.out.trans (hb4.mono HB3.out.size))
  simp only [if_true] at h10 h20
  clear hq1 hq2 hb4 hg
  go_wp2_with fail
  refine bodyPost_ret (v := .agg #[.string B, .slice (some ⟨g, 0, none⟩) es.length es.length]) (by simp [results, Tryz.results9, go_sem, h10, h11]) rfl ?_
  have hfar : (((w4.setCell ⟨w.heap.size + 1 + 1, 1, none⟩ (.slice (some ⟨g, 0, none⟩) es.length es.length)).setCell ⟨w.heap.size + 1, 0, none⟩ (.string B)).setCell ⟨w.heap.size + 1, 1, none⟩ (.slice (some ⟨g, 0, none⟩) es.length es.length)).heap[g]? = w4.heap[g]? :=
    (Below.heap_setCell _ _ _ _ (by simp only; omega)).trans ((Below.heap_setCell _ _ _ _ (by simp only; omega)).trans (Below.heap_setCell _ _ _ _ (by simp only; omega)))
  refine ⟨g, rfl, by omega, fun i hi => ?_, ((HB4.out.setCell (by simp only; omega) _).setCell (by simp only; omega) _).setCell (by simp only; omega) _, by simp [World.setCell]; exact hgl, ⟨f, HROW.out.of_block hfar⟩⟩
  obtain ⟨b, o, e, hl', q1, q2⟩ := hE4 i hi
  injection e with e
  injection e with e1 e2 _
  subst e1; subst e2
  exact ⟨g, 0, rfl, by simp [World.setCell]; exact hl', (World.cell?_of_block (a := ⟨g, 0 + i * 2, none⟩) hfar).trans q1, (World.cell?_of_block (a := ⟨g, 0 + i * 2 + 1, none⟩) hfar).trans q2⟩
theorem toNet_any (B : ByteArray) (A : Option Addr) (cap : Nat) (es : List (ByteArray × ByteArray)) (w : World) (hE : EdgesIn w w.heap.size A es) (hl : es.length ≤ 1099511627776) :
    Calls Tryz.prog 9 #[.agg #[.string B, .slice A es.length cap]] w (NetPost B es w) :=
  (toNet_row B A cap es w hE hl).mono fun _ _ ⟨g, a, b, c, d, _⟩ => ⟨g, a, b, c, d⟩

/-! ### the same -/

end Go.Proofs.YtpeafheljcjlhaaGreat
