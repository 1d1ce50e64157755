/- A net turned round. -/
import Derived.Test.YtpeafheljcjlhaaGreatNet1
import Derived.Test.YtpeafheljcjlhaaGreatMem
import Derived.Test.YtpeafheljcjlhaaGreatRegion
import Derived.Deep.OwnRows
namespace Go.Proofs.YtpeafheljcjlhaaGreat
open Go.RowKit

/-- block b holds these bytes, and they may be written -/
def BytesAt (w : World) (b n : Nat) (f : Nat → UInt8) : Prop :=
  (∀ i, i < n → w.cell? ⟨b, i, none⟩ = some (.int .u8 (f i).toNat)) ∧ ∀ i, i < n → w.frozen? ⟨b, i, none⟩ = false

theorem BytesAt.set {w : World} {b n : Nat} {f : Nat → UInt8} (h : BytesAt w b n f) {k : Nat} (hk : k < n) (u : UInt8) : BytesAt (w.setCell ⟨b, k, none⟩ (.int .u8 u.toNat)) b n (fun i => if i = k then u else f i) := by
  refine ⟨fun i hi => ?_, fun i hi => by rw [World.frozen?_setCell]; exact h.2 i hi⟩
  by_cases hik : i = k
  · subst hik
    simp only [if_true]
    exact World.cell?_setCell_same' _ _ _ (by rw [h.1 i hi]; rfl)
  · simp only [hik, if_false]
    rw [World.cell?_setCell_other _ _ _ _ (by intro e; injection e with _ e; exact hik e.symm)]
    exact h.1 i hi

theorem BytesAt.congr {w : World} {b n : Nat} {f g : Nat → UInt8} (h : BytesAt w b n f) (e : ∀ i, i < n → f i = g i) : BytesAt w b n g := ⟨fun i hi => by rw [← e i hi]; exact h.1 i hi, h.2⟩

theorem only_drew_at {a w : World} {row : Option Nat} (h : a.grownBy w row) : a.grownBy w.drew row := ⟨h.os, h.tape, h.output, h.size, h.block⟩
theorem only_setCell_at {a w : World} {g i : Nat} {u : Value} (h : a.grownBy w (some g)) : a.grownBy (w.setCell ⟨g, i, none⟩ u) (some g) :=
  ⟨h.os, h.tape, h.output, by simpa [World.setCell] using h.size, fun k hk hne => (Below.heap_setCell _ _ _ _ (fun e => hne (by rw [e]))).trans (h.block k hk hne)⟩

set_option maxRecDepth 100000 in
set_option maxHeartbeats 2000000 in
/-- slices.Reverse at bytes -/
theorem reverse_any (b n cap : Nat) (f : Nat → UInt8) (w : World) (hr : BytesAt w b n f) (hn : n ≤ 1099511627776) :
    Calls Tryz.prog 118 #[.slice (some ⟨b, 0, none⟩) n cap] w fun e w' => e = .returned (.tuple #[]) ∧ BytesAt w' b n (fun i => f (n - 1 - i)) ∧ w.grownBy w' (some b) := by
  have HR := Lib.hid hr; clear hr
  go_enter Tryz.func118, Tryz.ntmps118
  go_wp2
  go_loopw [2, 3] (fun i j wr => ∃ k : Nat, 2 * k ≤ n + 1 ∧ i = .int .i64 k ∧ j = .int .i64 ((n : Int) - 1 - k) ∧ BytesAt wr b n (fun p => if p < k ∨ n ≤ p + k then f (n - 1 - p) else f p) ∧ w.grownBy wr (some b)) (fun i _ _ => n - (intOf i).toNat)
  case atStart => exact ⟨0, by omega, rfl, by go_num, HR.out.congr (fun i hi => by simp; intro h; omega), World.grownBy.refl w _⟩
  case round =>
    obtain ⟨k, hk, rfl, rfl, hb, hg⟩ := hrel
    by_cases hlt : 2 * k + 1 < n
    · obtain ⟨j, hj⟩ : ∃ j : Nat, (n : Int) - 1 - k = j := ⟨n - 1 - k, by omega⟩
      rw [hj]
      have hjk : k < j := by omega
      have hjn : j < n := by omega
      have hkn : k < n := by omega
      have hck : wr.cell? ⟨b, k, none⟩ = some (.int .u8 (f k).toNat) := by have := hb.1 k hkn; simp only at this; rwa [if_neg (by omega)] at this
      have hcj : wr.cell? ⟨b, j, none⟩ = some (.int .u8 (f j).toNat) := by have := hb.1 j hjn; simp only at this; rwa [if_neg (by omega)] at this
      have hfk := hb.2 k hkn
      have hfj := hb.2 j hjn
      have HJ := Lib.hid hj; have HB := Lib.hid hb; have HG := Lib.hid hg
      clear hj hb hg
      go_wp2
      go_region
      go_wp2
      go_roundw
      case rel =>
        have h1 := (HB.out.set hkn (f j)).set hjn (f k)
        have h2 := HJ.out
        refine ⟨k + 1, by omega, by go_num, by rw [show ((j : Int) - 1) = (n : Int) - 1 - ((k + 1 : Nat) : Int) by omega], BytesAt.congr (w := _) h1 (fun i hi => ?_), only_drew_at (only_setCell_at (only_setCell_at HG.out))⟩
        by_cases hij : i = j
        · subst hij
          simp only [if_true]
          rw [if_pos (by omega)]; congr 1; omega
        · by_cases hik : i = k
          · subst hik
            simp only [hij, if_false, if_true]
            rw [if_pos (by omega)]; congr 1; omega
          · simp only [hij, hik, if_false]
            by_cases hc : i < k ∨ n ≤ i + k
            · rw [if_pos hc, if_pos (by omega)]
            · rw [if_neg hc, if_neg (by omega)]
      case measure => simp [intOf]; omega
    · go_wp2
      go_end0
      refine ⟨rfl, hb.congr fun i hi => ?_, hg⟩
      by_cases hc : i < k ∨ n ≤ i + k
      · rw [if_pos hc]
      · rw [if_neg hc]; congr 1; omega

/-- '[]byte(s)' -/
theorem bytes_of_string (B : ByteArray) (W : World) : ∃ cap1 w1, (convert 9 93 (.string B)).run Tryz.prog W = .ok (.slice (some ⟨W.heap.size, 0, none⟩) B.size cap1) w1 ∧
    BytesAt w1 W.heap.size B.size (fun i => B.data.toList.getD i 0) ∧ Below W.heap.size W w1 ∧ w1.heap.size = W.heap.size + 1 := by
  refine ⟨_, _, run_bytes_of_string W 9 93 5 B Tryz.underlying9 Tryz.underlying93 Tryz.underlying5, ⟨fun i hi => ?_, fun i hi => ?_⟩, (Below.refl _ _).drew.alloc (Nat.le_refl _) _, by simp⟩
  · have hh := heap_alloc_new W.drew (.cells (bytesRow B (grownCap W B.size 0 5)) 5 ((bytesRow B (grownCap W B.size 0 5)).size, (bytesRow B (grownCap W B.size 0 5)).size + 1))
    have hh' : (W.drew.alloc (.cells (bytesRow B (grownCap W B.size 0 5)) 5 ((bytesRow B (grownCap W B.size 0 5)).size, (bytesRow B (grownCap W B.size 0 5)).size + 1))).heap[W.heap.size]? = some (.cells (bytesRow B (grownCap W B.size 0 5)) 5 ((bytesRow B (grownCap W B.size 0 5)).size, (bytesRow B (grownCap W B.size 0 5)).size + 1)) := hh
    simp only [World.cell?, hh']
    have hi' : i < B.data.size := hi
    rw [bytesRow, Array.getElem?_append_left (by simpa using hi')]
    rw [Array.getElem?_map, Array.getElem?_eq_getElem hi']
    simp [List.getD, Array.getElem?_eq_getElem hi']
  · have hh := heap_alloc_new W.drew (.cells (bytesRow B (grownCap W B.size 0 5)) 5 ((bytesRow B (grownCap W B.size 0 5)).size, (bytesRow B (grownCap W B.size 0 5)).size + 1))
    have hh' : (W.drew.alloc (.cells (bytesRow B (grownCap W B.size 0 5)) 5 ((bytesRow B (grownCap W B.size 0 5)).size, (bytesRow B (grownCap W B.size 0 5)).size + 1))).heap[W.heap.size]? = some (.cells (bytesRow B (grownCap W B.size 0 5)) 5 ((bytesRow B (grownCap W B.size 0 5)).size, (bytesRow B (grownCap W B.size 0 5)).size + 1)) := hh
    have hi' : i < B.data.size := hi
    simp only [World.frozen?, hh']
    have hsz : i < (bytesRow B (grownCap W B.size 0 5)).size := by simp [bytesRow]; omega
    simp; intro h; omega

/-- what is handed back -/
def TurnPost (B : ByteArray) (es : List (ByteArray × ByteArray)) (w : World) (e : Ending) (w' : World) : Prop :=
  ∃ (rb : ByteArray) (g : Nat), e = .returned (.agg #[.string rb, .slice (some ⟨g, 0, none⟩) es.length es.length]) ∧ rb.data.toList = B.data.toList.reverse ∧ w.heap.size ≤ g ∧
    EdgesIn w' w'.heap.size (some ⟨g, 0, none⟩) (es.map fun e => (e.2, e.1)) ∧ Below w.heap.size w w'

/-- .. in a row that is the call's own -/
def TurnRow (B : ByteArray) (es : List (ByteArray × ByteArray)) (w : World) (e : Ending) (w' : World) : Prop :=
  ∃ (rb : ByteArray) (g : Nat), e = .returned (.agg #[.string rb, .slice (some ⟨g, 0, none⟩) es.length es.length]) ∧ rb.data.toList = B.data.toList.reverse ∧ w.heap.size ≤ g ∧
    EdgesIn w' w'.heap.size (some ⟨g, 0, none⟩) (es.map fun e => (e.2, e.1)) ∧ Below w.heap.size w w' ∧ g < w'.heap.size ∧ ∃ f, w'.rowIs g 70 (es.length * 2) f

set_option maxRecDepth 100000 in
set_option maxHeartbeats 2000000 in
/-- impl.turned -/
theorem turned_row (B : ByteArray) (A : Option Addr) (cap : Nat) (es : List (ByteArray × ByteArray)) (w : World) (hs : B.size ≤ 1099511627776) (hE : EdgesIn w w.heap.size A es) (hl : es.length ≤ 1099511627776) :
    Calls Tryz.prog 92 #[.agg #[.string B, .slice A es.length cap]] w (TurnRow B es w) := by
  have hmk := fun W => make_edges es.length hl W
  obtain ⟨cap1, w1, hcv, hby, hb1, hs1⟩ := bytes_of_string B ((w.alloc (.cells #[.string B, .slice A es.length cap] 31)).alloc (.cells #[.string ⟨#[]⟩, .slice none 0 0] 31))
  have hbB : Below w.heap.size w ((w.alloc (.cells #[.string B, .slice A es.length cap] 31)).alloc (.cells #[.string ⟨#[]⟩, .slice none 0 0] 31)) := ((Below.refl _ w).alloc (Nat.le_refl _) _).alloc (by simp) _
  have hc1 : ((w.alloc (.cells #[.string B, .slice A es.length cap] 31)).alloc (.cells #[.string ⟨#[]⟩, .slice none 0 0] 31)).cell? ⟨w.heap.size, 1, none⟩ = some (.slice A es.length cap) := by go_simp
  have hc2 : ((w.alloc (.cells #[.string B, .slice A es.length cap] 31)).alloc (.cells #[.string ⟨#[]⟩, .slice none 0 0] 31)).rowIs (w.heap.size + 1) 31 2 (fun i => if i = 0 then .string ⟨#[]⟩ else .slice none 0 0) := by
    have h := World.rowIs_alloc (w.alloc (.cells #[.string B, .slice A es.length cap] 31)) #[.string ⟨#[]⟩, .slice none 0 0] 31 (fun i => if i = 0 then .string ⟨#[]⟩ else .slice none 0 0) (fun i hi => by
      match i, hi with
      | 0, _ => rfl
      | 1, _ => rfl)
    rwa [World.size_alloc] at h
  have hsz : ((w.alloc (.cells #[.string B, .slice A es.length cap] 31)).alloc (.cells #[.string ⟨#[]⟩, .slice none 0 0] 31)).heap.size = w.heap.size + 2 := by simp
  go_enter Tryz.func92, Tryz.ntmps92
  rw [hsz] at hby hb1 hs1
  have hc1' := (hb1.cell (p := ⟨w.heap.size, 1, none⟩) (by simp only; omega)).trans hc1
  have hc2' := hc2.of_block (hb1.block (w.heap.size + 1) (by omega))
  have hbw1 : Below w.heap.size w w1 := hbB.trans (hb1.mono (by omega))
  have HC2 := Lib.hid hc2'; have HBY := Lib.hid hby; have HB1 := Lib.hid hbw1; have HS1 := Lib.hid hs1
  clear hc1 hc2 hc2' hbB hb1 hby hbw1 hs1
  go_wp2_with fail
  clear hcv hsz
  refine (reverse_any (w.heap.size + 2) B.size cap1 _ w1 HBY.out hs).mono ?_
  rintro e w2 ⟨rfl, hby2, hg2⟩
  have hne : ∀ c, c ≠ w.heap.size + 2 → some c ≠ some (w.heap.size + 2) := fun c h e => h (by injection e)
  have hd1 : w2.cell? ⟨w.heap.size, 1, none⟩ = some (.slice A es.length cap) := hg2.cell hc1' (hne _ (by simp only; omega))
  have hd2 := HC2.out.of_block (hg2.block (w.heap.size + 1) HC2.out.lt (hne _ (by omega)))
  have hb2 : Below w.heap.size w w2 := HB1.out.grown hg2 HB1.out.size (fun k e => by injection e with e; omega)
  have hs2 : w.heap.size + 2 < w2.heap.size := by have := hg2.size; have := HS1.out; omega
  have HD2 := Lib.hid hd2; have HBY2 := Lib.hid hby2; have HB2 := Lib.hid hb2
  clear hc1' hg2 hne hby2 hd2 hb2
  obtain ⟨bb, hbb⟩ : ∃ bb, w.heap.size + 2 = bb := ⟨_, rfl⟩
  rw [hbb] at HBY2 hs2 ⊢
  have hbb1 : w.heap.size + 1 < bb := by omega
  clear hbb
  have he1 : (w2.alloc (.cells (madeCells #[.string ⟨#[]⟩, .string ⟨#[]⟩] (es.length * 2)) 70)).cell? ⟨w.heap.size, 1, none⟩ = some (.slice A es.length cap) := by rw [World.cell?_alloc_lt _ _ _ (by simp only; omega)]; exact hd1
  go_wp2
  clear hmk
  obtain ⟨g, hg⟩ : ∃ g, w2.heap.size = g := ⟨_, rfl⟩
  have hrow : ∃ f, (w2.alloc (.cells (madeCells #[.string ⟨#[]⟩, .string ⟨#[]⟩] (es.length * 2)) 70)).rowIs g 70 (es.length * 2) f := by
    have h := World.rowIs_alloc w2 (madeCells #[.string ⟨#[]⟩, .string ⟨#[]⟩] (es.length * 2)) 70 (fun i => (madeCells #[.string ⟨#[]⟩, .string ⟨#[]⟩] (es.length * 2)).getD i undef) (fun i hi => by simp [hi])
    rw [size_madeCells, hg] at h
    exact ⟨_, h⟩
  have hb3 : Below w.heap.size w (w2.alloc (.cells (madeCells #[.string ⟨#[]⟩, .string ⟨#[]⟩] (es.length * 2)) 70)) := HB2.out.alloc HB2.out.size _
  have hs3 : (w2.alloc (.cells (madeCells #[.string ⟨#[]⟩, .string ⟨#[]⟩] (es.length * 2)) 70)).heap.size = g + 1 := by simp [hg]
  have hd3 := HD2.out.alloc (.cells (madeCells #[.string ⟨#[]⟩, .string ⟨#[]⟩] (es.length * 2)) 70)
  have hby3 : BytesAt (w2.alloc (.cells (madeCells #[.string ⟨#[]⟩, .string ⟨#[]⟩] (es.length * 2)) 70)) bb B.size (fun i => B.data.toList.getD (B.size - 1 - i) 0) :=
    ⟨fun i hi => (World.cell?_alloc_lt _ _ _ (by simp only; omega)).trans (HBY2.out.1 i hi), fun i hi => (World.frozen?_of_block (Below.heap_alloc _ _ _ (by simp only; omega))).trans (HBY2.out.2 i hi)⟩
  rw [hg] at hs2 ⊢
  generalize hW3 : w2.alloc (.cells (madeCells #[.string ⟨#[]⟩, .string ⟨#[]⟩] (es.length * 2)) 70) = w3 at hrow hb3 hs3 hd3 hby3 he1 ⊢
  clear hW3 hg hd1 HD2 HBY2 HB2
  have HS3 := Lib.hid hs3; clear hs3
  go_loopw [19] (fun i wr => ∃ k : Nat, k ≤ es.length ∧ i = .int .i64 k ∧ Below w.heap.size w wr ∧ wr.cell? ⟨w.heap.size, 1, none⟩ = some (.slice A es.length cap) ∧ wr.rowIs (w.heap.size + 1) 31 2 (fun i => if i = 0 then .string ⟨#[]⟩ else .slice none 0 0) ∧
    BytesAt wr bb B.size (fun i => B.data.toList.getD (B.size - 1 - i) 0) ∧ (∃ f, wr.rowIs g 70 (es.length * 2) f) ∧ g < wr.heap.size ∧
    ∀ i, (h : i < es.length) → i < k → wr.cell? ⟨g, i * 2, none⟩ = some (.string es[i].2) ∧ wr.cell? ⟨g, i * 2 + 1, none⟩ = some (.string es[i].1)) (fun i _ => es.length - (intOf i).toNat)
  case atStart => exact ⟨0, Nat.zero_le _, rfl, hb3, he1, hd3, hby3, hrow, by have := HS3.out; omega, by intro i _ h; omega⟩
  case round =>
    clear hb3 he1 hd3 hby3 hrow
    obtain ⟨k, hk, rfl, hb, hc1, hd, hby, ⟨f, hrow⟩, hz, hcs⟩ := hrel
    have HD := Lib.hid hd; have HBY := Lib.hid hby; have HR := Lib.hid hrow; have HCS := Lib.hid hcs
    clear hd hby hrow hcs
    by_cases hlt : k < es.length
    · obtain ⟨eb, eo, rfl, hlow, h1, h2⟩ := (hE.below hb) k hlt
      have hst1 : wr.cell? ⟨g, k * 2, none⟩ = some (f (k * 2)) := HR.out.cell (by omega)
      have hst2 : wr.cell? ⟨g, k * 2 + 1, none⟩ = some (f (k * 2 + 1)) := HR.out.cell (by omega)
      have hsf1 : wr.frozen? ⟨g, k * 2, none⟩ = false := HR.out.frozen _
      have hsf2 : wr.frozen? ⟨g, k * 2 + 1, none⟩ = false := HR.out.frozen _
      have hfar : ∀ c, c < wr.heap.size → c ≠ g → (((wr.setCell ⟨g, k * 2, none⟩ (.string es[k].2)).setCell ⟨g, k * 2 + 1, none⟩ (.string es[k].1)).alloc (.cells #[.string es[k].1, .string es[k].2] 70)).heap[c]? = wr.heap[c]? := fun c hc hne =>
        (Below.heap_alloc _ _ _ (by simp [World.setCell]; omega)).trans ((Below.heap_setCell _ _ _ _ hne).trans (Below.heap_setCell _ _ _ _ hne))
      have hin : ∀ o, (((wr.setCell ⟨g, k * 2, none⟩ (.string es[k].2)).setCell ⟨g, k * 2 + 1, none⟩ (.string es[k].1)).alloc (.cells #[.string es[k].1, .string es[k].2] 70)).cell? ⟨g, o, none⟩ = ((wr.setCell ⟨g, k * 2, none⟩ (.string es[k].2)).setCell ⟨g, k * 2 + 1, none⟩ (.string es[k].1)).cell? ⟨g, o, none⟩ := fun o => World.cell?_alloc_lt _ _ _ (by simp [World.setCell]; omega)
      have hcsn : ∀ i, (h : i < es.length) → i < k + 1 → (((wr.setCell ⟨g, k * 2, none⟩ (.string es[k].2)).setCell ⟨g, k * 2 + 1, none⟩ (.string es[k].1)).alloc (.cells #[.string es[k].1, .string es[k].2] 70)).cell? ⟨g, i * 2, none⟩ = some (.string es[i].2) ∧ (((wr.setCell ⟨g, k * 2, none⟩ (.string es[k].2)).setCell ⟨g, k * 2 + 1, none⟩ (.string es[k].1)).alloc (.cells #[.string es[k].1, .string es[k].2] 70)).cell? ⟨g, i * 2 + 1, none⟩ = some (.string es[i].1) := by
        intro i hi hik
        rw [hin, hin]
        by_cases hik' : i = k
        · subst hik'
          refine ⟨(World.cell?_setCell_other _ _ _ _ (by intro e; injection e with _ e; omega)).trans (World.cell?_setCell_same' _ _ _ (by rw [hst1]; rfl)), World.cell?_setCell_same' _ _ _ ?_⟩
          rw [World.cell?_setCell_other _ _ _ _ (by intro e; injection e with _ e; omega), hst2]; rfl
        · obtain ⟨q1, q2⟩ := HCS.out i hi (by omega)
          exact ⟨(World.cell?_setCell_other _ _ _ _ (by intro e; injection e with _ e; omega)).trans ((World.cell?_setCell_other _ _ _ _ (by intro e; injection e with _ e; omega)).trans q1),
            (World.cell?_setCell_other _ _ _ _ (by intro e; injection e with _ e; omega)).trans ((World.cell?_setCell_other _ _ _ _ (by intro e; injection e with _ e; omega)).trans q2)⟩
      have HFAR := Lib.hid hfar; have HCN := Lib.hid hcsn
      clear hfar hin hcsn
      go_wp2
      go_roundw
      case rel => exact ⟨k + 1, by omega, by go_num, ((hb.setCell (by simp only; omega) _).setCell (by simp only; omega) _).alloc (by simp [World.setCell]; have := hb.size; omega) _, (World.cell?_of_block (a := ⟨w.heap.size, 1, none⟩) (HFAR.out w.heap.size (by omega) (by omega))).trans hc1, HD.out.of_block (HFAR.out _ (by omega) (by omega)),
        ⟨fun i hi => (World.cell?_of_block (a := ⟨bb, i, none⟩) (HFAR.out bb (by omega) (by omega))).trans (HBY.out.1 i hi), fun i hi => (World.frozen?_of_block (a := ⟨bb, i, none⟩) (HFAR.out bb (by omega) (by omega))).trans (HBY.out.2 i hi)⟩,
        ⟨_, ((HR.out.set _ _).set _ _).alloc _⟩, by simp [World.setCell]; omega, HCN.out⟩
      case measure => simp [intOf]; omega
    · have hback : (convert 93 9 (.slice (some ⟨bb, 0, none⟩) B.size cap1)).run Tryz.prog wr = .ok (.string ⟨B.data.toList.reverse.toArray⟩) wr := by
        have h := run_convert_bytes_back (P := Tryz.prog) wr 93 9 5 ⟨bb, 0, none⟩ cap1 B.data.toList.reverse Tryz.underlying93 Tryz.underlying5 Tryz.underlying9 (fun j hj => by
          have hj' : j < B.size := by simpa using hj
          have := HBY.out.1 j hj'
          have e1 : (⟨bb, 0, none⟩ : Addr).add j = ⟨bb, j, none⟩ := by simp [Addr.add_lit]
          rw [e1, this]
          have hlt' : B.size - 1 - j < B.data.size := by have : B.data.size = B.size := rfl; omega
          simp [List.getD, List.getElem_reverse, Array.getElem?_eq_getElem hlt'])
        simpa using h
      have hd0 := HD.out.cell (i := 0) (by omega)
      have hd1 := HD.out.cell (i := 1) (by omega)
      have hf0 := HD.out.frozen 0
      have hf1 := HD.out.frozen 1
      have hfar : ∀ c, c ≠ w.heap.size + 1 → ((wr.setCell ⟨w.heap.size + 1, 0, none⟩ (.string ⟨B.data.toList.reverse.toArray⟩)).setCell ⟨w.heap.size + 1, 1, none⟩ (.slice (some ⟨g, 0, none⟩) es.length es.length)).heap[c]? = wr.heap[c]? := fun c hne =>
        (Below.heap_setCell _ _ _ _ hne).trans (Below.heap_setCell _ _ _ _ hne)
      have HFAR := Lib.hid hfar; clear hfar
      have hcs := HCS.out
      have HCS2 := Lib.hid hcs; clear hcs
      go_wp2
      refine bodyPost_ret (v := .agg #[.string ⟨B.data.toList.reverse.toArray⟩, .slice (some ⟨g, 0, none⟩) es.length es.length]) (by simp [results, Tryz.results92, go_sem, hd0, hd1]) rfl ?_
      refine ⟨_, g, rfl, by simp, by omega, fun i hi => ⟨g, 0, rfl, by simp [World.setCell]; omega, ?_, ?_⟩, (hb.setCell (by simp only; omega) _).setCell (by simp only; omega) _, by simp [World.setCell]; omega, ⟨_, HR.out.of_block (HFAR.out g (by omega))⟩⟩
      · have hi' : i < es.length := by simpa using hi
        have h := (HCS2.out i hi' (by omega)).1
        simp only [Nat.zero_add, List.getElem_map]
        exact (World.cell?_of_block (a := ⟨g, i * 2, none⟩) (HFAR.out g (by omega))).trans h
      · have hi' : i < es.length := by simpa using hi
        have h := (HCS2.out i hi' (by omega)).2
        simp only [Nat.zero_add, List.getElem_map]
        exact (World.cell?_of_block (a := ⟨g, i * 2 + 1, none⟩) (HFAR.out g (by omega))).trans h

theorem turned_any (B : ByteArray) (A : Option Addr) (cap : Nat) (es : List (ByteArray × ByteArray)) (w : World) (hs : B.size ≤ 1099511627776) (hE : EdgesIn w w.heap.size A es) (hl : es.length ≤ 1099511627776) :
    Calls Tryz.prog 92 #[.agg #[.string B, .slice A es.length cap]] w (TurnPost B es w) :=
  (turned_row B A cap es w hs hE hl).mono fun _ _ ⟨rb, g, a, b, c, d, e, _⟩ => ⟨rb, g, a, b, c, d, e⟩

end Go.Proofs.YtpeafheljcjlhaaGreat
