/- Marks in memory; what the laws call on them: sizes, copies, the same marks. -/
import Derived.Test.YtgenhkmlnflnfaaDoorProg
import Derived.Test.YtgenhkmlnflnfaaDoorRegion
import Derived.WalkSpells
import Derived.Deep.OwnRows
import Derived.Lib.Hide
namespace Go.Proofs.YtgenhkmlnflnfaaDoor
open Go.RowKit

theorem rtI {a b : Int} (h : a = b) : Ending.returned (.int .i64 a) = .returned (.int .i64 b) := by rw [h]
theorem rtB {a b : Bool} (h : a = b) : Ending.returned (.bool a) = .returned (.bool b) := by rw [h]

/-- a mark: what is done, a number, whether something is counted -/
abbrev Mk := ByteArray × Int × Bool
abbrev mkV (m : Mk) : Value := .agg #[.string m.1, .int .i64 m.2.1, .bool m.2.2]

/-- marks as they lie in memory -/
def MarksIn (w : World) (D : Nat) (A : Option Addr) (ms : List Mk) : Prop :=
  ∀ k, (h : k < ms.length) → ∃ b o, A = some ⟨b, o, none⟩ ∧ b < D ∧ w.cell? ⟨b, o + k * 3, none⟩ = some (.string ms[k].1) ∧ w.cell? ⟨b, o + k * 3 + 1, none⟩ = some (.int .i64 ms[k].2.1) ∧ w.cell? ⟨b, o + k * 3 + 2, none⟩ = some (.bool ms[k].2.2)
theorem MarksIn.below {w w' : World} {B : Nat} {A : Option Addr} {ms : List Mk} (h : MarksIn w B A ms) (hb : Below B w w') : MarksIn w' B A ms := by
  intro k hk
  obtain ⟨b, o, e, hl, h1, h2, h3⟩ := h k hk
  exact ⟨b, o, e, hl, (hb.cell hl).trans h1, (hb.cell hl).trans h2, (hb.cell hl).trans h3⟩
theorem MarksIn.more {w : World} {B B' : Nat} {A : Option Addr} {ms : List Mk} (h : MarksIn w B A ms) (hb : B ≤ B') : MarksIn w B' A ms := by
  intro k hk
  obtain ⟨b, o, e, hl, h1, h2, h3⟩ := h k hk
  exact ⟨b, o, e, by omega, h1, h2, h3⟩
theorem MarksIn.low {W W' : World} {B : Nat} {row : Option Nat} {A : Option Addr} {ms : List Mk} (h : MarksIn W B A ms) (k : W.grownBy W' row) (hB : B ≤ W.heap.size) (hr : ∀ c, c < B → some c ≠ row) : MarksIn W' B A ms := by
  intro i hi
  obtain ⟨b, o, e, hl, h1, h2, h3⟩ := h i hi
  exact ⟨b, o, e, hl, (World.cell?_of_block (k.block b (by omega) (hr b hl))).trans h1, (World.cell?_of_block (k.block b (by omega) (hr b hl))).trans h2, (World.cell?_of_block (k.block b (by omega) (hr b hl))).trans h3⟩
theorem MarksIn.grown_low {W W' : World} {B : Nat} {row : Option Nat} {A : Option Addr} {ms : List Mk} (h : MarksIn W B A ms) (k : W.grownBy W' row) (hB : B ≤ W.heap.size) (hr : ∀ a, A = some a → some a.block ≠ row) : MarksIn W' B A ms := by
  intro i hi
  obtain ⟨b, o, e, hl, h1, h2, h3⟩ := h i hi
  exact ⟨b, o, e, hl, (World.cell?_of_block (k.block b (by omega) (hr _ e))).trans h1, (World.cell?_of_block (k.block b (by omega) (hr _ e))).trans h2, (World.cell?_of_block (k.block b (by omega) (hr _ e))).trans h3⟩

/-- what is left, -1 if it is too little -/
def szm (k : Nat) (left : Int) : Int := if (k : Int) ≤ left then left - k else -1
theorem szm_no {k : Nat} {left : Int} (h : left < k) : szm k left = -1 := if_neg (by omega)
theorem szm_yes {k : Nat} {left : Int} (h : (k : Int) ≤ left) : szm k left = left - k := if_pos h
def SzM (k : Nat) (left : Int) (w : World) (e : Ending) (w' : World) : Prop := e = .returned (.int .i64 (szm k left)) ∧ Below w.heap.size w w'

/-- laws.szMark -/
theorem szMark_any (a : ByteArray) (n : Int) (c : Bool) (left : Int) (w : World) (ha : a.size ≤ maxLen) (h0 : 0 ≤ left) (h1 : left ≤ 1048576) :
    Calls Tryd.prog 9 #[.agg #[.string a, .int .i64 n, .bool c], .int .i64 left] w fun e w' => e = .returned (.int .i64 (szm a.size left)) ∧ Below w.heap.size w w' := by
  unfold maxLen at ha
  by_cases h2 : left < a.size
  · rw [szm_no h2]
    go_enter Tryd.func9, Tryd.ntmps9
    go_wp2
    go_ret
    exact ⟨rfl, (Below.refl _ _).alloc (Nat.le_refl _) _⟩
  · rw [szm_yes (by omega)]
    go_enter Tryd.func9, Tryd.ntmps9
    go_wp2
    go_ret
    exact ⟨rfl, (Below.refl _ _).alloc (Nat.le_refl _) _⟩

/-- the letters of marks -/
def lettersM (ms : List Mk) : Nat := (ms.map fun m => m.1.size).sum
theorem lettersM_take {ms : List Mk} {k : Nat} (h : k < ms.length) : lettersM (ms.take (k + 1)) = lettersM (ms.take k) + ms[k].1.size := by
  unfold lettersM
  rw [List.take_succ_eq_append_getElem h]
  simp only [List.map_append, List.sum_append, List.map_cons, List.map_nil, List.sum_cons, List.sum_nil, Nat.add_zero]
theorem lettersM_le (ms : List Mk) (k : Nat) : lettersM (ms.take k) ≤ lettersM ms := by
  unfold lettersM
  have h : (ms.map fun m => m.1.size) = ((ms.take k).map fun m => m.1.size) ++ ((ms.drop k).map fun m => m.1.size) := by rw [← List.map_append, List.take_append_drop]
  rw [h, List.sum_append]; omega
theorem lettersM_mem {ms : List Mk} {m : Mk} (h : m ∈ ms) : m.1.size ≤ lettersM ms := by
  unfold lettersM
  induction ms with
  | nil => cases h
  | cons a l ih =>
    simp only [List.map_cons, List.sum_cons]
    rcases List.mem_cons.1 h with rfl | h
    · omega
    · have := ih h; omega

/-- laws.szMarkS -/
theorem szMarkS_any (A : Option Addr) (cap : Nat) (ms : List Mk) (left : Int) (w : World) (hE : MarksIn w w.heap.size A ms) (hl : ms.length ≤ maxLen) (hS : ∀ m ∈ ms, m.1.size ≤ maxLen) (h0 : 0 ≤ left) (h1 : left ≤ 1048576) :
    Calls Tryd.prog 4 #[.slice A ms.length cap, .int .i64 left] w (SzM (ms.length + lettersM ms) left w) := by
  have HL := Lib.hid hl
  unfold maxLen at hl
  by_cases h2 : left < ms.length
  · have HF : Hid (szm (ms.length + lettersM ms) left = -1) := Lib.hid (szm_no (by omega))
    go_enter Tryd.func4, Tryd.ntmps4
    go_wp2
    go_ret
    exact ⟨by rw [HF.out]; rfl, Below.refl _ _⟩
  go_enter Tryd.func4, Tryd.ntmps4
  go_wp2
  go_loopw [1, 5] (fun v i wr => ∃ k : Nat, k ≤ ms.length ∧ i = .int .i64 k ∧ 0 ≤ left - ms.length - lettersM (ms.take k) ∧ v = .int .i64 (left - ms.length - lettersM (ms.take k)) ∧ Below w.heap.size w wr) (fun _ i _ => ms.length - (intOf i).toNat)
  case atStart => exact ⟨0, Nat.zero_le _, rfl, by simp [lettersM]; omega, by simp [lettersM], Below.refl _ _⟩
  case round =>
    obtain ⟨k, hk, rfl, hp, rfl, hb⟩ := hrel
    by_cases hlt : k < ms.length
    · obtain ⟨eb, eo, rfl, hlow, q1, q2, q3⟩ := (hE.below hb) k hlt
      have s1 := hS ms[k] (List.getElem_mem hlt)
      have hlet := lettersM_take hlt
      have HLET := Lib.hid hlet; clear hlet
      have hlk : 0 ≤ (lettersM (ms.take k) : Int) := by omega
      obtain ⟨r, hr⟩ : ∃ r : Int, left - ms.length - lettersM (ms.take k) = r := ⟨_, rfl⟩
      rw [hr] at hp ⊢
      have HR := Lib.hid hr
      have hr1 : r ≤ 1048576 := by omega
      clear hr
      by_cases hfit : (ms[k].1.size : Int) ≤ r
      · have HIF : Hid (szm ms[k].1.size r = r - ms[k].1.size) := Lib.hid (if_pos hfit)
        obtain ⟨r', hr'⟩ : ∃ r' : Int, r - ms[k].1.size = r' := ⟨_, rfl⟩
        have HR' := Lib.hid hr'
        have hr0 : 0 ≤ r' := by omega
        clear hr' hfit
        go_wp2_with (go_at_call 9; refine (szMark_any _ _ _ _ _ s1 hp hr1).mono ?_; rw [HIF.out, HR'.out]; rintro e w1 ⟨rfl, hb1⟩)
        go_roundw
        case rel =>
          have e1 : left - ms.length - lettersM (ms.take (k + 1)) = r' := by have := HLET.out; have := HR.out; have := HR'.out; omega
          exact ⟨k + 1, by omega, by go_num, by rw [e1]; exact hr0, by rw [e1], hb.trans (hb1.mono hb.size)⟩
        case measure => simp [intOf]; omega
      · have HIF : Hid (szm ms[k].1.size r = -1) := Lib.hid (if_neg hfit)
        have HF : Hid (szm (ms.length + lettersM ms) left = -1) := Lib.hid (szm_no (by
          have := HLET.out; have := HR.out; have := lettersM_le ms (k + 1); omega))
        clear hfit
        go_wp2_with (go_at_call 9; refine (szMark_any _ _ _ _ _ s1 hp hr1).mono ?_; rw [HIF.out]; rintro e w1 ⟨rfl, hb1⟩)
        go_ret
        exact ⟨by rw [HF.out]; rfl, hb.trans (hb1.mono hb.size)⟩
    · have HK : Hid (lettersM (ms.take k) = lettersM ms) := Lib.hid (by rw [List.take_of_length_le (by omega)])
      obtain ⟨r, hr⟩ : ∃ r : Int, left - ms.length - lettersM (ms.take k) = r := ⟨_, rfl⟩
      rw [hr] at hp ⊢
      have HR := Lib.hid hr
      clear hr
      go_wp2
      go_ret
      refine ⟨?_, hb⟩
      have := HR.out; have := HK.out
      rw [szm_yes (by omega)]
      exact rtI (by show r = _; omega)

/-- laws.toMark -/
theorem toMark_any (a : ByteArray) (n : Int) (c : Bool) (w : World) :
    Calls Tryd.prog 11 #[.agg #[.string a, .int .i64 n, .bool c]] w fun e w' => e = .returned (.agg #[.string a, .int .i64 n, .bool c]) ∧ Below w.heap.size w w' := by
  go_enter Tryd.func11, Tryd.ntmps11
  go_wp2
  refine bodyPost_ret (v := .agg #[.string a, .int .i64 n, .bool c]) (by simp [results, Tryd.results11, go_sem]) rfl ⟨rfl, ?_⟩
  repeat (first | exact Below.refl _ _ | (refine Below.setCell ?_ (by simp) _) | (refine Below.alloc ?_ (by simp; try omega) _))

theorem markInfo : (Tryd.prog.info? 32).map (fun i => (i.zero, i.size, i.bytes)) = some (some (.agg #[.string ⟨#[]⟩, .int .i64 0, .bool false]), 3, 32) := by kernel_rfl
theorem make_marks (n : Nat) (hn : n ≤ 1099511627776) (W : World) : (Instr.makeSlice 25 (.int .i64 (n : Int)) (.int .i64 (n : Int))).run Tryd.prog W =
    .ok (.slice (some ⟨W.heap.size, 0, none⟩) n n) (W.alloc (.cells (madeCells #[.string ⟨#[]⟩, .int .i64 0, .bool false] (n * 3)) 32)) := by
  obtain ⟨i0, hi, hz0, hz1, hz2⟩ := info_parts markInfo
  have h := run_make (P := Tryd.prog) W 25 _ i0 _ Tryd.underlying25 hi hz0 .i64 .i64 (n : Int) (n : Int) (by omega) (by omega) (by rw [hz2]; omega) (by omega)
  rw [hz1] at h
  simp only [Int.toNat_natCast] at h
  exact h

/-- what is handed back: the same marks, in a row that is the call's own -/
def MkRow (ms : List Mk) (w : World) (e : Ending) (w' : World) : Prop :=
  ∃ g, e = .returned (.slice (some ⟨g, 0, none⟩) ms.length ms.length) ∧ w.heap.size ≤ g ∧ MarksIn w' w'.heap.size (some ⟨g, 0, none⟩) ms ∧ Below w.heap.size w w' ∧ g < w'.heap.size ∧ ∃ f, w'.rowIs g 32 (ms.length * 3) f

set_option maxRecDepth 100000 in
set_option maxHeartbeats 2000000 in
/-- laws.toMarkS -/
theorem toMarkS_row (A : Option Addr) (cap : Nat) (ms : List Mk) (w : World) (hE : MarksIn w w.heap.size A ms) (hl : ms.length ≤ 1099511627776) :
    Calls Tryd.prog 6 #[.slice A ms.length cap] w (MkRow ms w) := by
  have hmk := fun W => make_marks ms.length hl W
  go_enter Tryd.func6, Tryd.ntmps6
  go_wp2
  clear hmk
  obtain ⟨g, hg⟩ : ∃ g, w.heap.size = g := ⟨_, rfl⟩
  obtain ⟨cs, hcs⟩ : ∃ cs, madeCells #[.string ⟨#[]⟩, .int .i64 0, .bool false] (ms.length * 3) = cs := ⟨_, rfl⟩
  have hcz : cs.size = ms.length * 3 := by rw [← hcs, size_madeCells]
  rw [hcs]
  have hrow : ∃ f, (w.alloc (.cells cs 32)).rowIs g 32 (ms.length * 3) f := by
    have h := World.rowIs_alloc w cs 32 (fun i => cs.getD i undef) (fun i hi => by simp [hi])
    rw [hcz, hg] at h
    exact ⟨_, h⟩
  have hb3 : Below g w (w.alloc (.cells cs 32)) := (Below.refl _ _).alloc (by omega) _
  have hs3 : (w.alloc (.cells cs 32)).heap.size = g + 1 := by simp [hg]
  rw [hg] at hE ⊢
  generalize hW3 : w.alloc (.cells cs 32) = w3 at hrow hb3 hs3 ⊢
  clear hW3
  have HS3 := Lib.hid hs3; have HGG := Lib.hid hg
  clear hs3 hg hcs hcz
  go_loopw [4] (fun i wr => ∃ k : Nat, k ≤ ms.length ∧ i = .int .i64 k ∧ Below g w wr ∧ (∃ f, wr.rowIs g 32 (ms.length * 3) f) ∧ g < wr.heap.size ∧
    ∀ i, (h : i < ms.length) → i < k → wr.cell? ⟨g, i * 3, none⟩ = some (.string ms[i].1) ∧ wr.cell? ⟨g, i * 3 + 1, none⟩ = some (.int .i64 ms[i].2.1) ∧ wr.cell? ⟨g, i * 3 + 2, none⟩ = some (.bool ms[i].2.2)) (fun i _ => ms.length - (intOf i).toNat)
  case atStart => exact ⟨0, Nat.zero_le _, rfl, hb3, hrow, by have := HS3.out; omega, by intro i _ h; omega⟩
  case round =>
    clear hb3 hrow
    obtain ⟨k, hk, rfl, hb, ⟨f, hrow⟩, hz, hcs⟩ := hrel
    have HR := Lib.hid hrow; have HCS := Lib.hid hcs
    clear hrow hcs
    by_cases hlt : k < ms.length
    · obtain ⟨eb, eo, rfl, hlow, h1, h2, h3⟩ := (hE.below hb) k hlt
      go_wp2_with (go_at_call 11; refine (toMark_any _ _ _ _).mono ?_; rintro e w1 ⟨rfl, hb1⟩; have hr1 := HR.out.of_block (hb1.block g hz); have hst1 := hr1.cell (i := k * 3) (by omega); have hst2 := hr1.cell (i := k * 3 + 1) (by omega); have hst3 := hr1.cell (i := k * 3 + 2) (by omega); have hsf1 := hr1.frozen (k * 3); have hsf2 := hr1.frozen (k * 3 + 1); have hsf3 := hr1.frozen (k * 3 + 2); have HR1 := Lib.hid hr1; clear hr1; have hz1 := hb1.size)
      have hcsn : ∀ i, (h : i < ms.length) → i < k + 1 → (((w1.setCell ⟨g, k * 3, none⟩ (.string ms[k].1)).setCell ⟨g, k * 3 + 1, none⟩ (.int .i64 ms[k].2.1)).setCell ⟨g, k * 3 + 2, none⟩ (.bool ms[k].2.2)).cell? ⟨g, i * 3, none⟩ = some (.string ms[i].1) ∧ (((w1.setCell ⟨g, k * 3, none⟩ (.string ms[k].1)).setCell ⟨g, k * 3 + 1, none⟩ (.int .i64 ms[k].2.1)).setCell ⟨g, k * 3 + 2, none⟩ (.bool ms[k].2.2)).cell? ⟨g, i * 3 + 1, none⟩ = some (.int .i64 ms[i].2.1) ∧ (((w1.setCell ⟨g, k * 3, none⟩ (.string ms[k].1)).setCell ⟨g, k * 3 + 1, none⟩ (.int .i64 ms[k].2.1)).setCell ⟨g, k * 3 + 2, none⟩ (.bool ms[k].2.2)).cell? ⟨g, i * 3 + 2, none⟩ = some (.bool ms[i].2.2) := by
        have oth : ∀ (a b : Nat) (u : Value) (V : World), a ≠ b → (V.setCell ⟨g, a, none⟩ u).cell? ⟨g, b, none⟩ = V.cell? ⟨g, b, none⟩ := fun a b u V hab => World.cell?_setCell_other _ _ _ _ (by intro e; injection e with _ e; omega)
        intro i hi hik
        by_cases hik' : i = k
        · subst hik'
          refine ⟨(oth _ _ _ _ (by omega)).trans ((oth _ _ _ _ (by omega)).trans (World.cell?_setCell_same' _ _ _ (by rw [hst1]; rfl))), (oth _ _ _ _ (by omega)).trans (World.cell?_setCell_same' _ _ _ (by rw [oth _ _ _ _ (by omega), hst2]; rfl)), World.cell?_setCell_same' _ _ _ (by rw [oth _ _ _ _ (by omega), oth _ _ _ _ (by omega), hst3]; rfl)⟩
        · obtain ⟨q1, q2, q3⟩ := HCS.out i hi (by omega)
          have go3 : ∀ c, c < 3 → (((w1.setCell ⟨g, k * 3, none⟩ (.string ms[k].1)).setCell ⟨g, k * 3 + 1, none⟩ (.int .i64 ms[k].2.1)).setCell ⟨g, k * 3 + 2, none⟩ (.bool ms[k].2.2)).cell? ⟨g, i * 3 + c, none⟩ = wr.cell? ⟨g, i * 3 + c, none⟩ := fun c hc =>
            (oth _ _ _ _ (by omega)).trans ((oth _ _ _ _ (by omega)).trans ((oth _ _ _ _ (by omega)).trans (hb1.cell hz)))
          exact ⟨(go3 0 (by omega)).trans q1, (go3 1 (by omega)).trans q2, (go3 2 (by omega)).trans q3⟩
      have HCN := Lib.hid hcsn; clear hcsn hst1 hst2 hst3 hsf1 hsf2 hsf3
      go_roundw
      case rel => exact ⟨k + 1, by omega, by go_num, (((hb.trans (hb1.mono (by omega))).setCell (by simp only; omega) _).setCell (by simp only; omega) _).setCell (by simp only; omega) _, ⟨_, ((HR1.out.set _ _).set _ _).set _ _⟩, by simp [World.setCell]; omega, HCN.out⟩
      case measure => simp [intOf]; omega
    · go_wp2
      go_ret
      refine ⟨g, rfl, Nat.le_of_eq HGG.out, fun i hi => ⟨g, 0, rfl, hz, ?_, ?_, ?_⟩, by rw [HGG.out]; exact hb, hz, ⟨_, HR.out⟩⟩
      · rw [Nat.zero_add]; exact (HCS.out i hi (by omega)).1
      · rw [Nat.zero_add]; exact (HCS.out i hi (by omega)).2.1
      · rw [Nat.zero_add]; exact (HCS.out i hi (by omega)).2.2

/-- laws.eqMark -/
theorem eqMark_t (a : ByteArray) (n : Int) (c : Bool) (w : World) :
    Calls Tryd.prog 17 #[.agg #[.string a, .int .i64 n, .bool c], .agg #[.string a, .int .i64 n, .bool c]] w fun e w' => e = .returned (.bool true) ∧ Below w.heap.size w w' := by
  have q1 : (a.toList != a.toList) = false := by simp
  have q2 : (n != n) = false := by simp
  have q3 : (c != c) = false := by simp
  go_enter Tryd.func17, Tryd.ntmps17
  go_wp2
  go_ret
  exact ⟨rfl, ((Below.refl _ _).alloc (Nat.le_refl _) _).alloc (by simp) _⟩

set_option maxRecDepth 100000 in
set_option maxHeartbeats 2000000 in
/-- laws.eqMarkS, at the same marks -/
theorem eqMarkS_t (A A' : Option Addr) (cap cap' : Nat) (ms : List Mk) (w : World) (hE : MarksIn w w.heap.size A ms) (hE' : MarksIn w w.heap.size A' ms) (hl : ms.length ≤ 1099511627776) :
    Calls Tryd.prog 8 #[.slice A ms.length cap, .slice A' ms.length cap'] w fun e w' => e = .returned (.bool true) ∧ Below w.heap.size w w' := by
  have q0 : ((ms.length : Int) != ms.length) = false := by simp
  go_enter Tryd.func8, Tryd.ntmps8
  go_wp2
  go_loopw [5] (fun i wr => ∃ k : Nat, k ≤ ms.length ∧ i = .int .i64 k ∧ Below w.heap.size w wr) (fun i _ => ms.length - (intOf i).toNat)
  case atStart => exact ⟨0, Nat.zero_le _, rfl, Below.refl _ _⟩
  case round =>
    obtain ⟨k, hk, rfl, hb⟩ := hrel
    by_cases hlt : k < ms.length
    · obtain ⟨b1, o1, rfl, hlow1, h1, h2, h3⟩ := (hE.below hb) k hlt
      obtain ⟨b2, o2, rfl, hlow2, h4, h5, h6⟩ := (hE'.below hb) k hlt
      have hsz := hb.size
      have x1 : ∀ x : After wr, x.W.cell? ⟨b1, o1 + k * 3, none⟩ = some (.string ms[k].1) := fun x => x.cell (by simp only; omega) h1
      have x2 : ∀ x : After wr, x.W.cell? ⟨b1, o1 + k * 3 + 1, none⟩ = some (.int .i64 ms[k].2.1) := fun x => x.cell (by simp only; omega) h2
      have x3 : ∀ x : After wr, x.W.cell? ⟨b1, o1 + k * 3 + 2, none⟩ = some (.bool ms[k].2.2) := fun x => x.cell (by simp only; omega) h3
      have x4 : ∀ x : After wr, x.W.cell? ⟨b2, o2 + k * 3, none⟩ = some (.string ms[k].1) := fun x => x.cell (by simp only; omega) h4
      have x5 : ∀ x : After wr, x.W.cell? ⟨b2, o2 + k * 3 + 1, none⟩ = some (.int .i64 ms[k].2.1) := fun x => x.cell (by simp only; omega) h5
      have x6 : ∀ x : After wr, x.W.cell? ⟨b2, o2 + k * 3 + 2, none⟩ = some (.bool ms[k].2.2) := fun x => x.cell (by simp only; omega) h6
      go_wp2
      refine wp_region_below (by kernel_rfl) (by kernel_rfl) ?_
      repeat (go_big_quiet_step ((go_at_call 17; exact After.call (eqMark_t _ _ _ _))))
      refine wpQuiet_nil ?_
      rintro _ ⟨x, rfl⟩
      clear x1 x2 x3 x4 x5 x6
      go_wp2
      go_roundw
      case rel => exact ⟨k + 1, by omega, by go_num, hb.trans (x.h.mono hb.size)⟩
      case measure => simp [intOf]; omega
    · go_wp2
      go_ret
      exact ⟨rfl, hb⟩

end Go.Proofs.YtgenhkmlnflnfaaDoor
