/- The parts of a run, by both. -/
import Derived.Test.YtpeafheljcjlhaaGreatZ8I
import Derived.Test.YtpeafheljcjlhaaGreatZ8L
import Derived.Test.YtpeafheljcjlhaaGreatZ8T
import Derived.Test.YtpeafheljcjlhaaGreatReach
import Derived.Deep.RegionHeld3
import Derived.Deep.DeepCutAuto
import Derived.BigQuiet
import Derived.Stop.RegionWithIn
import Derived.Deep.QuietTactic
import Derived.Maps.OwnIn
import Derived.Deep.AppendLies
namespace Go.Proofs.YtpeafheljcjlhaaGreat
open Go.RowKit
set_option linter.unusedVariables false
set_option linter.unusedSimpArgs false

/-- the name of the first edge of a cut net that is that one -/
def nameX (X : List CutEd) (x : CutEd) : List UInt8 := match X.findIdx? (fun y => decide (y = x)) with
  | some i => [nameOf i]
  | none => []
theorem nameX_len (X : List CutEd) (x : CutEd) : (nameX X x).length ≤ 1 := by
  unfold nameX
  split <;> simp
theorem nameX_at {X : List CutEd} {x : CutEd} {k : Nat} (hk : k < X.length) (hx : X[k] = x) (hn : ∀ y ∈ X.take k, y ≠ x) : nameX X x = [nameOf k] := by
  have h : X.findIdx? (fun y => decide (y = x)) = some k := by
    rw [List.findIdx?_eq_some_iff_getElem]
    refine ⟨hk, by simpa using hx, fun j hj => ?_⟩
    have := hn X[j] (List.mem_iff_getElem.2 ⟨j, by simp; omega, by simp⟩)
    simpa using this
  unfold nameX
  rw [h]
theorem nameX_no {X : List CutEd} {x : CutEd} (hn : ∀ y ∈ X, y ≠ x) : nameX X x = [] := by
  have h : X.findIdx? (fun y => decide (y = x)) = none := by
    rw [List.findIdx?_eq_none_iff]
    intro y hy
    simpa using hn y hy
  unfold nameX
  rw [h]

/-- the cut net's edge that an edge is, that goes from its tail, that goes to its head -/
def keptOf (es : List (ByteArray × ByteArray)) (k : Nat) : CutEd := (eAt es k, 0, k)
def tailOf (ex : ByteArray) (es : List (ByteArray × ByteArray)) (k : Nat) : CutEd := (((eAt es k).1, ex), 2, 0)
def headOf (en : ByteArray) (es : List (ByteArray × ByteArray)) (k : Nat) : CutEd := ((en, (eAt es k).2), 1, 0)

/-- one edge more: the part that is made, and the parts that are -/
def partS (B : ByteArray) (es : List (ByteArray × ByteArray)) (st : List UInt8 × List ByteArray) (k : Nat) : List UInt8 × List ByteArray :=
  if backP B es k = true then (nameX (cutX B es) (headOf (enT B) es k), st.2 ++ [⟨(st.1 ++ nameX (cutX B es) (tailOf (exT B) es k)).toArray⟩]) else (st.1 ++ nameX (cutX B es) (keptOf es k), st.2)
/-- the places of a text's letters -/
def placesOf (l : List UInt8) : List Nat := l.map fun c => c.toNat - 97
/-- behind so many letters -/
def partA (B : ByteArray) (es : List (ByteArray × ByteArray)) (l : List UInt8) (i : Nat) : List UInt8 × List ByteArray := ((placesOf l).take i).foldl (partS B es) ([], [])
theorem partA_zero (B : ByteArray) (es : List (ByteArray × ByteArray)) (l : List UInt8) : partA B es l 0 = ([], []) := rfl
theorem partA_succ {B : ByteArray} {es : List (ByteArray × ByteArray)} {l : List UInt8} {i k : Nat} (h : l[i]? = some (nameOf k)) (hk : k ≤ 100) : partA B es l (i + 1) = partS B es (partA B es l i) k := by
  have hi : i < l.length := (List.getElem?_eq_some_iff.1 h).1
  have hp : i < (placesOf l).length := by simpa [placesOf] using hi
  have e : (placesOf l)[i] = k := by
    have : l[i] = nameOf k := by rw [List.getElem?_eq_getElem hi] at h; injection h
    simp [placesOf, this, nameOf_toNat hk]
  unfold partA
  rw [List.take_succ_eq_append_getElem hp, List.foldl_append, e]
  rfl
theorem partS_len {B : ByteArray} {es : List (ByteArray × ByteArray)} {st : List UInt8 × List ByteArray} {k n : Nat} (h1 : st.1.length ≤ n) (h2 : st.2.length ≤ n) : (partS B es st k).1.length ≤ n + 1 ∧ (partS B es st k).2.length ≤ n + 1 := by
  unfold partS
  split
  · have := nameX_len (cutX B es) (headOf (enT B) es k)
    simp only [List.length_append, List.length_cons, List.length_nil]
    omega
  · have := nameX_len (cutX B es) (keptOf es k)
    simp only [List.length_append]
    omega
theorem partA_len (B : ByteArray) (es : List (ByteArray × ByteArray)) (l : List UInt8) : ∀ i, (partA B es l i).1.length ≤ i ∧ (partA B es l i).2.length ≤ i
  | 0 => by simp [partA_zero]
  | i + 1 => by
    have ih := partA_len B es l i
    by_cases hi : i < (placesOf l).length
    · have e : partA B es l (i + 1) = partS B es (partA B es l i) (placesOf l)[i] := by
        unfold partA
        rw [List.take_succ_eq_append_getElem hi, List.foldl_append]
        rfl
      rw [e]
      exact partS_len ih.1 ih.2
    · have e : partA B es l (i + 1) = partA B es l i := by
        unfold partA
        rw [List.take_of_length_le (by omega), List.take_of_length_le (by omega)]
      rw [e]
      omega
/-- all parts -/
def partsL (B : ByteArray) (es : List (ByteArray × ByteArray)) (l : List UInt8) : List ByteArray := (partA B es l l.length).2 ++ [⟨(partA B es l l.length).1.toArray⟩]

/-- the kinds, with the places of edges that are none of the net's -/
theorem cutX_all {B : ByteArray} {es : List (ByteArray × ByteArray)} : ∀ x ∈ cutX B es, (x.2.1 = 0 ∧ x.2.2 < es.length ∧ x = keptOf es x.2.2) ∨ (x.2.1 = 1 ∧ x.2.2 = 0) ∨ (x.2.1 = 2 ∧ x.2.2 = 0) := by
  intro x hx
  unfold cutX at hx
  rcases List.mem_append.1 hx with hx | hx
  · rcases List.mem_append.1 hx with hx | hx
    · obtain ⟨i, hi, rfl⟩ := List.mem_map.1 hx
      exact .inl ⟨rfl, (keptI_mem hi).1, rfl⟩
    · obtain ⟨i, hi, rfl⟩ := List.mem_map.1 hx
      exact .inr (.inl ⟨rfl, rfl⟩)
  · obtain ⟨i, hi, rfl⟩ := List.mem_map.1 hx
    exact .inr (.inr ⟨rfl, rfl⟩)
/-- an edge of a kind that is new, by its letter and its ends -/
theorem kind_is {B : ByteArray} {es : List (ByteArray × ByteArray)} (h16 : es.length ≤ 16) {x : CutEd} (hx : x ∈ cutX B es) (f t : ByteArray) :
    ((kindL x = 43 ∧ x.1.1 = f ∧ x.1.2 = t) ↔ x = ((f, t), 1, 0)) ∧ ((kindL x = 45 ∧ x.1.1 = f ∧ x.1.2 = t) ↔ x = ((f, t), 2, 0)) := by
  obtain ⟨⟨a, b⟩, kd, pl⟩ := x
  have hk := cutX_all _ hx
  simp only at hk
  unfold kindL
  simp only [Prod.mk.injEq]
  rcases hk with ⟨rfl, hp, -⟩ | ⟨rfl, rfl⟩ | ⟨rfl, rfl⟩
  · have hz := nameOf_toNat (k := pl) (by omega)
    refine ⟨⟨fun h => ?_, fun h => by have := h.2.1; omega⟩, ⟨fun h => ?_, fun h => by have := h.2.1; omega⟩⟩
    · have e := h.1; simp only [if_true] at e; rw [e] at hz; simp at hz; omega
    · have e := h.1; simp only [if_true] at e; rw [e] at hz; simp at hz; omega
  · simp
  · simp
/-- an edge that is kept, by its letter -/
theorem kept_is {B : ByteArray} {es : List (ByteArray × ByteArray)} (h16 : es.length ≤ 16) {x : CutEd} (hx : x ∈ cutX B es) {k : Nat} (hk : k ≤ 16) : kindL x = nameOf k ↔ x = keptOf es k := by
  have hz := nameOf_toNat (k := k) (by omega)
  rcases cutX_all _ hx with ⟨h0, hp, he⟩ | ⟨h1, hp⟩ | ⟨h2, hp⟩
  · have hkl : kindL x = nameOf x.2.2 := by unfold kindL; rw [if_pos h0]
    constructor
    · intro e
      rw [hkl] at e
      have := nameOf_inj (by omega) (by omega) e
      rw [he, this]
    · intro e
      rw [e]; rfl
  · have hkl : kindL x = 43 := by unfold kindL; rw [if_neg (by omega), if_pos h1]
    constructor
    · intro e
      rw [hkl] at e; rw [← e] at hz; simp at hz; omega
    · intro e
      rw [e] at h1; simp [keptOf] at h1
  · have hkl : kindL x = 45 := by unfold kindL; rw [if_neg (by omega), if_neg (by omega)]
    constructor
    · intro e
      rw [hkl] at e; rw [← e] at hz; simp at hz; omega
    · intro e
      rw [e] at h2; simp [keptOf] at h2
/-- the model's name of an edge that is kept: by the place of its letter among the kinds -/
theorem kept_name {B : ByteArray} {es : List (ByteArray × ByteArray)} (h16 : es.length ≤ 16) {k : Nat} (hk : k < es.length) (hb : backP B es k = false) :
    ∃ i, i < (cutX B es).length ∧ Lib.indexByte (cutK B es) (nameOf k) = (i : Int) ∧ nameX (cutX B es) (keptOf es k) = [nameOf i] := by
  have hm : keptOf es k ∈ cutX B es := by
    unfold cutX
    refine List.mem_append.2 (.inl (List.mem_append.2 (.inl (List.mem_map.2 ⟨k, List.mem_filter.2 ⟨by simpa using hk, by simp [hb]⟩, rfl⟩))))
  obtain ⟨i, hi⟩ : ∃ i, (cutX B es).findIdx? (fun y => decide (y = keptOf es k)) = some i := by
    cases h : (cutX B es).findIdx? (fun y => decide (y = keptOf es k)) with
    | some i => exact ⟨i, rfl⟩
    | none =>
      rw [List.findIdx?_eq_none_iff] at h
      have := h _ hm
      simp at this
  have hi' := hi
  rw [List.findIdx?_eq_some_iff_getElem] at hi'
  obtain ⟨hil, he, hno⟩ := hi'
  have he' : (cutX B es)[i] = keptOf es k := by simpa using he
  refine ⟨i, hil, ?_, by unfold nameX; rw [hi]⟩
  refine find_at (cutK B es) (nameOf k) i (by rw [cutK_len]; exact hil) ?_ ?_
  · unfold cutK
    rw [List.getElem_map, he']
    rfl
  · intro j hj
    have hjl : j < (cutX B es).length := by omega
    unfold cutK
    rw [List.getElem?_map, List.getElem?_eq_getElem hjl]
    intro e
    injection e with e
    have := hno j hj
    simp only [Bool.not_eq_true, decide_eq_false_iff_not] at this
    exact this ((kept_is h16 (List.getElem_mem hjl) (by omega)).1 e)

end Go.Proofs.YtpeafheljcjlhaaGreat

namespace Go.Proofs.YtpeafheljcjlhaaGreat
open Go.RowKit
set_option linter.unusedVariables false
set_option linter.unusedSimpArgs false

set_option maxRecDepth 100000 in
set_option maxHeartbeats 4000000 in
/-- spec.l8Find -/
theorem l8Find_any (B : ByteArray) (A2 : Option Addr) (c2 : Nat) (xs : List CutEd) (ck : ByteArray) (c : UInt8) (f t : ByteArray) (x : CutEd) (w : World) (hE : EdgesIn w w.heap.size A2 (xs.map fun y => y.1)) (hl : xs.length ≤ 20) (hck : ck.data.toList = xs.map kindL)
    (hx : ∀ y ∈ xs, (kindL y = c ∧ y.1.1 = f ∧ y.1.2 = t) ↔ y = x) :
    Calls Tryz.prog 53 #[.agg #[.string B, .slice A2 xs.length c2], .string ck, .int .u8 c.toNat, .string f, .string t] w fun e w' => e = .returned (.string ⟨(nameX xs x).toArray⟩) ∧ Below w.heap.size w w' := by
  have HE := Lib.hid hE; have HX := Lib.hid hx; have HCK := Lib.hid hck
  have hckz : ck.size = xs.length := by rw [str_size hck, List.length_map]
  have HCZ := Lib.hid hckz
  have hb1 : Below w.heap.size w (w.alloc (.cells #[.string B, .slice A2 xs.length c2] 31)) := (Below.refl _ _).alloc (Nat.le_refl _) _
  have HB1 := Lib.hid hb1
  clear hE hx hck hckz hb1
  go_enter Tryz.func53, Tryz.ntmps53
  go_wp2_with fail
  generalize hW1 : w.alloc (.cells #[.string B, .slice A2 xs.length c2] 31) = w1 at HB1 ⊢
  clear hW1
  go_loopw [16] (fun cc wr => ∃ k : Nat, k ≤ xs.length ∧ cc = .int .i64 k ∧ Hid (Below w.heap.size w wr) ∧ Hid (∀ y ∈ xs.take k, y ≠ x)) (fun cc _ => xs.length - (intOf cc).toNat)
  case atStart => exact ⟨0, Nat.zero_le _, rfl, HB1, Lib.hid (by simp)⟩
  case round =>
    obtain ⟨k, hk, rfl, HB, HR⟩ := hrel
    by_cases hlt : k < xs.length
    case neg =>
      have HN : Hid (nameX xs x = []) := Lib.hid (nameX_no (by have h := HR.out; rwa [List.take_of_length_le (by omega)] at h))
      go_wp2_with fail
      go_ret
      exact ⟨by rw [HN.out]; rfl, HB.out⟩
    have hlm : k < (xs.map fun y => y.1).length := by simpa using hlt
    obtain ⟨p1, hp1⟩ : ∃ p1, xs[k].1.1 = p1 := ⟨_, rfl⟩
    obtain ⟨p2, hp2⟩ : ∃ p2, xs[k].1.2 = p2 := ⟨_, rfl⟩
    obtain ⟨eb, eo, rfl, hlow, q1, q2⟩ := (HE.out.below HB.out) k hlm
    rw [List.getElem_map, hp1] at q1
    rw [List.getElem_map, hp2] at q2
    have hkc : k < ck.size := by rw [HCZ.out]; exact hlt
    obtain ⟨kc, hkc2⟩ : ∃ kc, kindL xs[k] = kc := ⟨_, rfl⟩
    have y0 : ck[k]'hkc = kc := by
      have h : ck.data.toList[k]? = some kc := by rw [HCK.out, List.getElem?_map, List.getElem?_eq_getElem hlt, ← hkc2]; rfl
      rw [List.getElem?_eq_getElem (by simpa using hkc)] at h
      injection h
    have hix := HX.out xs[k] (List.getElem_mem hlt)
    rw [hkc2, hp1, hp2] at hix
    have HIX := Lib.hid hix
    have HTK : Hid (xs.take (k + 1) = xs.take k ++ [xs[k]]) := Lib.hid (List.take_succ_eq_append_getElem hlt)
    have hki : (k : Int) < (ck.size : Int) := by omega
    have hk0 : (0 : Int) ≤ (k : Int) := by omega
    have hbE : Below wr.heap.size wr (wr.alloc (.cells #[.string p1, .string p2] 70)) := (Below.refl _ _).alloc (Nat.le_refl _) _
    have HBa := Lib.hid (HB.out.trans (hbE.mono HB.out.size))
    have n0 : (wr.alloc (.cells #[.string p1, .string p2] 70)).cell? ⟨wr.heap.size, 0, none⟩ = some (.string p1) := by go_simp
    have n1 : (wr.alloc (.cells #[.string p1, .string p2] 70)).cell? ⟨wr.heap.size, 1, none⟩ = some (.string p2) := by go_simp
    have hno : ¬ (kc = c ∧ p1 = f ∧ p2 = t) → Hid (∀ y ∈ xs.take (k + 1), y ≠ x) := fun hn => Lib.hid fun y hy => by
      rw [HTK.out] at hy
      rcases List.mem_append.1 hy with h | h
      · exact HR.out y h
      · simp at h; subst h
        exact fun e => hn (HIX.out.2 e)
    have HNO := Lib.hid hno
    clear hp1 hp2 hkc2 hix hbE hno hlm
    have NE8 : Hid (∀ a b : ByteArray, a ≠ b → (a.toList == b.toList) = false) := Lib.hid fun a b h => by
      rw [beq_eq_false_iff_ne, Lib.toList_data, Lib.toList_data]
      exact fun e => h ((str_ext e).trans (str_ext rfl).symm)
    by_cases h1 : kc = c
    case neg =>
      have HR1 := HNO.out (fun h => h1 h.1)
      have hq : ((kc.toNat : Int) == (c.toNat : Int)) = false := by rw [beq_eq_false_iff_ne]; intro e; exact h1 (UInt8.toNat_inj.1 (by omega))
      clear h1
      go_wp2_with fail
      go_roundw
      case rel => exact ⟨k + 1, by omega, by go_num, HBa, HR1⟩
      case measure => simp [intOf]; omega
    by_cases h2 : p1 = f
    case neg =>
      have HR1 := HNO.out (fun h => h2 h.2.1)
      have hq2 : (p1.toList == f.toList) = false := NE8.out _ _ h2
      subst h1
      have hq : ((kc.toNat : Int) == (kc.toNat : Int)) = true := by simp
      clear h2
      go_wp2_with fail
      go_roundw
      case rel => exact ⟨k + 1, by omega, by go_num, HBa, HR1⟩
      case measure => simp [intOf]; omega
    by_cases h3 : p2 = t
    case neg =>
      have HR1 := HNO.out (fun h => h3 h.2.2)
      have hq3 : (p2.toList == t.toList) = false := NE8.out _ _ h3
      subst h1; subst h2
      have hq : ((kc.toNat : Int) == (kc.toNat : Int)) = true := by simp
      have hq2 : (p1.toList == p1.toList) = true := by simp
      clear h3
      go_wp2_with fail
      go_roundw
      case rel => exact ⟨k + 1, by omega, by go_num, HBa, HR1⟩
      case measure => simp [intOf]; omega
    have HN : Hid (nameX xs x = [nameOf k]) := Lib.hid (nameX_at hlt (HIX.out.1 ⟨h1, h2, h3⟩) HR.out)
    subst h1; subst h2; subst h3
    have hq : ((kc.toNat : Int) == (kc.toNat : Int)) = true := by simp
    have hq2 : (p1.toList == p1.toList) = true := by simp
    have hq3 : (p2.toList == p2.toList) = true := by simp
    go_wp2_with (first
      | (go_at_call 52; refine (l1Name_any k (by omega) _).mono ?_; rintro e w4 ⟨rfl, hb4⟩))
    go_ret
    exact ⟨by rw [HN.out]; rfl, HBa.out.trans (hb4.mono HBa.out.size)⟩

end Go.Proofs.YtpeafheljcjlhaaGreat

namespace Go.Proofs.YtpeafheljcjlhaaGreat
open Go.RowKit
set_option linter.unusedVariables false
set_option linter.unusedSimpArgs false

theorem ownT_ne {W : World} {E n M sz : Nat} {T : TypeId} {v : Value} {xs : List Value} {f : Nat → Value} (h : W.ownsRow E 9 1 v n xs) (hr : W.rowIs M T sz f) (hT : T ≠ 9) : some M ≠ v.ownBlock := by
  rcases h.2 with ⟨rfl, _⟩ | ⟨g, cap, cur, rfl, _, hblk, _⟩
  · intro e; cases e
  · intro e
    have e' : some M = some g := e
    injection e' with e'
    obtain ⟨cc, hcc, _⟩ := hr
    subst e'
    rw [hcc] at hblk
    injection hblk with hblk
    injection hblk with _ e2 _
    exact hT e2
theorem edges_apart {W : World} {base n E k : Nat} {A : Option Addr} {v : Value} {xs : List Value} (h : OwnEdges W base A n) (ho : W.ownsRow E 9 1 v k xs) : ∀ a, A = some a → some a.block ≠ v.ownBlock := by
  rcases h with ⟨_, rfl⟩ | ⟨g, r, f, rfl, _, _, _, hr⟩
  · intro a ha; cases ha
  · intro a ha
    injection ha with ha
    subst ha
    exact ownT_ne ho hr (by decide)

/-- where l8Parts stands: its variables, the parts that are made -/
structure P8 (w W : World) (n0 M : Nat) (B : ByteArray) (A : Option Addr) (n cap : Nat) (A2 : Option Addr) (c2 : Nat) (ce : List (ByteArray × ByteArray)) (v : Value) (xs : List ByteArray) : Prop where
  below : Below n0 w W
  two : Two W n0 B A n cap
  net : W.rowIs M 31 2 (netC B (.slice A2 ce.length c2))
  own : OwnEdges W (n0 + 1) A2 ce.length
  edges : EdgesIn W W.heap.size A2 ce
  row : W.ownsRow (n0 + 1) 9 1 v xs.length (xs.map Value.string)
  size : n0 + 1 ≤ W.heap.size
theorem P8.go {w W W' : World} {n0 M : Nat} {B : ByteArray} {A : Option Addr} {n cap : Nat} {A2 : Option Addr} {c2 : Nat} {ce : List (ByteArray × ByteArray)} {v : Value} {xs : List ByteArray} (h : P8 w W n0 M B A n cap A2 c2 ce v xs) (k : Below W.heap.size W W') : P8 w W' n0 M B A n cap A2 c2 ce v xs :=
  ⟨h.below.trans (k.mono (by have := h.size; omega)), h.two.below k (by have := h.size; omega), h.net.of_block (k.block _ h.net.lt), h.own.below k, (h.edges.below k).more k.size, own_below h.row k, Nat.le_trans h.size k.size⟩
theorem P8.push {w W W' : World} {n0 M : Nat} {B : ByteArray} {A : Option Addr} {n cap : Nat} {A2 : Option Addr} {c2 : Nat} {ce : List (ByteArray × ByteArray)} {v v' : Value} {xs xs' : List ByteArray} (h : P8 w W n0 M B A n cap A2 c2 ce v xs) (k : W.grownBy W' v.ownBlock) (hq : W'.ownsRow (n0 + 1) 9 1 v' xs'.length (xs'.map Value.string)) : P8 w W' n0 M B A n cap A2 c2 ce v' xs' :=
  ⟨h.below.grown k (by have := h.size; omega) (fun q e => by have := own_above h.row q e; omega), h.two.grown k (by have := h.size; omega) (own_block h.row (by omega)), h.net.of_block (k.block _ h.net.lt (ownT_ne h.row h.net (by decide))), h.own.grown k (edges_apart h.own h.row), (h.edges.grown k (Nat.le_refl _) (edges_apart h.own h.row)).more k.size, hq, Nat.le_trans h.size k.size⟩

theorem P8.drew {w W : World} {n0 M : Nat} {B : ByteArray} {A : Option Addr} {n cap : Nat} {A2 : Option Addr} {c2 : Nat} {ce : List (ByteArray × ByteArray)} {v : Value} {xs : List ByteArray} (h : P8 w W n0 M B A n cap A2 c2 ce v xs) : P8 w W.drew n0 M B A n cap A2 c2 ce v xs :=
  h.go (Below.refl _ _).drew

/-- an edge in a variable of its own -/
structure EB (w0 W : World) (p : Nat) (a b : ByteArray) : Prop where
  below : Below w0.heap.size w0 W
  low : w0.heap.size ≤ p
  row : W.rowIs p 70 2 (fun i => if i = 0 then .string a else .string b)
theorem eb_row (W : World) (a b : ByteArray) : (W.alloc (.cells #[.string a, .string b] 70)).rowIs W.heap.size 70 2 (fun i => if i = 0 then .string a else .string b) :=
  World.rowIs_alloc W #[.string a, .string b] 70 _ (fun i hi => by
    match i, hi with
    | 0, _ => rfl
    | 1, _ => rfl)
theorem EB.made {w0 W : World} (h : Below w0.heap.size w0 W) (a b : ByteArray) : EB w0 (W.alloc (.cells #[.string a, .string b] 70)) W.heap.size a b := ⟨h.alloc h.size _, h.size, eb_row W a b⟩
theorem EB.put {w0 W : World} {p : Nat} {f : Nat → Value} (h : Below w0.heap.size w0 W) (hp : w0.heap.size ≤ p) (hr : W.rowIs p 70 2 f) (a b : ByteArray) : EB w0 ((W.setCell ⟨p, 0, none⟩ (.string a)).setCell ⟨p, 1, none⟩ (.string b)) p a b := by
  refine ⟨(h.setCell hp _).setCell hp _, hp, ((hr.set 0 _).set 1 _).congr fun i hi => ?_⟩
  match i, hi with
  | 0, _ => rfl
  | 1, _ => rfl

set_option maxRecDepth 100000 in
set_option maxHeartbeats 8000000 in
/-- spec.l8Parts -/
theorem l8Parts_any (B : ByteArray) (A : Option Addr) (cap : Nat) (es : List (ByteArray × ByteArray)) (run : ByteArray) (w : World) (hs : B.size ≤ maxLen) (hE : EdgesIn w w.heap.size A es) (hc : Cuttable B es) (hr60 : run.size ≤ 60)
    (hrl : ∀ i, i < run.size → ∃ k, k < es.length ∧ run.data.toList[i]? = some (nameOf k)) :
    Calls Tryz.prog 28 #[.agg #[.string B, .slice A es.length cap], .string run] w (RowPost (partsL B es run.data.toList) w) := by
  have hF := facts_of hc.1
  have h16 := hF.few
  have h8 := hF.eight
  have hcs : (cutE B es).length ≤ 16 := (facts_of hc.2.2).few
  have HM := Lib.hid hs; have HV := Lib.hid hc.1; have HE := Lib.hid hE; have HRL := Lib.hid hrl
  obtain ⟨bt, hbt⟩ : ∃ bt : ByteArray, (⟨(names (backP B es) es.length).toArray⟩ : ByteArray) = bt := ⟨_, rfl⟩
  have HBD : Hid (bt.data.toList = names (backP B es) es.length) := Lib.hid (by rw [← hbt])
  have HBM : Hid (bt.size ≤ maxLen) := Lib.hid (by rw [← hbt, size_mk]; have := names_length (backP B es) es.length; unfold maxLen; omega)
  have FB : Hid (∀ W : World, EdgesIn W W.heap.size A es → Calls Tryz.prog 46 #[.agg #[.string B, .slice A es.length cap]] W fun e w' => e = .returned (.string bt) ∧ Below W.heap.size W w') := Lib.hid fun W h => by
    rw [← hbt]; exact l3Back_any B A cap es W h hF hs
  obtain ⟨ck, hck⟩ : ∃ ck : ByteArray, (⟨(cutK B es).toArray⟩ : ByteArray) = ck := ⟨_, rfl⟩
  have HCK := Lib.hid hck
  have HCD : Hid (ck.data.toList = cutK B es) := Lib.hid (by rw [← hck])
  have HCM : Hid (ck.size ≤ maxLen) := Lib.hid (by rw [← hck, size_mk, cutK_len, ← cutE_len]; unfold maxLen; omega)
  have FE : Hid (∀ W : World, Calls Tryz.prog 49 #[.agg #[.string B, .slice A es.length cap]] W fun e W' => e = .returned (.string (enT B)) ∧ Below W.heap.size W W') := Lib.hid fun W => l1Entry_any B _ W hF.one hs
  have FX : Hid (∀ W : World, Calls Tryz.prog 50 #[.agg #[.string B, .slice A es.length cap]] W fun e W' => e = .returned (.string (exT B)) ∧ Below W.heap.size W W') := Lib.hid fun W => l1Exit_any B _ W hF.one hs
  have FL : Hid (∀ (A2 : Option Addr) (c2 : Nat) (f t : ByteArray) (W : World), EdgesIn W W.heap.size A2 (cutE B es) → Calls Tryz.prog 53 #[.agg #[.string B, .slice A2 (cutE B es).length c2], .string ck, .int .u8 45, .string f, .string t] W fun e W' => e = .returned (.string ⟨(nameX (cutX B es) ((f, t), 2, 0)).toArray⟩) ∧ Below W.heap.size W W') := Lib.hid fun A2 c2 f t W h => by
    have h' := l8Find_any B A2 c2 (cutX B es) ck 45 f t ((f, t), 2, 0) W h (by rw [← cutE_len]; omega) HCD.out (fun y hy => (kind_is h16 hy f t).2)
    rw [cutE_len]; exact h'
  have FH : Hid (∀ (A2 : Option Addr) (c2 : Nat) (f t : ByteArray) (W : World), EdgesIn W W.heap.size A2 (cutE B es) → Calls Tryz.prog 53 #[.agg #[.string B, .slice A2 (cutE B es).length c2], .string ck, .int .u8 43, .string f, .string t] W fun e W' => e = .returned (.string ⟨(nameX (cutX B es) ((f, t), 1, 0)).toArray⟩) ∧ Below W.heap.size W W') := Lib.hid fun A2 c2 f t W h => by
    have h' := l8Find_any B A2 c2 (cutX B es) ck 43 f t ((f, t), 1, 0) W h (by rw [← cutE_len]; omega) HCD.out (fun y hy => (kind_is h16 hy f t).1)
    rw [cutE_len]; exact h'
  obtain ⟨ce, hce⟩ : ∃ ce, cutE B es = ce := ⟨_, rfl⟩
  have HCE := Lib.hid hce
  rw [hce] at FL FH hcs
  obtain ⟨i0, hi, hi0, hi1, hi2⟩ := info_parts textCell
  have HI := Lib.hid hi; have HI0 := Lib.hid hi0; have HI1 := Lib.hid hi1; have HI2 := Lib.hid hi2
  have hb1 : Below w.heap.size w ((w.alloc (.cells #[.string B, .slice A es.length cap] 31)).alloc (.cells #[] 9)) := ((Below.refl _ _).alloc (Nat.le_refl _) _).alloc (by simp) _
  have t1 : Two ((w.alloc (.cells #[.string B, .slice A es.length cap] 31)).alloc (.cells #[] 9)) w.heap.size B A es.length cap := ⟨by go_simp, by go_simp⟩
  have hz1 : ((w.alloc (.cells #[.string B, .slice A es.length cap] 31)).alloc (.cells #[] 9)).heap.size = w.heap.size + 2 := by simp
  have hrow1 : ((w.alloc (.cells #[.string B, .slice A es.length cap] 31)).alloc (.cells #[] 9)).ownsRow (w.heap.size + 1) 9 1 (.slice (some ⟨w.heap.size + 1, 0, none⟩) 0 0) 0 [] :=
    ⟨rfl, .inr ⟨_, 0, #[], rfl, Nat.le_refl _, alloc_at _ _ (by simp), by simp, by simp, by simp, by simp⟩⟩
  have hd0 := t1.1; have hd1 := t1.2
  clear hbt hck hce hF hc hrl hi hi0 hi1 hi2
  go_enter Tryz.func28, Tryz.ntmps28
  go_wp2_with fail
  generalize hW1 : (w.alloc (.cells #[.string B, .slice A es.length cap] 31)).alloc (.cells #[] 9) = w1 at hb1 t1 hz1 hrow1 hd0 hd1 ⊢
  clear hW1
  refine (l8Build_any B A cap es _ HM.out ((HE.out.below hb1).more hb1.size) HV.out).mono ?_
  rintro e w2 ⟨A2, c2, rfl, hE2, hb2, hO2⟩
  rw [HCE.out] at hE2 hO2
  rw [HCE.out, HCK.out]
  have hba : Below w2.heap.size w2 (w2.alloc (.cells #[.string B, .slice A2 ce.length c2] 31)) := (Below.refl _ _).alloc (Nat.le_refl _) _
  have hp3 : P8 w (w2.alloc (.cells #[.string B, .slice A2 ce.length c2] 31)) w.heap.size w2.heap.size B A es.length cap A2 c2 ce (.slice (some ⟨w.heap.size + 1, 0, none⟩) 0 0) [] := by
    refine ⟨(hb1.trans (hb2.mono hb1.size)).trans (hba.mono (Nat.le_trans hb1.size hb2.size)), (t1.below hb2 (by omega)).below hba (by have := hb2.size; omega), ?_, (hO2.below hba).mono (by omega), (hE2.below hba).more hba.size, own_below (own_below hrow1 hb2) hba, by have := hb2.size; have := hba.size; omega⟩
    exact World.rowIs_alloc w2 #[.string B, .slice A2 ce.length c2] 31 _ (fun i hi => by
      match i, hi with
      | 0, _ => rfl
      | 1, _ => rfl)
  have HP3 := Lib.hid hp3
  have e0 := hp3.two.1; have e1 := hp3.two.2
  clear hd0 hd1 hb1 t1 hrow1 hE2 hb2 hO2 hba hp3 hz1
  go_wp2_with fail
  generalize hW3 : w2.alloc (.cells #[.string B, .slice A2 ce.length c2] 31) = w3 at HP3 e0 e1 ⊢
  clear hW3
  obtain ⟨M, hM⟩ : ∃ M, w2.heap.size = M := ⟨_, rfl⟩
  rw [hM] at HP3 ⊢
  clear hM
  refine (FB.out _ ((HE.out.below HP3.out.below).more HP3.out.below.size)).mono ?_
  rintro e w4 ⟨rfl, hb4⟩
  have HP4 := Lib.hid (HP3.out.go hb4)
  clear e0 e1 hb4 HP3 FB
  go_wp2_with fail
  go_loopw [5, 9, 22] (fun a p c wr => ∃ (i : Nat) (v : Value) (pt : ByteArray), i ≤ run.size ∧ c = .int .i64 i ∧ v = a ∧ p = .string pt ∧ Hid (pt.data.toList = (partA B es run.data.toList i).1) ∧ Hid (P8 w wr w.heap.size M B A es.length cap A2 c2 ce v (partA B es run.data.toList i).2)) (fun _ _ c _ => run.size - (intOf c).toNat)
  case atStart => exact ⟨0, _, ⟨#[]⟩, Nat.zero_le _, rfl, rfl, rfl, Lib.hid rfl, HP4⟩
  case round =>
    clear HP4
    obtain ⟨i, v, pt, hi, rfl, rfl, rfl, HPT, HP⟩ := hrel
    by_cases hlt : i < run.size
    case neg =>
      have hie : i = run.data.toList.length := by have e : run.data.toList.length = run.size := by simp
                                                  omega
      obtain ⟨xs, hxs⟩ : ∃ xs, (partA B es run.data.toList i).2 = xs := ⟨_, rfl⟩
      have hpl := partA_len B es run.data.toList i
      rw [hxs] at HP hpl
      have hxl : xs.length ≤ 60 := by omega
      have HTS : Hid (partsL B es run.data.toList = xs ++ [pt]) := Lib.hid (by
        unfold partsL
        rw [← hie, hxs, str_ext HPT.out])
      have hbA : Below wr.heap.size wr (wr.alloc (.cells #[.string pt] 9)) := (Below.refl _ _).alloc (Nat.le_refl _) _
      have HPa := Lib.hid (HP.out.go hbA)
      have HZA := Lib.hid HPa.out.size
      clear hie hxs hpl hbA HP HPT
      go_wp2_with (first
        | (at_builtin; refine wpList_append_own _ rfl (.tmp 66) (.tmp 68) 26 rfl (w.heap.size + 1) 9 i0 (.string ⟨#[]⟩) 1 16 Tryz.underlying26 HI.out HI0.out HI1.out HI2.out rfl (by decide) v xs.length (xs.map Value.string) rfl HPa.out.row ⟨wr.heap.size, 0, none⟩ 1 1 [.string pt] rfl rfl (one_new wr (.string pt)) (by intro u hu; simp at hu; subst hu; rfl) (by unfold maxLen; omega) (by omega) HZA.out ?_; intro v7 w7 hown7 hgr7 _; go_must (
           have HPT7 : Hid (∃ A cap, v7 = .slice A (xs ++ [pt]).length cap ∧ TextsIn w7 w7.heap.size A (xs ++ [pt]) ∧ OwnTexts w7 (w.heap.size + 1) A (xs ++ [pt]).length) := Lib.hid (own_texts (ts := xs ++ [pt]) (by rw [List.length_append, List.map_append]; exact hown7))
           have HBW7 : Hid (Below w.heap.size w w7) := Lib.hid (HPa.out.below.grown hgr7 (by have := HZA.out; omega) (fun q e => by have := own_above HPa.out.row q e; omega))
           clear hown7 hgr7)))
      go_ret
      obtain ⟨A9, c9, rfl, htx, hot⟩ := HPT7.out
      exact ⟨A9, c9, by rw [HTS.out]; rfl, by rw [HTS.out]; exact htx, HBW7.out, by rw [HTS.out]; exact hot.mono (by omega)⟩
    obtain ⟨k, hk, hki⟩ := HRL.out i hlt
    obtain ⟨p1, hp1⟩ : ∃ p1, (eAt es k).1 = p1 := ⟨_, rfl⟩
    obtain ⟨p2, hp2⟩ : ∃ p2, (eAt es k).2 = p2 := ⟨_, rfl⟩
    have HEA : Hid (eAt es k = (p1, p2)) := Lib.hid (by rw [← hp1, ← hp2])
    obtain ⟨S1, hS1⟩ : ∃ S1, run.extract i (i + 1) = S1 := ⟨_, rfl⟩
    have HX1 : Hid (eIdx es.length S1.data.toList = k) := Lib.hid (by
      rw [← hS1, letter_at hlt, List.getD_eq_getElem?_getD, hki]
      exact eIdx_name hk (by omega))
    have F2 : Hid (∀ W : World, EdgesIn W W.heap.size A es → Calls Tryz.prog 47 #[.agg #[.string B, .slice A es.length cap], .string S1] W fun e W' => e = .returned (.agg #[.string p1, .string p2]) ∧ Below W.heap.size W W') := Lib.hid fun W h => by
      have h' := l2Edge_any B A cap es S1 k W h (by omega) hk HX1.out
      rw [← eAt_at hk, HEA.out] at h'
      exact h'
    have y0 : run[i]'hlt = nameOf k := by
      rw [List.getElem?_eq_getElem (by simpa using hlt)] at hki
      injection hki
    have HY0 := Lib.hid y0; have HKI := Lib.hid hki
    obtain ⟨ix, hix⟩ : ∃ ix, Lib.indexByte bt.data.toList (nameOf k) = ix := ⟨_, rfl⟩
    have HIX : Hid (∀ W : World, Calls Tryz.prog 51 #[.string bt, .int .u8 (nameOf k).toNat] W fun e w' => e = .returned (.int .i64 ix) ∧ W = w') := Lib.hid fun W => by rw [← hix]; exact find_any bt (nameOf k) W HBM.out
    have HIV : Hid (0 ≤ ix ↔ backP B es k = true) := Lib.hid (by
      rw [← hix, indexByte_nonneg, HBD.out]
      exact mem_names (by omega) hk)
    have hpl := partA_len B es run.data.toList i
    have hptz : pt.size ≤ 60 := by rw [str_size HPT.out]; omega
    obtain ⟨xs, hxs⟩ : ∃ xs, (partA B es run.data.toList i).2 = xs := ⟨_, rfl⟩
    have hxl : xs.length ≤ 60 := by rw [← hxs]; omega
    rw [hxs] at HP
    have HXS := Lib.hid hxs
    have hd0 := HP.out.two.1; have hd1 := HP.out.two.2
    have hdl : w.heap.size < wr.heap.size := by have := HP.out.size; omega
    have a1 : (0 : Int) ≤ (i : Int) := by omega
    have a2 : (i : Int) < (run.size : Int) := by omega
    have a4 : (0 : Int) ≤ (i : Int) + 1 := by omega
    have a5 : ((i : Int) + 1).toNat = i + 1 := by omega
    have a6 : (i : Int) + 1 ≤ (run.size : Int) := by omega
    have a7 : i + 1 ≤ run.size := by omega
    have a8 : (i : Int) ≤ (i : Int) + 1 := by omega
    have a3 : IntKind.i64.wrap ((i : Int) + 1) = (i : Int) + 1 := IntWalk.i64_in _ (by omega)
    have HSS : Hid (∀ W, Below wr.heap.size wr W → (W.cell? ⟨w.heap.size, 0, none⟩ = some (.string B) ∧ W.cell? ⟨w.heap.size, 1, none⟩ = some (.slice A es.length cap) ∧ Below wr.heap.size wr W)) := Lib.hid fun W h => ⟨(h.cell hdl).trans hd0, (h.cell hdl).trans hd1, h⟩
    have HK0 : Hid (Below wr.heap.size wr wr.drew) := Lib.hid (Below.refl _ _).drew
    have HZ0 : Hid (Below wr.heap.size wr (wr.alloc (.cells #[.string ⟨#[]⟩, .string ⟨#[]⟩] 70)).drew) := Lib.hid ((Below.refl _ _).alloc (Nat.le_refl _) _).drew
    have HRZ : Hid ((wr.alloc (.cells #[.string ⟨#[]⟩, .string ⟨#[]⟩] 70)).drew.rowIs wr.heap.size 70 2 (fun i => if i = 0 then .string ⟨#[]⟩ else .string ⟨#[]⟩)) := Lib.hid (eb_row wr ⟨#[]⟩ ⟨#[]⟩)
    have HZZ : Hid ((wr.alloc (.cells #[.string ⟨#[]⟩, .string ⟨#[]⟩] 70)).drew.heap.size = wr.heap.size + 1) := Lib.hid (by simp)
    have HEDG : Hid (∀ W, Below wr.heap.size wr W → EdgesIn W W.heap.size A es) := Lib.hid fun W h => by
      have hb := HP.out.below.trans (h.mono HP.out.below.size)
      exact (HE.out.below hb).more hb.size
    clear hp1 hp2 hki hix hpl hxs hd0 hd1 y0
    go_upto_region 8 with fail
    go_cut [11] from 25 to 31 (fun s11 wx => ∃ p : Nat, s11 = .pointer (some ⟨p, 0, none⟩) ∧ Hid (EB wr wx p p1 p2))
    case first =>
      go_region_held3 (fun W => W.cell? ⟨w.heap.size, 0, none⟩ = some (.string B) ∧ W.cell? ⟨w.heap.size, 1, none⟩ = some (.slice A es.length cap) ∧ Below wr.heap.size wr W)
        (first
          | with_reducible exact HSS.out _ HK0.out
          | with_reducible exact HSS.out _ HZ0.out
          | with_reducible exact HSS.out _ HB4.out
          | with_reducible exact HSS.out _ HC4.out.below
          | with_reducible exact HSS.out _ (HB4.out.alloc HB4.out.size _))
        (first
          | (go_at_call 47
             go_must (
             first
               | (refine (F2.out _ (HEDG.out _ HZ0.out)).mono ?_
                  rintro e w4 ⟨rfl, hb4⟩
                  have HB4 : Hid (Below wr.heap.size wr w4) := Lib.hid (HZ0.out.trans (hb4.mono (by rw [HZZ.out]; omega)))
                  have hr4 := HRZ.out.of_block (hb4.block _ (by rw [HZZ.out]; omega))
                  have HC4 := Lib.hid (EB.put HB4.out (Nat.le_refl _) hr4 p1 p2)
                  have g0 := hr4.cell (i := 0) (by omega); have g1 := hr4.cell (i := 1) (by omega); have l0 := hr4.frozen 0; have l1 := hr4.frozen 1
                  clear hb4 hr4)
               | (refine (F2.out _ (HEDG.out _ HK0.out)).mono ?_
                  rintro e w4 ⟨rfl, hb4⟩
                  have HB4 : Hid (Below wr.heap.size wr w4) := Lib.hid (HK0.out.trans hb4)
                  have HC4 := Lib.hid (EB.made HB4.out p1 p2)
                  clear hb4))))
      all_goals
        go_wp2_with fail
        go_meet
        case rel => exact ⟨_, rfl, HC4⟩
    case rest =>
      obtain ⟨p, rfl, HEB⟩ := hcut
      have HPc := Lib.hid (HP.out.go HEB.out.below)
      clear HSS HK0 HZ0 HRZ HZZ HP HEDG
      have y0 := HY0.out
      go_wp2_with fail
      refine (HIX.out _).mono ?_
      rintro e wf ⟨rfl, rfl⟩
      cases hbp : backP B es k with
      | false =>
        have hq : ix < 0 := by
          have h := HIV.out
          rw [hbp] at h
          by_cases hi : 0 ≤ ix
          · exact absurd (h.1 hi) (by simp)
          · omega
        obtain ⟨ii, hii, hif, hin⟩ := kept_name h16 hk hbp
        have hi16 : ii ≤ 16 := by rw [← cutE_len, HCE.out] at hii; omega
        have HPA : Hid (partA B es run.data.toList (i + 1) = (pt.data.toList ++ [nameOf ii], xs)) := Lib.hid (by
          rw [partA_succ HKI.out (by omega)]
          unfold partS
          rw [hbp, if_neg (by simp), hin, HXS.out, HPT.out])
        have HFI : Hid (∀ W : World, Calls Tryz.prog 51 #[.string ck, .int .u8 (nameOf k).toNat] W fun e w' => e = .returned (.int .i64 (ii : Int)) ∧ W = w') := Lib.hid fun W => by
          have h := find_any ck (nameOf k) W HCM.out
          rw [HCD.out, hif] at h
          exact h
        have hsz : ¬ 9223372036854775807 < pt.size + (⟨#[nameOf ii]⟩ : ByteArray).size := by
          have : (⟨#[nameOf ii]⟩ : ByteArray).size = 1 := rfl
          omega
        clear hbp hii hif hin
        go_wp2_with fail
        refine (HFI.out _).mono ?_
        rintro e wf2 ⟨rfl, rfl⟩
        go_wp2_with fail
        refine (l1Name_any ii (by omega) _).mono ?_
        rintro e w6 ⟨rfl, hb6⟩
        have HP6 := Lib.hid (HPc.out.go hb6)
        clear hb6
        go_wp2_with fail
        go_roundw
        case rel => exact ⟨i + 1, v, _, by omega, by go_num, rfl, rfl, Lib.hid (by rw [HPA.out]; exact str_snoc rfl), by rw [HPA.out]; exact HP6⟩
        case measure => simp [intOf]; omega
      | true =>
        have hq : ¬ ix < 0 := by have := HIV.out.2 hbp; omega
        obtain ⟨ex, hex⟩ : ∃ ex, exT B = ex := ⟨_, rfl⟩
        obtain ⟨en, hen⟩ : ∃ en, enT B = en := ⟨_, rfl⟩
        obtain ⟨nx, hnx⟩ : ∃ nx : ByteArray, (⟨(nameX (cutX B es) ((p1, ex), 2, 0)).toArray⟩ : ByteArray) = nx := ⟨_, rfl⟩
        obtain ⟨hn, hhn⟩ : ∃ hn : ByteArray, (⟨(nameX (cutX B es) ((en, p2), 1, 0)).toArray⟩ : ByteArray) = hn := ⟨_, rfl⟩
        have hnxz : nx.size ≤ 1 := by rw [← hnx, size_mk]; exact nameX_len _ _
        have HPA : Hid (partA B es run.data.toList (i + 1) = (hn.data.toList, xs ++ [pt ++ nx])) := Lib.hid (by
          rw [partA_succ HKI.out (by omega)]
          unfold partS
          rw [hbp, if_pos rfl, HXS.out]
          unfold headOf tailOf
          rw [HEA.out, hex, hen, ← HPT.out, ← hnx, ← hhn]
          refine Prod.ext rfl ?_
          show _ ++ [_] = _ ++ [_]
          congr 2)
        have FX2 := FX.out; have FE2 := FE.out
        rw [hex] at FX2; rw [hen] at FE2
        have GX := Lib.hid FX2; have GE := Lib.hid FE2
        have GL : Hid (∀ W : World, EdgesIn W W.heap.size A2 ce → Calls Tryz.prog 53 #[.agg #[.string B, .slice A2 ce.length c2], .string ck, .int .u8 45, .string p1, .string ex] W fun e W' => e = .returned (.string nx) ∧ Below W.heap.size W W') := Lib.hid fun W h => by
          have := FL.out A2 c2 p1 ex W h
          rwa [hnx] at this
        have GH : Hid (∀ W : World, EdgesIn W W.heap.size A2 ce → Calls Tryz.prog 53 #[.agg #[.string B, .slice A2 ce.length c2], .string ck, .int .u8 43, .string en, .string p2] W fun e W' => e = .returned (.string hn) ∧ Below W.heap.size W W') := Lib.hid fun W h => by
          have := FH.out A2 c2 en p2 W h
          rwa [hhn] at this
        have hsz : ¬ 9223372036854775807 < pt.size + nx.size := by omega
        have HSX : Hid (∀ (W : World) (v : Value) (xs : List ByteArray), P8 w W w.heap.size M B A es.length cap A2 c2 ce v xs → W.rowIs p 70 2 (fun i => if i = 0 then .string p1 else .string p2) →
            (W.cell? ⟨w.heap.size, 0, none⟩ = some (.string B) ∧ W.cell? ⟨w.heap.size, 1, none⟩ = some (.slice A es.length cap) ∧ W.cell? ⟨M, 0, none⟩ = some (.string B) ∧ W.cell? ⟨M, 1, none⟩ = some (.slice A2 ce.length c2) ∧ W.cell? ⟨p, 0, none⟩ = some (.string p1))) := Lib.hid fun W v xs h hr =>
          ⟨h.two.1, h.two.2, h.net.cell (i := 0) (by omega), h.net.cell (i := 1) (by omega), hr.cell (i := 0) (by omega)⟩
        have HP0 := Lib.hid HPc.out.drew
        have HR0 : Hid (wc.drew.rowIs p 70 2 (fun i => if i = 0 then .string p1 else .string p2)) := Lib.hid HEB.out.row.drew
        clear hex hen hnx hhn hnxz FX2 FE2 hbp FX FE FL FH
        go_wp2_with fail
        go_region_held3 (fun W => W.cell? ⟨w.heap.size, 0, none⟩ = some (.string B) ∧ W.cell? ⟨w.heap.size, 1, none⟩ = some (.slice A es.length cap) ∧ W.cell? ⟨M, 0, none⟩ = some (.string B) ∧ W.cell? ⟨M, 1, none⟩ = some (.slice A2 ce.length c2) ∧ W.cell? ⟨p, 0, none⟩ = some (.string p1))
          (first
            | with_reducible exact HSX.out _ _ _ HP0.out HR0.out
            | with_reducible exact HSX.out _ _ _ HP5.out HR5.out
            | with_reducible exact HSX.out _ _ _ HP6.out HR6.out
            | with_reducible exact HSX.out _ _ _ HPa.out HRa.out
            | with_reducible exact HSX.out _ _ _ HP7.out HR7.out)
          (first
            | (go_at_call 50
               go_must (
               refine (GX.out _).mono ?_
               rintro e w5 ⟨rfl, hb5⟩
               have HP5 := Lib.hid (HP0.out.go hb5)
               have HR5 := Lib.hid (HR0.out.of_block (hb5.block _ HR0.out.lt))
               clear hb5))
            | (go_at_call 53
               go_must (
               refine (GL.out _ HP5.out.edges).mono ?_
               rintro e w6 ⟨rfl, hb6⟩
               have HP6 := Lib.hid (HP5.out.go hb6)
               have HR6 := Lib.hid (HR5.out.of_block (hb6.block _ HR5.out.lt))
               have hbA : Below w6.heap.size w6 (w6.alloc (.cells #[.string (pt ++ nx)] 9)) := (Below.refl _ _).alloc (Nat.le_refl _) _
               have HPa := Lib.hid (HP6.out.go hbA)
               have HRa := Lib.hid (HR6.out.of_block (hbA.block _ HR6.out.lt))
               have HZa := Lib.hid HPa.out.size
               clear hb6 hbA))
            | (refine step_append_own' rfl (.tmp 46) (.tmp 56) 26 rfl (w.heap.size + 1) 9 i0 (.string ⟨#[]⟩) 1 16 Tryz.underlying26 HI.out HI0.out HI1.out HI2.out rfl (by decide) v xs.length (xs.map Value.string) rfl HPa.out.row ⟨w6.heap.size, 0, none⟩ 1 1 [.string (pt ++ nx)] rfl rfl (one_new w6 (.string (pt ++ nx))) (by intro u hu; simp at hu; subst hu; rfl) (by unfold maxLen; omega) (by omega) HZa.out ?_
               go_must (
               intro v7 w7 hown7 hgr7
               have HP7 : Hid (P8 w w7 w.heap.size M B A es.length cap A2 c2 ce v7 (xs ++ [pt ++ nx])) := Lib.hid (HPa.out.push hgr7 (by rw [List.length_append, List.map_append]; exact hown7))
               have HR7 := Lib.hid (HRa.out.of_block (hgr7.block _ HRa.out.lt (ownT_ne HPa.out.row HRa.out (by decide))))
               clear hown7 hgr7)))
        rename_i hHeld
        clear hHeld HP0 HR0 HP5 HR5 HP6 HR6 HPa HRa HZa
        have hdl7 : w.heap.size < w7.heap.size := by have := HP7.out.size; omega
        have hM7 := HP7.out.net.lt
        have hp7 := HR7.out.lt
        have x0 : ∀ x : After w7, x.W.cell? ⟨w.heap.size, 0, none⟩ = some (.string B) := fun x => x.cell hdl7 HP7.out.two.1
        have x1 : ∀ x : After w7, x.W.cell? ⟨w.heap.size, 1, none⟩ = some (.slice A es.length cap) := fun x => x.cell hdl7 HP7.out.two.2
        have x2 : ∀ x : After w7, x.W.cell? ⟨M, 0, none⟩ = some (.string B) := fun x => x.cell hM7 (HP7.out.net.cell (i := 0) (by omega))
        have x3 : ∀ x : After w7, x.W.cell? ⟨M, 1, none⟩ = some (.slice A2 ce.length c2) := fun x => x.cell hM7 (HP7.out.net.cell (i := 1) (by omega))
        have x4 : ∀ x : After w7, x.W.cell? ⟨p, 1, none⟩ = some (.string p2) := fun x => x.cell hp7 (HR7.out.cell (i := 1) (by omega))
        have XE : Hid (∀ x : After w7, EdgesIn x.W x.W.heap.size A2 ce) := Lib.hid fun x => (HP7.out.edges.below x.h).more x.h.size
        go_wp2_with fail
        refine wp_region_below (by kernel_rfl) (by kernel_rfl) ?_
        repeat (go_big_quiet_step ((first
          | (go_at_call 49; exact After.call (GE.out _))
          | (go_at_call 53; exact After.call (GH.out _ (XE.out _))))))
        refine wpQuiet_nil ?_
        rintro _ ⟨x, rfl⟩
        have HP8 := Lib.hid (HP7.out.go x.h)
        clear x0 x1 x2 x3 x4
        go_wp2_with fail
        go_roundw
        case rel => exact ⟨i + 1, v7, _, by omega, by go_num, rfl, rfl, Lib.hid (by rw [HPA.out]), by rw [HPA.out]; exact HP8⟩
        case measure => simp [intOf]; omega

end Go.Proofs.YtpeafheljcjlhaaGreat

namespace Go.Proofs.YtpeafheljcjlhaaGreat
open Go.RowKit
set_option linter.unusedVariables false
set_option linter.unusedSimpArgs false

/-- two edges of cut nets, compared -/
theorem cut_eql (x y : CutEd) (W : World) : (binOp .eql 73 (cutV x) (cutV y)).run Tryz.prog W = .ok (.bool (decide (x = y))) W := by
  obtain ⟨⟨a, b⟩, c, d⟩ := x
  obtain ⟨⟨a', b'⟩, c', d'⟩ := y
  go_simp
  have e : ∀ a b : ByteArray, a.toList = b.toList ↔ a = b := fun a b => ⟨fun h => (str_ext (by rw [Lib.toList_data, Lib.toList_data] at h; exact h)).trans (str_ext rfl).symm, fun h => by rw [h]⟩
  simp only [e, Prod.mk.injEq]
  by_cases h1 : a = a' <;> by_cases h2 : b = b' <;> by_cases h3 : c = c' <;> by_cases h4 : d = d' <;> simp [h1, h2, h3, h4, Int.natCast_inj]

set_option maxRecDepth 100000 in
set_option maxHeartbeats 4000000 in
/-- impl.cutting.nameOf -/
theorem nameOf_any (B : ByteArray) (A : Option Addr) (n cap m : Nat) (A2 : Option Addr) (n2 c2 : Nat) (A5 : Option Addr) (c5 : Nat) (xs : List CutEd) (x : CutEd) (w : World) (hx : CutIn w w.heap.size A5 xs) (hl : xs.length ≤ 20) :
    Calls Tryz.prog 67 #[.agg #[.string B, .slice A n cap, .map (some m), .string B, .slice A2 n2 c2, .slice A5 xs.length c5], cutV x] w fun e w' => e = .returned (.string ⟨(nameX xs x).toArray⟩) ∧ Below w.heap.size w w' := by
  obtain ⟨⟨a, b⟩, kd, pl⟩ := x
  have HX := Lib.hid hx
  have hb2 : Below w.heap.size w ((w.alloc (.cells #[.string B, .slice A n cap, .map (some m), .string B, .slice A2 n2 c2, .slice A5 xs.length c5] 55)).alloc (.cells #[.string a, .string b, .int .i64 (kd : Int), .int .i64 (pl : Int)] 73)) := ((Below.refl _ _).alloc (Nat.le_refl _) _).alloc (by simp) _
  have hz2 : ((w.alloc (.cells #[.string B, .slice A n cap, .map (some m), .string B, .slice A2 n2 c2, .slice A5 xs.length c5] 55)).alloc (.cells #[.string a, .string b, .int .i64 (kd : Int), .int .i64 (pl : Int)] 73)).heap.size = w.heap.size + 2 := by simp
  have d0 : ((w.alloc (.cells #[.string B, .slice A n cap, .map (some m), .string B, .slice A2 n2 c2, .slice A5 xs.length c5] 55)).alloc (.cells #[.string a, .string b, .int .i64 (kd : Int), .int .i64 (pl : Int)] 73)).cell? ⟨w.heap.size + 1, 0, none⟩ = some (.string a) := by go_simp
  have d1 : ((w.alloc (.cells #[.string B, .slice A n cap, .map (some m), .string B, .slice A2 n2 c2, .slice A5 xs.length c5] 55)).alloc (.cells #[.string a, .string b, .int .i64 (kd : Int), .int .i64 (pl : Int)] 73)).cell? ⟨w.heap.size + 1, 1, none⟩ = some (.string b) := by go_simp
  have d2 : ((w.alloc (.cells #[.string B, .slice A n cap, .map (some m), .string B, .slice A2 n2 c2, .slice A5 xs.length c5] 55)).alloc (.cells #[.string a, .string b, .int .i64 (kd : Int), .int .i64 (pl : Int)] 73)).cell? ⟨w.heap.size + 1, 2, none⟩ = some (.int .i64 (kd : Int)) := by go_simp
  have d3 : ((w.alloc (.cells #[.string B, .slice A n cap, .map (some m), .string B, .slice A2 n2 c2, .slice A5 xs.length c5] 55)).alloc (.cells #[.string a, .string b, .int .i64 (kd : Int), .int .i64 (pl : Int)] 73)).cell? ⟨w.heap.size + 1, 3, none⟩ = some (.int .i64 (pl : Int)) := by go_simp
  clear hx
  go_enter Tryz.func67, Tryz.ntmps67
  go_wp2_with fail
  generalize hW2 : (w.alloc (.cells #[.string B, .slice A n cap, .map (some m), .string B, .slice A2 n2 c2, .slice A5 xs.length c5] 55)).alloc (.cells #[.string a, .string b, .int .i64 (kd : Int), .int .i64 (pl : Int)] 73) = w2 at hb2 hz2 d0 d1 d2 d3 ⊢
  clear hW2
  have HB2 := Lib.hid hb2
  clear hb2
  go_loopw [10] (fun c wr => ∃ k : Nat, k ≤ xs.length ∧ c = .int .i64 k ∧ Hid (Below w2.heap.size w2 wr) ∧ Hid (∀ y ∈ xs.take k, y ≠ ((a, b), kd, pl))) (fun c _ => xs.length - (intOf c).toNat)
  case atStart => exact ⟨0, Nat.zero_le _, rfl, Lib.hid (Below.refl _ _), Lib.hid (by simp)⟩
  case round =>
    obtain ⟨k, hk, rfl, HB, HR⟩ := hrel
    have hbw : Below w.heap.size w wr := HB2.out.trans (HB.out.mono (by omega))
    have HBW := Lib.hid hbw
    by_cases hlt : k < xs.length
    case neg =>
      have HN : Hid (nameX xs ((a, b), kd, pl) = []) := Lib.hid (nameX_no (by have h := HR.out; rwa [List.take_of_length_le (by omega)] at h))
      clear hbw
      go_wp2_with fail
      go_ret
      exact ⟨by rw [HN.out]; rfl, HBW.out⟩
    obtain ⟨y, hy⟩ : ∃ y, xs[k] = y := ⟨_, rfl⟩
    obtain ⟨eb, eo, rfl, hlow, q1, q2, q3, q4⟩ := (HX.out.below hbw) k hlt
    rw [hy] at q1 q2 q3 q4
    have HY := Lib.hid hy
    obtain ⟨⟨p1, p2⟩, kd', pl'⟩ := y
    simp only at q1 q2 q3 q4
    obtain ⟨v, hv⟩ : ∃ v, decide ((((p1, p2), kd', pl') : CutEd) = ((a, b), kd, pl)) = v := ⟨_, rfl⟩
    have hcmp : ∀ W : World, (binOp .eql 73 (.agg #[.string p1, .string p2, .int .i64 (kd' : Int), .int .i64 (pl' : Int)]) (.agg #[.string a, .string b, .int .i64 (kd : Int), .int .i64 (pl : Int)])).run Tryz.prog W = .ok (.bool v) W := fun W => by
      have h := cut_eql ((p1, p2), kd', pl') ((a, b), kd, pl) W
      rw [hv] at h
      exact h
    have HV := Lib.hid hv
    have hbE : Below wr.heap.size wr (wr.alloc (.cells #[.string p1, .string p2, .int .i64 (kd' : Int), .int .i64 (pl' : Int)] 73)) := (Below.refl _ _).alloc (Nat.le_refl _) _
    have hz := HB.out.size
    have x0 := ((HB.out.trans (hbE.mono HB.out.size)).cell (p := ⟨w.heap.size + 1, 0, none⟩) (by simp only; omega)).trans d0
    have x1 := ((HB.out.trans (hbE.mono HB.out.size)).cell (p := ⟨w.heap.size + 1, 1, none⟩) (by simp only; omega)).trans d1
    have x2 := ((HB.out.trans (hbE.mono HB.out.size)).cell (p := ⟨w.heap.size + 1, 2, none⟩) (by simp only; omega)).trans d2
    have x3 := ((HB.out.trans (hbE.mono HB.out.size)).cell (p := ⟨w.heap.size + 1, 3, none⟩) (by simp only; omega)).trans d3
    have HBa := Lib.hid (HB.out.trans (hbE.mono HB.out.size))
    have HBWa := Lib.hid (hbw.trans (hbE.mono hbw.size))
    have HTK : Hid (xs.take (k + 1) = xs.take k ++ [((p1, p2), kd', pl')]) := Lib.hid (by rw [List.take_succ_eq_append_getElem hlt, HY.out])
    clear hy hv hbw hbE HBW
    cases v with
    | true =>
      have HN : Hid (nameX xs ((a, b), kd, pl) = [nameOf k]) := Lib.hid (nameX_at hlt (by rw [HY.out]; exact of_decide_eq_true HV.out) HR.out)
      go_wp2_with (first
        | (go_at_call 95; refine (edgeName_any k (by omega) _).mono ?_; rintro e w4 ⟨rfl, rfl⟩))
      go_ret
      exact ⟨by rw [HN.out]; rfl, HBWa.out⟩
    | false =>
      have HR1 : Hid (∀ y ∈ xs.take (k + 1), y ≠ ((a, b), kd, pl)) := Lib.hid fun y hy => by
        rw [HTK.out] at hy
        rcases List.mem_append.1 hy with h | h
        · exact HR.out y h
        · simp at h; subst h
          exact of_decide_eq_false HV.out
      go_wp2_with fail
      go_roundw
      case rel => exact ⟨k + 1, by omega, by go_num, HBa, HR1⟩
      case measure => simp [intOf]; omega

end Go.Proofs.YtpeafheljcjlhaaGreat

namespace Go.Proofs.YtpeafheljcjlhaaGreat
open Go.RowKit Go.Shelf
attribute [local go_sem] Oper.semAt_some
set_option linter.unusedVariables false
set_option linter.unusedSimpArgs false

/-- what a round is handed -/
def encsB (x : ByteArray) : Array Value := #[.string x]
theorem keepN_below {D l : Nat} {A B : World} (h : Below A.heap.size A B) (hD : D ≤ A.heap.size) : KeepN D l A B :=
  KeepN.grown (row := none) ⟨h.os, h.tape, h.output, h.size, fun i hi _ => h.block i hi⟩ (fun _ e => by cases e) hD

/-- parts that are made stay made -/
theorem partA_more (B : ByteArray) (es : List (ByteArray × ByteArray)) (l : List UInt8) (i : Nat) : ∃ r, (partA B es l (i + 1)).2 = (partA B es l i).2 ++ r := by
  by_cases hi : i < (placesOf l).length
  · have e : partA B es l (i + 1) = partS B es (partA B es l i) (placesOf l)[i] := by
      unfold partA
      rw [List.take_succ_eq_append_getElem hi, List.foldl_append]
      rfl
    rw [e]
    unfold partS
    split
    · exact ⟨_, rfl⟩
    · exact ⟨[], by simp⟩
  · have e : partA B es l (i + 1) = partA B es l i := by
      unfold partA
      rw [List.take_of_length_le (by omega), List.take_of_length_le (by omega)]
    exact ⟨[], by rw [e]; simp⟩
theorem partA_pre (B : ByteArray) (es : List (ByteArray × ByteArray)) (l : List UInt8) {i n : Nat} (h : i ≤ n) : ∃ r, (partA B es l n).2 = (partA B es l i).2 ++ r := by
  induction n with
  | zero => obtain rfl : i = 0 := by omega
            exact ⟨[], by simp⟩
  | succ n ih =>
    by_cases hn : i ≤ n
    · obtain ⟨r, hr⟩ := ih hn
      obtain ⟨r2, hr2⟩ := partA_more B es l n
      exact ⟨r ++ r2, by rw [hr2, hr, List.append_assoc]⟩
    · obtain rfl : i = n + 1 := by omega
      exact ⟨[], by simp⟩

/-- what the iterator reads: the run, the cutting, what it names; all of it below s -/
structure PEnv (W : World) (s g1 g2 : Nat) (B : ByteArray) (A : Option Addr) (cap mm : Nat) (A2 : Option Addr) (c2 : Nat) (A5 : Option Addr) (c5 : Nat) (xs : List CutEd) (n2 : Nat) (run : ByteArray) (es : List (ByteArray × ByteArray)) (ms : List Value) : Prop where
  run : W.cell? ⟨g1, 0, none⟩ = some (.string run)
  ct : W.rowIs g2 55 6 (ctC B A es.length cap (.map (some mm)) B (.slice A2 n2 c2) (.slice A5 xs.length c5))
  set : SetAt W mm ms
  edges : EdgesIn W s A es
  cut : CutIn W s A5 xs
  l1 : g1 < s
  l2 : g2 < s
  lm : mm < s
  size : s ≤ W.heap.size
theorem PEnv.keep {W W' : World} {s g1 g2 : Nat} {B : ByteArray} {A : Option Addr} {cap mm : Nat} {A2 : Option Addr} {c2 : Nat} {A5 : Option Addr} {c5 : Nat} {xs : List CutEd} {n2 : Nat} {run : ByteArray} {es : List (ByteArray × ByteArray)} {ms : List Value}
    (h : PEnv W s g1 g2 B A cap mm A2 c2 A5 c5 xs n2 run es ms) (k : ∀ i, i < s → W'.heap[i]? = W.heap[i]?) (hz : W.heap.size ≤ W'.heap.size) : PEnv W' s g1 g2 B A cap mm A2 c2 A5 c5 xs n2 run es ms := by
  refine ⟨(World.cell?_of_block (k g1 h.l1)).trans h.run, h.ct.of_block (k g2 h.l2), ?_, ?_, ?_, h.l1, h.l2, h.lm, Nat.le_trans h.size hz⟩
  · obtain ⟨xs, clock, h1, h2⟩ := h.set
    exact ⟨xs, clock, (k mm h.lm).trans h1, h2⟩
  · intro i hi
    obtain ⟨b, o, e, hl, q1, q2⟩ := h.edges i hi
    exact ⟨b, o, e, hl, (World.cell?_of_block (k b hl)).trans q1, (World.cell?_of_block (k b hl)).trans q2⟩
  · intro i hi
    obtain ⟨b, o, e, hl, q1, q2, q3, q4⟩ := h.cut i hi
    exact ⟨b, o, e, hl, (World.cell?_of_block (k b hl)).trans q1, (World.cell?_of_block (k b hl)).trans q2, (World.cell?_of_block (k b hl)).trans q3, (World.cell?_of_block (k b hl)).trans q4⟩
theorem PEnv.go {W W' : World} {s g1 g2 : Nat} {B : ByteArray} {A : Option Addr} {cap mm : Nat} {A2 : Option Addr} {c2 : Nat} {A5 : Option Addr} {c5 : Nat} {xs : List CutEd} {n2 : Nat} {run : ByteArray} {es : List (ByteArray × ByteArray)} {ms : List Value}
    (h : PEnv W s g1 g2 B A cap mm A2 c2 A5 c5 xs n2 run es ms) (k : Below W.heap.size W W') : PEnv W' s g1 g2 B A cap mm A2 c2 A5 c5 xs n2 run es ms := h.keep (fun i hi => k.block i (by have := h.size; omega)) k.size

set_option maxRecDepth 100000 in
set_option maxHeartbeats 8000000 in
/-- impl.cutting.parts$1 -/
theorem parts_run (B : ByteArray) (A : Option Addr) (cap mm : Nat) (A2 : Option Addr) (c2 : Nat) (A5 : Option Addr) (c5 : Nat) (es : List (ByteArray × ByteArray)) (run : ByteArray) (w : World) (s g1 g2 L : Nat) (hs : B.size ≤ maxLen) (hc : Cuttable B es) (hr60 : run.size ≤ 60)
    (hrl : ∀ i, i < run.size → ∃ k, k < es.length ∧ run.data.toList[i]? = some (nameOf k))
    (hP : PEnv w s g1 g2 B A cap mm A2 c2 A5 c5 (cutX B es) (cutE B es).length run es ((names (backP B es) es.length).map encB)) (hL : w.heap.size ≤ L) :
    SeqRunT Fence.wide 4 Tryz.prog 65 #[.pointer (some ⟨g1, 0, none⟩), .pointer (some ⟨g2, 0, none⟩)] encsB (KeepN s L)
      (fun xs => xs = partsL B es run.data.toList) (fun pre => ∃ rest, partsL B es run.data.toList = pre ++ rest) (partsL B es run.data.toList).length w L := by
  intro J Jx W hbW hlW hJ hJx hY h0
  refine callsIn_of_wp Tryz.func65 rfl trivial ?_ rfl
  simp only [Tryz.ntmps65, List.size_toArray, List.length_cons, List.length_nil, Nat.reduceAdd, Nat.reduceSub, Array.replicate_succ, Array.replicate_zero, List.push_toArray, List.append_toArray, List.nil_append, List.cons_append]
  have h16 := (facts_of hc.1).few
  have hx20 : (cutX B es).length ≤ 20 := by rw [← cutE_len]; have := (facts_of hc.2.2).few; omega
  have HY := Lib.hid hY; have HJ := Lib.hid hJ; have HJX := Lib.hid hJx; have HRL := Lib.hid hrl
  have HPW := Lib.hid (hP.go hbW)
  have hzW := hbW.size
  have hsw := hP.size
  have FI : Hid (∀ (t : ByteArray) (W : World), Calls Tryz.prog 66 #[.agg #[.string B, .slice A es.length cap], .string t] W fun e w' => e = .returned (.int .i64 (eIdx es.length t.data.toList)) ∧ Below W.heap.size W w') := Lib.hid fun t W => edgeIndex_any (.string B) A es.length cap t W (by omega)
  have FN : Hid (∀ (x : CutEd) (W : World), CutIn W W.heap.size A5 (cutX B es) → Calls Tryz.prog 67 #[.agg #[.string B, .slice A es.length cap, .map (some mm), .string B, .slice A2 (cutE B es).length c2, .slice A5 (cutX B es).length c5], cutV x] W fun e w' => e = .returned (.string ⟨(nameX (cutX B es) x).toArray⟩) ∧ Below W.heap.size W w') := Lib.hid fun x W h => nameOf_any B A es.length cap mm A2 _ c2 A5 c5 (cutX B es) x W h hx20
  have FK : Hid (∀ (k : Nat) (W : World), k < es.length → EdgesIn W W.heap.size A es → Calls Tryz.prog 68 #[.agg #[.string B, .slice A es.length cap], .int .i64 k] W fun e w' => e = .returned (cutV (keptOf es k)) ∧ Below W.heap.size W w') := Lib.hid fun k W hk h => keptEdge_any B A cap es k W h hk h16
  have FT : Hid (∀ (t : ByteArray) (W : World), Calls Tryz.prog 69 #[.agg #[.string B, .slice A es.length cap], .string t] W fun e w' => e = .returned (cutV ((t, exT B), 2, 0)) ∧ Below W.heap.size W w') := Lib.hid fun t W => tailEdge_any B t A es.length cap W (facts_of hc.1).one hs
  have FH : Hid (∀ (t : ByteArray) (W : World), Calls Tryz.prog 70 #[.agg #[.string B, .slice A es.length cap], .string t] W fun e w' => e = .returned (cutV ((enT B, t), 1, 0)) ∧ Below W.heap.size W w') := Lib.hid fun t W => headEdge_any B t A es.length cap W (facts_of hc.1).one hs
  obtain ⟨xs, hxs⟩ : ∃ xs, cutX B es = xs := ⟨_, rfl⟩
  obtain ⟨n2, hn2⟩ : ∃ n2, (cutE B es).length = n2 := ⟨_, rfl⟩
  have HXS := Lib.hid hxs
  rw [hxs, hn2] at HPW FN
  have hd0 := HPW.out.run
  have HK0 : Hid (KeepN s L W W) := Lib.hid (KeepN.refl s L W)
  have HJ0 := Lib.hid h0
  clear hY hJ hJx hrl hP hbW hc hxs hn2 h0 hx20
  gi_wp2_with fail
  clear hd0
  gi_loopw [4, 10] (fun p c wr => ∃ (i : Nat) (pt : ByteArray), i ≤ run.size ∧ c = .int .i64 i ∧ p = .string pt ∧ Hid (pt.data.toList = (partA B es run.data.toList i).1) ∧ Hid (J (partA B es run.data.toList i).2 wr) ∧ Hid (KeepN s L W wr)) (fun _ c _ => run.size - (intOf c).toNat)
  case atStart => exact ⟨0, ⟨#[]⟩, Nat.zero_le _, rfl, rfl, Lib.hid rfl, HJ0, HK0⟩
  case round =>
    clear HJ0 HK0
    obtain ⟨i, pt, hi, rfl, rfl, HPT, HJW, HKW⟩ := hrel
    have HP := Lib.hid (HPW.out.keep HKW.out.low HKW.out.size)
    have hzr := HKW.out.size
    by_cases hlt : i < run.size
    case neg =>
      have hie : i = run.data.toList.length := by have e : run.data.toList.length = run.size := by simp
                                                  omega
      have hfull : partsL B es run.data.toList = (partA B es run.data.toList i).2 ++ [pt] := by
        unfold partsL
        rw [← hie, str_ext HPT.out]
      have HFULL := Lib.hid hfull
      have hN : (partA B es run.data.toList i).2.length < (partsL B es run.data.toList).length := by rw [hfull]; simp
      obtain ⟨fn, tmps, assign, body, hy, hR⟩ := HY.out _ pt wr HJW.out hN
      dsimp only [encsB] at hy
      clear hfull hie hN
      gi_wp2
      refine hR.mono ?_
      clear hR hy
      rintro e W3 (⟨rfl, hJ3, hk3⟩ | ⟨rfl, hJx3, _⟩)
      · gi_wp2
        go_end0
        exact ⟨⟨_, rfl⟩, .inl ⟨_, HFULL.out.symm, hJ3⟩⟩
      · gi_wp2
        go_end0
        exact ⟨⟨_, rfl⟩, .inr ⟨_, ⟨[], by rw [HFULL.out]; simp⟩, hJx3⟩⟩
    obtain ⟨k, hk, hki⟩ := HRL.out i hlt
    obtain ⟨S1, hS1⟩ : ∃ S1, run.extract i (i + 1) = S1 := ⟨_, rfl⟩
    have HX1 : Hid (eIdx es.length S1.data.toList = k) := Lib.hid (by
      rw [← hS1, letter_at hlt, List.getD_eq_getElem?_getD, hki]
      exact eIdx_name hk (by omega))
    have F1 : Hid (∀ W : World, Calls Tryz.prog 66 #[.agg #[.string B, .slice A es.length cap], .string S1] W fun e w' => e = .returned (.int .i64 (k : Int)) ∧ Below W.heap.size W w') := Lib.hid fun W => by
      have h := FI.out S1 W
      rw [HX1.out] at h
      exact h
    have y0 : run[i]'hlt = nameOf k := by
      rw [List.getElem?_eq_getElem (by simpa using hlt)] at hki
      injection hki
    have HY0 := Lib.hid y0; have HKI := Lib.hid hki
    have cR := ct_at HP.out.ct
    have hl1 : g1 < wr.heap.size := by have := HP.out.l1; have := HP.out.size; omega
    have hl2 : g2 < wr.heap.size := by have := HP.out.l2; have := HP.out.size; omega
    have x0 : ∀ x : After wr, x.W.cell? ⟨g1, 0, none⟩ = some (.string run) := fun x => x.cell hl1 HP.out.run
    have x1 : ∀ x : After wr, x.W.cell? ⟨g2, 0, none⟩ = some (.string B) := fun x => x.cell hl2 cR.c0
    have x2 : ∀ x : After wr, x.W.cell? ⟨g2, 1, none⟩ = some (.slice A es.length cap) := fun x => x.cell hl2 cR.c1
    have a1 : (0 : Int) ≤ (i : Int) := by omega
    have a2 : (i : Int) < (run.size : Int) := by omega
    have a4 : (0 : Int) ≤ (i : Int) + 1 := by omega
    have a5 : ((i : Int) + 1).toNat = i + 1 := by omega
    have a6 : (i : Int) + 1 ≤ (run.size : Int) := by omega
    have a7 : i + 1 ≤ run.size := by omega
    have a8 : (i : Int) ≤ (i : Int) + 1 := by omega
    have a3 : IntKind.i64.wrap ((i : Int) + 1) = (i : Int) + 1 := IntWalk.i64_in _ (by omega)
    clear hki y0 cR
    gi_wp2_with fail
    refine wpIn_wide.2 ?_
    refine wp_region_below (by kernel_rfl) (by kernel_rfl) ?_
    repeat (go_big_quiet_step ((first
      | (go_at_call 66; exact After.call (F1.out _)))))
    refine wpQuiet_nil ?_
    rintro _ ⟨x, rfl⟩
    obtain ⟨w5, hw5⟩ : ∃ w5, x.W = w5 := ⟨_, rfl⟩
    have hb5 := x.h
    rw [hw5] at hb5 ⊢
    clear hw5 x x0 x1 x2 hS1 a4 a5 a6 a7 a8 a3
    have HP5 := Lib.hid (HP.out.go hb5)
    have HJ5 := Lib.hid (HJ.out _ _ _ HJW.out (KeepT.below hb5 (by omega)))
    have HK5 := Lib.hid (HKW.out.trans (keepN_below hb5 (by omega)))
    have hz5 := hb5.size
    have y0 := HY0.out
    have e0 := HP5.out.run
    have e2 := (ct_at HP5.out.ct).c2
    have hlk : ∀ n : Nat, (Instr.lookup 52 (.map (some mm)) (.int .u8 (nameOf k).toNat) false).run Tryz.prog (w5.drewN n) = .ok (.bool (backP B es k)) (w5.drewN n) := fun n => by
      have hset : SetAt (w5.drewN n) mm ((names (backP B es) es.length).map encB) := HP5.out.set.below (below_drewN (Below.refl _ _) n) (by have := HP5.out.lm; have := HP5.out.size; omega)
      have h := hset.lookup (P := Tryz.prog) (keyB Tryz.underlying5) (t := 52) (e := 4) Tryz.underlying52 (by kernel_rfl) (nameOf k)
      have e : decB (nameOf k ∈ names (backP B es) es.length) = backP B es k := by
        cases hp : backP B es k with
        | true => exact decB_t ((mem_names (by omega) hk).2 hp)
        | false => exact decB_f fun h => by rw [(mem_names (by omega) hk).1 h] at hp; cases hp
      rw [e] at h
      exact h
    clear hb5
    gi_wp2_with fail
    refine wpIn_wide.2 ?_
    go_quiet (fail)
    obtain ⟨w6, hw6⟩ : ∃ w6, w5.drewN nq = w6 := ⟨_, rfl⟩
    have hb6 : Below w5.heap.size w5 w6 := by rw [← hw6]; exact below_drewN (Below.refl _ _) nq
    rw [hw6]
    clear hw6 hlk e0 e2 y0 a1 a2
    have HP6 := Lib.hid (HP5.out.go hb6)
    have HJ6 := Lib.hid (HJ.out _ _ _ HJ5.out (KeepT.below hb6 (by omega)))
    have HK6 := Lib.hid (HK5.out.trans (keepN_below hb6 (by omega)))
    have hz6 := hb6.size
    have cR := ct_at HP6.out.ct
    have hl6 : g2 < w6.heap.size := by omega
    have z0 : ∀ x : After w6, x.W.cell? ⟨g2, 0, none⟩ = some (.string B) := fun x => x.cell hl6 cR.c0
    have z1 : ∀ x : After w6, x.W.cell? ⟨g2, 1, none⟩ = some (.slice A es.length cap) := fun x => x.cell hl6 cR.c1
    have z2 : ∀ x : After w6, x.W.cell? ⟨g2, 2, none⟩ = some (.map (some mm)) := fun x => x.cell hl6 cR.c2
    have z3 : ∀ x : After w6, x.W.cell? ⟨g2, 3, none⟩ = some (.string B) := fun x => x.cell hl6 cR.c3
    have z4 : ∀ x : After w6, x.W.cell? ⟨g2, 4, none⟩ = some (.slice A2 n2 c2) := fun x => x.cell hl6 cR.c4
    have z5 : ∀ x : After w6, x.W.cell? ⟨g2, 5, none⟩ = some (.slice A5 xs.length c5) := fun x => x.cell hl6 cR.c5
    have ZE : Hid (∀ x : After w6, EdgesIn x.W x.W.heap.size A es) := Lib.hid fun x => (HP6.out.go x.h).edges.more (by have := x.h.size; omega)
    have ZX : Hid (∀ x : After w6, CutIn x.W x.W.heap.size A5 xs) := Lib.hid fun x => (HP6.out.go x.h).cut.more (by have := x.h.size; omega)
    have hpl := partA_len B es run.data.toList i
    have hptz : pt.size ≤ 60 := by rw [str_size HPT.out]; omega
    clear hb6 cR hpl
    cases hbp : backP B es k with
    | false =>
      obtain ⟨nt, hnt⟩ : ∃ nt : ByteArray, (⟨(nameX xs (keptOf es k)).toArray⟩ : ByteArray) = nt := ⟨_, rfl⟩
      have hntz : nt.size ≤ 1 := by rw [← hnt, size_mk]; exact nameX_len _ _
      have HPA : Hid (partA B es run.data.toList (i + 1) = ((pt ++ nt).data.toList, (partA B es run.data.toList i).2)) := Lib.hid (by
        rw [partA_succ HKI.out (by omega)]
        unfold partS
        rw [hbp, if_neg (by simp), HXS.out, ← HPT.out, ← hnt, Go.Joins.data_append])
      obtain ⟨kx, hkx⟩ : ∃ kx, keptOf es k = kx := ⟨_, rfl⟩
      have GK : Hid (∀ W : World, EdgesIn W W.heap.size A es → Calls Tryz.prog 68 #[.agg #[.string B, .slice A es.length cap], .int .i64 k] W fun e w' => e = .returned (cutV kx) ∧ Below W.heap.size W w') := Lib.hid fun W h => by
        have := FK.out k W hk h
        rwa [hkx] at this
      have GN : Hid (∀ W : World, CutIn W W.heap.size A5 xs → Calls Tryz.prog 67 #[.agg #[.string B, .slice A es.length cap, .map (some mm), .string B, .slice A2 n2 c2, .slice A5 xs.length c5], cutV kx] W fun e w' => e = .returned (.string nt) ∧ Below W.heap.size W w') := Lib.hid fun W h => by
        have := FN.out kx W h
        rw [← hkx, hnt] at this
        rw [← hkx]
        exact this
      have hsz : ¬ 9223372036854775807 < pt.size + nt.size := by omega
      obtain ⟨⟨q1, q2⟩, q3, q4⟩ := kx
      clear hnt hntz hkx
      clear hbp
      gi_wp2_with fail
      refine wpIn_wide.2 ?_
      refine wp_region_below (by kernel_rfl) (by kernel_rfl) ?_
      repeat (go_big_quiet_step ((first
        | (go_at_call 68; exact After.call (GK.out _ (ZE.out _)))
        | (go_at_call 67; exact After.call (GN.out _ (ZX.out _))))))
      refine wpQuiet_nil ?_
      rintro _ ⟨x, rfl⟩
      have HJ7 := Lib.hid (HJ.out _ _ _ HJ6.out (KeepT.below x.h (by omega)))
      have HK7 := Lib.hid (HK6.out.trans (keepN_below x.h (by omega)))
      clear z0 z1 z2 z3 z4 z5
      gi_wp2_with fail
      go_roundw
      case rel => exact ⟨i + 1, _, by omega, by go_num, rfl, Lib.hid (by rw [HPA.out]), by rw [HPA.out]; exact HJ7, HK7⟩
      case measure => simp [intOf]; omega
    | true =>
      obtain ⟨p1, hp1⟩ : ∃ p1, es[k].1 = p1 := ⟨_, rfl⟩
      obtain ⟨p2, hp2⟩ : ∃ p2, es[k].2 = p2 := ⟨_, rfl⟩
      have HEA : Hid (eAt es k = (p1, p2)) := Lib.hid (by rw [eAt_at hk, ← hp1, ← hp2])
      obtain ⟨eb, eo, hA, hlow, q1, q2⟩ := HP6.out.edges k hk
      rw [hp1] at q1
      rw [hp2] at q2
      have y1 := (ct_at HP6.out.ct).c1
      rw [hA] at y1
      clear hp1 hp2
      obtain ⟨ex, hex⟩ : ∃ ex, exT B = ex := ⟨_, rfl⟩
      obtain ⟨en, hen⟩ : ∃ en, enT B = en := ⟨_, rfl⟩
      obtain ⟨nx, hnx⟩ : ∃ nx : ByteArray, (⟨(nameX xs ((p1, ex), 2, 0)).toArray⟩ : ByteArray) = nx := ⟨_, rfl⟩
      obtain ⟨hn, hhn⟩ : ∃ hn : ByteArray, (⟨(nameX xs ((en, p2), 1, 0)).toArray⟩ : ByteArray) = hn := ⟨_, rfl⟩
      have hnxz : nx.size ≤ 1 := by rw [← hnx, size_mk]; exact nameX_len _ _
      obtain ⟨pre, hpre⟩ : ∃ pre, (partA B es run.data.toList i).2 = pre := ⟨_, rfl⟩
      have HPA : Hid (partA B es run.data.toList (i + 1) = (hn.data.toList, pre ++ [pt ++ nx])) := Lib.hid (by
        rw [partA_succ HKI.out (by omega)]
        unfold partS
        rw [hbp, if_pos rfl, hpre]
        unfold headOf tailOf
        rw [HEA.out, hex, hen, HXS.out, ← HPT.out, ← hnx, ← hhn]
        refine Prod.ext rfl ?_
        show _ ++ [_] = _ ++ [_]
        congr 2)
      have HPRE : Hid (∃ rest, partsL B es run.data.toList = (pre ++ [pt ++ nx]) ++ rest) := Lib.hid (by
        have hz : run.data.toList.length = run.size := by simp
        obtain ⟨r, hr⟩ := partA_pre B es run.data.toList (show i + 1 ≤ run.data.toList.length by omega)
        rw [HPA.out] at hr
        unfold partsL
        rw [hr]
        exact ⟨_, List.append_assoc _ _ _⟩)
      have HN : Hid (pre.length < (partsL B es run.data.toList).length) := Lib.hid (by
        obtain ⟨r, hr⟩ := HPRE.out
        rw [hr]; simp only [List.length_append, List.length_cons, List.length_nil]; omega)
      rw [hpre] at HJ6
      have GT : Hid (∀ W : World, Calls Tryz.prog 69 #[.agg #[.string B, .slice A es.length cap], .string p1] W fun e w' => e = .returned (cutV ((p1, ex), 2, 0)) ∧ Below W.heap.size W w') := Lib.hid fun W => by
        have := FT.out p1 W
        rwa [hex] at this
      have GH : Hid (∀ W : World, Calls Tryz.prog 70 #[.agg #[.string B, .slice A es.length cap], .string p2] W fun e w' => e = .returned (cutV ((en, p2), 1, 0)) ∧ Below W.heap.size W w') := Lib.hid fun W => by
        have := FH.out p2 W
        rwa [hen] at this
      have GN : Hid (∀ W : World, CutIn W W.heap.size A5 xs → Calls Tryz.prog 67 #[.agg #[.string B, .slice A es.length cap, .map (some mm), .string B, .slice A2 n2 c2, .slice A5 xs.length c5], cutV ((p1, ex), 2, 0)] W fun e w' => e = .returned (.string nx) ∧ Below W.heap.size W w') := Lib.hid fun W h => by
        have := FN.out ((p1, ex), 2, 0) W h
        rwa [hnx] at this
      have GM : Hid (∀ W : World, CutIn W W.heap.size A5 xs → Calls Tryz.prog 67 #[.agg #[.string B, .slice A es.length cap, .map (some mm), .string B, .slice A2 n2 c2, .slice A5 xs.length c5], cutV ((en, p2), 1, 0)] W fun e w' => e = .returned (.string hn) ∧ Below W.heap.size W w') := Lib.hid fun W h => by
        have := FN.out ((en, p2), 1, 0) W h
        rwa [hhn] at this
      have hsz : ¬ 9223372036854775807 < pt.size + nx.size := by omega
      have hb7 : Below w6.heap.size w6 (w6.alloc (.cells #[.string p1, .string p2] 70)) := (Below.refl _ _).alloc (Nat.le_refl _) _
      have HP7 := Lib.hid (HP6.out.go hb7)
      have HJ7 := Lib.hid (HJ.out _ _ _ HJ6.out (KeepT.below hb7 (by omega)))
      have HK7 := Lib.hid (HK6.out.trans (keepN_below hb7 (by omega)))
      have HRW : Hid ((w6.alloc (.cells #[.string p1, .string p2] 70)).heap[w6.heap.size]? = some (.cells #[.string p1, .string p2] 70 (0, 0))) := Lib.hid (World.alloc_heap_new w6 _)
      have hz7 : (w6.alloc (.cells #[.string p1, .string p2] 70)).heap.size = w6.heap.size + 1 := by simp
      clear z0 z1 z2 z3 z4 z5 ZE ZX hex hen hnx hhn hnxz hpre hb7 hbp HJ6
      gi_wp2_with fail
      obtain ⟨w7, hw7⟩ : ∃ w7, w6.alloc (.cells #[.string p1, .string p2] 70) = w7 := ⟨_, rfl⟩
      rw [hw7] at HP7 HJ7 HK7 HRW hz7 ⊢
      obtain ⟨p, hp⟩ : ∃ p, w6.heap.size = p := ⟨_, rfl⟩
      rw [hp] at HRW hz7 ⊢
      have hW7 : W.heap.size ≤ w7.heap.size := HK7.out.size
      clear hw7 hp q1 q2 y1 hA
      have d0 := (ct_at HP7.out.ct).c0; have d1 := (ct_at HP7.out.ct).c1; have d2 := (ct_at HP7.out.ct).c2; have d3 := (ct_at HP7.out.ct).c3; have d4 := (ct_at HP7.out.ct).c4; have d5 := (ct_at HP7.out.ct).c5
      have d6 : w7.cell? ⟨p, 0, none⟩ = some (.string p1) := by simp [World.cell?, HRW.out]
      gi_region_with (first
        | (refine ⟨trivial, ?_⟩
           gi_at_call 69
           go_must (
           refine (callsIn_wide.2 (GT.out _)).mono ?_
           rintro e w8 ⟨rfl, hb8⟩
           have HB8 : Hid (Below w7.heap.size w7 w8) := Lib.hid ((Below.refl _ _).drew.trans hb8)
           have HP8 := Lib.hid (HP7.out.go HB8.out)
           have f0 := (ct_at HP8.out.ct).c0; have f1 := (ct_at HP8.out.ct).c1; have f2 := (ct_at HP8.out.ct).c2; have f3 := (ct_at HP8.out.ct).c3; have f4 := (ct_at HP8.out.ct).c4; have f5 := (ct_at HP8.out.ct).c5
           clear hb8))
        | (refine ⟨trivial, ?_⟩
           gi_at_call 67
           go_must (
           refine (callsIn_wide.2 (GN.out _ (HP8.out.cut.more (Nat.le_trans (Nat.le_refl _) HP8.out.size)))).mono ?_
           rintro e w9 ⟨rfl, hb9⟩
           have HB9 : Hid (Below w7.heap.size w7 w9) := Lib.hid (HB8.out.trans (hb9.mono HB8.out.size))
           have HJ9 := HJ.out _ _ _ HJ7.out (KeepT.below HB9.out hW7)
           obtain ⟨fn, tmps, assign, body, hy, hR⟩ := HY.out pre (pt ++ nx) w9 HJ9 HN.out
           dsimp only [encsB] at hy
           have hR2 := hR.mono (R' := fun e W' => ∃ v : Bool, e = .returned (.bool v) ∧ Hid ((v = true ∧ J (pre ++ [pt ++ nx]) W' ∧ KeepN s L w9 W') ∨ (v = false ∧ Jx (pre ++ [pt ++ nx]) W' ∧ KeepN s L w9 W'))) (fun e W' h => by
             rcases h with ⟨rfl, h⟩ | ⟨rfl, h⟩
             · exact ⟨true, rfl, Lib.hid (.inl ⟨rfl, h⟩)⟩
             · exact ⟨false, rfl, Lib.hid (.inr ⟨rfl, h⟩)⟩)
           clear hb9 HJ9 hR))
        | (refine hR2.mono ?_; rintro e W3 ⟨vv, rfl, HV⟩))
      all_goals
        clear d0 d1 d2 d3 d4 d5 d6 f0 f1 f2 f3 f4 f5
        have HP9 := Lib.hid (HP7.out.go HB9.out)
        have HK9 := Lib.hid (HK7.out.trans (keepN_below HB9.out (by have := HP7.out.size; omega)))
        have hr9 := (HB9.out.block p (by omega)).trans HRW.out
        have hz9 := HB9.out.size
        have HR9 := Lib.hid hr9
        clear hr9 hy hR2
        cases vv with
        | false =>
          have HJX3 : Hid (Jx (pre ++ [pt ++ nx]) W3) := Lib.hid (by
            rcases HV.out with ⟨h, _⟩ | ⟨_, h, _⟩
            · cases h
            · exact h)
          gi_wp2_with fail
          refine bodyPost_ret (results_none rfl _ _ _) rfl ?_
          exact ⟨⟨_, rfl⟩, .inr ⟨_, HPRE.out, HJX3.out⟩⟩
        | true =>
          have hjk : J (pre ++ [pt ++ nx]) W3 ∧ KeepN s L w9 W3 := by
            rcases HV.out with ⟨_, h⟩ | ⟨h, _⟩
            · exact h
            · cases h
          have HJ3 := Lib.hid hjk.1
          have HP3 := Lib.hid (HP9.out.keep hjk.2.low hjk.2.size)
          have HK3 := Lib.hid (HK9.out.trans hjk.2)
          have hr3 := hjk.2.cells p _ _ _ HR9.out (by decide) (by decide)
          have hz3 := hjk.2.size
          have hp3 : p < W3.heap.size := (Array.getElem?_eq_some_iff.1 hr3).1
          have hc3 : W3.cell? ⟨p, 1, none⟩ = some (.string p2) := by simp [World.cell?, hr3]
          have hl3 : g2 < W3.heap.size := by have := HP3.out.l2; have := HP3.out.size; omega
          have hW3 : W.heap.size ≤ W3.heap.size := HK3.out.size
          have cR := ct_at HP3.out.ct
          have z0 : ∀ x : After W3, x.W.cell? ⟨g2, 0, none⟩ = some (.string B) := fun x => x.cell hl3 cR.c0
          have z1 : ∀ x : After W3, x.W.cell? ⟨g2, 1, none⟩ = some (.slice A es.length cap) := fun x => x.cell hl3 cR.c1
          have z2 : ∀ x : After W3, x.W.cell? ⟨g2, 2, none⟩ = some (.map (some mm)) := fun x => x.cell hl3 cR.c2
          have z3 : ∀ x : After W3, x.W.cell? ⟨g2, 3, none⟩ = some (.string B) := fun x => x.cell hl3 cR.c3
          have z4 : ∀ x : After W3, x.W.cell? ⟨g2, 4, none⟩ = some (.slice A2 n2 c2) := fun x => x.cell hl3 cR.c4
          have z5 : ∀ x : After W3, x.W.cell? ⟨g2, 5, none⟩ = some (.slice A5 xs.length c5) := fun x => x.cell hl3 cR.c5
          have z6 : ∀ x : After W3, x.W.cell? ⟨p, 1, none⟩ = some (.string p2) := fun x => x.cell hp3 hc3
          have ZX : Hid (∀ x : After W3, CutIn x.W x.W.heap.size A5 xs) := Lib.hid fun x => (HP3.out.go x.h).cut.more (by have := x.h.size; have := HP3.out.size; omega)
          clear hjk hr3 hc3 cR HV
          gi_wp2_with fail
          simp only [Act.put, List.getElem_toArray, List.getElem_cons_succ, List.getElem_cons_zero, List.setIfInBounds_toArray, List.set_cons_zero, List.set_cons_succ]
          refine wpIn_wide.2 ?_
          refine wp_region_below (by kernel_rfl) (by kernel_rfl) ?_
          repeat (go_big_quiet_step ((first
            | (go_at_call 70; exact After.call (GH.out _))
            | (go_at_call 67; exact After.call (GM.out _ (ZX.out _))))))
          refine wpQuiet_nil ?_
          rintro _ ⟨x, rfl⟩
          have HJ10 := Lib.hid (HJ.out _ _ _ HJ3.out (KeepT.below x.h hW3))
          have HK10 := Lib.hid (HK3.out.trans (keepN_below x.h (by have := HP3.out.size; omega)))
          clear z0 z1 z2 z3 z4 z5 z6
          gi_wp2_with fail
          go_roundw
          case rel => exact ⟨i + 1, _, by omega, by go_num, rfl, Lib.hid (by rw [HPA.out]), by rw [HPA.out]; exact HJ10, HK10⟩
          case measure => simp [intOf]; omega

end Go.Proofs.YtpeafheljcjlhaaGreat

namespace Go.Proofs.YtpeafheljcjlhaaGreat
open Go.RowKit Go.Shelf
attribute [local go_sem] Oper.semAt_some
set_option linter.unusedVariables false
set_option linter.unusedSimpArgs false

/-- what a round is handed -/
def encsC (x : ByteArray) : Array Value := #[.string x]
/-- what holds while texts are gathered: w the world before, s its heap's size -/
structure ColI (s : Nat) (w : World) (pre : List ByteArray) (V : World) : Prop where
  below : Below s w V
  size : s + 1 ≤ V.heap.size
  list : ∃ v, V.heap[s]? = some (.cells #[v] 26 (0, 0)) ∧ V.ownsRow (s + 1) 9 1 v pre.length (pre.map Value.string)
theorem below_keepT {s B : Nat} {w V V' : World} (h : Below s w V) (k : KeepT B V V') (hB : s ≤ B) : Below s w V' :=
  ⟨k.os.trans h.os, k.tape.trans h.tape, k.output.trans h.output, Nat.le_trans h.size k.size, fun i hi => (k.low i (by omega)).trans (h.block i hi)⟩
theorem own_cellsT {V : World} {base n : Nat} {v : Value} {xs : List Value} {T : TypeId} (h : V.ownsRow base T 1 v n xs) {g : Nat} (hg : v.ownBlock = some g) : base ≤ g ∧ ∃ C, V.heap[g]? = some (.cells C T (0, 0)) := by
  rcases h.2 with ⟨rfl, _⟩ | ⟨g', cap, cur, rfl, hb, hh, _⟩
  · cases hg
  · injection hg with hg
    subst hg
    exact ⟨hb, cur, hh⟩
theorem own_shapeT {V : World} {base n : Nat} {v : Value} {xs : List Value} {T : TypeId} (h : V.ownsRow base T 1 v n xs) : ∃ A c, v = .slice A n c := by
  rcases h.2 with ⟨rfl, h0⟩ | ⟨g', cap, cur, rfl, _⟩
  · exact ⟨none, 0, by rw [h0]⟩
  · exact ⟨_, _, rfl⟩
theorem ColI.keep {s : Nat} {w V V' : World} {pre : List ByteArray} (h : ColI s w pre V) (k : KeepT (s + 1) V V') : ColI s w pre V' := by
  obtain ⟨v, h1, h2⟩ := h.list
  refine ⟨below_keepT h.below k (by omega), Nat.le_trans h.size k.size, v, (k.low _ (by omega)).trans h1, ?_⟩
  refine ownsRow_of_block h2 fun g hg => ?_
  obtain ⟨_, C, hC⟩ := own_cellsT h2 hg
  rw [k.texts g C _ hC, hC]

set_option maxRecDepth 100000 in
set_option maxHeartbeats 4000000 in
/-- slices.AppendSeq, of texts, to no row -/
theorem appendSeq_any (f : FuncId) (lb : Array Value) (full : List ByteArray) (w : World) (hfl : full.length ≤ 1000) (eg : ∀ args w, (callFunc f args).run Tryz.prog w = .ok (.enter f args) w)
    (hseq : ∀ (W : World) (k : Nat), Below w.heap.size w W → W.heap.size ≤ k → SeqRunT Fence.wide 4 Tryz.prog f lb encsC (KeepN w.heap.size k) (fun xs => xs = full) (fun pre => ∃ rest, full = pre ++ rest) full.length W k) :
    Calls Tryz.prog 64 #[.slice none 0 0, .func (.func f) #[] lb] w (RowPost full w) := by
  refine (callsIn_wide (n := 5)).1 ?_
  refine callsIn_of_wp_marks Tryz.func64 rfl trivial ?_ rfl
  simp only [Tryz.ntmps64, List.size_toArray, List.length_cons, List.length_nil, Nat.reduceAdd, Nat.reduceSub, Array.replicate_succ, Array.replicate_zero, List.push_toArray, List.append_toArray, List.nil_append, List.cons_append]
  have HSQ := Lib.hid hseq; have HEG := Lib.hid eg
  clear hseq eg
  obtain ⟨s, hs⟩ : ∃ s, w.heap.size = s := ⟨_, rfl⟩
  have HS := Lib.hid hs
  have hI0 : ColI w.heap.size w [] (w.alloc (.cells #[.slice none 0 0] 26)) :=
    ⟨(Below.refl _ w).alloc (Nat.le_refl _) _, by simp, .slice none 0 0, World.alloc_heap_new w _, World.ownsRow_nil _ _ _ _⟩
  have hz0 : (w.alloc (.cells #[.slice none 0 0] 26)).heap.size = w.heap.size + 1 := by simp
  rw [hs] at hI0 hz0
  have HI0 := Lib.hid hI0; have HZ0 := Lib.hid hz0
  clear hI0 hz0 hs
  gi_wp2_with fail
  have hs := HS.out
  rw [hs]
  obtain ⟨W0, hW0⟩ : ∃ W0, w.alloc (.cells #[.slice none 0 0] 26) = W0 := ⟨_, rfl⟩
  rw [hW0] at HI0 HZ0 ⊢
  clear hW0
  have hz0 := HZ0.out
  have hrun := HSQ.out W0 (W0.heap.size + 1) (by rw [hs]; exact HI0.out.below) (by omega)
  rw [hs] at hrun
  refine wpIn_range_texts rfl (by decide) (gf := f) (lb := lb) rfl trivial HEG.out hrun
    (fun h k => h.trans k) (fun W o o' h ho _ => KeepN.put h ho (by omega)) (Below.refl _ _) (fun _ => rfl)
    (fun pre V => ColI s w pre V) (fun _ _ _ => False)
    (fun pre V V' h hb => h.keep (hb.mono (by omega)))
    (fun _ pre V V' h _ => h)
    HI0.out
    (fun x => { tmps := #[.slice none 0 0, .func (.func f) #[] lb, .pointer (some ⟨s, 0, none⟩), undef, .slice none 0 0, .string x, .func (.func f) #[] lb, .string x, undef, undef, undef, undef, undef], defers := [] }) ?assign ?body ?done ?stop
  case assign =>
    intro l x V K hK
    dsimp only [encsC]
    gi_wp2
    exact hK
  case body =>
    rintro l0 pre x V hV hlen hlt
    obtain ⟨v, hv1, hown⟩ := hV.list
    obtain ⟨A1, c1, rfl⟩ := own_shapeT hown
    obtain ⟨b2, f2⟩ := cell_of hv1
    have HV := Lib.hid hV; have HOWN := Lib.hid hown; have HV1 := Lib.hid hv1
    clear hV hown hv1
    obtain ⟨i0, hi0, hi1, hi2, hi3⟩ := info_parts textCell
    have HI0' := Lib.hid hi0; have HI1 := Lib.hid hi1; have HI2 := Lib.hid hi2; have HI3 := Lib.hid hi3
    have hba : Below V.heap.size V (V.alloc (.cells #[.string x] 9)) := (Below.refl _ _).alloc (Nat.le_refl _) _
    have hown8 : (V.alloc (.cells #[.string x] 9)).ownsRow (s + 1) 9 1 (.slice A1 pre.length c1) pre.length (pre.map Value.string) :=
      ownsRow_of_block HOWN.out fun g hg => hba.block g (by obtain ⟨_, C, hC⟩ := own_cellsT HOWN.out hg; exact (Array.getElem?_eq_some_iff.1 hC).1)
    have HOWN8 := Lib.hid hown8
    have HNEWS := Lib.hid (one_new V (.string x))
    have hone : ∀ u ∈ [Value.string x], u.oneCell' = true := by intro u hu; simp at hu; subst hu; rfl
    have HONE := Lib.hid hone
    have HZ8 : Hid (s + 1 ≤ (V.alloc (.cells #[.string x] 9)).heap.size) := Lib.hid (by have := HV.out.size; simp; omega)
    have HF1 : Hid (pre.length + 1 ≤ maxLen) := Lib.hid (by unfold maxLen; omega)
    have HF2 : Hid ((pre.length + 1) * 16 ≤ 140737488355328) := Lib.hid (by omega)
    have HBA := Lib.hid hba
    clear hi0 hi1 hi2 hi3 hba hown8 hone
    gi_wp2_with (first
      | (gi_at_builtin
         refine wpListIn_append_own_at _ rfl (.tmp 8) (.tmp 10) 26 rfl (s + 1) 9 i0 (.string ⟨#[]⟩) 1 16 Tryz.underlying26 HI0'.out HI1.out HI2.out HI3.out rfl (by decide) _ pre.length (pre.map Value.string) rfl HOWN8.out ⟨V.heap.size, 0, none⟩ 1 1 [.string x] rfl rfl HNEWS.out HONE.out HF1.out HF2.out HZ8.out ?_
         intro v9 w9 hown9 hgr9 _ _
         go_must (
         have h1 := (hgr9.block s (by have := HZ8.out; omega) (ownV_ne HOWN8.out (by omega))).trans ((HBA.out.block s (by have := HV.out.size; omega)).trans HV1.out)
         obtain ⟨b3, f3⟩ := cell_of h1
         obtain ⟨g9, c9, hv9, _, _⟩ := hown9.form (by omega)
         subst hv9
         have HOWN9 := Lib.hid hown9; have HGR9 := Lib.hid hgr9; have HC9 := Lib.hid h1
         clear h1 hown9 hgr9)))
    have hV := HV.out
    have hn9 : KeepN s s V w9 := (KeepN.grown (row := none) ⟨HBA.out.os, HBA.out.tape, HBA.out.output, HBA.out.size, fun i hi _ => HBA.out.block i hi⟩ (fun _ e => by cases e) (by have := hV.size; omega)).trans
      (KeepN.grown HGR9.out (fun g hg => by
        obtain ⟨h1, C, hC⟩ := own_cellsT HOWN8.out hg
        exact ⟨by omega, C, _, _, hC, .inl rfl⟩) (by have := HZ8.out; omega))
    have hnf : KeepN s s V (w9.setCell ⟨s, 0, none⟩ (.slice (some ⟨g9, 0, none⟩) (pre.length + 1) c9)) := hn9.trans (KeepN.grown (row := some s) (grownBy_setCell' _ _ _) (fun g hg => by
        injection hg with hg
        exact ⟨by omega, _, _, _, by rw [← hg]; exact HC9.out, .inr rfl⟩) (by have := hn9.size; have := hV.size; omega))
    have hb9 : Below s w w9 := (hV.below.trans (HBA.out.mono (by have := hV.size; omega))).grown HGR9.out (by have := HZ8.out; omega) (fun q e => by obtain ⟨h1, _⟩ := own_cellsT HOWN8.out e; omega)
    refine ⟨hnf.from (by omega), hnf.mono (by omega), ⟨hb9.setCell (by simp only; omega) _, Nat.le_trans hV.size hnf.size, .slice (some ⟨g9, 0, none⟩) (pre.length + 1) c9, ?_, ?_⟩⟩
    · have h := HC9.out
      simp [World.setCell, Array.getElem?_modify, h]
    · have h := ownsRow_setCell_below HOWN9.out (a := ⟨s, 0, none⟩) (by show s < s + 1; omega) (.slice (some ⟨g9, 0, none⟩) (pre.length + 1) c9)
      simpa using h
  case done =>
    rintro D xs V hD rfl hV hK
    obtain ⟨v, hv1, hown⟩ := hV.list
    obtain ⟨A1, c1, rfl⟩ := own_shapeT hown
    obtain ⟨b2, f2⟩ := cell_of hv1
    have HV := Lib.hid hV; have HOWN := Lib.hid hown; have HV1 := Lib.hid hv1; have HK := Lib.hid hK
    clear hV hown hv1 hK
    gi_wp2_with fail
    have hV := HV.out
    have hDs : s + 1 ≤ D := by omega
    have pD := HK.out
    have hb2 := below_put (B := s) (o' := Obj.deferred none) pD (by omega)
    have hoW : (V.putObj D (.deferred none)).ownsRow (s + 1) 9 1 (.slice A1 xs.length c1) xs.length (xs.map Value.string) := ownsRow_of_block HOWN.out fun g hg => World.putObj_heap_other (fun e => by
      obtain ⟨_, C, hC⟩ := own_cellsT HOWN.out hg
      subst e
      rw [pD] at hC
      cases hC)
    refine ⟨by simp, .inl ⟨_, _, rfl, run_takeDeferred pD, ?_⟩⟩
    refine ⟨.slice A1 xs.length c1, by simp [results, Tryz.results64, go_sem], ?_⟩
    obtain ⟨A', cap', hv, h1, h2⟩ := own_texts (ts := xs) hoW
    refine ⟨A', cap', ?_, h1, by rw [hs]; exact hV.below.trans hb2, h2.mono (by omega)⟩
    rw [hv]
  case stop =>
    rintro D pre V hD _ h _
    exact h.elim

set_option maxRecDepth 100000 in
/-- slices.Collect, of texts -/
theorem collect_any (f : FuncId) (lb : Array Value) (full : List ByteArray) (w : World) (hfl : full.length ≤ 1000) (eg : ∀ args w, (callFunc f args).run Tryz.prog w = .ok (.enter f args) w)
    (hseq : ∀ (W : World) (k : Nat), Below w.heap.size w W → W.heap.size ≤ k → SeqRunT Fence.wide 4 Tryz.prog f lb encsC (KeepN w.heap.size k) (fun xs => xs = full) (fun pre => ∃ rest, full = pre ++ rest) full.length W k) :
    Calls Tryz.prog 32 #[.func (.func f) #[] lb] w (RowPost full w) := by
  have H := Lib.hid (appendSeq_any f lb full w hfl eg hseq)
  clear eg hseq
  go_enter Tryz.func32, Tryz.ntmps32
  go_wp2_with fail
  refine H.out.mono ?_
  rintro e w2 ⟨A2, c2, rfl, h1, h2, h3⟩
  have H1 := Lib.hid h1; have H3 := Lib.hid h3
  clear h1 h3
  go_wp2_with fail
  go_ret
  exact ⟨A2, c2, rfl, H1.out, h2, H3.out⟩

end Go.Proofs.YtpeafheljcjlhaaGreat

namespace Go.Proofs.YtpeafheljcjlhaaGreat
open Go.RowKit
set_option linter.unusedVariables false
set_option linter.unusedSimpArgs false

/-- what a run is like -/
theorem run_facts {B : ByteArray} {es : List (ByteArray × ByteArray)} {p : ByteArray} (h : runV B es p = true) : p.size ≤ 60 ∧ 0 < p.size ∧ ∀ i, i < p.size → ∃ k, k < es.length ∧ p.data.toList[i]? = some (nameOf k) := by
  have h1 := decB_iff.1 h
  have h2 := decB_iff.1 h1.1
  have hz : p.data.toList.length = p.size := by simp
  refine ⟨by rw [← hz]; exact h2.2.1, h1.2.1, fun i hi => ?_⟩
  obtain ⟨k, hk, he⟩ := eIdx_some (h2.2.2 i (by omega)).1
  refine ⟨k, hk, ?_⟩
  have hg : p.data.toList[i]? = some (p.data.toList.getD i 0) := by
    rw [List.getElem?_eq_getElem (by omega), List.getD_eq_getElem?_getD, List.getElem?_eq_getElem (by omega)]; rfl
  rw [hg]
  unfold eIdx at he
  simp only at he
  split at he
  · rename_i hc
    congr 1
    refine UInt8.toNat_inj.1 ?_
    have h16 := (valid_sizes h2.1).2
    rw [nameOf_toNat (by omega)]
    omega
  · omega

/-- the parts of a run, if there are some -/
noncomputable def partsQ (B : ByteArray) (es : List (ByteArray × ByteArray)) (p : ByteArray) : List ByteArray × Bool :=
  open Classical in if Cuttable B es ∧ runV B es p = true then (partsL B es p.data.toList, true) else ([], false)
theorem partsQ_yes {B : ByteArray} {es : List (ByteArray × ByteArray)} {p : ByteArray} (h : Cuttable B es) (hr : runV B es p = true) : partsQ B es p = (partsL B es p.data.toList, true) := if_pos ⟨h, hr⟩
theorem partsQ_no {B : ByteArray} {es : List (ByteArray × ByteArray)} {p : ByteArray} (h : ¬ Cuttable B es ∨ runV B es p = false) : partsQ B es p = ([], false) :=
  if_neg (by rintro ⟨h1, h2⟩; rcases h with h | h; exact h h1; rw [h] at h2; cases h2)
theorem partsL_len (B : ByteArray) (es : List (ByteArray × ByteArray)) (l : List UInt8) : (partsL B es l).length ≤ l.length + 1 := by
  unfold partsL
  have := (partA_len B es l l.length).2
  simp only [List.length_append, List.length_cons, List.length_nil]; omega
theorem partsQ_len (B : ByteArray) (es : List (ByteArray × ByteArray)) (p : ByteArray) : (partsQ B es p).1.length ≤ 61 := by
  unfold partsQ
  split
  · rename_i h
    have h1 := (run_facts h.2).1
    have h2 := partsL_len B es p.data.toList
    have hz : p.data.toList.length = p.size := by simp
    simp only; omega
  · simp

set_option maxRecDepth 100000 in
set_option maxHeartbeats 4000000 in
/-- spec.PartRuns -/
theorem specPartRuns_any (B : ByteArray) (A : Option Addr) (cap : Nat) (es : List (ByteArray × ByteArray)) (b : ByteArray) (w : World) (hs : B.size ≤ maxLen) (hE : EdgesIn w w.heap.size A es) (hl : es.length ≤ 1099511627776) (hS : ∀ e ∈ es, e.1.size ≤ 1099511627776 ∧ e.2.size ≤ 1099511627776) (hp : b.size ≤ 1099511627776) :
    Calls Tryz.prog 8 #[.agg #[.string B, .slice A es.length cap], .string b] w (CutPost (partsQ B es b) w) := by
  have HM := Lib.hid hs
  obtain ⟨cv, hcv⟩ : ∃ cv, decB (Cuttable B es) = cv := ⟨_, rfl⟩
  obtain ⟨rv, hrv⟩ : ∃ rv, runV B es b = rv := ⟨_, rfl⟩
  have FC : Hid (∀ W : World, EdgesIn W W.heap.size A es → Calls Tryz.prog 26 #[.agg #[.string B, .slice A es.length cap]] W (BoolPost cv W)) := Lib.hid fun W h => by
    rw [← hcv]; exact specCanCut_any B A cap es W hs h hl hS
  have FR : Hid (∀ W : World, EdgesIn W W.heap.size A es → Calls Tryz.prog 27 #[.agg #[.string B, .slice A es.length cap], .string b] W (BoolPost rv W)) := Lib.hid fun W h => by
    rw [← hrv]; exact specIsRun_any B A cap es b W hs h hl hS hp
  have hb1 : Below w.heap.size w (w.alloc (.cells #[.string B, .slice A es.length cap] 31)) := (Below.refl _ _).alloc (Nat.le_refl _) _
  have t1 := Two.made w B A es.length cap 31
  have hz1 : (w.alloc (.cells #[.string B, .slice A es.length cap] 31)).heap.size = w.heap.size + 1 := by simp
  have HCV := Lib.hid hcv; have HRV := Lib.hid hrv
  clear hs hl hS hp hcv hrv
  go_enter Tryz.func8, Tryz.ntmps8
  go_wp2_with fail
  refine (FC.out _ ((hE.below hb1).more hb1.size)).mono ?_
  rintro e w2 ⟨rfl, hb2⟩
  have hb2' := hb1.trans (hb2.mono hb1.size)
  have t2 := t1.below hb2 (by omega)
  have hd0 := t2.1; have hd1 := t2.2
  have hz2 := hb2.size
  clear hb2 t1 hb1 FC
  cases cv with
  | false =>
    have HQ : Hid (partsQ B es b = ([], false)) := Lib.hid (partsQ_no (.inl (by have h := HCV.out; exact fun hc => by rw [decB_t hc] at h; cases h)))
    clear t2
    go_wp2_with fail
    go_ret2
    rw [HQ.out]
    exact no_texts w w2 hb2' _ rfl
  | true =>
    have hc := decB_iff.1 HCV.out
    have HC := Lib.hid hc
    clear hc
    go_wp2_with fail
    refine (FR.out _ ((hE.below hb2').more hb2'.size)).mono ?_
    rintro e w3 ⟨rfl, hb3⟩
    have hb3' := hb2'.trans (hb3.mono hb2'.size)
    have t3 := t2.below hb3 (by omega)
    clear hd0 hd1 hb3 t2 FR
    have hd0 := t3.1; have hd1 := t3.2
    cases rv with
    | false =>
      have HQ : Hid (partsQ B es b = ([], false)) := Lib.hid (partsQ_no (.inr HRV.out))
      clear t3
      go_wp2_with fail
      go_ret2
      rw [HQ.out]
      exact no_texts w w3 hb3' _ rfl
    | true =>
      have HQ : Hid (partsQ B es b = (partsL B es b.data.toList, true)) := Lib.hid (partsQ_yes HC.out HRV.out)
      obtain ⟨h60, _, hrl⟩ := run_facts HRV.out
      have HRL := Lib.hid hrl
      clear t3 hrl
      go_wp2_with fail
      refine (l8Parts_any B A cap es b _ HM.out ((hE.below hb3').more hb3'.size) HC.out h60 HRL.out).mono ?_
      rintro e w4 ⟨A4, c4, rfl, htx, hb4, hot⟩
      have hb4' := hb3'.trans (hb4.mono hb3'.size)
      have HTX := Lib.hid htx; have HOT := Lib.hid (hot.mono hb3'.size)
      obtain ⟨ts, hts⟩ : ∃ ts, partsL B es b.data.toList = ts := ⟨_, rfl⟩
      rw [hts] at HTX HOT HQ ⊢
      clear htx hot hb4 hd0 hd1 hts
      go_wp2_with fail
      go_ret2
      rw [HQ.out]
      exact ⟨A4, c4, rfl, HTX.out, hb4', HOT.out⟩

end Go.Proofs.YtpeafheljcjlhaaGreat

namespace Go.Proofs.YtpeafheljcjlhaaGreat
open Go.RowKit
set_option linter.unusedVariables false
set_option linter.unusedSimpArgs false

theorem encs_same : encsC = encsB := rfl

theorem box_new (W : World) (u : Value) {n : Nat} (h : W.heap.size = n) : (W.alloc (.cells #[u] 9)).cell? ⟨n, 0, none⟩ = some u := by
  subst h
  simp

/-- impl.cutting.parts: the iterator is made, with a box for the run and one for the cutting -/
theorem mkParts_any (v0 v1 v2 v3 v4 v5 : Value) (run : ByteArray) (w : World) :
    Calls Tryz.prog 33 #[.agg #[v0, v1, v2, v3, v4, v5], .string run] w
      (fun e w' => e = .returned (.func (.func 65) #[] #[.pointer (some ⟨w.heap.size + 1, 0, none⟩), .pointer (some ⟨w.heap.size, 0, none⟩)]) ∧
        w' = (w.alloc (.cells #[v0, v1, v2, v3, v4, v5] 55)).alloc (.cells #[.string run] 9)) := by
  go_enter Tryz.func33, Tryz.ntmps33
  go_wp2_with fail
  go_ret
  exact ⟨rfl, rfl⟩

set_option maxRecDepth 100000 in
set_option maxHeartbeats 4000000 in
/-- slices.Collect of the parts -/
theorem collectParts_any (B : ByteArray) (A : Option Addr) (cap mm : Nat) (A2 : Option Addr) (c2 : Nat) (A5 : Option Addr) (c5 : Nat) (es : List (ByteArray × ByteArray)) (run : ByteArray) (w : World) (g1 g2 : Nat) (hs : B.size ≤ maxLen) (hc : Cuttable B es) (hr60 : run.size ≤ 60)
    (hrl : ∀ i, i < run.size → ∃ k, k < es.length ∧ run.data.toList[i]? = some (nameOf k))
    (hP : PEnv w w.heap.size g1 g2 B A cap mm A2 c2 A5 c5 (cutX B es) (cutE B es).length run es ((names (backP B es) es.length).map encB)) :
    Calls Tryz.prog 32 #[.func (.func 65) #[] #[.pointer (some ⟨g1, 0, none⟩), .pointer (some ⟨g2, 0, none⟩)]] w (RowPost (partsL B es run.data.toList) w) := by
  refine collect_any _ _ _ w ?_ (fun args w => rfl) ?_
  · have h := partsL_len B es run.data.toList
    have hz : run.data.toList.length = run.size := by simp
    omega
  · intro W k hb hk
    exact parts_run B A cap mm A2 c2 A5 c5 es run W w.heap.size g1 g2 k hs hc hr60 hrl (hP.keep (fun i hi => hb.block i hi) hb.size) hk

set_option maxRecDepth 100000 in
set_option maxHeartbeats 4000000 in
/-- impl.PartRuns -/
theorem implPartRuns_any (B : ByteArray) (A : Option Addr) (cap : Nat) (es : List (ByteArray × ByteArray)) (b : ByteArray) (w : World) (hs : B.size ≤ maxLen) (hE : EdgesIn w w.heap.size A es) (hl : es.length ≤ 1099511627776) (hS : ∀ e ∈ es, e.1.size ≤ 1099511627776 ∧ e.2.size ≤ 1099511627776) (hp : b.size ≤ 1099511627776) :
    Calls Tryz.prog 10 #[.agg #[.string B, .slice A es.length cap], .string b] w (CutPost (partsQ B es b) w) := by
  have HM := Lib.hid hs
  have hb1 : Below w.heap.size w (w.alloc (.cells #[.string B, .slice A es.length cap] 31)) := (Below.refl _ _).alloc (Nat.le_refl _) _
  have t1 := Two.made w B A es.length cap 31
  have hz1 : (w.alloc (.cells #[.string B, .slice A es.length cap] 31)).heap.size = w.heap.size + 1 := by simp
  obtain ⟨rv, hrv⟩ : ∃ rv, runV B es b = rv := ⟨_, rfl⟩
  have HRV := Lib.hid hrv
  have FR : Hid (∀ W : World, EdgesIn W W.heap.size A es → Calls Tryz.prog 31 #[.agg #[.string B, .slice A es.length cap], .string b] W (BoolPost rv W)) := Lib.hid fun W h => by
    rw [← hrv]; exact implIsRun_any B A cap es b W hs h hl hS hp
  clear hrv
  go_enter Tryz.func10, Tryz.ntmps10
  go_wp2_with fail
  refine (cuttingOf_any B A cap es _ hs ((hE.below hb1).more hb1.size) hl).mono ?_
  rintro e w2 h
  have hE2 : Below w.heap.size w w2 → EdgesIn w2 w2.heap.size A es := fun hb => (hE.below hb).more hb.size
  rcases h with ⟨hc, mm, A2, c2, A5, c5, rfl, hset, -, -, hx2, hb2⟩ | ⟨hc, rfl, hb2⟩
  case inr =>
    have HQ : Hid (partsQ B es b = ([], false)) := Lib.hid (partsQ_no (.inl hc))
    have hb2' := hb1.trans (hb2.mono hb1.size)
    have hb3' := hb2'.alloc (o := .cells #[.string ⟨#[]⟩, .slice none 0 0, .map none, .string ⟨#[]⟩, .slice none 0 0, .slice none 0 0] 55) hb2'.size
    clear hb2 hc FR t1 hE2
    go_wp2_with fail
    go_ret2
    rw [HQ.out]
    exact ⟨none, 0, rfl, fun k hk => absurd hk (by simp), hb3', .inl ⟨rfl, rfl⟩⟩
  have HC := Lib.hid hc
  have hb2' := hb1.trans (hb2.mono hb1.size)
  have hba : Below w2.heap.size w2 (w2.alloc (.cells #[.string B, .slice A es.length cap, .map (some mm), .string B, .slice A2 (cutE B es).length c2, .slice A5 (cutX B es).length c5] 55)) := (Below.refl _ _).alloc (Nat.le_refl _) _
  have hrw : (w2.alloc (.cells #[.string B, .slice A es.length cap, .map (some mm), .string B, .slice A2 (cutE B es).length c2, .slice A5 (cutX B es).length c5] 55)).rowIs w2.heap.size 55 6 (ctC B A es.length cap (.map (some mm)) B (.slice A2 (cutE B es).length c2) (.slice A5 (cutX B es).length c5)) :=
    World.rowIs_alloc w2 #[.string B, .slice A es.length cap, .map (some mm), .string B, .slice A2 (cutE B es).length c2, .slice A5 (cutX B es).length c5] 55 _ (fun i hi => by
      match i, hi with
      | 0, _ => rfl
      | 1, _ => rfl
      | 2, _ => rfl
      | 3, _ => rfl
      | 4, _ => rfl
      | 5, _ => rfl)
  have hX3 := (hx2.below hba).more hba.size
  have hE3 := ((hE2 hb2').below hba).more hba.size
  have hset3 := hset.below hba hset.lt
  have hml := hset.lt
  have t3 := (t1.below hb2 (by omega)).below hba (by have := hb2.size; omega)
  have hb3' := hb2'.trans (hba.mono hb2'.size)
  have HB3 := Lib.hid hb3'; have HX3 := Lib.hid hX3; have HRW := Lib.hid hrw; have HE3 := Lib.hid hE3; have HS3 := Lib.hid hset3; have HML := Lib.hid hml
  have hd0 := t3.1; have hd1 := t3.2
  obtain ⟨ce, hcee⟩ : ∃ ce, (cutE B es).length = ce := ⟨_, rfl⟩
  obtain ⟨xs, hxss⟩ : ∃ xs, cutX B es = xs := ⟨_, rfl⟩
  have HCE := Lib.hid hcee; have HXS := Lib.hid hxss
  rw [hcee, hxss] at HB3 HRW HE3 HS3 hd0 hd1
  rw [hcee, hxss] at HX3
  rw [hcee, hxss]
  clear hset hx2 hb2 hb2' hba hE2 hE3 hX3 hrw hset3 hml t3 t1 hb1 hb3' hcee hxss hc hz1
  go_wp2_with fail
  generalize hW3 : w2.alloc (.cells #[.string B, .slice A es.length cap, .map (some mm), .string B, .slice A2 ce c2, .slice A5 xs.length c5] 55) = w3 at HB3 HX3 HRW HE3 HS3 hd0 hd1 ⊢
  clear hW3 hd0 hd1
  refine (FR.out w3 HE3.out).mono ?_
  rintro e w4 ⟨rfl, hb4⟩
  have hb4' := HB3.out.trans (hb4.mono HB3.out.size)
  cases rv with
  | false =>
    have HQ : Hid (partsQ B es b = ([], false)) := Lib.hid (partsQ_no (.inr HRV.out))
    clear FR hb4
    go_wp2_with fail
    go_ret2
    rw [HQ.out]
    exact ⟨none, 0, rfl, fun k hk => absurd hk (by simp), hb4', .inl ⟨rfl, rfl⟩⟩
  | true =>
    have HQ : Hid (partsQ B es b = (partsL B es b.data.toList, true)) := Lib.hid (partsQ_yes HC.out HRV.out)
    obtain ⟨h60, _, hrl⟩ := run_facts HRV.out
    have HRL := Lib.hid hrl
    have hR4 := HRW.out.of_block (hb4.block _ HRW.out.lt)
    have HR4 := Lib.hid hR4
    have HX4 := Lib.hid ((HX3.out.below hb4).more hb4.size)
    have HE4 := Lib.hid ((HE3.out.below hb4).more hb4.size)
    have HS4 := Lib.hid (HS3.out.below hb4 HS3.out.lt)
    have HB4 := Lib.hid hb4'
    have c0 := (ct_at hR4).c0; have c1 := (ct_at hR4).c1; have c2' := (ct_at hR4).c2; have c3 := (ct_at hR4).c3; have c4 := (ct_at hR4).c4; have c5' := (ct_at hR4).c5
    clear hrl FR hb4 hb4' hR4
    go_wp2_with fail
    refine (mkParts_any _ _ _ _ _ _ b w4).mono ?_
    rintro e w5 ⟨rfl, rfl⟩
    have hk1 : Below w4.heap.size w4 (w4.alloc (.cells #[.string B, .slice A es.length cap, .map (some mm), .string B, .slice A2 ce c2, .slice A5 xs.length c5] 55)) := (Below.refl _ _).alloc (Nat.le_refl _) _
    have hk : Below w4.heap.size w4 ((w4.alloc (.cells #[.string B, .slice A es.length cap, .map (some mm), .string B, .slice A2 ce c2, .slice A5 xs.length c5] 55)).alloc (.cells #[.string b] 9)) := hk1.alloc hk1.size _
    have hz : ((w4.alloc (.cells #[.string B, .slice A es.length cap, .map (some mm), .string B, .slice A2 ce c2, .slice A5 xs.length c5] 55)).alloc (.cells #[.string b] 9)).heap.size = w4.heap.size + 2 := by simp
    have hr1 : (w4.alloc (.cells #[.string B, .slice A es.length cap, .map (some mm), .string B, .slice A2 ce c2, .slice A5 xs.length c5] 55)).rowIs w4.heap.size 55 6 (ctC B A es.length cap (.map (some mm)) B (.slice A2 ce c2) (.slice A5 xs.length c5)) :=
      World.rowIs_alloc w4 #[.string B, .slice A es.length cap, .map (some mm), .string B, .slice A2 ce c2, .slice A5 xs.length c5] 55 _ (fun i hi => by
        match i, hi with
        | 0, _ => rfl
        | 1, _ => rfl
        | 2, _ => rfl
        | 3, _ => rfl
        | 4, _ => rfl
        | 5, _ => rfl)
    have hr2 := hr1.of_block ((((Below.refl _ _).alloc (Nat.le_refl _) (.cells #[.string b] 9)) : Below _ _ _).block _ hr1.lt)
    have hcell : ((w4.alloc (.cells #[.string B, .slice A es.length cap, .map (some mm), .string B, .slice A2 ce c2, .slice A5 xs.length c5] 55)).alloc (.cells #[.string b] 9)).cell? ⟨w4.heap.size + 1, 0, none⟩ = some (.string b) := by
      exact box_new _ _ (by simp)
    have hmm := HS4.out.lt
    have hP : PEnv ((w4.alloc (.cells #[.string B, .slice A es.length cap, .map (some mm), .string B, .slice A2 ce c2, .slice A5 xs.length c5] 55)).alloc (.cells #[.string b] 9)) ((w4.alloc (.cells #[.string B, .slice A es.length cap, .map (some mm), .string B, .slice A2 ce c2, .slice A5 xs.length c5] 55)).alloc (.cells #[.string b] 9)).heap.size (w4.heap.size + 1) w4.heap.size B A cap mm A2 c2 A5 c5 xs ce b es ((names (backP B es) es.length).map encB) :=
      ⟨hcell, hr2, HS4.out.below hk hmm, (HE4.out.below hk).more hk.size, (HX4.out.below hk).more hk.size, by omega, by omega, by omega, Nat.le_refl _⟩
    have FC := collectParts_any B A cap mm A2 c2 A5 c5 es b _ (w4.heap.size + 1) w4.heap.size HM.out HC.out h60 HRL.out (by rw [HCE.out, HXS.out]; exact hP)
    have HFC := Lib.hid FC
    have HK := Lib.hid (HB4.out.trans (hk.mono HB4.out.size))
    clear FC hP hcell hr2 hr1 hk hk1 hz c0 c1 c2' c3 c4 c5'
    obtain ⟨ts, hts⟩ : ∃ ts, partsL B es b.data.toList = ts := ⟨_, rfl⟩
    rw [hts] at HFC HQ
    go_wp2_with fail
    refine HFC.out.mono ?_
    rintro e w6 ⟨A6, c6, rfl, htx, hb6, hot⟩
    have HTX := Lib.hid htx; have HOT := Lib.hid (hot.mono HK.out.size); have HB6 := Lib.hid (HK.out.trans (hb6.mono HK.out.size))
    clear htx hot hb6
    go_wp2_with fail
    go_ret2
    rw [HQ.out]
    exact ⟨A6, c6, rfl, HTX.out, HB6.out, HOT.out⟩

end Go.Proofs.YtpeafheljcjlhaaGreat
