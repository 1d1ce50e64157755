/- Nets of the program in memory, leaves; names of edges. -/
import Derived.Test.YtpeafheljcjlhaaGreatBase
import Derived.Test.YtpeafheljcjlhaaGreatMath
import Derived.BigQuiet
import Derived.Deep.QuietTactic
import Derived.Deep.RegionHeld3
import Derived.Deep.DeepCutAuto
import Derived.Deep.Draws
import Derived.Lib.SmallJoins
namespace Go.Proofs.YtpeafheljcjlhaaGreat
open Go.RowKit

/-- the edges of a net as they lie in memory -/
def EdgesIn (w : World) (B : Nat) (A : Option Addr) (es : List (ByteArray × ByteArray)) : Prop :=
  ∀ k, (h : k < es.length) → ∃ b o, A = some ⟨b, o, none⟩ ∧ b < B ∧ w.cell? ⟨b, o + k * 2, none⟩ = some (.string es[k].1) ∧ w.cell? ⟨b, o + k * 2 + 1, none⟩ = some (.string es[k].2)

/-- the edges as lists of bytes -/
def ebs (es : List (ByteArray × ByteArray)) : Eds := es.map fun e => (e.1.data.toList, e.2.data.toList)

theorem EdgesIn.below {w w' : World} {B : Nat} {A : Option Addr} {es : List (ByteArray × ByteArray)} (h : EdgesIn w B A es) (hb : Below B w w') : EdgesIn w' B A es := by
  intro k hk
  obtain ⟨b, o, e, hl, h1, h2⟩ := h k hk
  exact ⟨b, o, e, hl, (hb.cell hl).trans h1, (hb.cell hl).trans h2⟩

theorem EdgesIn.more {w : World} {B B' : Nat} {A : Option Addr} {es : List (ByteArray × ByteArray)} (h : EdgesIn w B A es) (hb : B ≤ B') : EdgesIn w B' A es := by
  intro k hk
  obtain ⟨b, o, e, hl, h1, h2⟩ := h k hk
  exact ⟨b, o, e, by omega, h1, h2⟩

theorem below_drewN {B : Nat} {a w : World} (h : Below B a w) (n : Nat) : Below B a (w.drewN n) := ⟨h.os, h.tape, h.output, h.size, h.block⟩

/-- impl.blockIndex -/
theorem blockIndex_any (B b : ByteArray) (sl : Value) (w : World) :
    Calls Tryz.prog 115 #[.agg #[.string B, sl], .string b] w fun e w' => e = .returned (.int .i64 (bIdx B.data.toList b.data.toList)) ∧ Below w.heap.size w w' := by
  by_cases h : b.size = 1
  · have h1 : ((b.size : Int) != 1) = false := by simp [h]
    have h2 : 0 < b.size := by omega
    have h3 : Lib.indexByte B.data.toList ((b[0].toNat : Int)).toNat.toUInt8 = bIdx B.data.toList b.data.toList := by
      have : b.data.toList = [b[0]] := by
        obtain ⟨⟨l⟩⟩ := b
        match l, h with
        | [c], _ => rfl
      rw [this]; simp [bIdx]
    have H3 := Lib.hid h3; clear h3
    go_enter Tryz.func115, Tryz.ntmps115
    go_wp2
    go_quiet ((go_at_call 114; exact Calls.quiet_of_same ((indexByte_any _ _ _).mono fun _ _ ⟨h, h'⟩ => ⟨h, h'.symm⟩)))
    go_wp2
    go_ret
    exact ⟨ret_int H3.out, below_drewN ((Below.refl _ _).alloc (Nat.le_refl _) _) _⟩
  · have h1 : ((b.size : Int) != 1) = true := by simp; omega
    have h3 : bIdx B.data.toList b.data.toList = -1 := by
      obtain ⟨⟨l⟩⟩ := b
      match l, h with
      | [], _ => rfl
      | [c], h => exact absurd rfl h
      | _ :: _ :: _, _ => rfl
    have H3 := Lib.hid h3; clear h3
    go_enter Tryz.func115, Tryz.ntmps115
    go_wp2
    go_ret
    exact ⟨ret_int H3.out.symm, (Below.refl _ _).alloc (Nat.le_refl _) _⟩

/-- impl.blocksValid -/
theorem blocksValid_any (B : ByteArray) (w : World) (hs : B.size ≤ maxLen) :
    Calls Tryz.prog 89 #[.string B] w fun e w' => e = .returned (.bool (decB (BlocksOk B.data.toList))) ∧ w = w' := by
  unfold maxLen at hs
  by_cases h2 : B.size < 2
  · have HD : Hid (false = decB (BlocksOk B.data.toList)) := Lib.hid (by
      symm; refine decB_f ?_; intro h; have := h.1; simp at this; omega)
    go_enter Tryz.func89, Tryz.ntmps89
    go_wp2
    go_ret
    exact ⟨ret_bool HD.out, rfl⟩
  by_cases h8 : 8 < B.size
  · have HD : Hid (false = decB (BlocksOk B.data.toList)) := Lib.hid (by
      symm; refine decB_f ?_; intro h; have := h.2.1; simp at this; omega)
    go_enter Tryz.func89, Tryz.ntmps89
    go_wp2
    go_ret
    exact ⟨ret_bool HD.out, rfl⟩
  go_enter Tryz.func89, Tryz.ntmps89
  go_wp2
  go_loop [15] (fun i => ∃ k : Nat, k ≤ B.size ∧ i = .int .i64 k ∧ ∀ (j : Nat) (b : UInt8), j < k → B.data.toList[j]? = some b → (65 ≤ b.toNat ∧ b.toNat ≤ 72) ∧ (j : Int) ≤ Lib.indexByte B.data.toList b) (fun i => B.size - (intOf i).toNat)
  case atStart => exact ⟨0, Nat.zero_le _, rfl, fun j _ h => absurd h (by omega)⟩
  case round =>
    obtain ⟨k, hk, rfl, hr⟩ := hrel
    have HR := Lib.hid hr
    clear hr
    by_cases hlt : k < B.size
    · have hg : B.data.toList[k]? = some B[k] := List.getElem?_eq_getElem (by simpa using hlt)
      have HG := Lib.hid hg
      have hm : B[k] ∈ B.data.toList := List.mem_of_getElem? hg
      clear hg
      by_cases hlo : B[k].toNat < 65
      · have HD : Hid (false = decB (BlocksOk B.data.toList)) := Lib.hid (by
          symm; refine decB_f ?_; intro h; have := h.2.2.1 _ hm; omega)
        go_wp2
        go_ret
        exact ⟨ret_bool HD.out, rfl⟩
      by_cases hhi : 72 < B[k].toNat
      · have HD : Hid (false = decB (BlocksOk B.data.toList)) := Lib.hid (by
          symm; refine decB_f ?_; intro h; have := h.2.2.1 _ hm; omega)
        go_wp2
        go_ret
        exact ⟨ret_bool HD.out, rfl⟩
      have hu : ((B[k].toNat : Int)).toNat.toUInt8 = B[k] := by simp
      have HU := Lib.hid hu
      clear hu
      by_cases hix : Lib.indexByte B.data.toList B[k] < k
      · have HD : Hid (false = decB (BlocksOk B.data.toList)) := Lib.hid (by
          symm; refine decB_f ?_; intro h; have := indexByte_of_get h.2.2.2 HG.out; omega)
        go_wp2_with (go_at_call 114; refine (indexByte_any _ _ _).mono ?_; rw [HU.out]; rintro e w' ⟨rfl, rfl⟩)
        go_ret
        exact ⟨ret_bool HD.out, rfl⟩
      · go_wp2_with (go_at_call 114; refine (indexByte_any _ _ _).mono ?_; rw [HU.out]; rintro e w' ⟨rfl, rfl⟩)
        go_round
        case rel => exact ⟨k + 1, by omega, by go_num, fun j b hj hb => by
          rcases Nat.lt_or_ge j k with h | h
          · exact HR.out j b h hb
          · obtain rfl : j = k := by omega
            have := HG.out
            rw [hb] at this
            injection this with this
            subst this
            exact ⟨by omega, by omega⟩⟩
        case measure => simp [intOf]; omega
    · have HD : Hid (true = decB (BlocksOk B.data.toList)) := Lib.hid (by
        symm; refine decB_t ?_
        have hall := fun (j : Nat) (b : UInt8) (h : B.data.toList[j]? = some b) => HR.out j b (by
          have : j < B.data.toList.length := (List.getElem?_eq_some_iff.1 h).1
          have e : B.data.toList.length = B.size := by simp
          omega) h
        refine ⟨by simp; omega, by simp; omega, fun b hb => ?_, nodup_of_index fun i b h => by have := (hall i b h).2; omega⟩
        obtain ⟨j, hj⟩ := List.mem_iff_getElem?.1 hb
        exact (hall j b hj).1)
      go_wp2
      go_ret
      exact ⟨ret_bool HD.out, rfl⟩

/-- impl.edgesValid -/
theorem edgesValid_any (B : ByteArray) (A : Option Addr) (cap : Nat) (es : List (ByteArray × ByteArray)) (w : World) (hs : B.size ≤ 8) (hE : EdgesIn w w.heap.size A es) (hl : es.length ≤ maxLen) :
    Calls Tryz.prog 90 #[.agg #[.string B, .slice A es.length cap]] w fun e w' => e = .returned (.bool (decB (EdgesOk B.data.toList (ebs es)))) ∧ Below w.heap.size w w' := by
  unfold maxLen at hl
  by_cases h16 : 16 < es.length
  · have HD : Hid (false = decB (EdgesOk B.data.toList (ebs es))) := Lib.hid (by
      symm; refine decB_f ?_; intro h; have := h.1; simp [ebs] at this; omega)
    go_enter Tryz.func90, Tryz.ntmps90
    go_wp2
    go_ret
    exact ⟨ret_bool HD.out, (Below.refl _ _).alloc (Nat.le_refl _) _⟩
  go_enter Tryz.func90, Tryz.ntmps90
  go_wp2
  go_quiet (fail)
  go_wp2
  have hb0 : Below w.heap.size w ((w.alloc (.cells #[.string B, .slice A es.length cap] 31)).drewN nq) := below_drewN ((Below.refl _ _).alloc (Nat.le_refl _) _) nq
  have hc0 : ((w.alloc (.cells #[.string B, .slice A es.length cap] 31)).drewN nq).cell? ⟨w.heap.size, 0, none⟩ = some (.string B) := by go_simp
  have hc1 : ((w.alloc (.cells #[.string B, .slice A es.length cap] 31)).drewN nq).cell? ⟨w.heap.size, 1, none⟩ = some (.slice A es.length cap) := by go_simp
  have hz0 : w.heap.size < ((w.alloc (.cells #[.string B, .slice A es.length cap] 31)).drewN nq).heap.size := by simp [World.drewN]
  go_loopw [20] (fun i wr => ∃ k : Nat, k ≤ es.length ∧ i = .int .i64 k ∧ Below w.heap.size w wr ∧ wr.cell? ⟨w.heap.size, 0, none⟩ = some (.string B) ∧ wr.cell? ⟨w.heap.size, 1, none⟩ = some (.slice A es.length cap) ∧ w.heap.size < wr.heap.size ∧
    ∀ e ∈ (ebs es).take k, EdgeOk B.data.toList e) (fun i _ => es.length - (intOf i).toNat)
  case atStart => exact ⟨0, Nat.zero_le _, rfl, hb0, hc0, hc1, hz0, by simp⟩
  case round =>
    obtain ⟨k, hk, rfl, hb, hB0, hB1, hz, hr⟩ := hrel
    clear hb0 hc0 hc1 hz0
    have HR := Lib.hid hr; clear hr
    by_cases hlt : k < es.length
    · obtain ⟨eb, eo, rfl, hlow, h1, h2⟩ := (hE.below hb) k hlt
      go_wp2
      have hbn : Below w.heap.size w (wr.alloc (.cells #[.string es[k].1, .string es[k].2] 70)) := hb.alloc hb.size _
      have hn0 : (wr.alloc (.cells #[.string es[k].1, .string es[k].2] 70)).cell? ⟨w.heap.size, 0, none⟩ = some (.string B) := by go_simp
      have hn1 : (wr.alloc (.cells #[.string es[k].1, .string es[k].2] 70)).cell? ⟨w.heap.size, 1, none⟩ = some (.slice (some ⟨eb, eo, none⟩) es.length cap) := by go_simp
      have hn2 : (wr.alloc (.cells #[.string es[k].1, .string es[k].2] 70)).cell? ⟨wr.heap.size, 0, none⟩ = some (.string es[k].1) := by go_simp
      have hn3 : (wr.alloc (.cells #[.string es[k].1, .string es[k].2] 70)).cell? ⟨wr.heap.size, 1, none⟩ = some (.string es[k].2) := by go_simp
      have hn4 : (wr.alloc (.cells #[.string es[k].1, .string es[k].2] 70)).heap.size = wr.heap.size + 1 := by simp
      generalize hW0 : wr.alloc (.cells #[.string es[k].1, .string es[k].2] 70) = W0 at hbn hn0 hn1 hn2 hn3 hn4 ⊢
      clear hW0
      have hS : ∀ W, Below W0.heap.size W0 W → (W.cell? ⟨w.heap.size, 0, none⟩ = some (.string B) ∧ W.cell? ⟨w.heap.size, 1, none⟩ = some (.slice (some ⟨eb, eo, none⟩) es.length cap) ∧ W.cell? ⟨wr.heap.size, 0, none⟩ = some (.string es[k].1) ∧ W.cell? ⟨wr.heap.size, 1, none⟩ = some (.string es[k].2) ∧ Below W0.heap.size W0 W) :=
        fun W h => ⟨(h.cell (by simp only; omega)).trans hn0, (h.cell (by simp only; omega)).trans hn1, (h.cell (by simp only; omega)).trans hn2, (h.cell (by simp only; omega)).trans hn3, h⟩
      have HS := Lib.hid hS; clear hS
      have HN := Lib.hid hn4; clear hn4
      go_region_held3 (fun W => W.cell? ⟨w.heap.size, 0, none⟩ = some (.string B) ∧ W.cell? ⟨w.heap.size, 1, none⟩ = some (.slice (some ⟨eb, eo, none⟩) es.length cap) ∧ W.cell? ⟨wr.heap.size, 0, none⟩ = some (.string es[k].1) ∧ W.cell? ⟨wr.heap.size, 1, none⟩ = some (.string es[k].2) ∧ Below W0.heap.size W0 W)
        (first | exact HS.out _ (Below.refl _ _).drew | exact HS.out _ ((Below.refl _ _).drew.trans hb1) | exact HS.out _ (((Below.refl _ _).drew.trans hb1).trans (hb2.mono hb1.size)))
        (first | (go_at_call 115; refine (blockIndex_any _ _ _ _).mono ?_; first | (have tok := w1; rintro e w2 ⟨rfl, hb2⟩; clear tok) | (rintro e w1 ⟨rfl, hb1⟩)))
      rename_i hHeld
      have hb2' : Below w.heap.size w w2 := hbn.trans (hHeld.2.2.2.2.mono hbn.size)
      obtain ⟨g0, g1, _, _, g4⟩ := hHeld
      have hz2 : w.heap.size < w2.heap.size := by have := g4.size; have := HN.out; omega
      clear g4 hb1 hb2 hn0 hn1 hn2 hn3 hbn HS h1 h2
      have hget : (ebs es)[k]? = some (es[k].1.data.toList, es[k].2.data.toList) := by simp [ebs, hlt]
      have HG := Lib.hid hget; clear hget
      by_cases hok : EdgeOk B.data.toList (es[k].1.data.toList, es[k].2.data.toList)
      · obtain ⟨c1, c2, c3, c4⟩ := hok
        simp only at c1 c2 c3 c4
        have q1 : decide (bIdx B.data.toList es[k].1.data.toList < 0) = false := by simp; omega
        have q2 : decide (bIdx B.data.toList es[k].2.data.toList < 0) = false := by simp; omega
        have q3 : (bIdx B.data.toList es[k].1.data.toList == (B.size : Int) - 1) = false := by
          rw [beq_eq_false_iff_ne]; simpa using c3
        have q4 : (bIdx B.data.toList es[k].2.data.toList == 0) = false := by rw [beq_eq_false_iff_ne]; exact c4
        have HOK := Lib.hid (show EdgeOk B.data.toList (es[k].1.data.toList, es[k].2.data.toList) from ⟨c1, c2, c3, c4⟩)
        clear c3 c4
        go_wp2
        go_roundw
        case rel => exact ⟨k + 1, by omega, by go_num, hb2', g0, g1, hz2, fun e he => by
          rw [List.take_add_one, HG.out] at he
          rcases List.mem_append.1 he with he | he
          · exact HR.out e he
          · simp at he; subst he; exact HOK.out⟩
        case measure => simp [intOf]; omega
      · have HD : Hid (false = decB (EdgesOk B.data.toList (ebs es))) := Lib.hid (by
          symm; refine decB_f ?_; intro h; exact hok (h.2 _ (List.mem_of_getElem? HG.out)))
        by_cases c1 : bIdx B.data.toList es[k].1.data.toList < 0
        · clear hok
          go_wp2
          go_ret
          exact ⟨ret_bool HD.out, hb2'⟩
        by_cases c2 : bIdx B.data.toList es[k].2.data.toList < 0
        · clear hok
          go_wp2
          go_ret
          exact ⟨ret_bool HD.out, hb2'⟩
        by_cases c3 : bIdx B.data.toList es[k].1.data.toList = (B.size : Int) - 1
        · have q3 : (bIdx B.data.toList es[k].1.data.toList == (B.size : Int) - 1) = true := by rw [beq_iff_eq]; exact c3
          clear hok c3
          go_wp2
          go_ret
          exact ⟨ret_bool HD.out, hb2'⟩
        have c4 : (bIdx B.data.toList es[k].2.data.toList == 0) = true := by
          rw [beq_iff_eq]
          refine Classical.byContradiction fun c4 => hok ⟨by simp only; omega, by simp only; omega, by simpa using c3, c4⟩
        have q3 : (bIdx B.data.toList es[k].1.data.toList == (B.size : Int) - 1) = false := by rw [beq_eq_false_iff_ne]; exact c3
        clear hok c3
        go_wp2
        go_ret
        exact ⟨ret_bool HD.out, hb2'⟩
    · have HD : Hid (true = decB (EdgesOk B.data.toList (ebs es))) := Lib.hid (by
        symm; refine decB_t ⟨by simp [ebs]; omega, fun e he => HR.out e ?_⟩
        rw [List.take_of_length_le (by simp [ebs]; omega)]; exact he)
      go_wp2
      go_ret
      exact ⟨ret_bool HD.out, hb⟩

end Go.Proofs.YtpeafheljcjlhaaGreat

namespace Go.Proofs.YtpeafheljcjlhaaGreat
open Go.RowKit

/-- the name of an edge -/
def nameOf (k : Nat) : UInt8 := (97 + k).toUInt8
theorem nameOf_toNat {k : Nat} (h : k ≤ 100) : (nameOf k).toNat = 97 + k := by
  simp [nameOf, Nat.toUInt8]; omega

/-- the names of those that are kept -/
def names (p : Nat → Bool) (n : Nat) : List UInt8 := ((List.range n).filter p).map nameOf
theorem names_zero (p : Nat → Bool) : names p 0 = [] := rfl
theorem names_yes {p : Nat → Bool} {n : Nat} (h : p n = true) : names p (n + 1) = names p n ++ [nameOf n] := by
  simp [names, List.range_succ, List.filter_append, h]
theorem names_no {p : Nat → Bool} {n : Nat} (h : p n = false) : names p (n + 1) = names p n := by
  simp [names, List.range_succ, List.filter_append, h]
theorem names_length (p : Nat → Bool) (n : Nat) : (names p n).length ≤ n := by
  unfold names
  rw [List.length_map]
  exact Nat.le_trans (List.length_filter_le _ _) (by simp)

theorem str_ext {s : ByteArray} {l : List UInt8} (h : s.data.toList = l) : s = ⟨l.toArray⟩ := by
  subst h
  exact (Go.Joins.bytes_eta s).symm
theorem str_snoc {s : ByteArray} {l : List UInt8} {c : UInt8} (h : s.data.toList = l) : (s ++ ⟨#[c]⟩).data.toList = l ++ [c] := by
  rw [Go.Joins.data_append, h]
theorem str_size {s : ByteArray} {l : List UInt8} (h : s.data.toList = l) : s.size = l.length := by
  rw [← h]; simp

/-- a text, if there is one -/
noncomputable def textV (ok : Prop) (l : List UInt8) : ByteArray × Bool := open Classical in if ok then (⟨l.toArray⟩, true) else (⟨#[]⟩, false)
theorem textV_yes {ok : Prop} {l : List UInt8} (h : ok) : textV ok l = (⟨l.toArray⟩, true) := if_pos h
theorem textV_no {ok : Prop} {l : List UInt8} (h : ¬ ok) : textV ok l = (⟨#[]⟩, false) := if_neg h

/-- what is handed back: a text, and whether there is one -/
def TextPost (q : ByteArray × Bool) (w : World) (e : Ending) (w' : World) : Prop := e = .returned (.tuple #[.string q.1, .bool q.2]) ∧ Below w.heap.size w w'

end Go.Proofs.YtpeafheljcjlhaaGreat
