/- What the laws do with nets: how large, copied, the same. -/
import Derived.Test.YtcfcmlbbnpfejaaNet1
import Derived.Test.YtcfcmlbbnpfejaaMem
import Derived.Test.YtcfcmlbbnpfejaaRegion
import Derived.Test.YtcfcmlbbnpfejaaSpec1
import Derived.Deep.OwnRows
namespace Go.Proofs.Ytcfcmlbbnpfejaa
open Go.RowKit

/-- what is left of two texts -/
def szv2 (a b : Nat) (left : Int) : Int := if (a : Int) + b ≤ left then left - a - b else -1

/-- laws.szEdge -/
theorem szEdge_any (a b : ByteArray) (left : Int) (w : World) (ha : a.size ≤ maxLen) (hb : b.size ≤ maxLen) (h0 : 0 ≤ left) (h1 : left ≤ 1048576) :
    Calls Try.prog 146 #[.agg #[.string a, .string b], .int .i64 left] w fun e w' => e = .returned (.int .i64 (szv2 a.size b.size left)) ∧ Below w.heap.size w w' := by
  unfold maxLen at ha hb
  by_cases h2 : left < a.size
  · have hf : ¬ ((a.size : Int) + b.size ≤ left) := by omega
    rw [show szv2 a.size b.size left = -1 from if_neg hf]
    clear hf
    go_enter Try.func146, Try.ntmps146
    go_wp2
    go_ret
    exact ⟨rfl, (Below.refl _ _).alloc (Nat.le_refl _) _⟩
  · by_cases h3 : left - a.size < b.size
    · have hf : ¬ ((a.size : Int) + b.size ≤ left) := by omega
      rw [show szv2 a.size b.size left = -1 from if_neg hf]
      clear hf
      go_enter Try.func146, Try.ntmps146
      go_wp2
      go_ret
      exact ⟨rfl, (Below.refl _ _).alloc (Nat.le_refl _) _⟩
    · rw [show szv2 a.size b.size left = left - a.size - b.size from if_pos (by omega)]
      go_enter Try.func146, Try.ntmps146
      go_wp2
      go_ret
      exact ⟨rfl, (Below.refl _ _).alloc (Nat.le_refl _) _⟩

/-- the letters of edges -/
def letters (es : List (ByteArray × ByteArray)) : Nat := (es.map fun e => e.1.size + e.2.size).sum

/-- what is left, -1 if it is too little -/
def szv (k : Nat) (left : Int) : Int := if (k : Int) ≤ left then left - k else -1
theorem szv_no {k : Nat} {left : Int} (h : left < k) : szv k left = -1 := if_neg (by omega)
theorem szv_yes {k : Nat} {left : Int} (h : (k : Int) ≤ left) : szv k left = left - k := if_pos h

/-- what is handed back: nothing is left, or all fits -/
def SzPost (k : Nat) (left : Int) (w : World) (e : Ending) (w' : World) : Prop := e = .returned (.int .i64 (szv k left)) ∧ Below w.heap.size w w'

theorem letters_take {es : List (ByteArray × ByteArray)} {k : Nat} (h : k < es.length) : letters (es.take (k + 1)) = letters (es.take k) + (es[k].1.size + es[k].2.size) := by
  unfold letters
  rw [List.take_succ_eq_append_getElem h]
  simp only [List.map_append, List.sum_append, List.map_cons, List.map_nil, List.sum_cons, List.sum_nil, Nat.add_zero]

theorem letters_le (es : List (ByteArray × ByteArray)) (k : Nat) : letters (es.take k) ≤ letters es := by
  unfold letters
  have h : (es.map fun e => e.1.size + e.2.size) = ((es.take k).map fun e => e.1.size + e.2.size) ++ ((es.drop k).map fun e => e.1.size + e.2.size) := by rw [← List.map_append, List.take_append_drop]
  rw [h, List.sum_append]; omega

/-- laws.szEdgeS -/
theorem szEdgeS_any (A : Option Addr) (cap : Nat) (es : List (ByteArray × ByteArray)) (left : Int) (w : World) (hE : EdgesIn w w.heap.size A es) (hl : es.length ≤ maxLen) (hS : ∀ e ∈ es, e.1.size ≤ maxLen ∧ e.2.size ≤ maxLen) (h0 : 0 ≤ left) (h1 : left ≤ 1048576) :
    Calls Try.prog 106 #[.slice A es.length cap, .int .i64 left] w (SzPost (es.length + letters es) left w) := by
  have HL := Lib.hid hl
  unfold maxLen at hl
  by_cases h2 : left < es.length
  · have HF : Hid (szv (es.length + letters es) left = -1) := Lib.hid (szv_no (by omega))
    go_enter Try.func106, Try.ntmps106
    go_wp2
    go_ret
    exact ⟨by rw [HF.out]; rfl, Below.refl _ _⟩
  go_enter Try.func106, Try.ntmps106
  go_wp2
  go_loopw [1, 5] (fun v i wr => ∃ k : Nat, k ≤ es.length ∧ i = .int .i64 k ∧ 0 ≤ left - es.length - letters (es.take k) ∧ v = .int .i64 (left - es.length - letters (es.take k)) ∧ Below w.heap.size w wr) (fun _ i _ => es.length - (intOf i).toNat)
  case atStart => exact ⟨0, Nat.zero_le _, rfl, by simp [letters]; omega, by simp [letters], Below.refl _ _⟩
  case round =>
    obtain ⟨k, hk, rfl, hp, rfl, hb⟩ := hrel
    by_cases hlt : k < es.length
    · obtain ⟨eb, eo, rfl, hlow, q1, q2⟩ := (hE.below hb) k hlt
      obtain ⟨s1, s2⟩ := hS es[k] (List.getElem_mem hlt)
      have hlet := letters_take hlt
      have HLET := Lib.hid hlet; clear hlet
      have hlk : 0 ≤ (letters (es.take k) : Int) := by omega
      obtain ⟨r, hr⟩ : ∃ r : Int, left - es.length - letters (es.take k) = r := ⟨_, rfl⟩
      rw [hr] at hp ⊢
      have HR := Lib.hid hr
      have hr1 : r ≤ 1048576 := by omega
      clear hr
      by_cases hfit : (es[k].1.size : Int) + es[k].2.size ≤ r
      · have HIF : Hid (szv2 es[k].1.size es[k].2.size r = r - es[k].1.size - es[k].2.size) := Lib.hid (if_pos hfit)
        obtain ⟨r', hr'⟩ : ∃ r' : Int, r - es[k].1.size - es[k].2.size = r' := ⟨_, rfl⟩
        have HR' := Lib.hid hr'
        have hr0 : 0 ≤ r' := by omega
        clear hr' hfit
        go_wp2_with (go_at_call 146; refine (szEdge_any _ _ _ _ s1 s2 hp hr1).mono ?_; rw [HIF.out, HR'.out]; rintro e w1 ⟨rfl, hb1⟩)
        go_roundw
        case rel =>
          have e1 : left - es.length - letters (es.take (k + 1)) = r' := by have := HLET.out; have := HR.out; have := HR'.out; omega
          exact ⟨k + 1, by omega, by go_num, by rw [e1]; exact hr0, by rw [e1], hb.trans (hb1.mono hb.size)⟩
        case measure => simp [intOf]; omega
      · have HIF : Hid (szv2 es[k].1.size es[k].2.size r = -1) := Lib.hid (if_neg hfit)
        have HF : Hid (szv (es.length + letters es) left = -1) := Lib.hid (szv_no (by
          have := HLET.out; have := HR.out; have := letters_le es (k + 1); omega))
        clear hfit
        go_wp2_with (go_at_call 146; refine (szEdge_any _ _ _ _ s1 s2 hp hr1).mono ?_; rw [HIF.out]; rintro e w1 ⟨rfl, hb1⟩)
        go_ret
        exact ⟨by rw [HF.out]; rfl, hb.trans (hb1.mono hb.size)⟩
    · have HK : Hid (letters (es.take k) = letters es) := Lib.hid (by rw [List.take_of_length_le (by omega)])
      obtain ⟨r, hr⟩ : ∃ r : Int, left - es.length - letters (es.take k) = r := ⟨_, rfl⟩
      rw [hr] at hp ⊢
      have HR := Lib.hid hr
      clear hr
      go_wp2
      go_ret
      refine ⟨?_, hb⟩
      have := HR.out; have := HK.out
      rw [szv_yes (by omega)]
      exact ret_int (by show r = _; omega)

/-- laws.szNet -/
theorem szNet_any (B : ByteArray) (A : Option Addr) (cap : Nat) (es : List (ByteArray × ByteArray)) (left : Int) (w : World) (hs : B.size ≤ maxLen) (hE : EdgesIn w w.heap.size A es) (hl : es.length ≤ maxLen) (hS : ∀ e ∈ es, e.1.size ≤ maxLen ∧ e.2.size ≤ maxLen) (h0 : 0 ≤ left) (h1 : left ≤ 1048576) :
    Calls Try.prog 49 #[.agg #[.string B, .slice A es.length cap], .int .i64 left] w (SzPost (B.size + (es.length + letters es)) left w) := by
  unfold maxLen at hs
  have hbn : Below w.heap.size w (w.alloc (.cells #[.string B, .slice A es.length cap] 49)) := (Below.refl _ _).alloc (Nat.le_refl _) _
  by_cases h2 : left < B.size
  · have HF : Hid (szv (B.size + (es.length + letters es)) left = -1) := Lib.hid (szv_no (by omega))
    go_enter Try.func49, Try.ntmps49
    go_wp2
    go_ret
    exact ⟨by rw [HF.out]; rfl, hbn⟩
  obtain ⟨r, hr⟩ : ∃ r : Int, left - B.size = r := ⟨_, rfl⟩
  have HR := Lib.hid hr
  have hr0 : 0 ≤ r := by omega
  have hr1 : r ≤ 1048576 := by omega
  clear hr
  by_cases h3 : ((es.length + letters es : Nat) : Int) ≤ r
  · have HI : Hid (szv (es.length + letters es) r = r - (es.length + letters es : Nat)) := Lib.hid (szv_yes h3)
    obtain ⟨q, hq⟩ : ∃ q : Int, r - (es.length + letters es : Nat) = q := ⟨_, rfl⟩
    have HQ := Lib.hid hq
    have hq0 : 0 ≤ q := by omega
    clear hq h3
    go_enter Try.func49, Try.ntmps49
    go_wp2_with fail
    rw [HR.out]
    refine (szEdgeS_any A cap es r _ ((hE.below hbn).more hbn.size) hl hS hr0 hr1).mono ?_
    unfold SzPost
    rw [HI.out, HQ.out]
    rintro e w1 ⟨rfl, hb1⟩
    go_wp2_with fail
    go_ret
    refine ⟨?_, hbn.trans (hb1.mono hbn.size)⟩
    have := HR.out; have := HQ.out
    rw [szv_yes (by omega)]
    exact ret_int (by show q = _; omega)
  · have HI : Hid (szv (es.length + letters es) r = -1) := Lib.hid (szv_no (by omega))
    have HF : Hid (szv (B.size + (es.length + letters es)) left = -1) := Lib.hid (szv_no (by have := HR.out; omega))
    clear h3
    go_enter Try.func49, Try.ntmps49
    go_wp2_with fail
    rw [HR.out]
    refine (szEdgeS_any A cap es r _ ((hE.below hbn).more hbn.size) hl hS hr0 hr1).mono ?_
    unfold SzPost
    rw [HI.out]
    rintro e w1 ⟨rfl, hb1⟩
    go_wp2_with fail
    go_ret
    exact ⟨by rw [HF.out]; rfl, hbn.trans (hb1.mono hbn.size)⟩

end Go.Proofs.Ytcfcmlbbnpfejaa
