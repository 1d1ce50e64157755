/- The edges that are not in a tree: ChordsOf by the program and by the model. -/
import Derived.Test.YtadngnajenedpaaLess
import Derived.Test.YtadngnajenedpaaContains
import Derived.Test.YtadngnajenedpaaEdgeName
import Derived.Test.YtadngnajenedpaaNames
import Derived.Test.YtadngnajenedpaaTreeF
import Derived.Test.YtadngnajenedpaaTreeN
namespace Go.Proofs.Ytadngnajenedpaa
open Go.RowKit

/-- the chords of a tree -/
noncomputable def chordsV (B : ByteArray) (es : List (ByteArray × ByteArray)) (t : ByteArray) : ByteArray × Bool := textV (treeV B es t = true) (names (lessB t.data.toList) es.length)

set_option maxRecDepth 100000 in
set_option maxHeartbeats 2000000 in
/-- spec.ChordsOf -/
theorem specChordsOf_any (B : ByteArray) (A : Option Addr) (cap : Nat) (es : List (ByteArray × ByteArray)) (t : ByteArray) (w : World) (hs : B.size ≤ maxLen) (hE : EdgesIn w w.heap.size A es) (hl : es.length ≤ 1099511627776) (hS : ∀ e ∈ es, e.1.size ≤ 1099511627776 ∧ e.2.size ≤ 1099511627776) (hbz : t.size ≤ 1099511627776) :
    Calls Try.prog 22 #[.agg #[.string B, .slice A es.length cap], .string t] w (TextPost (chordsV B es t) w) := by
  obtain ⟨v, hv⟩ : ∃ v, treeV B es t = v := ⟨_, rfl⟩
  have FA : Hid (∀ W : World, EdgesIn W W.heap.size A es → Calls Try.prog 18 #[.agg #[.string B, .slice A es.length cap], .string t] W fun e w' => e = .returned (.bool v) ∧ Below W.heap.size W w') := Lib.hid fun W h => by
    have := specIsTree_any B A cap es t W hs h hl hS hbz
    rwa [hv] at this
  have hb1 : Below w.heap.size w (w.alloc (.cells #[.string B, .slice A es.length cap] 30)) := (Below.refl _ _).alloc (Nat.le_refl _) _
  have t1 := Two.made w B A es.length cap 30
  have hz1 : (w.alloc (.cells #[.string B, .slice A es.length cap] 30)).heap.size = w.heap.size + 1 := by simp
  have HBZ := Lib.hid hbz
  clear hs hl hS hbz
  cases v with
  | false =>
    have HN : Hid (chordsV B es t = (⟨#[]⟩, false)) := Lib.hid (textV_no (by rw [hv]; simp))
    clear hv
    go_enter Try.func22, Try.ntmps22
    go_wp2_with fail
    refine (FA.out _ ((hE.below hb1).more hb1.size)).mono ?_
    rintro e w2 ⟨rfl, hb2⟩
    have hb2' := hb1.trans (hb2.mono hb1.size)
    clear hb2 t1
    go_wp2_with fail
    go_ret2
    exact ⟨by rw [HN.out]; rfl, hb2'⟩
  | true =>
    have HN : Hid (chordsV B es t = (⟨(names (lessB t.data.toList) es.length).toArray⟩, true)) := Lib.hid (textV_yes hv)
    have h16 : es.length ≤ 16 := (valid_sizes (decB_iff.1 hv).1).2
    have FL : Hid (∀ W : World, Calls Try.prog 50 #[.agg #[.string B, .slice A es.length cap], .string t] W fun e w' => e = .returned (.string ⟨(names (lessB t.data.toList) es.length).toArray⟩) ∧ Below W.heap.size W w') := Lib.hid fun W => l5Less_any B A es.length cap t W h16 HBZ.out
    clear hv h16
    go_enter Try.func22, Try.ntmps22
    go_wp2_with fail
    refine (FA.out _ ((hE.below hb1).more hb1.size)).mono ?_
    rintro e w2 ⟨rfl, hb2⟩
    have hb2' := hb1.trans (hb2.mono hb1.size)
    have t2 := t1.below hb2 (by omega)
    have hd0 := t2.1; have hd1 := t2.2
    clear hb2 t1
    go_wp2_with fail
    refine (FL.out _).mono ?_
    rintro e w3 ⟨rfl, hb3⟩
    have hb3' := hb2'.trans (hb3.mono hb2'.size)
    clear hb3 hd0 hd1 t2
    go_wp2_with fail
    go_ret2
    exact ⟨by rw [HN.out]; rfl, hb3'⟩

set_option maxRecDepth 100000 in
set_option maxHeartbeats 1000000 in
/-- impl.ChordsOf$1 -/
theorem chordKeep_any (t : ByteArray) (b k : Nat) (W : World) (hk : k ≤ 16) (hz : t.size ≤ maxLen) (hb : W.cell? ⟨b, 0, none⟩ = some (.string t)) :
    Calls Try.prog 51 #[.int .i64 k, .pointer (some ⟨b, 0, none⟩)] W fun e W' => e = .returned (.bool (lessB t.data.toList k)) ∧ Below W.heap.size W W' := by
  have HQ : Hid ((!decide (0 ≤ Lib.indexByte t.data.toList (nameOf k))) = lessB t.data.toList k) := Lib.hid (by
    unfold lessB
    by_cases h : 0 ≤ Lib.indexByte t.data.toList (nameOf k)
    · rw [decide_eq_true h, decide_eq_false (by omega)]; rfl
    · rw [decide_eq_false h, decide_eq_true (by omega)]; rfl)
  have FE : Hid (∀ W : World, Calls Try.prog 53 #[.int .i64 k] W fun e w' => e = .returned (.string ⟨#[nameOf k]⟩) ∧ W = w') := Lib.hid fun W => edgeName_any k (by omega) W
  have FC : Hid (∀ W : World, Calls Try.prog 52 #[.string t, .string ⟨#[nameOf k]⟩] W fun e w' => e = .returned (.bool (decide (0 ≤ Lib.indexByte t.data.toList (nameOf k)))) ∧ W = w') := Lib.hid fun W => contains_any t (nameOf k) W hz
  generalize nameOf k = c at HQ FE FC
  generalize decide (0 ≤ Lib.indexByte t.data.toList c) = q at HQ FC
  rw [← HQ.out]
  clear HQ hk hz
  go_enter Try.func51, Try.ntmps51
  go_wp2_with fail
  go_quiet ((first
    | (go_at_call 53; exact Calls.quiet_of_same ((FE.out _).mono fun _ _ ⟨h, h'⟩ => ⟨h, h'.symm⟩))
    | (go_at_call 52; exact Calls.quiet_of_same ((FC.out _).mono fun _ _ ⟨h, h'⟩ => ⟨h, h'.symm⟩))))
  go_wp2_with fail
  go_ret
  exact ⟨rfl, below_drewN (Below.refl _ _) _⟩

set_option maxRecDepth 100000 in
set_option maxHeartbeats 2000000 in
/-- impl.ChordsOf -/
theorem implChordsOf_any (B : ByteArray) (A : Option Addr) (cap : Nat) (es : List (ByteArray × ByteArray)) (t : ByteArray) (w : World) (hs : B.size ≤ maxLen) (hE : EdgesIn w w.heap.size A es) (hl : es.length ≤ 1099511627776) (hS : ∀ e ∈ es, e.1.size ≤ 1099511627776 ∧ e.2.size ≤ 1099511627776) (hbz : t.size ≤ 1099511627776) :
    Calls Try.prog 23 #[.agg #[.string B, .slice A es.length cap], .string t] w (TextPost (chordsV B es t) w) := by
  obtain ⟨v, hv⟩ : ∃ v, treeV B es t = v := ⟨_, rfl⟩
  have FA : Hid (∀ W : World, EdgesIn W W.heap.size A es → Calls Try.prog 19 #[.agg #[.string B, .slice A es.length cap], .string t] W fun e w' => e = .returned (.bool v) ∧ Below W.heap.size W w') := Lib.hid fun W h => by
    have := implIsTree_any B A cap es t W hs h hl hS hbz
    rwa [hv] at this
  have HBZ : Hid (t.size ≤ maxLen) := Lib.hid (by unfold maxLen; omega)
  obtain ⟨W0, hW0⟩ : ∃ W0, W0 = (w.alloc (.cells #[.string B, .slice A es.length cap] 30)).alloc (.cells #[.string t] 9) := ⟨_, rfl⟩
  have hb0 : Below w.heap.size w W0 := by rw [hW0]; exact ((Below.refl _ _).alloc (Nat.le_refl _) _).alloc (by simp) _
  have t0 : Two W0 w.heap.size B A es.length cap := by rw [hW0]; exact ⟨by go_simp, by go_simp⟩
  have hc0 : W0.cell? ⟨w.heap.size + 1, 0, none⟩ = some (.string t) := by rw [hW0]; go_simp
  have hz0 : W0.heap.size = w.heap.size + 2 := by rw [hW0]; simp
  have HEN : Hid (∀ args w, (callFunc 51 args).run Try.prog w = .ok (.enter 51 args) w) := Lib.hid (enters_of Try.func51 (by kernel_rfl) rfl)
  clear hs hl hS hbz
  cases v with
  | false =>
    have HN : Hid (chordsV B es t = (⟨#[]⟩, false)) := Lib.hid (textV_no (by rw [hv]; simp))
    have n0 := t0.1; have n1 := t0.2
    clear hv
    go_enter Try.func23, Try.ntmps23
    rw [hW0] at n0 n1 hc0
    go_wp2_with fail
    rw [← hW0]
    clear n0 n1 hc0 hW0
    refine (FA.out _ ((hE.below hb0).more hb0.size)).mono ?_
    rintro e w2 ⟨rfl, hb2⟩
    have hb2' := hb0.trans (hb2.mono hb0.size)
    clear hb2 t0
    go_wp2_with fail
    go_ret2
    exact ⟨by rw [HN.out]; rfl, hb2'⟩
  | true =>
    have HN : Hid (chordsV B es t = (⟨(names (lessB t.data.toList) es.length).toArray⟩, true)) := Lib.hid (textV_yes hv)
    have h16 : es.length ≤ 16 := (valid_sizes (decB_iff.1 hv).1).2
    have n0 := t0.1; have n1 := t0.2
    have HC0 := Lib.hid hc0
    clear hv
    go_enter Try.func23, Try.ntmps23
    rw [hW0] at n0 n1 hc0
    go_wp2_with fail
    rw [← hW0]
    clear n0 n1 hc0 hW0
    refine (FA.out _ ((hE.below hb0).more hb0.size)).mono ?_
    rintro e w2 ⟨rfl, hb2⟩
    have hb2' := hb0.trans (hb2.mono hb0.size)
    have t2 := t0.below hb2 (by omega)
    have hc2 := (hb2.cell (p := ⟨w.heap.size + 1, 0, none⟩) (by simp only; omega)).trans HC0.out
    have hz2 := hb2.size
    have hd0 := t2.1; have hd1 := t2.2
    have hlt : w.heap.size + 1 < w2.heap.size := by omega
    have HNW := Lib.hid (namesWhere_any B A es.length cap _ #[.pointer (some ⟨w.heap.size + 1, 0, none⟩)] (lessB t.data.toList) w2 (by omega) HEN.out (fun i W hi hbW => chordKeep_any t (w.heap.size + 1) i W (by omega) HBZ.out ((hbW.cell (by simp only; omega)).trans hc2)))
    clear hb2 t0 t2 FA hlt
    go_wp2_with fail
    refine HNW.out.mono ?_
    rintro e w3 ⟨rfl, hb3⟩
    have hb3' := hb2'.trans (hb3.mono hb2'.size)
    clear hb3 hd0 hd1 hc2 HNW
    go_wp2_with fail
    go_ret2
    exact ⟨by rw [HN.out]; rfl, hb3'⟩

end Go.Proofs.Ytadngnajenedpaa
