/- All runs, by both. -/
import Derived.Test.YtcfcmlbbnpfejaaPathsFrom
namespace Go.Proofs.Ytcfcmlbbnpfejaa
open Go.RowKit

set_option maxRecDepth 100000 in
set_option maxHeartbeats 2000000 in
/-- spec.AllRuns -/
theorem specAllRuns_any (B : ByteArray) (A : Option Addr) (cap : Nat) (es : List (ByteArray × ByteArray)) (w : World) (hs : B.size ≤ maxLen) (hE : EdgesIn w w.heap.size A es) (hl : es.length ≤ 1099511627776) (hS : ∀ e ∈ es, e.1.size ≤ 1099511627776 ∧ e.2.size ≤ 1099511627776) :
    Calls Try.prog 58 #[.agg #[.string B, .slice A es.length cap]] w (CutPost (pathsQ B es (B.extract 0 1)) w) := by
  have hl2 : es.length ≤ maxLen := by unfold maxLen; omega
  have HL := Lib.hid hl; have HL2 := Lib.hid hl2; have HM := Lib.hid hs; have HS := Lib.hid hS
  clear hl hl2 hs hS
  have hb1 : Below w.heap.size w (w.alloc (.cells #[.string B, .slice A es.length cap] 25)) := (Below.refl _ _).alloc (Nat.le_refl _) _
  have t1 := Two.made w B A es.length cap 25
  have hz1 : (w.alloc (.cells #[.string B, .slice A es.length cap] 25)).heap.size = w.heap.size + 1 := by simp
  have hd0 := t1.1; have hd1 := t1.2
  by_cases hv : Valid B.data.toList (ebs es)
  case neg =>
    have HD : Hid (decB (Valid B.data.toList (ebs es)) = false) := Lib.hid (decB_f hv)
    have HQ : Hid (pathsQ B es (B.extract 0 1) = ([], false)) := Lib.hid (if_neg (by
      rintro ⟨h, _⟩
      exact hv (decB_iff.1 h).1))
    clear hv
    go_enter Try.func58, Try.ntmps58
    go_wp2_with fail
    refine (specValid_any B A cap es _ HM.out ((hE.below hb1).more hb1.size) HL2.out).mono ?_
    rw [HD.out]
    rintro e w2 ⟨rfl, hb2⟩
    have hb2' := hb1.trans (hb2.mono hb1.size)
    clear hb2 hd0 hd1 t1 hz1 hb1
    go_wp2_with fail
    go_ret2
    rw [HQ.out]
    exact no_texts w w2 hb2' _ rfl
  have HD : Hid (decB (Valid B.data.toList (ebs es)) = true) := Lib.hid (decB_t hv)
  have hB1 := (facts_of hv).one
  obtain ⟨qt, qo, hq⟩ : ∃ qt qo, pathsQ B es (B.extract 0 1) = (qt, qo) := ⟨_, _, rfl⟩
  have FP : Hid (∀ W : World, EdgesIn W W.heap.size A es → Calls Try.prog 50 #[.agg #[.string B, .slice A es.length cap], .string (B.extract 0 1)] W (CutPost (qt, qo) W)) := Lib.hid fun W h => by
    have := specPathsFrom_any B A cap es (B.extract 0 1) W HM.out h HL.out HS.out
    rwa [hq] at this
  have FE : Hid (∀ W : World, Calls Try.prog 95 #[.agg #[.string B, .slice A es.length cap]] W fun e w' => e = .returned (.string (B.extract 0 1)) ∧ Below W.heap.size W w') := Lib.hid fun W => l1Entry_any B (.slice A es.length cap) W hB1 HM.out
  have HQ := Lib.hid hq
  clear hv hq hB1
  go_enter Try.func58, Try.ntmps58
  go_wp2_with fail
  refine (specValid_any B A cap es _ HM.out ((hE.below hb1).more hb1.size) HL2.out).mono ?_
  rw [HD.out]
  rintro e w2 ⟨rfl, hb2⟩
  have t2 := t1.below hb2 (by omega)
  have hb2' := hb1.trans (hb2.mono hb1.size)
  have hz2 : w.heap.size + 1 ≤ w2.heap.size := by have := hb2.size; omega
  have hS : ∀ W, Below w2.heap.size w2 W → (W.cell? ⟨w.heap.size, 0, none⟩ = some (.string B) ∧ W.cell? ⟨w.heap.size, 1, none⟩ = some (.slice A es.length cap) ∧ Below w2.heap.size w2 W) :=
    fun W h => ⟨(h.cell (by simp only; omega)).trans t2.1, (h.cell (by simp only; omega)).trans t2.2, h⟩
  have HSS := Lib.hid hS
  have HA : Hid (∀ W, Below w2.heap.size w2 W → EdgesIn W W.heap.size A es) := Lib.hid fun W h => (hE.below (hb2'.trans (h.mono hb2'.size))).more (hb2'.trans (h.mono hb2'.size)).size
  clear hb2 hd0 hd1 t1 hz1 hb1 hS t2
  go_wp2_with fail
  go_region_held3 (fun W => W.cell? ⟨w.heap.size, 0, none⟩ = some (.string B) ∧ W.cell? ⟨w.heap.size, 1, none⟩ = some (.slice A es.length cap) ∧ Below w2.heap.size w2 W)
    (first
      | exact HSS.out _ (Below.refl _ _).drew
      | exact HSS.out _ ((Below.refl _ _).drew.trans hb4)
      | exact HSS.out _ (((Below.refl _ _).drew.trans hb4).trans (hb5.mono hb4.size)))
    (first
      | (go_at_call 95; refine (FE.out _).mono ?_; rintro e w4 ⟨rfl, hb4⟩)
      | (go_at_call 50; refine (FP.out _ (HA.out _ ((Below.refl _ _).drew.trans hb4))).mono ?_; rintro e w5 ⟨A5, c5, rfl, h3, hb5, h5⟩))
  rename_i hHeld
  have hfin := hb2'.trans (hHeld.2.2.mono hb2'.size)
  have hbase : w.heap.size ≤ w4.heap.size := Nat.le_trans hb2'.size hb4.size
  clear hHeld HSS HA hb4 hb5 hb2'
  go_wp2_with fail
  go_ret2
  rw [HQ.out]
  exact ⟨A5, c5, rfl, h3, hfin, h5.mono hbase⟩

set_option maxRecDepth 100000 in
set_option maxHeartbeats 2000000 in
/-- impl.AllRuns -/
theorem implAllRuns_any (B : ByteArray) (A : Option Addr) (cap : Nat) (es : List (ByteArray × ByteArray)) (w : World) (hs : B.size ≤ maxLen) (hE : EdgesIn w w.heap.size A es) (hl : es.length ≤ 1099511627776) (hS : ∀ e ∈ es, e.1.size ≤ 1099511627776 ∧ e.2.size ≤ 1099511627776) :
    Calls Try.prog 59 #[.agg #[.string B, .slice A es.length cap]] w (CutPost (pathsQ B es (B.extract 0 1)) w) := by
  have hl2 : es.length ≤ maxLen := by unfold maxLen; omega
  have HL := Lib.hid hl; have HL2 := Lib.hid hl2; have HM := Lib.hid hs; have HS := Lib.hid hS
  clear hl hl2 hs hS
  have hb1 : Below w.heap.size w (w.alloc (.cells #[.string B, .slice A es.length cap] 25)) := (Below.refl _ _).alloc (Nat.le_refl _) _
  have t1 := Two.made w B A es.length cap 25
  have hz1 : (w.alloc (.cells #[.string B, .slice A es.length cap] 25)).heap.size = w.heap.size + 1 := by simp
  have hd0 := t1.1; have hd1 := t1.2
  by_cases hv : Valid B.data.toList (ebs es)
  case neg =>
    have HD : Hid (decB (Valid B.data.toList (ebs es)) = false) := Lib.hid (decB_f hv)
    have HQ : Hid (pathsQ B es (B.extract 0 1) = ([], false)) := Lib.hid (if_neg (by
      rintro ⟨h, _⟩
      exact hv (decB_iff.1 h).1))
    clear hv
    go_enter Try.func59, Try.ntmps59
    go_wp2_with fail
    refine (valid_any B A cap es _ HM.out ((hE.below hb1).more hb1.size) HL2.out).mono ?_
    rw [HD.out]
    rintro e w2 ⟨rfl, hb2⟩
    have hb2' := hb1.trans (hb2.mono hb1.size)
    clear hb2 hd0 hd1 t1 hz1 hb1
    go_wp2_with fail
    go_ret2
    rw [HQ.out]
    exact ⟨none, 0, rfl, fun k hk => absurd hk (by simp), hb2', .inl ⟨rfl, rfl⟩⟩
  have HD : Hid (decB (Valid B.data.toList (ebs es)) = true) := Lib.hid (decB_t hv)
  have hB1 := (facts_of hv).one
  obtain ⟨qt, qo, hq⟩ : ∃ qt qo, pathsQ B es (B.extract 0 1) = (qt, qo) := ⟨_, _, rfl⟩
  have FP : Hid (∀ W : World, EdgesIn W W.heap.size A es → Calls Try.prog 52 #[.agg #[.string B, .slice A es.length cap], .string (B.extract 0 1)] W (CutPost (qt, qo) W)) := Lib.hid fun W h => by
    have := implPathsFrom_any B A cap es (B.extract 0 1) W HM.out h HL.out HS.out
    rwa [hq] at this
  have FE : Hid (∀ W : World, Calls Try.prog 92 #[.agg #[.string B, .slice A es.length cap]] W fun e w' => e = .returned (.string (B.extract 0 1)) ∧ Below W.heap.size W w') := Lib.hid fun W => entryOf_any B (.slice A es.length cap) W hB1 HM.out
  have HQ := Lib.hid hq
  clear hv hq hB1
  go_enter Try.func59, Try.ntmps59
  go_wp2_with fail
  refine (valid_any B A cap es _ HM.out ((hE.below hb1).more hb1.size) HL2.out).mono ?_
  rw [HD.out]
  rintro e w2 ⟨rfl, hb2⟩
  have t2 := t1.below hb2 (by omega)
  have hb2' := hb1.trans (hb2.mono hb1.size)
  have hz2 : w.heap.size + 1 ≤ w2.heap.size := by have := hb2.size; omega
  have hS : ∀ W, Below w2.heap.size w2 W → (W.cell? ⟨w.heap.size, 0, none⟩ = some (.string B) ∧ W.cell? ⟨w.heap.size, 1, none⟩ = some (.slice A es.length cap) ∧ Below w2.heap.size w2 W) :=
    fun W h => ⟨(h.cell (by simp only; omega)).trans t2.1, (h.cell (by simp only; omega)).trans t2.2, h⟩
  have HSS := Lib.hid hS
  have HA : Hid (∀ W, Below w2.heap.size w2 W → EdgesIn W W.heap.size A es) := Lib.hid fun W h => (hE.below (hb2'.trans (h.mono hb2'.size))).more (hb2'.trans (h.mono hb2'.size)).size
  clear hb2 hd0 hd1 t1 hz1 hb1 hS t2
  go_wp2_with fail
  go_region_held3 (fun W => W.cell? ⟨w.heap.size, 0, none⟩ = some (.string B) ∧ W.cell? ⟨w.heap.size, 1, none⟩ = some (.slice A es.length cap) ∧ Below w2.heap.size w2 W)
    (first
      | exact HSS.out _ (Below.refl _ _).drew
      | exact HSS.out _ ((Below.refl _ _).drew.trans hb4)
      | exact HSS.out _ (((Below.refl _ _).drew.trans hb4).trans (hb5.mono hb4.size)))
    (first
      | (go_at_call 92; refine (FE.out _).mono ?_; rintro e w4 ⟨rfl, hb4⟩)
      | (go_at_call 52; refine (FP.out _ (HA.out _ ((Below.refl _ _).drew.trans hb4))).mono ?_; rintro e w5 ⟨A5, c5, rfl, h3, hb5, h5⟩))
  rename_i hHeld
  have hfin := hb2'.trans (hHeld.2.2.mono hb2'.size)
  have hbase : w.heap.size ≤ w4.heap.size := Nat.le_trans hb2'.size hb4.size
  clear hHeld HSS HA hb4 hb5 hb2'
  go_wp2_with fail
  go_ret2
  rw [HQ.out]
  exact ⟨A5, c5, rfl, h3, hfin, h5.mono hbase⟩

end Go.Proofs.Ytcfcmlbbnpfejaa
