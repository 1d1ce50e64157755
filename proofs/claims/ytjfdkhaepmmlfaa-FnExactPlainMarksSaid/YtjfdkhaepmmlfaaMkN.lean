/- PlainMarks, by the model. -/
import Derived.Test.YtjfdkhaepmmlfaaMkM
import Derived.Test.YtjfdkhaepmmlfaaMkQ
import Derived.Test.YtjfdkhaepmmlfaaZ6S
namespace Go.Proofs.Ytjfdkhaepmmlfaa
open Go.RowKit

set_option maxRecDepth 100000 in
set_option maxHeartbeats 4000000 in
/-- spec.PlainMarks -/
theorem specPlainMarks_any (B : ByteArray) (A : Option Addr) (cap : Nat) (es : List (ByteArray × ByteArray)) (w : World) (hs : B.size ≤ maxLen) (hE : EdgesIn w w.heap.size A es) (hl : es.length ≤ 1099511627776) (hS : ∀ e ∈ es, e.1.size ≤ 1099511627776 ∧ e.2.size ≤ 1099511627776) :
    Calls Try.prog 18 #[.agg #[.string B, .slice A es.length cap]] w (MksPostS (earlyMks B es (valuesV B es)) w) := by
  have HL := Lib.hid hl; have HM := Lib.hid hs; have HS := Lib.hid hS
  clear hl hs hS
  have hb1 : Below w.heap.size w (w.alloc (.cells #[.string B, .slice A es.length cap] 30)) := (Below.refl _ _).alloc (Nat.le_refl _) _
  have t1 := Two.made w B A es.length cap 30
  have hz1 : (w.alloc (.cells #[.string B, .slice A es.length cap] 30)).heap.size = w.heap.size + 1 := by simp
  have FV : Hid (∀ W : World, EdgesIn W W.heap.size A es → Calls Try.prog 30 #[.agg #[.string B, .slice A es.length cap]] W (ValsPost (valuesV B es) W)) := Lib.hid fun W h => specValuesOf_any B A cap es W HM.out h HL.out HS.out
  obtain ⟨⟨am, ok⟩, hq⟩ : ∃ q, valuesV B es = q := ⟨_, rfl⟩
  have HPF : Hid (ok = true → am.length = es.length ∧ es.length ≤ 16 ∧ 1 ≤ B.size ∧ B.size ≤ 8) := Lib.hid fun h => by
    have := @plain_facts B es
    rw [hq] at this
    exact this h
  rw [hq] at FV ⊢
  clear hq
  cases ok with
  | false =>
    have HN : Hid (earlyMks B es (am, false) = ([], false)) := Lib.hid (earlyMks_no rfl)
    rw [HN.out]
    go_enter Try.func18, Try.ntmps18
    go_wp2_with fail
    refine (FV.out _ ((hE.below hb1).more hb1.size)).mono ?_
    rintro e w2 ⟨A2, c2, rfl, hX2, hb2, _⟩
    have hb2' := hb1.trans (hb2.mono hb1.size)
    clear hb2 t1 hX2
    go_wp2_with fail
    go_ret2
    exact ⟨_, 0, rfl, fun k hk => absurd hk (by simp), hb2'.alloc hb2'.size _⟩
  | true =>
    obtain ⟨hal, h16, hB1, hB8⟩ := HPF.out rfl
    have HN : Hid (earlyMks B es (am, true) = (mksV (earlyV (B.extract 0 1) es) am (B.extract (B.size - 1) B.size) es, true)) := Lib.hid (earlyMks_yes rfl)
    rw [HN.out]
    have HLEN := Lib.hid (mksV_len (earlyV (B.extract 0 1) es) am (B.extract (B.size - 1) B.size) es)
    have FM : Hid (∀ (P : Option Addr) (pc : Nat) (W : World), EdgesIn W W.heap.size A es → IntsIn W W.heap.size P am → Calls Try.prog 50 #[.agg #[.string B, .slice A es.length cap], .slice P es.length pc] W fun e w' => ∃ A' cap', e = .returned (.slice A' es.length cap') ∧ MarksIn w' w'.heap.size A' (mksV (earlyV (B.extract 0 1) es) am (B.extract (B.size - 1) B.size) es) ∧ Below W.heap.size W w') :=
      Lib.hid fun P pc W h1 h2 => l7Make_any B A cap es am P pc W h1 (by omega) h2 hal hB1 HM.out
    obtain ⟨ms, hms⟩ : ∃ ms, mksV (earlyV (B.extract 0 1) es) am (B.extract (B.size - 1) B.size) es = ms := ⟨_, rfl⟩
    rw [hms] at FM HLEN ⊢
    have HAL := Lib.hid hal
    clear hms HN HPF h16 hal hB1 hB8
    go_enter Try.func18, Try.ntmps18
    go_wp2_with fail
    refine (FV.out _ ((hE.below hb1).more hb1.size)).mono ?_
    rintro e w2 ⟨P, pc, rfl, hX2, hb2, _⟩
    simp only at hX2
    rw [HAL.out]
    have hb2' := hb1.trans (hb2.mono hb1.size)
    have t2 := t1.below hb2 (by omega)
    have hd0 := t2.1; have hd1 := t2.2
    clear hb2 t1 t2 hb1 hz1
    go_wp2_with fail
    refine (FM.out P pc _ ((hE.below hb2').more hb2'.size) hX2).mono ?_
    rintro e w3 ⟨A3, c3, rfl, hM3, hb3⟩
    have hb3' := hb2'.trans (hb3.mono hb2'.size)
    have HM3 := Lib.hid hM3
    clear hb3 hM3 hd0 hd1
    go_wp2_with fail
    go_ret2
    exact ⟨A3, c3, by rw [HLEN.out]; rfl, HM3.out, hb3'⟩

end Go.Proofs.Ytjfdkhaepmmlfaa
