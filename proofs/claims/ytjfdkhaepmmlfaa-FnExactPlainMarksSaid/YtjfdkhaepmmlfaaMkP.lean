/- PlainMarks, by the program. -/
import Derived.Test.YtjfdkhaepmmlfaaMkQ
import Derived.Test.YtjfdkhaepmmlfaaZ6D
import Derived.Test.YtjfdkhaepmmlfaaZ6W
namespace Go.Proofs.Ytjfdkhaepmmlfaa
open Go.RowKit

set_option maxRecDepth 100000 in
set_option maxHeartbeats 4000000 in
/-- impl.PlainMarks -/
theorem implPlainMarks_any (B : ByteArray) (A : Option Addr) (cap : Nat) (es : List (ByteArray × ByteArray)) (w : World) (hs : B.size ≤ maxLen) (hE : EdgesIn w w.heap.size A es) (hl : es.length ≤ 1099511627776) (hS : ∀ e ∈ es, e.1.size ≤ 1099511627776 ∧ e.2.size ≤ 1099511627776) :
    Calls Try.prog 19 #[.agg #[.string B, .slice A es.length cap]] w (MksPost (earlyMks B es (valuesV B es)) w) := by
  have HL := Lib.hid hl; have HM := Lib.hid hs; have HS := Lib.hid hS
  clear hl hs hS
  have hb1 : Below w.heap.size w (w.alloc (.cells #[.string B, .slice A es.length cap] 30)) := (Below.refl _ _).alloc (Nat.le_refl _) _
  have t1 := Two.made w B A es.length cap 30
  have hz1 : (w.alloc (.cells #[.string B, .slice A es.length cap] 30)).heap.size = w.heap.size + 1 := by simp
  have FV : Hid (∀ W : World, EdgesIn W W.heap.size A es → Calls Try.prog 51 #[.agg #[.string B, .slice A es.length cap]] W (ValsPost (valuesV B es) W)) := Lib.hid fun W h => implValuesOf_any B A cap es W HM.out h HL.out HS.out
  obtain ⟨⟨am, ok⟩, hq⟩ : ∃ q, valuesV B es = q := ⟨_, rfl⟩
  have HPF : Hid (ok = true → am.length = es.length ∧ es.length ≤ 16 ∧ 1 ≤ B.size ∧ B.size ≤ 8) := Lib.hid fun h => by
    have := @plain_facts B es
    rw [hq] at this
    exact this h
  rw [hq] at FV ⊢
  clear hq
  cases ok with
  | false =>
    have HN : Hid (earlyMks B es (am, false) = ([], false)) := Lib.hid (earlyMks_no rfl)
    rw [HN.out]
    go_enter Try.func19, Try.ntmps19
    go_wp2_with fail
    refine (FV.out _ ((hE.below hb1).more hb1.size)).mono ?_
    rintro e w2 ⟨A2, c2, rfl, hX2, hb2, _⟩
    have hb2' := hb1.trans (hb2.mono hb1.size)
    clear hb2 t1 hX2
    go_wp2_with fail
    go_ret2
    exact ⟨none, 0, rfl, fun k hk => absurd hk (by simp), hb2', .inl ⟨rfl, rfl⟩⟩
  | true =>
    obtain ⟨hal, h16, hB1, hB8⟩ := HPF.out rfl
    have HN : Hid (earlyMks B es (am, true) = (mksV (earlyV (B.extract 0 1) es) am (B.extract (B.size - 1) B.size) es, true)) := Lib.hid (earlyMks_yes rfl)
    rw [HN.out]
    have FE : Hid (∀ W : World, Calls Try.prog 92 #[.agg #[.string B, .slice A es.length cap]] W fun e W' => e = .returned (.string (B.extract 0 1)) ∧ Below W.heap.size W W') := Lib.hid fun W => entryOf_any B _ W hB1 HM.out
    have FX : Hid (∀ W : World, Calls Try.prog 90 #[.agg #[.string B, .slice A es.length cap]] W fun e W' => e = .returned (.string (B.extract (B.size - 1) B.size)) ∧ Below W.heap.size W W') := Lib.hid fun W => exitOf_any B _ W hB1 HM.out
    obtain ⟨en, hen⟩ : ∃ en, B.extract 0 1 = en := ⟨_, rfl⟩
    obtain ⟨ex, hex⟩ : ∃ ex, B.extract (B.size - 1) B.size = ex := ⟨_, rfl⟩
    rw [hen] at FE ⊢
    rw [hex] at FX ⊢
    have H16 := Lib.hid h16; have HAL := Lib.hid hal
    clear hen hex HN HPF h16 hal hB1 hB8
    go_enter Try.func19, Try.ntmps19
    go_wp2_with fail
    refine (FV.out _ ((hE.below hb1).more hb1.size)).mono ?_
    rintro e w2 ⟨P, pc, rfl, hX2, hb2, _⟩
    simp only at hX2
    rw [HAL.out]
    have hb2' := hb1.trans (hb2.mono hb1.size)
    have t2 := t1.below hb2 (by omega)
    have HX2 := Lib.hid hX2; have HB2 := Lib.hid hb2'; have HT2 := Lib.hid t2
    have hz2 : w.heap.size + 1 ≤ w2.heap.size := by rw [← hz1]; exact hb2.size
    have hd0 := t2.1; have hd1 := t2.2
    clear hb2 t1 hX2 hb2' t2 hb1 hz1
    go_wp2_with fail
    have HSS : Hid (∀ W, Below w2.heap.size w2 W → (W.cell? ⟨w.heap.size, 0, none⟩ = some (.string B) ∧ W.cell? ⟨w.heap.size, 1, none⟩ = some (.slice A es.length cap))) := Lib.hid fun W h => ⟨(HT2.out.below h (by omega)).1, (HT2.out.below h (by omega)).2⟩
    clear hd0 hd1
    go_region_held3 (fun W => W.cell? ⟨w.heap.size, 0, none⟩ = some (.string B) ∧ W.cell? ⟨w.heap.size, 1, none⟩ = some (.slice A es.length cap))
      (first
        | exact HSS.out _ (Below.refl _ _).drew
        | exact HSS.out _ HB4.out
        | exact HSS.out _ HB5.out)
      (first
        | (go_at_call 53
           go_must (
           (refine (beginEarly_any _ _ _).mono ?_)
           rintro e w4 ⟨rfl, hw4⟩
           have HB4 : Hid (Below w2.heap.size w2 w4) := Lib.hid (by rw [← hw4]; exact (Below.refl _ _).drew.alloc (Nat.le_refl _) _)
           have HT4 : Hid (Two w4 w2.heap.size B A es.length cap) := Lib.hid (by rw [← hw4]; exact Two.made w2.drew B A es.length cap _)
           have HZ4 : Hid (w4.heap.size = w2.heap.size + 1) := Lib.hid (by rw [← hw4]; simp)
           clear hw4))
        | (go_at_call 52
           go_must (
           (refine (marksWith_any B A cap es am P pc 91 #[.pointer (some ⟨w2.heap.size, 0, none⟩)] (earlyV en es) ex w4 ((hE.below (HB2.out.trans (HB4.out.mono HB2.out.size))).more (HB2.out.trans (HB4.out.mono HB2.out.size)).size) (by have := H16.out; omega) ((HX2.out.below HB4.out).more HB4.out.size) HAL.out (enters_of Try.func91 (by kernel_rfl) rfl)
             (fun i h W hW => by
               have h2 := HT4.out.below hW (by have := HZ4.out; omega)
               have := early_any B es[i].1 es[i].2 en A es.length cap w2.heap.size W h2.1 h2.2 FE.out
               rwa [show (if es[i].1.toList == en.toList then (⟨#[115, 101, 116]⟩ : ByteArray) else ⟨#[]⟩) = earlyV en es i by unfold earlyV; rw [List.getD_eq_getElem?_getD, List.getElem?_eq_getElem h]; rfl] at this)
             FX.out).mono ?_)
           rintro e w5 ⟨g, rfl, hg, hM5, hb5, hgl, f5, hf5⟩
           have HB5 : Hid (Below w2.heap.size w2 w5) := Lib.hid (HB4.out.trans (hb5.mono HB4.out.size))
           have HM5 := Lib.hid hM5; have HF5 := Lib.hid hf5
           clear hb5 hM5 hf5)))
    rename_i hHeld
    clear hHeld
    have HBW := HB2.out.trans (HB5.out.mono HB2.out.size)
    have hgw : w.heap.size ≤ g := by have := HZ4.out; omega
    clear HSS
    go_wp2_with fail
    go_ret2
    exact ⟨some ⟨g, 0, none⟩, (mksV (earlyV en es) am ex es).length, rfl, HM5.out, HBW, .inr ⟨g, f5, rfl, hgw, hgl, HF5.out⟩⟩

end Go.Proofs.Ytjfdkhaepmmlfaa
