/- WayIn, by the model. -/
import Derived.Test.YtadngnajenedpaaWayP
import Derived.Test.YtadngnajenedpaaWayM
import Derived.Test.YtadngnajenedpaaTreeF
namespace Go.Proofs.Ytadngnajenedpaa
open Go.RowKit

set_option maxRecDepth 100000 in
set_option maxHeartbeats 2000000 in
/-- spec.WayIn -/
theorem specWayIn_any (B : ByteArray) (A : Option Addr) (cap : Nat) (es : List (ByteArray × ByteArray)) (t f x : ByteArray) (w : World) (hs : B.size ≤ maxLen) (hE : EdgesIn w w.heap.size A es) (hl : es.length ≤ 1099511627776) (hS : ∀ e ∈ es, e.1.size ≤ 1099511627776 ∧ e.2.size ≤ 1099511627776) (htz : t.size ≤ 1099511627776) :
    Calls Try.prog 24 #[.agg #[.string B, .slice A es.length cap], .string t, .string f, .string x] w (TextPost (wayInV B es t f x) w) := by
  obtain ⟨v, hv⟩ : ∃ v, treeV B es t = v := ⟨_, rfl⟩
  have FA : Hid (∀ W : World, EdgesIn W W.heap.size A es → Calls Try.prog 18 #[.agg #[.string B, .slice A es.length cap], .string t] W fun e w' => e = .returned (.bool v) ∧ Below W.heap.size W w') := Lib.hid fun W h => by
    have := specIsTree_any B A cap es t W hs h hl hS htz
    rwa [hv] at this
  have FB : Hid (∀ (s : ByteArray) (W : World), Calls Try.prog 54 #[.agg #[.string B, .slice A es.length cap], .string s] W fun e w' => e = .returned (.bool (decide (0 ≤ bIdx B.data.toList s.data.toList))) ∧ Below W.heap.size W w') := Lib.hid fun s W => l1Block_any B s _ W hs
  have hb1 : Below w.heap.size w (w.alloc (.cells #[.string B, .slice A es.length cap] 30)) := (Below.refl _ _).alloc (Nat.le_refl _) _
  have t1 := Two.made w B A es.length cap 30
  have hz1 : (w.alloc (.cells #[.string B, .slice A es.length cap] 30)).heap.size = w.heap.size + 1 := by simp
  have HM := Lib.hid hs; have HL := Lib.hid hl
  clear hs hl hS htz
  cases v with
  | false =>
    have HN : Hid (wayInV B es t f x = (⟨#[]⟩, false)) := Lib.hid (textV_no (by rw [hv]; simp))
    clear hv
    go_enter Try.func24, Try.ntmps24
    go_wp2_with fail
    refine (FA.out _ ((hE.below hb1).more hb1.size)).mono ?_
    rintro e w2 ⟨rfl, hb2⟩
    have hb2' := hb1.trans (hb2.mono hb1.size)
    clear hb2 t1
    go_wp2_with fail
    go_ret2
    exact ⟨by rw [HN.out]; rfl, hb2'⟩
  | true =>
  have HP := Lib.hid (tree_pack hv)
  have FF := FB.out f
  have FX := FB.out x
  by_cases c1 : 0 ≤ bIdx B.data.toList f.data.toList
  case neg =>
    have HN : Hid (wayInV B es t f x = (⟨#[]⟩, false)) := Lib.hid (textV_no (fun h => c1 h.2.1))
    rw [decide_eq_false c1] at FF
    have HF := Lib.hid FF
    clear hv FF FX FB
    go_enter Try.func24, Try.ntmps24
    go_wp2_with fail
    refine (FA.out _ ((hE.below hb1).more hb1.size)).mono ?_
    rintro e w2 ⟨rfl, hb2⟩
    have hb2' := hb1.trans (hb2.mono hb1.size)
    have t2 := t1.below hb2 (by omega)
    have hd0 := t2.1; have hd1 := t2.2
    clear hb2 t1
    go_wp2_with fail
    refine (HF.out _).mono ?_
    rintro e w3 ⟨rfl, hb3⟩
    have hb3' := hb2'.trans (hb3.mono hb2'.size)
    clear hb3 hd0 hd1 t2
    go_wp2_with fail
    go_ret2
    exact ⟨by rw [HN.out]; rfl, hb3'⟩
  rw [decide_eq_true c1] at FF
  have HF := Lib.hid FF
  by_cases c2 : 0 ≤ bIdx B.data.toList x.data.toList
  case neg =>
    have HN : Hid (wayInV B es t f x = (⟨#[]⟩, false)) := Lib.hid (textV_no (fun h => c2 h.2.2))
    rw [decide_eq_false c2] at FX
    have HX := Lib.hid FX
    clear hv FF FX FB
    go_enter Try.func24, Try.ntmps24
    go_wp2_with fail
    refine (FA.out _ ((hE.below hb1).more hb1.size)).mono ?_
    rintro e w2 ⟨rfl, hb2⟩
    have hb2' := hb1.trans (hb2.mono hb1.size)
    have t2 := t1.below hb2 (by omega)
    have hz2 := hb2.size
    have hd0 := t2.1; have hd1 := t2.2
    clear hb2 t1
    go_wp2_with fail
    refine (HF.out _).mono ?_
    rintro e w3 ⟨rfl, hb3⟩
    have hb3' := hb2'.trans (hb3.mono hb2'.size)
    have t3 := t2.below hb3 (by omega)
    have hf0 := t3.1; have hf1 := t3.2
    clear hb3 hd0 hd1 t2
    go_wp2_with fail
    refine (HX.out _).mono ?_
    rintro e w4 ⟨rfl, hb4⟩
    have hb4' := hb3'.trans (hb4.mono hb3'.size)
    clear hb4 hf0 hf1 t3
    go_wp2_with fail
    go_ret2
    exact ⟨by rw [HN.out]; rfl, hb4'⟩
  rw [decide_eq_true c2] at FX
  have HX := Lib.hid FX
  clear FF FX FB
  obtain ⟨g1, g2⟩ := bIdx_one (f := f) (l := B.data.toList) c1
  obtain ⟨k1, k2⟩ := bIdx_one (f := x) (l := B.data.toList) c2
  obtain ⟨r, hr⟩ : ∃ r : ByteArray, (⟨(txtM (wayP (edsOf B es t) (f.data.toList.headD 0) (x.data.toList.headD 0))).toArray⟩ : ByteArray) = r := ⟨_, rfl⟩
  have HN : Hid (wayInV B es t f x = (r, true)) := Lib.hid (by
    rw [← hr]; exact textV_yes ⟨hv, c1, c2⟩)
  have FW : Hid (∀ W : World, EdgesIn W W.heap.size A es → Calls Try.prog 55 #[.agg #[.string B, .slice A es.length cap], .string t, .string f, .string x] W fun e w' => e = .returned (.string r) ∧ Below W.heap.size W w') := Lib.hid fun W h => by
    obtain ⟨p1, p2, p3, p4, p5, p6, p7⟩ := HP.out
    have := l5Way_any B A cap es t (f.data.toList.headD 0) (x.data.toList.headD 0) (edsOf B es t) f x g1 k1 rfl W HM.out h HL.out p1 p2 p3 p4 p5 g2 (p6 _ g2 _ k2)
    rwa [hr] at this
  clear hv c1 c2 g1 g2 k1 k2 hr
  go_enter Try.func24, Try.ntmps24
  go_wp2_with fail
  refine (FA.out _ ((hE.below hb1).more hb1.size)).mono ?_
  rintro e w2 ⟨rfl, hb2⟩
  have hb2' := hb1.trans (hb2.mono hb1.size)
  have t2 := t1.below hb2 (by omega)
  have hz2 := hb2.size
  have hd0 := t2.1; have hd1 := t2.2
  clear hb2 t1 FA
  go_wp2_with fail
  refine (HF.out _).mono ?_
  rintro e w3 ⟨rfl, hb3⟩
  have hb3' := hb2'.trans (hb3.mono hb2'.size)
  have t3 := t2.below hb3 (by omega)
  have hz3 := hb3.size
  have hf0 := t3.1; have hf1 := t3.2
  clear hb3 hd0 hd1 t2 HF
  go_wp2_with fail
  refine (HX.out _).mono ?_
  rintro e w4 ⟨rfl, hb4⟩
  have hb4' := hb3'.trans (hb4.mono hb3'.size)
  have t4 := t3.below hb4 (by omega)
  have hg0 := t4.1; have hg1 := t4.2
  clear hb4 hf0 hf1 t3 HX
  go_wp2_with fail
  refine (FW.out _ ((hE.below hb4').more hb4'.size)).mono ?_
  rintro e w5 ⟨rfl, hb5⟩
  have hb5' := hb4'.trans (hb5.mono hb4'.size)
  clear hb5 hg0 hg1 t4 FW
  go_wp2_with fail
  go_ret2
  exact ⟨by rw [HN.out]; rfl, hb5'⟩

end Go.Proofs.Ytadngnajenedpaa
