/- RoundOf: what it answers; by the model. -/
import Derived.Test.YtadngnajenedpaaWayQ
namespace Go.Proofs.Ytadngnajenedpaa
open Go.RowKit

/-- the chord -/
def chordL (c : ByteArray) : UInt8 := c.data.toList.headD 0
def chordK (c : ByteArray) : Nat := (chordL c).toNat - 97
/-- the way round that a chord makes -/
noncomputable def roundV (B : ByteArray) (es : List (ByteArray × ByteArray)) (t c : ByteArray) : ByteArray × Bool :=
  textV (treeV B es t = true ∧ 0 ≤ eIdx es.length c.data.toList ∧ ¬ 0 ≤ Lib.indexByte t.data.toList (chordL c))
    (43 :: chordL c :: txtM (wayP (edsOf B es t) (edK es (chordK c)).b (edK es (chordK c)).a))
theorem chord_some {n : Nat} {c : ByteArray} (h : 0 ≤ eIdx n c.data.toList) : c = ⟨#[chordL c]⟩ ∧ eIdx n c.data.toList = (chordK c : Nat) ∧ chordK c < n := by
  obtain ⟨k, hk, he⟩ := eIdx_some h
  have h1 : ∃ x, c.data.toList = [x] := by
    unfold eIdx at h
    split at h
    · rename_i x hx; exact ⟨x, hx⟩
    · omega
  obtain ⟨x, hx⟩ := h1
  have hl : chordL c = x := by unfold chordL; rw [hx]; rfl
  have hk2 : chordK c = k := by
    unfold chordK; rw [hl]
    rw [hx] at he h
    have := eIdx_one h
    omega
  exact ⟨by rw [hl]; exact bytes_one hx, by rw [hk2]; exact he, by omega⟩

set_option maxRecDepth 100000 in
set_option maxHeartbeats 2000000 in
/-- spec.RoundOf -/
theorem specRoundOf_any (B : ByteArray) (A : Option Addr) (cap : Nat) (es : List (ByteArray × ByteArray)) (t c : ByteArray) (w : World) (hs : B.size ≤ maxLen) (hE : EdgesIn w w.heap.size A es) (hl : es.length ≤ 1099511627776) (hS : ∀ e ∈ es, e.1.size ≤ 1099511627776 ∧ e.2.size ≤ 1099511627776) (htz : t.size ≤ 1099511627776) :
    Calls Try.prog 26 #[.agg #[.string B, .slice A es.length cap], .string t, .string c] w (TextPost (roundV B es t c) w) := by
  obtain ⟨v, hv⟩ : ∃ v, treeV B es t = v := ⟨_, rfl⟩
  have FA : Hid (∀ W : World, EdgesIn W W.heap.size A es → Calls Try.prog 18 #[.agg #[.string B, .slice A es.length cap], .string t] W fun e w' => e = .returned (.bool v) ∧ Below W.heap.size W w') := Lib.hid fun W h => by
    have := specIsTree_any B A cap es t W hs h hl hS htz
    rwa [hv] at this
  obtain ⟨k, hk⟩ : ∃ k, eIdx es.length c.data.toList = k := ⟨_, rfl⟩
  have FI : Hid (∀ W : World, Calls Try.prog 59 #[.agg #[.string B, .slice A es.length cap], .string c] W fun e w' => e = .returned (.int .i64 k) ∧ Below W.heap.size W w') := Lib.hid fun W => by
    have := l1Index_any (.string B) A es.length cap c W hl
    rwa [hk] at this
  have hb1 : Below w.heap.size w (w.alloc (.cells #[.string B, .slice A es.length cap] 30)) := (Below.refl _ _).alloc (Nat.le_refl _) _
  have t1 := Two.made w B A es.length cap 30
  have hz1 : (w.alloc (.cells #[.string B, .slice A es.length cap] 30)).heap.size = w.heap.size + 1 := by simp
  have HM := Lib.hid hs; have HL := Lib.hid hl
  have HTZ : Hid (t.size ≤ maxLen) := Lib.hid (by unfold maxLen; omega)
  clear hs hl hS htz
  cases v with
  | false =>
    have HN : Hid (roundV B es t c = (⟨#[]⟩, false)) := Lib.hid (textV_no (by rw [hv]; simp))
    clear hv hk
    go_enter Try.func26, Try.ntmps26
    go_wp2_with fail
    refine (FA.out _ ((hE.below hb1).more hb1.size)).mono ?_
    rintro e w2 ⟨rfl, hb2⟩
    have hb2' := hb1.trans (hb2.mono hb1.size)
    clear hb2 t1
    go_wp2_with fail
    go_ret2
    exact ⟨by rw [HN.out]; rfl, hb2'⟩
  | true =>
  have HP := Lib.hid (tree_pack hv)
  by_cases c1 : k < 0
  · have HN : Hid (roundV B es t c = (⟨#[]⟩, false)) := Lib.hid (textV_no (fun h => by have := h.2.1; omega))
    clear hv hk
    go_enter Try.func26, Try.ntmps26
    go_wp2_with fail
    refine (FA.out _ ((hE.below hb1).more hb1.size)).mono ?_
    rintro e w2 ⟨rfl, hb2⟩
    have hb2' := hb1.trans (hb2.mono hb1.size)
    have t2 := t1.below hb2 (by omega)
    have hd0 := t2.1; have hd1 := t2.2
    clear hb2 t1
    go_wp2_with fail
    refine (FI.out _).mono ?_
    rintro e w3 ⟨rfl, hb3⟩
    have hb3' := hb2'.trans (hb3.mono hb2'.size)
    clear hb3 hd0 hd1 t2
    go_wp2_with fail
    go_ret2
    exact ⟨by rw [HN.out]; rfl, hb3'⟩
  obtain ⟨g1, g2, g3⟩ := chord_some (n := es.length) (c := c) (by omega)
  obtain ⟨ch, hch⟩ : ∃ ch, chordL c = ch := ⟨_, rfl⟩
  obtain ⟨kk, hkk⟩ : ∃ kk, chordK c = kk := ⟨_, rfl⟩
  obtain ⟨fi, hfi⟩ : ∃ fi, Lib.indexByte t.data.toList ch = fi := ⟨_, rfl⟩
  have FF : Hid (∀ W : World, Calls Try.prog 60 #[.string t, .int .u8 ch.toNat] W fun e w' => e = .returned (.int .i64 fi) ∧ W = w') := Lib.hid fun W => by
    rw [← hfi]; exact find_any t ch W HTZ.out
  rw [hch] at g1
  rw [hkk] at g2 g3
  by_cases c2 : 0 ≤ fi
  · have HN : Hid (roundV B es t c = (⟨#[]⟩, false)) := Lib.hid (textV_no (fun h => h.2.2 (by rw [hch, hfi]; exact c2)))
    clear hv hk hch hkk hfi g2 g3
    subst g1
    go_enter Try.func26, Try.ntmps26
    go_wp2_with fail
    refine (FA.out _ ((hE.below hb1).more hb1.size)).mono ?_
    rintro e w2 ⟨rfl, hb2⟩
    have hb2' := hb1.trans (hb2.mono hb1.size)
    have t2 := t1.below hb2 (by omega)
    have hd0 := t2.1; have hd1 := t2.2
    clear hb2 t1
    go_wp2_with fail
    refine (FI.out _).mono ?_
    rintro e w3 ⟨rfl, hb3⟩
    have hb3' := hb2'.trans (hb3.mono hb2'.size)
    clear hb3 hd0 hd1 t2
    go_wp2_with fail
    refine (FF.out _).mono ?_
    rintro e w4 ⟨rfl, rfl⟩
    go_wp2_with fail
    go_ret2
    exact ⟨by rw [HN.out]; rfl, hb3'⟩
  obtain ⟨q1, q2, q3, q4, _⟩ := edK_at HP.out.1.1.2 g3
  obtain ⟨ea, hea⟩ : ∃ ea, (edK es kk).a = ea := ⟨_, rfl⟩
  obtain ⟨eb, heb⟩ : ∃ eb, (edK es kk).b = eb := ⟨_, rfl⟩
  rw [hea] at q1 q3
  rw [heb] at q2 q4
  obtain ⟨r, hr⟩ : ∃ r : ByteArray, (⟨(txtM (wayP (edsOf B es t) eb ea)).toArray⟩ : ByteArray) = r := ⟨_, rfl⟩
  have hrs : r.size ≤ 14 := by
    obtain ⟨p1, p2, p3, p4, p5, p6, p7⟩ := HP.out
    obtain ⟨p0, h0⟩ := p6 _ q4 _ q3
    obtain ⟨q, h1, h2⟩ := wk_nb p0 _ _ h0
    have := nb_short p4 p5 (valid_sizes p1).1 q4 ⟨h1, h2⟩
    rw [← wayP_eq p4 ⟨h1, h2⟩] at this
    rw [← hr]
    show (txtM (wayP (edsOf B es t) eb ea)).toArray.size ≤ 14
    have := txtM_len (wayP (edsOf B es t) eb ea)
    simp; omega
  have HN : Hid (roundV B es t c = (⟨#[43]⟩ ++ ⟨#[ch]⟩ ++ r, true)) := Lib.hid (by
    have e : roundV B es t c = (⟨(43 :: chordL c :: txtM (wayP (edsOf B es t) (edK es (chordK c)).b (edK es (chordK c)).a)).toArray⟩, true) :=
      textV_yes ⟨hv, by rw [hk]; omega, by rw [hch, hfi]; exact c2⟩
    rw [e, hch, hkk, hea, heb, ← hr]
    congr 1)
  have FL : Hid (∀ W : World, EdgesIn W W.heap.size A es → Calls Try.prog 61 #[.agg #[.string B, .slice A es.length cap], .string c] W fun e w' => e = .returned (.agg #[.string ⟨#[ea]⟩, .string ⟨#[eb]⟩]) ∧ Below W.heap.size W w') := Lib.hid fun W h => by
    have := l2Edge_any B A cap es c kk W h HL.out g3 (by rw [hk] at g2 ⊢; exact g2)
    rwa [q1, q2] at this
  have FW : Hid (∀ W : World, EdgesIn W W.heap.size A es → Calls Try.prog 55 #[.agg #[.string B, .slice A es.length cap], .string t, .string ⟨#[eb]⟩, .string ⟨#[ea]⟩] W fun e w' => e = .returned (.string r) ∧ Below W.heap.size W w') := Lib.hid fun W h => by
    obtain ⟨p1, p2, p3, p4, p5, p6, p7⟩ := HP.out
    have := l5Way_any B A cap es t eb ea (edsOf B es t) _ _ rfl rfl rfl W HM.out h HL.out p1 p2 p3 p4 p5 q4 (p6 _ q4 _ q3)
    rwa [hr] at this
  have j1 : ¬ 9223372036854775807 < (⟨#[43]⟩ : ByteArray).size + (⟨#[ch]⟩ : ByteArray).size := by
    have : (⟨#[43]⟩ : ByteArray).size + (⟨#[ch]⟩ : ByteArray).size = 2 := rfl
    omega
  have j2 : ¬ 9223372036854775807 < ((⟨#[43]⟩ : ByteArray) ++ ⟨#[ch]⟩).size + r.size := by
    have : ((⟨#[43]⟩ : ByteArray) ++ ⟨#[ch]⟩).size = 2 := rfl
    omega
  have j3 : ¬ 9223372036854775807 < 1 + 1 + r.size := by omega
  clear hv hk hch hkk hfi g2 g3 hea heb hr q1 q2 q3 q4
  subst g1
  go_enter Try.func26, Try.ntmps26
  go_wp2_with fail
  refine (FA.out _ ((hE.below hb1).more hb1.size)).mono ?_
  rintro e w2 ⟨rfl, hb2⟩
  have hb2' := hb1.trans (hb2.mono hb1.size)
  have t2 := t1.below hb2 (by omega)
  have hz2 := hb2.size
  have hd0 := t2.1; have hd1 := t2.2
  clear hb2 t1 FA
  go_wp2_with fail
  refine (FI.out _).mono ?_
  rintro e w3 ⟨rfl, hb3⟩
  have hb3' := hb2'.trans (hb3.mono hb2'.size)
  have t3 := t2.below hb3 (by omega)
  have hz3 := hb3.size
  have hf0 := t3.1; have hf1 := t3.2
  clear hb3 hd0 hd1 t2 FI
  go_wp2_with fail
  refine (FF.out _).mono ?_
  rintro e w4 ⟨rfl, rfl⟩
  go_wp2_with fail
  refine (FL.out _ ((hE.below hb3').more hb3'.size)).mono ?_
  rintro e w5 ⟨rfl, hb5⟩
  have hb5' := hb3'.trans (hb5.mono hb3'.size)
  have t5 := t3.below hb5 (by omega)
  have hz5 := hb5.size
  clear hb5 hf0 hf1 t3 FL
  have hba : Below w5.heap.size w5 (w5.alloc (.cells #[.string ⟨#[ea]⟩, .string ⟨#[eb]⟩] 72)) := (Below.refl _ _).alloc (Nat.le_refl _) _
  have t6 := t5.below hba (by omega)
  have hn2 : (w5.alloc (.cells #[.string ⟨#[ea]⟩, .string ⟨#[eb]⟩] 72)).cell? ⟨w5.heap.size, 0, none⟩ = some (.string ⟨#[ea]⟩) := by go_simp
  have hn3 : (w5.alloc (.cells #[.string ⟨#[ea]⟩, .string ⟨#[eb]⟩] 72)).cell? ⟨w5.heap.size, 1, none⟩ = some (.string ⟨#[eb]⟩) := by go_simp
  have hbw := hb5'.trans (hba.mono hb5'.size)
  have hn0 := t6.1; have hn1 := t6.2
  clear hba t5
  go_wp2_with fail
  refine (FW.out _ ((hE.below hbw).more hbw.size)).mono ?_
  rintro e w7 ⟨rfl, hb7⟩
  have hb7' := hbw.trans (hb7.mono hbw.size)
  clear hb7 hn0 hn1 hn2 hn3 t6 FW
  go_wp2_with fail
  go_ret2
  exact ⟨by rw [HN.out]; rfl, hb7'⟩

end Go.Proofs.Ytadngnajenedpaa
