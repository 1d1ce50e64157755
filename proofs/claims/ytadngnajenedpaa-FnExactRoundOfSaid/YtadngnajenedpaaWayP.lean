/- WayIn and RoundOf: what they answer; by the program. -/
import Derived.Test.YtadngnajenedpaaWayJ
import Derived.Test.YtadngnajenedpaaContains
import Derived.BigRegion
namespace Go.Proofs.Ytadngnajenedpaa
open Go.RowKit

/-- the edges of a tree and z -/
def edsOf (B : ByteArray) (es : List (ByteArray × ByteArray)) (t : ByteArray) : List Ed := edsT B.data.toList es (ksOf t.data.toList)
/-- the way from a block to a block -/
noncomputable def wayInV (B : ByteArray) (es : List (ByteArray × ByteArray)) (t f x : ByteArray) : ByteArray × Bool :=
  textV (treeV B es t = true ∧ 0 ≤ bIdx B.data.toList f.data.toList ∧ 0 ≤ bIdx B.data.toList x.data.toList) (txtM (wayP (edsOf B es t) (f.data.toList.headD 0) (x.data.toList.headD 0)))

theorem bIdx_one {l : List UInt8} {f : ByteArray} (h : 0 ≤ bIdx l f.data.toList) : f = ⟨#[f.data.toList.headD 0]⟩ ∧ f.data.toList.headD 0 ∈ l := by
  obtain ⟨c, hc, hm, _⟩ := bIdx_some h
  have : f.data.toList.headD 0 = c := by rw [hc]; rfl
  rw [this]
  exact ⟨bytes_one hc, hm⟩

/-- what a tree gives -/
theorem tree_pack {B : ByteArray} {es : List (ByteArray × ByteArray)} {t : ByteArray} (h : treeV B es t = true) :
    Valid B.data.toList (ebs es) ∧ Known es.length t.data.toList ∧ t.size ≤ 6 ∧ Fr (edsOf B es t) ∧ (∀ e ∈ edsOf B es t, e.a ∈ B.data.toList ∧ e.b ∈ B.data.toList) ∧ (∀ a ∈ B.data.toList, ∀ b ∈ B.data.toList, Cn (edsOf B es t) a b) ∧ (msP B.data.toList es (ksOf t.data.toList)).length ≤ 100 := by
  obtain ⟨hV, hK, hsz, hfo⟩ := decB_iff.1 h
  have h8 := (valid_sizes hV).1
  have hl : t.data.toList.length = t.size := by simp
  have hlb : B.data.toList.length = B.size := by simp
  have hks : ∀ k ∈ ksOf t.data.toList, k < es.length := by
    intro k hk
    unfold ksOf at hk
    obtain ⟨c, hc, rfl⟩ := List.mem_map.1 hk
    obtain ⟨i, hi, he⟩ := List.mem_iff_getElem.1 hc
    have := (hK.at (i := i) hi).2
    rw [List.getD_eq_getElem?_getD, List.getElem?_eq_getElem hi, he] at this
    exact this
  obtain ⟨h1, h2, h3⟩ := tree_ways (ks := ksOf t.data.toList) hV.1.1 hV.1.2 hks (by unfold ksOf; rw [List.length_map]; omega) (by rw [hlb]; exact hfo)
  refine ⟨hV, hK, by omega, h1, h2, h3, ?_⟩
  rw [msP_len]
  unfold ksOf
  rw [List.length_map]
  omega

set_option maxRecDepth 100000 in
set_option maxHeartbeats 4000000 in
/-- impl.WayIn -/
theorem implWayIn_any (B : ByteArray) (A : Option Addr) (cap : Nat) (es : List (ByteArray × ByteArray)) (t f x : ByteArray) (w : World) (hs : B.size ≤ maxLen) (hE : EdgesIn w w.heap.size A es) (hl : es.length ≤ 1099511627776) (hS : ∀ e ∈ es, e.1.size ≤ 1099511627776 ∧ e.2.size ≤ 1099511627776) (htz : t.size ≤ 1099511627776) :
    Calls Try.prog 25 #[.agg #[.string B, .slice A es.length cap], .string t, .string f, .string x] w (TextPost (wayInV B es t f x) w) := by
  obtain ⟨v, hv⟩ : ∃ v, treeV B es t = v := ⟨_, rfl⟩
  have FA : Hid (∀ W : World, EdgesIn W W.heap.size A es → Calls Try.prog 19 #[.agg #[.string B, .slice A es.length cap], .string t] W fun e w' => e = .returned (.bool v) ∧ Below W.heap.size W w') := Lib.hid fun W h => by
    have := implIsTree_any B A cap es t W hs h hl hS htz
    rwa [hv] at this
  have FB : Hid (∀ (s : ByteArray) (W : World), Calls Try.prog 56 #[.agg #[.string B, .slice A es.length cap], .string s] W fun e w' => e = .returned (.int .i64 (bIdx B.data.toList s.data.toList)) ∧ Below W.heap.size W w') := Lib.hid fun s W => blockIndex_any B s _ W
  have hb1 : Below w.heap.size w (w.alloc (.cells #[.string B, .slice A es.length cap] 30)) := (Below.refl _ _).alloc (Nat.le_refl _) _
  have t1 := Two.made w B A es.length cap 30
  have hz1 : (w.alloc (.cells #[.string B, .slice A es.length cap] 30)).heap.size = w.heap.size + 1 := by simp
  have HM := Lib.hid hs; have HL := Lib.hid hl
  clear hs hl hS htz
  cases v with
  | false =>
    have HN : Hid (wayInV B es t f x = (⟨#[]⟩, false)) := Lib.hid (textV_no (by rw [hv]; simp))
    clear hv
    go_enter Try.func25, Try.ntmps25
    go_wp2_with fail
    refine (FA.out _ ((hE.below hb1).more hb1.size)).mono ?_
    rintro e w2 ⟨rfl, hb2⟩
    have hb2' := hb1.trans (hb2.mono hb1.size)
    clear hb2 t1
    go_wp2_with fail
    go_ret2
    exact ⟨by rw [HN.out]; rfl, hb2'⟩
  | true =>
  have HP := Lib.hid (tree_pack hv)
  obtain ⟨i1, hi1⟩ : ∃ i, bIdx B.data.toList f.data.toList = i := ⟨_, rfl⟩
  obtain ⟨i2, hi2⟩ : ∃ i, bIdx B.data.toList x.data.toList = i := ⟨_, rfl⟩
  have FF := FB.out f
  have FX := FB.out x
  rw [hi1] at FF
  rw [hi2] at FX
  have HF := Lib.hid FF; have HX := Lib.hid FX
  clear FF FX FB
  by_cases c1 : i1 < 0
  · have HN : Hid (wayInV B es t f x = (⟨#[]⟩, false)) := Lib.hid (textV_no (by rw [hi1]; omega))
    clear hv hi1 hi2
    go_enter Try.func25, Try.ntmps25
    go_wp2_with fail
    refine (FA.out _ ((hE.below hb1).more hb1.size)).mono ?_
    rintro e w2 ⟨rfl, hb2⟩
    have hb2' := hb1.trans (hb2.mono hb1.size)
    have t2 := t1.below hb2 (by omega)
    have hd0 := t2.1; have hd1 := t2.2
    clear hb2 t1
    go_wp2_with fail
    refine (HF.out _).mono ?_
    rintro e w3 ⟨rfl, hb3⟩
    have hb3' := hb2'.trans (hb3.mono hb2'.size)
    clear hb3 hd0 hd1 t2
    go_wp2_with fail
    go_ret2
    exact ⟨by rw [HN.out]; rfl, hb3'⟩
  have d1 : decide (i1 < 0) = false := by simp; omega
  by_cases c2 : i2 < 0
  · have HN : Hid (wayInV B es t f x = (⟨#[]⟩, false)) := Lib.hid (textV_no (by rw [hi2]; omega))
    clear hv hi1 hi2
    go_enter Try.func25, Try.ntmps25
    go_wp2_with fail
    refine (FA.out _ ((hE.below hb1).more hb1.size)).mono ?_
    rintro e w2 ⟨rfl, hb2⟩
    have hb2' := hb1.trans (hb2.mono hb1.size)
    have t2 := t1.below hb2 (by omega)
    have hz2 := hb2.size
    have hd0 := t2.1; have hd1 := t2.2
    clear hb2 t1
    go_wp2_with fail
    refine (HF.out _).mono ?_
    rintro e w3 ⟨rfl, hb3⟩
    have hb3' := hb2'.trans (hb3.mono hb2'.size)
    have t3 := t2.below hb3 (by omega)
    have hf0 := t3.1; have hf1 := t3.2
    clear hb3 hd0 hd1 t2
    go_wp2_with fail
    refine (HX.out _).mono ?_
    rintro e w4 ⟨rfl, hb4⟩
    have hb4' := hb3'.trans (hb4.mono hb3'.size)
    clear hb4 hf0 hf1 t3
    go_wp2_with fail
    go_ret2
    exact ⟨by rw [HN.out]; rfl, hb4'⟩
  have d2 : decide (i2 < 0) = false := by simp; omega
  obtain ⟨g1, g2⟩ := bIdx_one (f := f) (l := B.data.toList) (by rw [hi1]; omega)
  obtain ⟨k1, k2⟩ := bIdx_one (f := x) (l := B.data.toList) (by rw [hi2]; omega)
  obtain ⟨r, hr⟩ : ∃ r : ByteArray, (⟨(txtM (wayP (edsOf B es t) (f.data.toList.headD 0) (x.data.toList.headD 0))).toArray⟩ : ByteArray) = r := ⟨_, rfl⟩
  have HN : Hid (wayInV B es t f x = (r, true)) := Lib.hid (by
    rw [← hr]; exact textV_yes ⟨hv, by rw [hi1]; omega, by rw [hi2]; omega⟩)
  have FW : Hid (∀ (A' : Option Addr) (c : Nat) (W : World), MovesIn W W.heap.size A' (msP B.data.toList es (ksOf t.data.toList)) → Calls Try.prog 57 #[.slice A' (msP B.data.toList es (ksOf t.data.toList)).length c, .string f, .string x] W fun e w' => e = .returned (.string r) ∧ Below W.heap.size W w') := Lib.hid fun A' c W h => by
    obtain ⟨_, _, _, p4, p5, p6, p7⟩ := HP.out
    have := wayAlong_any A' c _ (edsOf B es t) B.data.toList (f.data.toList.headD 0) (x.data.toList.headD 0) W h p7 p4 p5 (by have := HP.out.1.1.1.2.1; exact this) (fun m => mem_msP m) g2 (p6 _ g2 _ k2)
    rw [← g1, ← k1, hr] at this
    exact this
  have FM : Hid (∀ W : World, EdgesIn W W.heap.size A es → Calls Try.prog 58 #[.agg #[.string B, .slice A es.length cap], .string t] W fun e w' => ∃ A' c, e = .returned (.slice A' (msP B.data.toList es (ksOf t.data.toList)).length c) ∧ MovesIn w' w'.heap.size A' (msP B.data.toList es (ksOf t.data.toList)) ∧ Below W.heap.size W w') := Lib.hid fun W h =>
    movesIn_any B A cap es t W HM.out h HL.out HP.out.1 HP.out.2.1 HP.out.2.2.1
  obtain ⟨ms, hms⟩ : ∃ ms, msP B.data.toList es (ksOf t.data.toList) = ms := ⟨_, rfl⟩
  rw [hms] at FW FM
  clear hv hi1 hi2 c1 c2 g1 g2 k1 k2 hr hms
  go_enter Try.func25, Try.ntmps25
  go_wp2_with fail
  refine (FA.out _ ((hE.below hb1).more hb1.size)).mono ?_
  rintro e w2 ⟨rfl, hb2⟩
  have hb2' := hb1.trans (hb2.mono hb1.size)
  have t2 := t1.below hb2 (by omega)
  have hz2 := hb2.size
  have hd0 := t2.1; have hd1 := t2.2
  clear hb2 t1 FA
  go_wp2_with fail
  refine (HF.out _).mono ?_
  rintro e w3 ⟨rfl, hb3⟩
  have hb3' := hb2'.trans (hb3.mono hb2'.size)
  have t3 := t2.below hb3 (by omega)
  have hz3 := hb3.size
  have hf0 := t3.1; have hf1 := t3.2
  clear hb3 hd0 hd1 t2 HF
  go_wp2_with fail
  refine (HX.out _).mono ?_
  rintro e w4 ⟨rfl, hb4⟩
  have hb4' := hb3'.trans (hb4.mono hb3'.size)
  have t4 := t3.below hb4 (by omega)
  have hz4 := hb4.size
  have hg0 := t4.1; have hg1 := t4.2
  clear hb4 hf0 hf1 t3 HX
  go_wp2_with fail
  refine (FM.out _ ((hE.below hb4').more hb4'.size)).mono ?_
  rintro e w5 ⟨A', c', rfl, hmv, hb5⟩
  have hb5' := hb4'.trans (hb5.mono hb4'.size)
  clear hb5 hg0 hg1 t4 FM d1 d2
  go_wp2_with fail
  refine (FW.out A' c' _ hmv).mono ?_
  rintro e w6 ⟨rfl, hb6⟩
  have hb6' := hb5'.trans (hb6.mono hb5'.size)
  clear hb6 hmv FW
  go_wp2_with fail
  go_ret2
  exact ⟨by rw [HN.out]; rfl, hb6'⟩

end Go.Proofs.Ytadngnajenedpaa
