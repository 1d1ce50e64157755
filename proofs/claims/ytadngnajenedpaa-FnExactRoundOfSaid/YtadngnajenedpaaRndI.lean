/- RoundOf by the program. -/
import Derived.Test.YtadngnajenedpaaRndS
namespace Go.Proofs.Ytadngnajenedpaa
open Go.RowKit

set_option maxRecDepth 100000 in
set_option maxHeartbeats 4000000 in
/-- impl.RoundOf -/
theorem implRoundOf_any (B : ByteArray) (A : Option Addr) (cap : Nat) (es : List (ByteArray × ByteArray)) (t c : ByteArray) (w : World) (hs : B.size ≤ maxLen) (hE : EdgesIn w w.heap.size A es) (hl : es.length ≤ 1099511627776) (hS : ∀ e ∈ es, e.1.size ≤ 1099511627776 ∧ e.2.size ≤ 1099511627776) (htz : t.size ≤ 1099511627776) :
    Calls Try.prog 27 #[.agg #[.string B, .slice A es.length cap], .string t, .string c] w (TextPost (roundV B es t c) w) := by
  obtain ⟨v, hv⟩ : ∃ v, treeV B es t = v := ⟨_, rfl⟩
  have FA : Hid (∀ W : World, EdgesIn W W.heap.size A es → Calls Try.prog 19 #[.agg #[.string B, .slice A es.length cap], .string t] W fun e w' => e = .returned (.bool v) ∧ Below W.heap.size W w') := Lib.hid fun W h => by
    have := implIsTree_any B A cap es t W hs h hl hS htz
    rwa [hv] at this
  obtain ⟨k, hk⟩ : ∃ k, eIdx es.length c.data.toList = k := ⟨_, rfl⟩
  have FI : Hid (∀ W : World, Calls Try.prog 62 #[.agg #[.string B, .slice A es.length cap], .string c] W fun e w' => e = .returned (.int .i64 k) ∧ Below W.heap.size W w') := Lib.hid fun W => by
    have := edgeIndex_any (.string B) A es.length cap c W hl
    rwa [hk] at this
  have hb1 : Below w.heap.size w (w.alloc (.cells #[.string B, .slice A es.length cap] 30)) := (Below.refl _ _).alloc (Nat.le_refl _) _
  have t1 := Two.made w B A es.length cap 30
  have hz1 : (w.alloc (.cells #[.string B, .slice A es.length cap] 30)).heap.size = w.heap.size + 1 := by simp
  have HM := Lib.hid hs; have HL := Lib.hid hl
  have HTZ : Hid (t.size ≤ maxLen) := Lib.hid (by unfold maxLen; omega)
  clear hs hl hS htz
  cases v with
  | false =>
    have HN : Hid (roundV B es t c = (⟨#[]⟩, false)) := Lib.hid (textV_no (by rw [hv]; simp))
    clear hv hk
    go_enter Try.func27, Try.ntmps27
    go_wp2_with fail
    refine (FI.out _).mono ?_
    rintro e w2 ⟨rfl, hb2⟩
    have hb2' := hb1.trans (hb2.mono hb1.size)
    have t2 := t1.below hb2 (by omega)
    have hd0 := t2.1; have hd1 := t2.2
    clear hb2 t1
    go_wp2_with fail
    refine (FA.out _ ((hE.below hb2').more hb2'.size)).mono ?_
    rintro e w3 ⟨rfl, hb3⟩
    have hb3' := hb2'.trans (hb3.mono hb2'.size)
    clear hb3 hd0 hd1 t2
    go_wp2_with fail
    go_ret2
    exact ⟨by rw [HN.out]; rfl, hb3'⟩
  | true =>
  have HP := Lib.hid (tree_pack hv)
  by_cases c1 : k < 0
  · have HN : Hid (roundV B es t c = (⟨#[]⟩, false)) := Lib.hid (textV_no (fun h => by have := h.2.1; omega))
    clear hv hk
    go_enter Try.func27, Try.ntmps27
    go_wp2_with fail
    refine (FI.out _).mono ?_
    rintro e w2 ⟨rfl, hb2⟩
    have hb2' := hb1.trans (hb2.mono hb1.size)
    have t2 := t1.below hb2 (by omega)
    have hd0 := t2.1; have hd1 := t2.2
    clear hb2 t1
    go_wp2_with fail
    refine (FA.out _ ((hE.below hb2').more hb2'.size)).mono ?_
    rintro e w3 ⟨rfl, hb3⟩
    have hb3' := hb2'.trans (hb3.mono hb2'.size)
    clear hb3 hd0 hd1 t2
    go_wp2_with fail
    go_ret2
    exact ⟨by rw [HN.out]; rfl, hb3'⟩
  obtain ⟨g1, g2, g3⟩ := chord_some (n := es.length) (c := c) (by omega)
  obtain ⟨ch, hch⟩ : ∃ ch, chordL c = ch := ⟨_, rfl⟩
  obtain ⟨kk, hkk⟩ : ∃ kk, chordK c = kk := ⟨_, rfl⟩
  obtain ⟨fi, hfi⟩ : ∃ fi, Lib.indexByte t.data.toList ch = fi := ⟨_, rfl⟩
  obtain ⟨cb, hcb⟩ : ∃ cb : ByteArray, (⟨#[ch]⟩ : ByteArray) = cb := ⟨_, rfl⟩
  obtain ⟨bv, hbv⟩ : ∃ bv, decide (0 ≤ fi) = bv := ⟨_, rfl⟩
  have FF : Hid (∀ W : World, Calls Try.prog 52 #[.string t, .string cb] W fun e w' => e = .returned (.bool bv) ∧ W = w') := Lib.hid fun W => by
    rw [← hbv, ← hfi, ← hcb]; exact contains_any t ch W HTZ.out
  rw [hch] at g1
  rw [hkk] at g2 g3
  have hcs : cb.size = 1 := by rw [← hcb]; rfl
  have c1k : k = (kk : Int) := by rw [← hk]; exact g2
  cases bv with
  | true =>
    have HN : Hid (roundV B es t c = (⟨#[]⟩, false)) := Lib.hid (textV_no (fun h => h.2.2 (by rw [hch, hfi]; simpa using hbv)))
    rw [hcb] at g1
    clear hv hk hch hkk hfi g2 g3 hcb hbv c1k
    subst g1
    go_enter Try.func27, Try.ntmps27
    go_wp2_with fail
    refine (FI.out _).mono ?_
    rintro e w2 ⟨rfl, hb2⟩
    have hb2' := hb1.trans (hb2.mono hb1.size)
    have t2 := t1.below hb2 (by omega)
    have hd0 := t2.1; have hd1 := t2.2
    clear hb2 t1
    go_wp2_with fail
    refine (FA.out _ ((hE.below hb2').more hb2'.size)).mono ?_
    rintro e w3 ⟨rfl, hb3⟩
    have hb3' := hb2'.trans (hb3.mono hb2'.size)
    clear hb3 hd0 hd1 t2
    go_wp2_with fail
    refine (FF.out _).mono ?_
    rintro e w4 ⟨rfl, rfl⟩
    go_wp2_with fail
    go_ret2
    exact ⟨by rw [HN.out]; rfl, hb3'⟩
  | false =>
  obtain ⟨q1, q2, q3, q4, _⟩ := edK_at HP.out.1.1.2 g3
  obtain ⟨ea, hea⟩ : ∃ ea, (edK es kk).a = ea := ⟨_, rfl⟩
  obtain ⟨eb, heb⟩ : ∃ eb, (edK es kk).b = eb := ⟨_, rfl⟩
  rw [hea] at q1 q3
  rw [heb] at q2 q4
  obtain ⟨r, hr⟩ : ∃ r : ByteArray, (⟨(txtM (wayP (edsOf B es t) eb ea)).toArray⟩ : ByteArray) = r := ⟨_, rfl⟩
  have hrs : r.size ≤ 14 := by
    obtain ⟨p1, p2, p3, p4, p5, p6, p7⟩ := HP.out
    obtain ⟨p0, h0⟩ := p6 _ q4 _ q3
    obtain ⟨q, h1, h2⟩ := wk_nb p0 _ _ h0
    have := nb_short p4 p5 (valid_sizes p1).1 q4 ⟨h1, h2⟩
    rw [← wayP_eq p4 ⟨h1, h2⟩] at this
    rw [← hr]
    show (txtM (wayP (edsOf B es t) eb ea)).toArray.size ≤ 14
    have := txtM_len (wayP (edsOf B es t) eb ea)
    simp; omega
  obtain ⟨tx, htx⟩ : ∃ tx : ByteArray, (⟨#[ea]⟩ : ByteArray) = tx := ⟨_, rfl⟩
  obtain ⟨ty, hty⟩ : ∃ ty : ByteArray, (⟨#[eb]⟩ : ByteArray) = ty := ⟨_, rfl⟩
  have HN : Hid (roundV B es t c = (⟨#[43]⟩ ++ cb ++ r, true)) := Lib.hid (by
    have e : roundV B es t c = (⟨(43 :: chordL c :: txtM (wayP (edsOf B es t) (edK es (chordK c)).b (edK es (chordK c)).a)).toArray⟩, true) :=
      textV_yes ⟨hv, by rw [hk]; omega, by rw [hch, hfi]; simpa using hbv⟩
    rw [e, hch, hkk, hea, heb, ← hr, ← hcb]
    congr 1)
  have FM : Hid (∀ W : World, EdgesIn W W.heap.size A es → Calls Try.prog 58 #[.agg #[.string B, .slice A es.length cap], .string t] W fun e w' => ∃ A' c, e = .returned (.slice A' (msP B.data.toList es (ksOf t.data.toList)).length c) ∧ MovesIn w' w'.heap.size A' (msP B.data.toList es (ksOf t.data.toList)) ∧ Below W.heap.size W w') := Lib.hid fun W h =>
    movesIn_any B A cap es t W HM.out h HL.out HP.out.1 HP.out.2.1 HP.out.2.2.1
  have FW : Hid (∀ (A' : Option Addr) (c : Nat) (W : World), MovesIn W W.heap.size A' (msP B.data.toList es (ksOf t.data.toList)) → Calls Try.prog 57 #[.slice A' (msP B.data.toList es (ksOf t.data.toList)).length c, .string ty, .string tx] W fun e w' => e = .returned (.string r) ∧ Below W.heap.size W w') := Lib.hid fun A' c W h => by
    obtain ⟨p1, _, _, p4, p5, p6, p7⟩ := HP.out
    have := wayAlong_any A' c _ (edsOf B es t) B.data.toList eb ea W h p7 p4 p5 (valid_sizes p1).1 (fun m => mem_msP m) q4 (p6 _ q4 _ q3)
    rwa [htx, hty, hr] at this
  obtain ⟨ms, hms⟩ : ∃ ms, msP B.data.toList es (ksOf t.data.toList) = ms := ⟨_, rfl⟩
  rw [hms] at FW FM
  have j1 : ¬ 9223372036854775807 < (⟨#[43]⟩ : ByteArray).size + cb.size := by
    have : (⟨#[43]⟩ : ByteArray).size = 1 := rfl
    omega
  have j4 : ¬ 9223372036854775807 < 1 + cb.size := by omega
  obtain ⟨pc, hpc⟩ : ∃ pc : ByteArray, (⟨#[43]⟩ : ByteArray) ++ cb = pc := ⟨_, rfl⟩
  have hps : pc.size = 2 := by rw [← hpc, ByteArray.size_append, hcs]; rfl
  have j2 : ¬ 9223372036854775807 < pc.size + r.size := by omega
  have j3 : ¬ 9223372036854775807 < 2 + r.size := by omega
  rw [hpc] at HN
  clear hps hcs
  obtain ⟨ab, ao, rfl, hlow, e1, e2⟩ := hE kk g3
  have b1 : (0 : Int) ≤ (kk : Int) := by omega
  have b2 : (kk : Int) < (es.length : Int) := by omega
  rw [q1, htx] at e1
  rw [q2, hty] at e2
  rw [hcb] at g1
  have HC : Hid (∀ W, Below (w.heap.size + 1) (w.alloc (.cells #[.string B, .slice (some ⟨ab, ao, none⟩) es.length cap] 30)) W → (W.cell? ⟨w.heap.size, 0, none⟩ = some (.string B) ∧ W.cell? ⟨w.heap.size, 1, none⟩ = some (.slice (some ⟨ab, ao, none⟩) es.length cap) ∧ W.cell? ⟨ab, ao + kk * 2, none⟩ = some (.string tx) ∧ W.cell? ⟨ab, ao + kk * 2 + 1, none⟩ = some (.string ty))) := Lib.hid fun W h =>
    ⟨(h.cell (by simp only; omega)).trans t1.1, (h.cell (by simp only; omega)).trans t1.2, (h.cell (by simp only; omega)).trans ((hb1.cell hlow).trans e1), (h.cell (by simp only; omega)).trans ((hb1.cell hlow).trans e2)⟩
  clear hv hk hch hkk hfi g2 g3 hcb hbv hea heb hr q1 q2 q3 q4 hms htx hty e1 e2 hlow
  subst c1k
  subst g1
  go_enter Try.func27, Try.ntmps27
  go_wp2_with fail
  refine (FI.out _).mono ?_
  rintro e w2 ⟨rfl, hb2⟩
  have hb2' := hb1.trans (hb2.mono hb1.size)
  have t2 := t1.below hb2 (by omega)
  have hz2 := hb2.size
  have hd0 := t2.1; have hd1 := t2.2
  have hb2z := hb2
  rw [hz1] at hb2z hz2
  clear hb2 t1 FI
  go_wp2_with fail
  refine (FA.out _ ((hE.below hb2').more hb2'.size)).mono ?_
  rintro e w3 ⟨rfl, hb3⟩
  have hb3' := hb2'.trans (hb3.mono hb2'.size)
  have HB3 : Hid (Below (w.heap.size + 1) (w.alloc (.cells #[.string B, .slice (some ⟨ab, ao, none⟩) es.length cap] 30)) w3) := Lib.hid (hb2z.trans (hb3.mono hz2))
  have hz3 := Nat.le_trans hz2 hb3.size
  clear hb3 hd0 hd1 t2 hb2z FA
  go_wp2_with fail
  refine (FF.out _).mono ?_
  rintro e w4 ⟨rfl, rfl⟩
  have HE3 : Hid (EdgesIn w3.drew w3.drew.heap.size (some ⟨ab, ao, none⟩) es) := Lib.hid ((hE.below hb3'.drew).more hb3'.drew.size)
  have hS : ∀ W, Below w3.heap.size w3 W → _ := fun W h => HC.out W (HB3.out.trans (h.mono hz3))
  have HSS := Lib.hid hS
  clear hS HC
  have HB3' := Lib.hid hb3'
  go_wp2_with fail
  go_region_held3 (fun W => W.cell? ⟨w.heap.size, 0, none⟩ = some (.string B) ∧ W.cell? ⟨w.heap.size, 1, none⟩ = some (.slice (some ⟨ab, ao, none⟩) es.length cap) ∧ W.cell? ⟨ab, ao + kk * 2, none⟩ = some (.string tx) ∧ W.cell? ⟨ab, ao + kk * 2 + 1, none⟩ = some (.string ty))
    (first
      | exact HSS.out _ (Below.refl _ _).drew
      | exact HSS.out _ HB5.out
      | exact HSS.out _ HB6.out)
    (first
      | (go_at_call 58
         go_must (
         refine (FM.out _ HE3.out).mono ?_
         rintro e w5 ⟨A', c', rfl, hmv, hb5⟩
         have HB5 : Hid (Below w3.heap.size w3 w5) := Lib.hid ((Below.refl _ _).drew.trans hb5)
         have HMV := Lib.hid hmv
         clear hb5 hmv))
      | (go_at_call 57
         go_must (
         refine (FW.out A' c' _ HMV.out).mono ?_
         rintro e w6 ⟨rfl, hb6⟩
         have HB6 : Hid (Below w3.heap.size w3 w6) := Lib.hid (HB5.out.trans (hb6.mono HB5.out.size))
         clear hb6)))
  rename_i hHeld
  clear hHeld
  have hb6' := HB3'.out.trans (HB6.out.mono HB3'.out.size)
  go_wp2_with fail
  go_ret2
  exact ⟨by rw [HN.out]; rfl, hb6'⟩

end Go.Proofs.Ytadngnajenedpaa
