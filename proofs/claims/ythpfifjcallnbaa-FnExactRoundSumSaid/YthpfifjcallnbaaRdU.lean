/- RoundSum, by the program. -/
import Derived.Test.YthpfifjcallnbaaRdR
import Derived.Test.YthpfifjcallnbaaRdV
import Derived.Test.YthpfifjcallnbaaZ6I
namespace Go.Proofs.Ythpfifjcallnbaa
open Go.RowKit

set_option maxRecDepth 100000 in
set_option maxHeartbeats 2000000 in
/-- impl.RoundSum -/
theorem implRoundSum_any (B : ByteArray) (A : Option Addr) (cap : Nat) (es : List (ByteArray × ByteArray)) (r : ByteArray) (w : World) (hs : B.size ≤ maxLen) (hE : EdgesIn w w.heap.size A es) (hl : es.length ≤ 1099511627776) (hS : ∀ e ∈ es, e.1.size ≤ 1099511627776 ∧ e.2.size ≤ 1099511627776) (hrz : r.size ≤ 1099511627776) :
    Calls Try.prog 31 #[.agg #[.string B, .slice A es.length cap], .string r] w (IBPost (rsV B es r) w) := by
  have HM := Lib.hid hs; have HL := Lib.hid hl; have HS := Lib.hid hS; have HRZ := Lib.hid hrz
  clear hs hl hS hrz
  obtain ⟨v, hv⟩ : ∃ v, acycV B es = v := ⟨_, rfl⟩
  have FA : Hid (∀ W : World, EdgesIn W W.heap.size A es → Calls Try.prog 58 #[.agg #[.string B, .slice A es.length cap]] W fun e w' => e = .returned (.bool v) ∧ Below W.heap.size W w') := Lib.hid fun W h => by
    have := implIsAcyclic_any B A cap es W HM.out h HL.out HS.out
    rwa [hv] at this
  have hb1 : Below w.heap.size w (w.alloc (.cells #[.string B, .slice A es.length cap] 30)) := (Below.refl _ _).alloc (Nat.le_refl _) _
  have t1 := Two.made w B A es.length cap 30
  have hz1 : (w.alloc (.cells #[.string B, .slice A es.length cap] 30)).heap.size = w.heap.size + 1 := by simp
  cases v with
  | false =>
    have HN : Hid (rsV B es r = (0, false)) := Lib.hid (roundSum_no (by rw [hv]; simp))
    clear hv
    go_enter Try.func31, Try.ntmps31
    go_wp2_with fail
    refine (FA.out _ ((hE.below hb1).more hb1.size)).mono ?_
    rintro e w2 ⟨rfl, hb2⟩
    have hb2' := hb1.trans (hb2.mono hb1.size)
    clear hb2 t1
    go_wp2_with fail
    go_ret2
    exact ⟨by rw [HN.out]; rfl, hb2'⟩
  | true =>
  have hV : Valid B.data.toList (ebs es) := (decB_iff.1 hv).1
  have h16 := (valid_sizes hV).2
  have FR : Hid (∀ W : World, EdgesIn W W.heap.size A es → Calls Try.prog 59 #[.agg #[.string B, .slice A es.length cap], .string r] W (ReadPost B.data.toList es r.data.toList W)) := Lib.hid fun W h => readRound_any B A cap es r W HM.out h HL.out hV HRZ.out
  have FV : Hid (∀ W : World, EdgesIn W W.heap.size A es → Calls Try.prog 60 #[.agg #[.string B, .slice A es.length cap]] W fun e w' => e = .returned (arr16 (valB B es)) ∧ Below W.heap.size W w') := Lib.hid fun W h => values_acy hv HM.out W h
  have HVY : Hid (∀ ms, RoundOk B.data.toList es r.data.toList ms → rsV B es r = (sumM (valB B es) ms, true)) := Lib.hid fun ms h => roundSum_yes hv h
  have HVN : Hid ((¬ ∃ ms, RoundOk B.data.toList es r.data.toList ms) → rsV B es r = (0, false)) := Lib.hid fun h => roundSum_no fun q => h q.2
  have HOF : Hid (∀ ms, RoundOk B.data.toList es r.data.toList ms → (∀ m ∈ ms, NmOk m.nm) ∧ ms.length ≤ 60) := Lib.hid fun ms h => by
    refine ⟨fun m hm => ?_, by have := h.2.1; have := h.2.2.1; omega⟩
    rcases ofNet_round h16 h.2.2.2.1 m hm with e | ⟨k, hk, e⟩
    · exact .inl e
    · right; rw [e, nameOf_toNat (by omega)]; omega
  have hFF := valE_all (acy_v hv)
  obtain ⟨F, hF⟩ : ∃ F, valB B es = F := ⟨_, rfl⟩
  have HFF : Hid (∀ k, F k ≤ 4294967296) := Lib.hid (by rw [← hF]; exact hFF)
  rw [hF] at FV HVY
  clear hv hV h16 hFF hF
  unfold arr16 at FV
  go_enter Try.func31, Try.ntmps31
  go_wp2_with fail
  refine (FA.out _ ((hE.below hb1).more hb1.size)).mono ?_
  rintro e w2 ⟨rfl, hb2⟩
  have hb2' := hb1.trans (hb2.mono hb1.size)
  have t2 := t1.below hb2 (by omega)
  have hz2 := hb2.size
  have hd0 := t2.1; have hd1 := t2.2
  clear hb2 t1 FA
  go_wp2_with fail
  refine (FR.out _ ((hE.below hb2').more hb2'.size)).mono ?_
  rintro e w3 ⟨hcase, hb3⟩
  have hb3' := hb2'.trans (hb3.mono hb2'.size)
  have t3 := t2.below hb3 (by omega)
  have hz3 := hb3.size
  have hf0 := t3.1; have hf1 := t3.2
  clear hb3 hd0 hd1 t2 FR
  rcases hcase with ⟨ms, A3, c3, rfl, hok, hm3⟩ | ⟨rfl, hno⟩
  case inr =>
    have HN := Lib.hid (HVN.out hno)
    clear hno hf0 hf1 t3
    go_wp2_with fail
    go_ret2
    exact ⟨by rw [HN.out]; rfl, hb3'⟩
  have HN := Lib.hid (HVY.out ms hok)
  obtain ⟨hnm, h60⟩ := HOF.out ms hok
  have HNM := Lib.hid hnm; have H60 := Lib.hid h60; have HM3 := Lib.hid hm3
  clear hok hm3 hnm HVY HVN HOF h60
  go_wp2_with fail
  refine (FV.out _ ((hE.below hb3').more hb3'.size)).mono ?_
  rintro e w4 ⟨rfl, hb4⟩
  have hb4' := hb3'.trans (hb4.mono hb3'.size)
  have HM4 : Hid (MovesIn w4 w4.heap.size A3 ms) := Lib.hid ((HM3.out.below hb4).more hb4.size)
  have hrow := arr16_row w4 F
  have hb5 : Below w4.heap.size w4 (w4.alloc (.cells #[.int .i64 ((F 0 : Nat) : Int), .int .i64 ((F 1 : Nat) : Int), .int .i64 ((F 2 : Nat) : Int), .int .i64 ((F 3 : Nat) : Int), .int .i64 ((F 4 : Nat) : Int), .int .i64 ((F 5 : Nat) : Int), .int .i64 ((F 6 : Nat) : Int), .int .i64 ((F 7 : Nat) : Int), .int .i64 ((F 8 : Nat) : Int), .int .i64 ((F 9 : Nat) : Int), .int .i64 ((F 10 : Nat) : Int), .int .i64 ((F 11 : Nat) : Int), .int .i64 ((F 12 : Nat) : Int), .int .i64 ((F 13 : Nat) : Int), .int .i64 ((F 14 : Nat) : Int), .int .i64 ((F 15 : Nat) : Int)] 50)) := (Below.refl _ _).alloc (Nat.le_refl _) _
  obtain ⟨w5, hw5⟩ : ∃ w5, w4.alloc (.cells #[.int .i64 ((F 0 : Nat) : Int), .int .i64 ((F 1 : Nat) : Int), .int .i64 ((F 2 : Nat) : Int), .int .i64 ((F 3 : Nat) : Int), .int .i64 ((F 4 : Nat) : Int), .int .i64 ((F 5 : Nat) : Int), .int .i64 ((F 6 : Nat) : Int), .int .i64 ((F 7 : Nat) : Int), .int .i64 ((F 8 : Nat) : Int), .int .i64 ((F 9 : Nat) : Int), .int .i64 ((F 10 : Nat) : Int), .int .i64 ((F 11 : Nat) : Int), .int .i64 ((F 12 : Nat) : Int), .int .i64 ((F 13 : Nat) : Int), .int .i64 ((F 14 : Nat) : Int), .int .i64 ((F 15 : Nat) : Int)] 50) = w5 := ⟨_, rfl⟩
  rw [hw5] at hrow hb5
  have HRG : Hid (w5.rangeAt w4.heap.size 0 (vals16 F)) := Lib.hid (range16 hrow)
  have HM5 : Hid (MovesIn w5 w5.heap.size A3 ms) := Lib.hid ((HM4.out.below hb5).more hb5.size)
  have HB5 : Hid (Below w.heap.size w w5) := Lib.hid (hb4'.trans (hb5.mono hb4'.size))
  have hz5 : w4.heap.size < w5.heap.size := by have := hrow.lt; exact this
  have HW5 := Lib.hid hw5; have HZ5 := Lib.hid hz5
  have HCL : Hid ((Try.prog.info? 50).map (·.size) = some (vals16 F).length) := Lib.hid (by kernel_rfl)
  have FAD : Hid (∀ m ∈ ms, ∀ W : World, Calls Try.prog 61 #[.agg #[.string ⟨#[m.sg, m.nm]⟩, .string ⟨#[m.fr]⟩, .string ⟨#[m.tb]⟩], .agg (vals16 F).toArray] W fun e w' => e = .returned (.int .i64 (addM F m)) ∧ Below W.heap.size W w') := Lib.hid fun m hm W => adds_any F m W HFF.out (HNM.out m hm)
  obtain ⟨vs, hvs⟩ : ∃ vs, vals16 F = vs := ⟨_, rfl⟩
  rw [hvs] at HRG HCL FAD
  clear hvs hrow hb5 hw5 hz5 hb4 hf0 hf1 t3 FV
  go_wp2_with fail
  rw [HW5.out]
  go_loopw [9, 27] (fun a c wr => ∃ (i : Nat) (s : Int), i ≤ ms.length ∧ c = .int .i64 i ∧ a = .int .i64 s ∧ Hid (s = sumM F (ms.take i)) ∧ Hid (Below w5.heap.size w5 wr)) (fun _ c _ => ms.length - (intOf c).toNat)
  case atStart => exact ⟨0, 0, Nat.zero_le _, rfl, rfl, Lib.hid rfl, Lib.hid (Below.refl _ _)⟩
  case round =>
    obtain ⟨i, s, hi, rfl, rfl, HQ, HB⟩ := hrel
    by_cases hlt : i < ms.length
    case neg =>
      have HV : Hid (rsV B es r = (s, true)) := Lib.hid (by rw [HN.out, HQ.out, List.take_of_length_le (by omega)])
      have HFIN : Hid (Below w.heap.size w wr) := Lib.hid (HB5.out.trans (HB.out.mono HB5.out.size))
      go_wp2_with fail
      go_ret2
      exact ⟨by rw [HV.out]; rfl, HFIN.out⟩
    obtain ⟨pb, po, rfl, hlow, g1, g2, g3⟩ := (HM5.out.below HB.out) i hlt
    obtain ⟨m, hm⟩ : ∃ m, ms[i] = m := ⟨_, rfl⟩
    have hmem : m ∈ ms := by rw [← hm]; exact List.getElem_mem hlt
    have HNX : Hid (s + addM F m = sumM F (ms.take (i + 1))) := Lib.hid (by rw [List.take_add_one, List.getElem?_eq_getElem hlt, hm, sumM_append, HQ.out]; simp [sumM])
    rw [hm] at g1 g2 g3
    have HAD := Lib.hid (FAD.out m hmem)
    obtain ⟨t1, h1⟩ : ∃ t1 : ByteArray, (⟨#[m.sg, m.nm]⟩ : ByteArray) = t1 := ⟨_, rfl⟩
    obtain ⟨t2, h2⟩ : ∃ t2 : ByteArray, (⟨#[m.fr]⟩ : ByteArray) = t2 := ⟨_, rfl⟩
    obtain ⟨t3, h3⟩ : ∃ t3 : ByteArray, (⟨#[m.tb]⟩ : ByteArray) = t3 := ⟨_, rfl⟩
    rw [h1] at g1 HAD
    rw [h2] at g2 HAD
    rw [h3] at g3 HAD
    have hsf := sum_few HFF.out (ms.take i)
    have hsl : (ms.take i).length ≤ 60 := by rw [List.length_take]; have := H60.out; omega
    rw [← HQ.out] at hsf
    have haf := add_few HFF.out m
    obtain ⟨ad, had⟩ : ∃ ad, addM F m = ad := ⟨_, rfl⟩
    rw [had] at HAD HNX haf
    have b1 : -9223372036854775808 ≤ s + ad := by omega
    have b2 : s + ad ≤ 9223372036854775807 := by omega
    have z0 : IntKind.i64.wrap (s + ad) = s + ad := IntWalk.i64_in _ (by omega)
    have i60 : i ≤ 60 := by have := H60.out; omega
    have a1 : (0 : Int) ≤ (i : Int) := by omega
    have a2 : (i : Int) < (ms.length : Int) := by omega
    have hba : Below wr.heap.size wr (wr.alloc (.cells #[.string t1, .string t2, .string t3] 68)) := (Below.refl _ _).alloc (Nat.le_refl _) _
    have HBA : Hid (Below w5.heap.size w5 (wr.alloc (.cells #[.string t1, .string t2, .string t3] 68))) := Lib.hid (HB.out.trans (hba.mono HB.out.size))
    have HRG6 : Hid ((wr.alloc (.cells #[.string t1, .string t2, .string t3] 68)).rangeAt w4.heap.size 0 vs) := Lib.hid fun j u hj => (HBA.out.cell (by have := HZ5.out; simp only; omega)).trans (HRG.out j u hj)
    clear hm hmem h1 h2 h3 hsf hsl haf had hba
    go_wp2_with (first
      | (refine wpList_load_mid (op := ⟨some 33, .load 50 (.tmp 8), _, _, _, _⟩) rfl 50 (.tmp 8) rfl w4.heap.size 0 rfl vs _ HRG6.out Try.underlying50 rfl HCL.out ?_))
    refine (HAD.out _).mono ?_
    rintro e w7 ⟨rfl, hb7⟩
    have HB7 : Hid (Below w5.heap.size w5 w7) := Lib.hid (HBA.out.trans (hb7.mono HBA.out.size))
    clear hb7 g1 g2 g3
    go_wp2_with fail
    go_roundw
    case rel => exact ⟨i + 1, s + ad, by omega, by go_num, rfl, HNX, HB7⟩
    case measure => simp [intOf]; omega

end Go.Proofs.Ythpfifjcallnbaa
