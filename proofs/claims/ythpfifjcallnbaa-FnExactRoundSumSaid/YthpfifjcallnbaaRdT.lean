/- RoundSum, by the model. -/
import Derived.Test.YthpfifjcallnbaaRdS
import Derived.Test.YthpfifjcallnbaaRdV
namespace Go.Proofs.Ythpfifjcallnbaa
open Go.RowKit

set_option maxRecDepth 100000 in
set_option maxHeartbeats 1000000 in
/-- spec.RoundSum -/
theorem specRoundSum_any (B : ByteArray) (A : Option Addr) (cap : Nat) (es : List (ByteArray × ByteArray)) (r : ByteArray) (w : World) (hs : B.size ≤ maxLen) (hE : EdgesIn w w.heap.size A es) (hl : es.length ≤ 1099511627776) (hS : ∀ e ∈ es, e.1.size ≤ 1099511627776 ∧ e.2.size ≤ 1099511627776) (hrz : r.size ≤ 1099511627776) :
    Calls Try.prog 30 #[.agg #[.string B, .slice A es.length cap], .string r] w (IBPost (rsV B es r) w) := by
  have HM := Lib.hid hs; have HL := Lib.hid hl; have HS := Lib.hid hS; have HRZ := Lib.hid hrz
  clear hs hl hS hrz
  obtain ⟨v, hv⟩ : ∃ v, acycV B es = v := ⟨_, rfl⟩
  have FA : Hid (∀ W : World, EdgesIn W W.heap.size A es → Calls Try.prog 55 #[.agg #[.string B, .slice A es.length cap]] W fun e w' => e = .returned (.bool v) ∧ Below W.heap.size W w') := Lib.hid fun W h => by
    have := specIsAcyclic_any B A cap es W HM.out h HL.out HS.out
    rwa [hv] at this
  have hb1 : Below w.heap.size w (w.alloc (.cells #[.string B, .slice A es.length cap] 30)) := (Below.refl _ _).alloc (Nat.le_refl _) _
  have t1 := Two.made w B A es.length cap 30
  have hz1 : (w.alloc (.cells #[.string B, .slice A es.length cap] 30)).heap.size = w.heap.size + 1 := by simp
  cases v with
  | false =>
    have HN : Hid (rsV B es r = (0, false)) := Lib.hid (roundSum_no (by rw [hv]; simp))
    clear hv
    go_enter Try.func30, Try.ntmps30
    go_wp2_with fail
    refine (FA.out _ ((hE.below hb1).more hb1.size)).mono ?_
    rintro e w2 ⟨rfl, hb2⟩
    have hb2' := hb1.trans (hb2.mono hb1.size)
    clear hb2 t1
    go_wp2_with fail
    go_ret2
    exact ⟨by rw [HN.out]; rfl, hb2'⟩
  | true =>
  have hV : Valid B.data.toList (ebs es) := (decB_iff.1 hv).1
  have h16 := (valid_sizes hV).2
  obtain ⟨u, hu⟩ : ∃ u, decB (∃ ms, RoundOk B.data.toList es r.data.toList ms) = u := ⟨_, rfl⟩
  have FR : Hid (∀ W : World, EdgesIn W W.heap.size A es → Calls Try.prog 56 #[.agg #[.string B, .slice A es.length cap], .string r] W fun e w' => e = .returned (.bool u) ∧ Below W.heap.size W w') := Lib.hid fun W h => by
    have := l6Round_any B A cap es r W HM.out h HL.out hV HRZ.out
    rwa [hu] at this
  cases u with
  | false =>
    have hno : ¬ ∃ ms, RoundOk B.data.toList es r.data.toList ms := fun h => by rw [decB_t h] at hu; cases hu
    have HN : Hid (rsV B es r = (0, false)) := Lib.hid (roundSum_no fun q => hno q.2)
    clear hv hV h16 hu hno
    go_enter Try.func30, Try.ntmps30
    go_wp2_with fail
    refine (FA.out _ ((hE.below hb1).more hb1.size)).mono ?_
    rintro e w2 ⟨rfl, hb2⟩
    have hb2' := hb1.trans (hb2.mono hb1.size)
    have t2 := t1.below hb2 (by omega)
    have hd0 := t2.1; have hd1 := t2.2
    clear hb2 t1
    go_wp2_with fail
    refine (FR.out _ ((hE.below hb2').more hb2'.size)).mono ?_
    rintro e w3 ⟨rfl, hb3⟩
    have hb3' := hb2'.trans (hb3.mono hb2'.size)
    clear hb3 hd0 hd1 t2
    go_wp2_with fail
    go_ret2
    exact ⟨by rw [HN.out]; rfl, hb3'⟩
  | true =>
  obtain ⟨ms, hms⟩ := decB_iff.1 hu
  have hn : rsV B es r = (sumM (valB B es) ms, true) := roundSum_yes hv hms
  have h60 : ms.length ≤ 60 := by have := hms.2.1; have := hms.2.2.1; omega
  have FS : Hid (∀ W : World, EdgesIn W W.heap.size A es → Calls Try.prog 57 #[.agg #[.string B, .slice A es.length cap], .string r] W fun e w' => e = .returned (.int .i64 (sumM (valB B es) ms)) ∧ Below W.heap.size W w') := Lib.hid fun W h =>
    l6Sum_any B A cap es r ms W HM.out h hv (txt_round h16 hms) (ofNet_round h16 hms.2.2.2.1) h60
  obtain ⟨q, hq⟩ : ∃ q, sumM (valB B es) ms = q := ⟨_, rfl⟩
  rw [hq] at FS hn
  have HN := Lib.hid hn
  clear hv hV h16 hu hms hn h60 hq
  go_enter Try.func30, Try.ntmps30
  go_wp2_with fail
  refine (FA.out _ ((hE.below hb1).more hb1.size)).mono ?_
  rintro e w2 ⟨rfl, hb2⟩
  have hb2' := hb1.trans (hb2.mono hb1.size)
  have t2 := t1.below hb2 (by omega)
  have hz2 := hb2.size
  have hd0 := t2.1; have hd1 := t2.2
  clear hb2 t1 FA
  go_wp2_with fail
  refine (FR.out _ ((hE.below hb2').more hb2'.size)).mono ?_
  rintro e w3 ⟨rfl, hb3⟩
  have hb3' := hb2'.trans (hb3.mono hb2'.size)
  have t3 := t2.below hb3 (by omega)
  have hf0 := t3.1; have hf1 := t3.2
  clear hb3 hd0 hd1 t2 FR
  go_wp2_with fail
  refine (FS.out _ ((hE.below hb3').more hb3'.size)).mono ?_
  rintro e w4 ⟨rfl, hb4⟩
  have hb4' := hb3'.trans (hb4.mono hb3'.size)
  clear hb4 hf0 hf1 t3
  go_wp2_with fail
  go_ret2
  exact ⟨by rw [HN.out]; rfl, hb4'⟩

end Go.Proofs.Ythpfifjcallnbaa
