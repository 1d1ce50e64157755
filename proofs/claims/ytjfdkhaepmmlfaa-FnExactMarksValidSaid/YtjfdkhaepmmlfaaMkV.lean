/- Marks of a net: MarksValid by the program and by the model. -/
import Derived.Test.YtjfdkhaepmmlfaaPaths
import Derived.Test.YtjfdkhaepmmlfaaMkI
import Derived.Test.YtjfdkhaepmmlfaaMkS
namespace Go.Proofs.Ytjfdkhaepmmlfaa
open Go.RowKit

/-- whether marks are those of a net -/
noncomputable def marksOkV (B : ByteArray) (es : List (ByteArray × ByteArray)) (xs : List Mk) : Bool := decB (Valid B.data.toList (ebs es) ∧ xs.length = es.length ∧ xs.all mkOk = true)

set_option maxRecDepth 100000 in
set_option maxHeartbeats 4000000 in
/-- spec.MarksValid -/
theorem specMarksValid_any (B : ByteArray) (A : Option Addr) (cap : Nat) (es : List (ByteArray × ByteArray)) (P : Option Addr) (pcap : Nat) (xs : List Mk) (w : World) (hs : B.size ≤ maxLen) (hE : EdgesIn w w.heap.size A es) (hl : es.length ≤ 1099511627776) (_ : ∀ e ∈ es, e.1.size ≤ 1099511627776 ∧ e.2.size ≤ 1099511627776) (hX : MarksIn w w.heap.size P xs) (hxl : xs.length ≤ 1099511627776) :
    Calls Try.prog 14 #[.agg #[.string B, .slice A es.length cap], .slice P xs.length pcap] w (BoolPost (marksOkV B es xs) w) := by
  have HL := Lib.hid hl; have HM := Lib.hid hs; have HXL := Lib.hid hxl
  clear hl hs hxl
  have hb1 : Below w.heap.size w (w.alloc (.cells #[.string B, .slice A es.length cap] 30)) := (Below.refl _ _).alloc (Nat.le_refl _) _
  have t1 := Two.made w B A es.length cap 30
  obtain ⟨v, hv⟩ : ∃ v, decB (Valid B.data.toList (ebs es)) = v := ⟨_, rfl⟩
  have FA : Hid (∀ W : World, EdgesIn W W.heap.size A es → Calls Try.prog 43 #[.agg #[.string B, .slice A es.length cap]] W fun e w' => e = .returned (.bool v) ∧ Below W.heap.size W w') := Lib.hid fun W h => by
    have := specValid_any B A cap es W HM.out h (by unfold maxLen; have := HL.out; omega)
    rwa [hv] at this
  cases v with
  | false =>
    have HN : Hid (marksOkV B es xs = false) := Lib.hid (decB_f fun h => decB_not.1 hv h.1)
    clear hv
    go_enter Try.func14, Try.ntmps14
    go_wp2_with fail
    refine (FA.out _ ((hE.below hb1).more hb1.size)).mono ?_
    rintro e w2 ⟨rfl, hb2⟩
    have hb2' := hb1.trans (hb2.mono hb1.size)
    clear hb2 t1
    go_wp2_with fail
    go_ret
    exact ⟨ret_bool HN.out.symm, hb2'⟩
  | true =>
    by_cases hlen : xs.length = es.length
    case neg =>
      have HN : Hid (marksOkV B es xs = false) := Lib.hid (decB_f fun h => hlen h.2.1)
      have q0 : ((xs.length : Int) != (es.length : Int)) = true := by simp; omega
      clear hv hlen
      go_enter Try.func14, Try.ntmps14
      go_wp2_with fail
      refine (FA.out _ ((hE.below hb1).more hb1.size)).mono ?_
      rintro e w2 ⟨rfl, hb2⟩
      have hb2' := hb1.trans (hb2.mono hb1.size)
      have t2 := t1.below hb2 (by simp)
      have hd0 := t2.1; have hd1 := t2.2
      clear hb2 t1
      go_wp2_with fail
      go_ret
      exact ⟨ret_bool HN.out.symm, hb2'⟩
    have HV : Hid (marksOkV B es xs = xs.all mkOk) := Lib.hid (by
      cases h : xs.all mkOk with
      | true => exact decB_t ⟨decB_iff.1 hv, hlen, h⟩
      | false => exact decB_f fun g => by rw [h] at g; exact absurd g.2.2 (by simp))
    have q0 : ((xs.length : Int) != (es.length : Int)) = false := by simp [hlen]
    clear hv hlen
    go_enter Try.func14, Try.ntmps14
    go_wp2_with fail
    refine (FA.out _ ((hE.below hb1).more hb1.size)).mono ?_
    rintro e w2 ⟨rfl, hb2⟩
    have hb2' := hb1.trans (hb2.mono hb1.size)
    have t2 := t1.below hb2 (by simp)
    have hd0 := t2.1; have hd1 := t2.2
    clear hb2 t1
    go_wp2_with fail
    have HXL' := HXL.out
    go_loopw [20] (fun c wr => ∃ k : Nat, k ≤ xs.length ∧ c = .int .i64 k ∧ Below w.heap.size w wr ∧ (xs.take k).all mkOk = true) (fun c _ => xs.length - (intOf c).toNat)
    case atStart => exact ⟨0, Nat.zero_le _, rfl, hb2', by simp⟩
    case round =>
      obtain ⟨k, hk, rfl, hb, hr⟩ := hrel
      have HR := Lib.hid hr; clear hr hb2' hd0 hd1 t2
      by_cases hlt : k < xs.length
      · obtain ⟨eb, eo, rfl, hlow, h1, h2, h3⟩ := (hX.below hb) k hlt
        have HNO := Lib.hid (all_take_no hlt)
        have HYES := Lib.hid (all_take_yes hlt HR.out)
        obtain ⟨⟨a, n, c⟩, hm⟩ : ∃ m, xs[k] = m := ⟨_, rfl⟩
        rw [hm] at h1 h2 h3 HNO HYES
        simp only at h1 h2 h3
        clear hm
        have hba : Below wr.heap.size wr (wr.alloc (.cells #[.string a, .int .i64 n, .bool c] 78)) := (Below.refl _ _).alloc (Nat.le_refl _) _
        have HB : Hid (Below w.heap.size w (wr.alloc (.cells #[.string a, .int .i64 n, .bool c] 78))) := Lib.hid (hb.trans (hba.mono hb.size))
        obtain ⟨ok, hok⟩ : ∃ ok, mkOk (a, n, c) = ok := ⟨_, rfl⟩
        have FM : Hid (∀ W : World, Calls Try.prog 44 #[.agg #[.string a, .int .i64 n, .bool c]] W fun e w' => e = .returned (.bool ok) ∧ Below W.heap.size W w') := Lib.hid fun W => by rw [← hok]; exact l7Mark_any a n c W
        rw [hok] at HNO HYES
        clear hok hba
        go_wp2_with fail
        refine (FM.out _).mono ?_
        rintro e w3 ⟨rfl, hb3⟩
        have HB3 : Hid (Below w.heap.size w w3) := Lib.hid (HB.out.trans (hb3.mono HB.out.size))
        clear hb3 FM h1 h2 h3
        cases ok with
        | false =>
          have HN : Hid (marksOkV B es xs = false) := Lib.hid (by rw [HV.out]; exact HNO.out rfl)
          go_wp2_with fail
          go_ret
          exact ⟨ret_bool HN.out.symm, HB3.out⟩
        | true =>
          go_wp2_with fail
          go_roundw
          case rel => exact ⟨k + 1, by omega, by go_num, HB3.out, HYES.out (by first | rfl | trivial)⟩
          case measure => simp [intOf]; omega
      · have HN : Hid (marksOkV B es xs = true) := Lib.hid (by
          have := HR.out
          rw [List.take_of_length_le (by omega)] at this
          rw [HV.out, this])
        go_wp2_with fail
        go_ret
        exact ⟨ret_bool HN.out.symm, hb⟩

set_option maxRecDepth 100000 in
set_option maxHeartbeats 4000000 in
/-- impl.MarksValid -/
theorem implMarksValid_any (B : ByteArray) (A : Option Addr) (cap : Nat) (es : List (ByteArray × ByteArray)) (P : Option Addr) (pcap : Nat) (xs : List Mk) (w : World) (hs : B.size ≤ maxLen) (hE : EdgesIn w w.heap.size A es) (hl : es.length ≤ 1099511627776) (_ : ∀ e ∈ es, e.1.size ≤ 1099511627776 ∧ e.2.size ≤ 1099511627776) (hX : MarksIn w w.heap.size P xs) (hxl : xs.length ≤ 1099511627776) :
    Calls Try.prog 16 #[.agg #[.string B, .slice A es.length cap], .slice P xs.length pcap] w (BoolPost (marksOkV B es xs) w) := by
  have HL := Lib.hid hl; have HM := Lib.hid hs; have HXL := Lib.hid hxl
  clear hl hs hxl
  have hb1 : Below w.heap.size w (w.alloc (.cells #[.string B, .slice A es.length cap] 30)) := (Below.refl _ _).alloc (Nat.le_refl _) _
  have t1 := Two.made w B A es.length cap 30
  obtain ⟨v, hv⟩ : ∃ v, decB (Valid B.data.toList (ebs es)) = v := ⟨_, rfl⟩
  have FA : Hid (∀ W : World, EdgesIn W W.heap.size A es → Calls Try.prog 46 #[.agg #[.string B, .slice A es.length cap]] W fun e w' => e = .returned (.bool v) ∧ Below W.heap.size W w') := Lib.hid fun W h => by
    have := valid_any B A cap es W HM.out h (by unfold maxLen; have := HL.out; omega)
    rwa [hv] at this
  cases v with
  | false =>
    have HN : Hid (marksOkV B es xs = false) := Lib.hid (decB_f fun h => decB_not.1 hv h.1)
    clear hv
    go_enter Try.func16, Try.ntmps16
    go_wp2_with fail
    refine (FA.out _ ((hE.below hb1).more hb1.size)).mono ?_
    rintro e w2 ⟨rfl, hb2⟩
    have hb2' := hb1.trans (hb2.mono hb1.size)
    clear hb2 t1
    go_wp2_with fail
    go_ret
    exact ⟨ret_bool HN.out.symm, hb2'⟩
  | true =>
    by_cases hlen : xs.length = es.length
    case neg =>
      have HN : Hid (marksOkV B es xs = false) := Lib.hid (decB_f fun h => hlen h.2.1)
      have q0 : ((xs.length : Int) == (es.length : Int)) = false := by rw [beq_eq_false_iff_ne]; omega
      clear hv hlen
      go_enter Try.func16, Try.ntmps16
      go_wp2_with fail
      refine (FA.out _ ((hE.below hb1).more hb1.size)).mono ?_
      rintro e w2 ⟨rfl, hb2⟩
      have hb2' := hb1.trans (hb2.mono hb1.size)
      have t2 := t1.below hb2 (by simp)
      have hd0 := t2.1; have hd1 := t2.2
      clear hb2 t1
      go_wp2_with fail
      go_ret
      exact ⟨ret_bool HN.out.symm, hb2'⟩
    have HV : Hid (marksOkV B es xs = xs.all mkOk) := Lib.hid (by
      cases h : xs.all mkOk with
      | true => exact decB_t ⟨decB_iff.1 hv, hlen, h⟩
      | false => exact decB_f fun g => by rw [h] at g; exact absurd g.2.2 (by simp))
    have q0 : ((xs.length : Int) == (es.length : Int)) = true := by simp [hlen]
    clear hv hlen
    go_enter Try.func16, Try.ntmps16
    go_wp2_with fail
    refine (FA.out _ ((hE.below hb1).more hb1.size)).mono ?_
    rintro e w2 ⟨rfl, hb2⟩
    have hb2' := hb1.trans (hb2.mono hb1.size)
    have t2 := t1.below hb2 (by simp)
    have hd0 := t2.1; have hd1 := t2.2
    clear hb2 t1
    go_wp2_with fail
    refine (containsMk_any P pcap xs _ ((hX.below hb2').more hb2'.size) HXL.out).mono ?_
    rintro e w3 ⟨rfl, hb3⟩
    have hb3' := hb2'.trans (hb3.mono hb2'.size)
    clear hb3 hd0 hd1 t2
    go_wp2_with fail
    go_ret
    exact ⟨ret_bool HV.out.symm, hb3'⟩

end Go.Proofs.Ytjfdkhaepmmlfaa
