/- Weights of a net: WeightsValid by the program and by the model. -/
import Derived.Test.YtadngnajenedpaaPaths
import Derived.Test.YtadngnajenedpaaIntsB
namespace Go.Proofs.Ytadngnajenedpaa
open Go.RowKit

/-- whether numbers are weights of a net -/
noncomputable def weightsV (B : ByteArray) (es : List (ByteArray × ByteArray)) (xs : List Int) : Bool := decB (Valid B.data.toList (ebs es) ∧ xs.length = es.length ∧ ∀ x ∈ xs, 0 ≤ x ∧ x ≤ 99)

set_option maxRecDepth 100000 in
set_option maxHeartbeats 4000000 in
/-- spec.WeightsValid -/
theorem specWeightsValid_any (B : ByteArray) (A : Option Addr) (cap : Nat) (es : List (ByteArray × ByteArray)) (P : Option Addr) (pcap : Nat) (xs : List Int) (w : World) (hs : B.size ≤ maxLen) (hE : EdgesIn w w.heap.size A es) (hl : es.length ≤ 1099511627776) (_ : ∀ e ∈ es, e.1.size ≤ 1099511627776 ∧ e.2.size ≤ 1099511627776) (hX : IntsIn w w.heap.size P xs) (hxl : xs.length ≤ 1099511627776) :
    Calls Try.prog 12 #[.agg #[.string B, .slice A es.length cap], .slice P xs.length pcap] w (BoolPost (weightsV B es xs) w) := by
  have HL := Lib.hid hl; have HM := Lib.hid hs; have HXL := Lib.hid hxl
  clear hl hs hxl
  have hb1 : Below w.heap.size w (w.alloc (.cells #[.string B, .slice A es.length cap] 30)) := (Below.refl _ _).alloc (Nat.le_refl _) _
  have t1 := Two.made w B A es.length cap 30
  obtain ⟨v, hv⟩ : ∃ v, decB (Valid B.data.toList (ebs es)) = v := ⟨_, rfl⟩
  have FA : Hid (∀ W : World, EdgesIn W W.heap.size A es → Calls Try.prog 33 #[.agg #[.string B, .slice A es.length cap]] W fun e w' => e = .returned (.bool v) ∧ Below W.heap.size W w') := Lib.hid fun W h => by
    have := specValid_any B A cap es W HM.out h (by unfold maxLen; have := HL.out; omega)
    rwa [hv] at this
  cases v with
  | false =>
    have HN : Hid (weightsV B es xs = false) := Lib.hid (decB_f fun h => decB_not.1 hv h.1)
    clear hv
    go_enter Try.func12, Try.ntmps12
    go_wp2_with fail
    refine (FA.out _ ((hE.below hb1).more hb1.size)).mono ?_
    rintro e w2 ⟨rfl, hb2⟩
    have hb2' := hb1.trans (hb2.mono hb1.size)
    clear hb2 t1
    go_wp2_with fail
    go_ret
    exact ⟨ret_bool HN.out.symm, hb2'⟩
  | true =>
    by_cases hlen : xs.length = es.length
    case neg =>
      have HN : Hid (weightsV B es xs = false) := Lib.hid (decB_f fun h => hlen h.2.1)
      have q0 : ((xs.length : Int) != (es.length : Int)) = true := by simp; omega
      clear hv hlen
      go_enter Try.func12, Try.ntmps12
      go_wp2_with fail
      refine (FA.out _ ((hE.below hb1).more hb1.size)).mono ?_
      rintro e w2 ⟨rfl, hb2⟩
      have hb2' := hb1.trans (hb2.mono hb1.size)
      have t2 := t1.below hb2 (by simp)
      have hd0 := t2.1; have hd1 := t2.2
      clear hb2 t1
      go_wp2_with fail
      go_ret
      exact ⟨ret_bool HN.out.symm, hb2'⟩
    have HV : Hid (weightsV B es xs = decB (∀ x ∈ xs, 0 ≤ x ∧ x ≤ 99)) := Lib.hid (decB_congr ⟨fun h => h.2.2, fun h => ⟨decB_iff.1 hv, hlen, h⟩⟩)
    have q0 : ((xs.length : Int) != (es.length : Int)) = false := by simp [hlen]
    clear hv hlen
    go_enter Try.func12, Try.ntmps12
    go_wp2_with fail
    refine (FA.out _ ((hE.below hb1).more hb1.size)).mono ?_
    rintro e w2 ⟨rfl, hb2⟩
    have hb2' := hb1.trans (hb2.mono hb1.size)
    have t2 := t1.below hb2 (by simp)
    have hd0 := t2.1; have hd1 := t2.2
    clear hb2 t1
    go_wp2_with fail
    have HXL' := HXL.out
    go_loopw [20] (fun c wr => ∃ k : Nat, k ≤ xs.length ∧ c = .int .i64 k ∧ Below w.heap.size w wr ∧ ∀ x ∈ xs.take k, 0 ≤ x ∧ x ≤ 99) (fun c _ => xs.length - (intOf c).toNat)
    case atStart => exact ⟨0, Nat.zero_le _, rfl, hb2', by simp⟩
    case round =>
      obtain ⟨k, hk, rfl, hb, hr⟩ := hrel
      have HR := Lib.hid hr; clear hr hb2' hd0 hd1 t2
      by_cases hlt : k < xs.length
      · obtain ⟨eb, eo, rfl, hlow, h1⟩ := (hX.below hb) k hlt
        have hmem : xs[k] ∈ xs := List.getElem_mem hlt
        obtain ⟨x, hx⟩ : ∃ x, xs[k] = x := ⟨_, rfl⟩
        have HTK : Hid (xs.take (k + 1) = xs.take k ++ [x]) := Lib.hid (by rw [List.take_add_one, List.getElem?_eq_getElem hlt, hx]; rfl)
        rw [hx] at h1 hmem
        have HMEM := Lib.hid hmem
        clear hx hmem
        by_cases hin : 0 ≤ x ∧ x ≤ 99
        · have HIN := Lib.hid hin; clear hin
          go_wp2_with (go_at_call 34; refine (l1In_t _ _ _ _ HIN.out).mono ?_; rintro e w' ⟨rfl, rfl⟩)
          go_roundw
          case rel => exact ⟨k + 1, by omega, by go_num, hb, fun y hy => by
            rw [HTK.out] at hy
            rcases List.mem_append.1 hy with hy | hy
            · exact HR.out y hy
            · simp at hy; subst hy; exact HIN.out⟩
          case measure => simp [intOf]; omega
        · have HN : Hid (weightsV B es xs = false) := Lib.hid (by rw [HV.out]; exact decB_f fun h => hin (h x HMEM.out))
          have HIN := Lib.hid hin; clear hin
          go_wp2_with (go_at_call 34; refine (l1In_f _ _ _ _ HIN.out).mono ?_; rintro e w' ⟨rfl, rfl⟩)
          go_ret
          exact ⟨ret_bool HN.out.symm, hb⟩
      · have HN : Hid (weightsV B es xs = true) := Lib.hid (by
          rw [HV.out]
          refine decB_t fun x hx => HR.out x ?_
          rwa [List.take_of_length_le (by omega)])
        go_wp2_with fail
        go_ret
        exact ⟨ret_bool HN.out.symm, hb⟩

set_option maxRecDepth 100000 in
set_option maxHeartbeats 2000000 in
/-- slices.IndexFunc, of numbers: whether a test holds of one -/
theorem indexFunc_any (P : Option Addr) (pcap : Nat) (xs : List Int) (f : FuncId) (p : Int → Bool) (w : World) (hX : IntsIn w w.heap.size P xs) (hxl : xs.length ≤ 1099511627776)
    (he : ∀ args w, (callFunc f args).run Try.prog w = .ok (.enter f args) w)
    (hk : ∀ (x : Int) (W : World), Calls Try.prog f #[.int .i64 x] W fun e W' => e = .returned (.bool (p x)) ∧ W = W') :
    Calls Try.prog 78 #[.slice P xs.length pcap, .func (.func f) #[] #[]] w fun e w' => ∃ r : Int, e = .returned (.int .i64 r) ∧ decide (0 ≤ r) = xs.any p ∧ Below w.heap.size w w' := by
  have HK := Lib.hid hk
  clear hk
  go_enter Try.func78, Try.ntmps78
  go_wp2_with fail
  go_loopw [8] (fun c wr => ∃ k : Nat, k ≤ xs.length ∧ c = .int .i64 k ∧ Below w.heap.size w wr ∧ ∀ x ∈ xs.take k, p x = false) (fun c _ => xs.length - (intOf c).toNat)
  case atStart => exact ⟨0, Nat.zero_le _, rfl, Below.refl _ _, by simp⟩
  case round =>
    obtain ⟨k, hk, rfl, hb, hr⟩ := hrel
    have HR := Lib.hid hr; clear hr
    by_cases hlt : k < xs.length
    · obtain ⟨eb, eo, rfl, hlow, h1⟩ := (hX.below hb) k hlt
      obtain ⟨x, hx⟩ : ∃ x, xs[k] = x := ⟨_, rfl⟩
      have HTK : Hid (xs.take (k + 1) = xs.take k ++ [x]) := Lib.hid (by rw [List.take_add_one, List.getElem?_eq_getElem hlt, hx]; rfl)
      have HMEM : Hid (x ∈ xs) := Lib.hid (by rw [← hx]; exact List.getElem_mem hlt)
      rw [hx] at h1
      clear hx
      go_wp2_with fail
      refine (HK.out x _).mono ?_
      rintro e w3 ⟨rfl, rfl⟩
      cases hp : p x with
      | false =>
        have HP := Lib.hid hp; clear hp
        go_wp2_with fail
        go_roundw
        case rel => exact ⟨k + 1, by omega, by go_num, hb, fun y hy => by
          rw [HTK.out] at hy
          rcases List.mem_append.1 hy with hy | hy
          · exact HR.out y hy
          · simp at hy; subst hy; exact HP.out⟩
        case measure => simp [intOf]; omega
      | true =>
        have HP := Lib.hid hp; clear hp
        go_wp2_with fail
        go_ret
        refine ⟨(k : Int), rfl, ?_, hb⟩
        rw [List.any_eq_true.2 ⟨x, HMEM.out, HP.out⟩]
        simp
    · go_wp2_with fail
      go_ret
      refine ⟨-1, rfl, ?_, hb⟩
      have : xs.any p = false := by
        rw [List.any_eq_false]
        intro y hy
        rw [HR.out y (by rw [List.take_of_length_le (by omega)]; exact hy)]
        simp
      rw [this]
      rfl

/-- the test of a weight that is none -/
theorem isNone_any (x : Int) (w : World) :
    Calls Try.prog 36 #[.int .i64 x] w fun e w' => e = .returned (.bool (decide (x < 0) || decide (99 < x))) ∧ w = w' := by
  by_cases h1 : x < 0 <;> by_cases h2 : 99 < x
  all_goals
    go_enter Try.func36, Try.ntmps36
    go_wp2
    go_ret
    exact ⟨ret_bool (by simp [h1, h2]), rfl⟩

set_option maxRecDepth 100000 in
/-- slices.ContainsFunc, of numbers -/
theorem containsFunc_any (P : Option Addr) (pcap : Nat) (xs : List Int) (f : FuncId) (p : Int → Bool) (w : World) (hX : IntsIn w w.heap.size P xs) (hxl : xs.length ≤ 1099511627776)
    (he : ∀ args w, (callFunc f args).run Try.prog w = .ok (.enter f args) w)
    (hk : ∀ (x : Int) (W : World), Calls Try.prog f #[.int .i64 x] W fun e W' => e = .returned (.bool (p x)) ∧ W = W') :
    Calls Try.prog 38 #[.slice P xs.length pcap, .func (.func f) #[] #[]] w fun e w' => e = .returned (.bool (xs.any p)) ∧ Below w.heap.size w w' := by
  have HC := Lib.hid (indexFunc_any P pcap xs f p w hX hxl he hk)
  clear hk he
  go_enter Try.func38, Try.ntmps38
  go_wp2_with fail
  refine HC.out.mono ?_
  rintro e w2 ⟨r, rfl, hr, hb⟩
  have HR := Lib.hid hr; clear hr
  go_wp2_with fail
  go_ret
  exact ⟨ret_bool (by rw [← HR.out]), hb⟩

set_option maxRecDepth 100000 in
set_option maxHeartbeats 4000000 in
/-- impl.WeightsValid -/
theorem implWeightsValid_any (B : ByteArray) (A : Option Addr) (cap : Nat) (es : List (ByteArray × ByteArray)) (P : Option Addr) (pcap : Nat) (xs : List Int) (w : World) (hs : B.size ≤ maxLen) (hE : EdgesIn w w.heap.size A es) (hl : es.length ≤ 1099511627776) (_ : ∀ e ∈ es, e.1.size ≤ 1099511627776 ∧ e.2.size ≤ 1099511627776) (hX : IntsIn w w.heap.size P xs) (hxl : xs.length ≤ 1099511627776) :
    Calls Try.prog 15 #[.agg #[.string B, .slice A es.length cap], .slice P xs.length pcap] w (BoolPost (weightsV B es xs) w) := by
  have HL := Lib.hid hl; have HM := Lib.hid hs; have HXL := Lib.hid hxl
  clear hl hs hxl
  have hb1 : Below w.heap.size w (w.alloc (.cells #[.string B, .slice A es.length cap] 30)) := (Below.refl _ _).alloc (Nat.le_refl _) _
  have t1 := Two.made w B A es.length cap 30
  obtain ⟨v, hv⟩ : ∃ v, decB (Valid B.data.toList (ebs es)) = v := ⟨_, rfl⟩
  have FA : Hid (∀ W : World, EdgesIn W W.heap.size A es → Calls Try.prog 37 #[.agg #[.string B, .slice A es.length cap]] W fun e w' => e = .returned (.bool v) ∧ Below W.heap.size W w') := Lib.hid fun W h => by
    have := valid_any B A cap es W HM.out h (by unfold maxLen; have := HL.out; omega)
    rwa [hv] at this
  have EN : ∀ args w, (callFunc 36 args).run Try.prog w = .ok (.enter 36 args) w := enters_of Try.func36 (by kernel_rfl) rfl
  have HEN := Lib.hid EN
  clear EN
  cases v with
  | false =>
    have HN : Hid (weightsV B es xs = false) := Lib.hid (decB_f fun h => decB_not.1 hv h.1)
    clear hv
    go_enter Try.func15, Try.ntmps15
    go_wp2_with fail
    refine (FA.out _ ((hE.below hb1).more hb1.size)).mono ?_
    rintro e w2 ⟨rfl, hb2⟩
    have hb2' := hb1.trans (hb2.mono hb1.size)
    clear hb2 t1
    go_wp2_with fail
    go_ret
    exact ⟨ret_bool HN.out.symm, hb2'⟩
  | true =>
    by_cases hlen : xs.length = es.length
    case neg =>
      have HN : Hid (weightsV B es xs = false) := Lib.hid (decB_f fun h => hlen h.2.1)
      have q0 : ((xs.length : Int) == (es.length : Int)) = false := by rw [beq_eq_false_iff_ne]; omega
      clear hv hlen
      go_enter Try.func15, Try.ntmps15
      go_wp2_with fail
      refine (FA.out _ ((hE.below hb1).more hb1.size)).mono ?_
      rintro e w2 ⟨rfl, hb2⟩
      have hb2' := hb1.trans (hb2.mono hb1.size)
      have t2 := t1.below hb2 (by simp)
      have hd0 := t2.1; have hd1 := t2.2
      clear hb2 t1
      go_wp2_with fail
      go_ret
      exact ⟨ret_bool HN.out.symm, hb2'⟩
    have HV : Hid (weightsV B es xs = !(xs.any fun x => decide (x < 0) || decide (99 < x))) := Lib.hid (by
      cases h : xs.any fun x => decide (x < 0) || decide (99 < x) with
      | true =>
        obtain ⟨x, hx, hp⟩ := List.any_eq_true.1 h
        exact decB_f fun g => by
          have := g.2.2 x hx
          simp at hp
          omega
      | false =>
        refine decB_t ⟨decB_iff.1 hv, hlen, fun x hx => ?_⟩
        have := List.any_eq_false.1 h x hx
        simp at this
        omega)
    have q0 : ((xs.length : Int) == (es.length : Int)) = true := by simp [hlen]
    clear hv hlen
    go_enter Try.func15, Try.ntmps15
    go_wp2_with fail
    refine (FA.out _ ((hE.below hb1).more hb1.size)).mono ?_
    rintro e w2 ⟨rfl, hb2⟩
    have hb2' := hb1.trans (hb2.mono hb1.size)
    have t2 := t1.below hb2 (by simp)
    have hd0 := t2.1; have hd1 := t2.2
    clear hb2 t1
    go_wp2_with fail
    refine (containsFunc_any P pcap xs _ _ _ ((hX.below hb2').more hb2'.size) HXL.out HEN.out isNone_any).mono ?_
    rintro e w3 ⟨rfl, hb3⟩
    have hb3' := hb2'.trans (hb3.mono hb2'.size)
    clear hb3 hd0 hd1 t2
    go_wp2_with fail
    go_ret
    exact ⟨ret_bool HV.out.symm, hb3'⟩

end Go.Proofs.Ytadngnajenedpaa
