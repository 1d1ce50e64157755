/- The way order of a net, by both. -/
import Derived.Test.YtcfcmlbbnpfejaaOrderV
import Derived.Test.YtcfcmlbbnpfejaaWayO
import Derived.Test.YtcfcmlbbnpfejaaValid
namespace Go.Proofs.Ytcfcmlbbnpfejaa
open Go.RowKit

/-- the way order of a net that is one -/
noncomputable def orderV (B : ByteArray) (es : List (ByteArray × ByteArray)) : ByteArray × Bool := textV (Valid B.data.toList (ebs es)) (orderE B.data.toList (ebs es))

set_option maxRecDepth 100000 in
set_option maxHeartbeats 2000000 in
/-- spec.OrderOf -/
theorem specOrderOf_any (B : ByteArray) (A : Option Addr) (cap : Nat) (es : List (ByteArray × ByteArray)) (w : World) (hs : B.size ≤ maxLen) (hE : EdgesIn w w.heap.size A es) (hl : es.length ≤ 1099511627776) (_ : ∀ e ∈ es, e.1.size ≤ 1099511627776 ∧ e.2.size ≤ 1099511627776) :
    Calls Try.prog 16 #[.agg #[.string B, .slice A es.length cap]] w (TextPost (orderV B es) w) := by
  have hl2 : es.length ≤ maxLen := by unfold maxLen; omega
  have HL2 := Lib.hid hl2; have HM := Lib.hid hs
  clear hl hl2 hs
  have hb1 : Below w.heap.size w (w.alloc (.cells #[.string B, .slice A es.length cap] 25)) := (Below.refl _ _).alloc (Nat.le_refl _) _
  have t1 := Two.made w B A es.length cap 25
  have hz1 : (w.alloc (.cells #[.string B, .slice A es.length cap] 25)).heap.size = w.heap.size + 1 := by simp
  by_cases hv : Valid B.data.toList (ebs es)
  case neg =>
    have HD : Hid (decB (Valid B.data.toList (ebs es)) = false) := Lib.hid (decB_f hv)
    have HN : Hid (orderV B es = (⟨#[]⟩, false)) := Lib.hid (textV_no hv)
    clear hv
    go_enter Try.func16, Try.ntmps16
    go_wp2_with fail
    refine (specValid_any B A cap es _ HM.out ((hE.below hb1).more hb1.size) HL2.out).mono ?_
    rw [HD.out]
    rintro e w2 ⟨rfl, hb2⟩
    have hb2' := hb1.trans (hb2.mono hb1.size)
    clear hb2
    go_wp2_with fail
    go_ret2
    exact ⟨by rw [HN.out]; rfl, hb2'⟩
  have HD : Hid (decB (Valid B.data.toList (ebs es)) = true) := Lib.hid (decB_t hv)
  obtain ⟨o, ho⟩ : ∃ o : ByteArray, (⟨(orderE B.data.toList (ebs es)).toArray⟩ : ByteArray) = o := ⟨_, rfl⟩
  have HN : Hid (orderV B es = (o, true)) := Lib.hid (by rw [← ho]; exact textV_yes hv)
  have hF := facts_of hv
  have FS : Hid (∀ W : World, EdgesIn W W.heap.size A es → Calls Try.prog 68 #[.agg #[.string B, .slice A es.length cap]] W fun e w' => e = .returned (.string o) ∧ Below W.heap.size W w') := Lib.hid fun W h => by
    rw [← ho]
    exact l3Order_any B A cap es W h hF HM.out
  clear hv ho hF
  go_enter Try.func16, Try.ntmps16
  go_wp2_with fail
  refine (specValid_any B A cap es _ HM.out ((hE.below hb1).more hb1.size) HL2.out).mono ?_
  rw [HD.out]
  rintro e w2 ⟨rfl, hb2⟩
  have hb2' := hb1.trans (hb2.mono hb1.size)
  have t2 := t1.below hb2 (by omega)
  have hd0 := t2.1; have hd1 := t2.2
  clear hb2 t1 hz1 hb1
  go_wp2_with fail
  refine (FS.out _ ((hE.below hb2').more hb2'.size)).mono ?_
  rintro e w3 ⟨rfl, hb3⟩
  have hb3' := hb2'.trans (hb3.mono hb2'.size)
  clear hb3 hd0 hd1
  go_wp2_with fail
  go_ret2
  exact ⟨by rw [HN.out]; rfl, hb3'⟩

set_option maxRecDepth 100000 in
set_option maxHeartbeats 2000000 in
/-- impl.OrderOf -/
theorem implOrderOf_any (B : ByteArray) (A : Option Addr) (cap : Nat) (es : List (ByteArray × ByteArray)) (w : World) (hs : B.size ≤ maxLen) (hE : EdgesIn w w.heap.size A es) (hl : es.length ≤ 1099511627776) (_ : ∀ e ∈ es, e.1.size ≤ 1099511627776 ∧ e.2.size ≤ 1099511627776) :
    Calls Try.prog 15 #[.agg #[.string B, .slice A es.length cap]] w (TextPost (orderV B es) w) := by
  have hl2 : es.length ≤ maxLen := by unfold maxLen; omega
  have HL2 := Lib.hid hl2; have HM := Lib.hid hs
  clear hl hl2 hs
  have hb1 : Below w.heap.size w (w.alloc (.cells #[.string B, .slice A es.length cap] 25)) := (Below.refl _ _).alloc (Nat.le_refl _) _
  have t1 := Two.made w B A es.length cap 25
  have hz1 : (w.alloc (.cells #[.string B, .slice A es.length cap] 25)).heap.size = w.heap.size + 1 := by simp
  by_cases hv : Valid B.data.toList (ebs es)
  case neg =>
    have HD : Hid (decB (Valid B.data.toList (ebs es)) = false) := Lib.hid (decB_f hv)
    have HN : Hid (orderV B es = (⟨#[]⟩, false)) := Lib.hid (textV_no hv)
    clear hv
    go_enter Try.func15, Try.ntmps15
    go_wp2_with fail
    refine (valid_any B A cap es _ HM.out ((hE.below hb1).more hb1.size) HL2.out).mono ?_
    rw [HD.out]
    rintro e w2 ⟨rfl, hb2⟩
    have hb2' := hb1.trans (hb2.mono hb1.size)
    clear hb2
    go_wp2_with fail
    go_ret2
    exact ⟨by rw [HN.out]; rfl, hb2'⟩
  have HD : Hid (decB (Valid B.data.toList (ebs es)) = true) := Lib.hid (decB_t hv)
  obtain ⟨o, ho⟩ : ∃ o : ByteArray, (⟨(orderE B.data.toList (ebs es)).toArray⟩ : ByteArray) = o := ⟨_, rfl⟩
  have HN : Hid (orderV B es = (o, true)) := Lib.hid (by rw [← ho]; exact textV_yes hv)
  have hF := facts_of hv
  have FS : Hid (∀ W : World, EdgesIn W W.heap.size A es → Calls Try.prog 66 #[.agg #[.string B, .slice A es.length cap]] W fun e w' => e = .returned (.string o) ∧ Below W.heap.size W w') := Lib.hid fun W h => by
    rw [← ho]
    exact wayOrder_any B A cap es W h (by have := hF.few; omega) hF.lets hF.into hF.small hF.ent hF.one HM.out hF.first
  clear hv ho hF
  go_enter Try.func15, Try.ntmps15
  go_wp2_with fail
  refine (valid_any B A cap es _ HM.out ((hE.below hb1).more hb1.size) HL2.out).mono ?_
  rw [HD.out]
  rintro e w2 ⟨rfl, hb2⟩
  have hb2' := hb1.trans (hb2.mono hb1.size)
  have t2 := t1.below hb2 (by omega)
  have hd0 := t2.1; have hd1 := t2.2
  clear hb2 t1 hz1 hb1
  go_wp2_with fail
  refine (FS.out _ ((hE.below hb2').more hb2'.size)).mono ?_
  rintro e w3 ⟨rfl, hb3⟩
  have hb3' := hb2'.trans (hb3.mono hb2'.size)
  clear hb3 hd0 hd1
  go_wp2_with fail
  go_ret2
  exact ⟨by rw [HN.out]; rfl, hb3'⟩

end Go.Proofs.Ytcfcmlbbnpfejaa
