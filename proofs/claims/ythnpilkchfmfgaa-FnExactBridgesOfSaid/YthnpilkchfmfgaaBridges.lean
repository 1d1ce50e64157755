/- The edges without which there is no way through, by the program. -/
import Derived.Test.YthnpilkchfmfgaaExit
import Derived.Test.YthnpilkchfmfgaaDrop
import Derived.Test.YthnpilkchfmfgaaNameS
namespace Go.Proofs.Ythnpilkchfmfgaa
open Go.RowKit

/-- an edge without which the exit can't be come to -/
noncomputable def bridgeB (l : List UInt8) (es : List (ByteArray × ByteArray)) (k : Nat) : Bool := !decB (Way (ebs (dropE es k)) (entry l) (exit_ l))
/-- their names, of a net that is one -/
noncomputable def bridgesV (B : ByteArray) (es : List (ByteArray × ByteArray)) : ByteArray × Bool := textV (Valid B.data.toList (ebs es)) (names (bridgeB B.data.toList es) es.length)

theorem ebs_drop (es : List (ByteArray × ByteArray)) (k : Nat) : ebs (dropE es k) = (ebs es).take k ++ (ebs es).drop (k + 1) := by
  simp [ebs, dropE]
theorem drop_ok {l : List UInt8} {es : List (ByteArray × ByteArray)} (h : EdgesOk l (ebs es)) (k : Nat) : EdgesOk l (ebs (dropE es k)) := by
  refine ⟨?_, fun e he => h.2 e ?_⟩
  · have := h.1
    rw [ebs_drop]
    simp
    omega
  · rw [ebs_drop] at he
    rcases List.mem_append.1 he with h | h
    · exact List.mem_of_mem_take h
    · exact List.mem_of_mem_drop h

set_option maxRecDepth 100000 in
set_option maxHeartbeats 1000000 in
/-- impl.BridgesOf$1 -/
theorem bridge_fn (B : ByteArray) (A : Option Addr) (cap : Nat) (es : List (ByteArray × ByteArray)) (k bx : Nat) (W : World) (hk : k < es.length) (hc : es.length ≤ cap) (hv : ShapeOk B.data.toList (ebs es)) (hE : EdgesIn W W.heap.size A es) (ht : Two W bx B A es.length cap) :
    Calls Try.prog 67 #[.int .i64 k, .pointer (some ⟨bx, 0, none⟩)] W fun e W' => e = .returned (.bool (bridgeB B.data.toList es k)) ∧ Below W.heap.size W W' := by
  have h16 : es.length ≤ 16 := by have := hv.2.1; simpa [ebs] using this
  have hd0 := ht.1; have hd1 := ht.2
  have HV := Lib.hid hv; have HC := Lib.hid hc
  obtain ⟨es', hes'⟩ : ∃ es', dropE es k = es' := ⟨_, rfl⟩
  have HES := Lib.hid hes'
  have HOK : Hid (EdgesOk B.data.toList (ebs es')) := Lib.hid (by rw [← hes']; exact drop_ok hv.2 k)
  obtain ⟨q, hq⟩ : ∃ q, decB (Way (ebs es') (entry B.data.toList) (exit_ B.data.toList)) = q := ⟨_, rfl⟩
  have HQ := Lib.hid hq
  have HR : Hid (bridgeB B.data.toList es k = !q) := Lib.hid (by unfold bridgeB; rw [hes', hq])
  clear hv hc hes' hq ht
  go_enter Try.func67, Try.ntmps67
  go_wp2_with fail
  refine (without_any B A cap es k _ hE (by omega) hk HC.out).mono ?_
  rw [HES.out]
  rintro e w2 ⟨A2, c2, rfl, hE2, hb2, _⟩
  clear hd0 hd1
  go_wp2_with fail
  refine (reachesExit_any B A2 c2 es' _ HV.out.1 hE2 HOK.out).mono ?_
  rw [HQ.out]
  rintro e w3 ⟨rfl, hb3⟩
  have hb3' := hb2.trans (hb3.mono hb2.size)
  clear hb2 hb3 hE2
  go_wp2_with fail
  go_ret
  exact ⟨by rw [HR.out]; rfl, hb3'⟩

set_option maxRecDepth 100000 in
set_option maxHeartbeats 2000000 in
/-- impl.BridgesOf -/
theorem implBridgesOf_any (B : ByteArray) (A : Option Addr) (cap : Nat) (es : List (ByteArray × ByteArray)) (w : World) (hs : B.size ≤ maxLen) (hE : EdgesIn w w.heap.size A es) (hl : es.length ≤ 1099511627776) (_ : ∀ e ∈ es, e.1.size ≤ 1099511627776 ∧ e.2.size ≤ 1099511627776) (hc : es.length ≤ cap) :
    Calls Try.prog 25 #[.agg #[.string B, .slice A es.length cap]] w (TextPost (bridgesV B es) w) := by
  have hl2 : es.length ≤ maxLen := by unfold maxLen; omega
  have HL2 := Lib.hid hl2; have HM := Lib.hid hs; have HC := Lib.hid hc
  clear hl hl2 hs hc
  have hb1 : Below w.heap.size w (w.alloc (.cells #[.string B, .slice A es.length cap] 28)) := (Below.refl _ _).alloc (Nat.le_refl _) _
  have t1 := Two.made w B A es.length cap 28
  have hz1 : (w.alloc (.cells #[.string B, .slice A es.length cap] 28)).heap.size = w.heap.size + 1 := by simp
  by_cases hv : Valid B.data.toList (ebs es)
  case neg =>
    have HD : Hid (decB (Valid B.data.toList (ebs es)) = false) := Lib.hid (decB_f hv)
    have HN : Hid (bridgesV B es = (⟨#[]⟩, false)) := Lib.hid (textV_no hv)
    clear hv
    go_enter Try.func25, Try.ntmps25
    go_wp2_with fail
    refine (valid_any B A cap es _ HM.out ((hE.below hb1).more hb1.size) HL2.out).mono ?_
    rw [HD.out]
    rintro e w2 ⟨rfl, hb2⟩
    have hb2' := hb1.trans (hb2.mono hb1.size)
    clear hb2 t1
    go_wp2_with fail
    go_ret2
    exact ⟨by rw [HN.out]; rfl, hb2'⟩
  have HD : Hid (decB (Valid B.data.toList (ebs es)) = true) := Lib.hid (decB_t hv)
  have HN : Hid (bridgesV B es = (⟨(names (bridgeB B.data.toList es) es.length).toArray⟩, true)) := Lib.hid (textV_yes hv)
  have h16 : es.length ≤ 100 := by have := (valid_sizes hv).2; omega
  have HV := Lib.hid hv.1
  clear hv
  go_enter Try.func25, Try.ntmps25
  go_wp2_with fail
  refine (valid_any B A cap es _ HM.out ((hE.below hb1).more hb1.size) HL2.out).mono ?_
  rw [HD.out]
  rintro e w2 ⟨rfl, hb2⟩
  have hb2' := hb1.trans (hb2.mono hb1.size)
  have t2 := t1.below hb2 (by omega)
  have hz2 : w.heap.size + 1 ≤ w2.heap.size := by have := hb2.size; omega
  have hd0 := t2.1; have hd1 := t2.2
  clear hb2 t1 hz1 hb1
  go_wp2_with fail
  refine (namesWhere_any B A es.length cap 67 #[.pointer (some ⟨w.heap.size, 0, none⟩)] (bridgeB B.data.toList es) _ h16 (enters_of Try.func67 (by kernel_rfl) rfl)
    (fun i W hiw hbw => bridge_fn B A cap es i w.heap.size W hiw HC.out HV.out ((hE.below (hb2'.trans (hbw.mono hb2'.size))).more (hb2'.trans (hbw.mono hb2'.size)).size) (t2.below hbw (by omega)))).mono ?_
  rintro e w4 ⟨rfl, hb4⟩
  have hb4' := hb2'.trans (hb4.mono hb2'.size)
  clear hb4 hd0 hd1
  go_wp2_with fail
  go_ret2
  exact ⟨by rw [HN.out]; rfl, hb4'⟩

end Go.Proofs.Ythnpilkchfmfgaa
