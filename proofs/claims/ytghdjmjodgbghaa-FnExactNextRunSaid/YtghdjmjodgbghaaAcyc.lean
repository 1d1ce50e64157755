/- Whether a net has no way round: by the program and by the model. -/
import Derived.Test.YtghdjmjodgbghaaLeft
import Derived.Test.YtghdjmjodgbghaaValid
import Derived.Test.YtghdjmjodgbghaaSpec2
namespace Go.Proofs.Ytghdjmjodgbghaa
open Go.RowKit

/-- whether a net is one and has no way round -/
noncomputable def acycV (B : ByteArray) (es : List (ByteArray × ByteArray)) : Bool := decB (Valid B.data.toList (ebs es) ∧ ¬ Cyc B.data.toList (ebs es))

set_option maxRecDepth 100000 in
set_option maxHeartbeats 2000000 in
/-- impl.IsAcyclic -/
theorem implIsAcyclic_any (B : ByteArray) (A : Option Addr) (cap : Nat) (es : List (ByteArray × ByteArray)) (w : World) (hs : B.size ≤ maxLen) (hE : EdgesIn w w.heap.size A es) (hl : es.length ≤ 1099511627776) (_ : ∀ e ∈ es, e.1.size ≤ 1099511627776 ∧ e.2.size ≤ 1099511627776) :
    Calls Try.prog 39 #[.agg #[.string B, .slice A es.length cap]] w (BoolPost (acycV B es) w) := by
  have hl2 : es.length ≤ maxLen := by unfold maxLen; omega
  have HL2 := Lib.hid hl2; have HM := Lib.hid hs
  clear hl hl2 hs
  have hb1 : Below w.heap.size w (w.alloc (.cells #[.string B, .slice A es.length cap] 29)) := (Below.refl _ _).alloc (Nat.le_refl _) _
  have t1 := Two.made w B A es.length cap 29
  have hz1 : (w.alloc (.cells #[.string B, .slice A es.length cap] 29)).heap.size = w.heap.size + 1 := by simp
  by_cases hv : Valid B.data.toList (ebs es)
  case neg =>
    have HD : Hid (decB (Valid B.data.toList (ebs es)) = false) := Lib.hid (decB_f hv)
    have HQ : Hid (acycV B es = false) := Lib.hid (decB_f fun h => hv h.1)
    clear hv
    go_enter Try.func39, Try.ntmps39
    go_wp2_with fail
    refine (valid_any B A cap es _ HM.out ((hE.below hb1).more hb1.size) HL2.out).mono ?_
    rw [HD.out]
    rintro e w2 ⟨rfl, hb2⟩
    have hb2' := hb1.trans (hb2.mono hb1.size)
    clear hb2 t1
    go_wp2_with fail
    go_ret
    exact ⟨by rw [HQ.out]; rfl, hb2'⟩
  have HD : Hid (decB (Valid B.data.toList (ebs es)) = true) := Lib.hid (decB_t hv)
  have HQ : Hid (acycV B es = decB (¬ Cyc B.data.toList (ebs es))) := Lib.hid (decB_congr ⟨fun h => h.2, fun h => ⟨hv, h⟩⟩)
  have h16 : es.length ≤ 100 := by have := (valid_sizes hv).2; omega
  have h8 := (valid_sizes hv).1
  have HLE := Lib.hid (lets_of hv.1.2); have HND := Lib.hid hv.1.1.2.2.2
  clear hv
  go_enter Try.func39, Try.ntmps39
  go_wp2_with fail
  refine (valid_any B A cap es _ HM.out ((hE.below hb1).more hb1.size) HL2.out).mono ?_
  rw [HD.out]
  rintro e w2 ⟨rfl, hb2⟩
  have hb2' := hb1.trans (hb2.mono hb1.size)
  have t2 := t1.below hb2 (by omega)
  have hd0 := t2.1; have hd1 := t2.2
  clear hb2 t1
  go_wp2_with fail
  refine (leftOver_any B A cap es _ ((hE.below hb2').more hb2'.size) h16 HLE.out HND.out h8).mono ?_
  rintro e w3 ⟨m, xs, rfl, hset, hb3, hiff⟩
  have hb3' := hb2'.trans (hb3.mono hb2'.size)
  obtain ⟨n, hn⟩ : ∃ n, xs.length = n := ⟨_, rfl⟩
  rw [hn] at hiff
  have hlen := hset.len (P := Try.prog) (t := 74) (kt := 9) (e := 4) Try.underlying74 3
  rw [hn] at hlen
  have HIFF := Lib.hid hiff
  clear hb3 hd0 hd1 hset hn hiff
  by_cases h0 : n = 0
  · subst h0
    have HR : Hid (decB (¬ Cyc B.data.toList (ebs es)) = true) := Lib.hid (decB_t (HIFF.out.1 rfl))
    go_wp2_with fail
    go_ret
    exact ⟨by rw [HQ.out, HR.out]; rfl, hb3'⟩
  · have hq : ((n : Int) == 0) = false := by rw [beq_eq_false_iff_ne]; omega
    have HR : Hid (decB (¬ Cyc B.data.toList (ebs es)) = false) := Lib.hid (decB_f fun h => h0 (HIFF.out.2 h))
    clear h0
    go_wp2_with fail
    go_ret
    exact ⟨by rw [HQ.out, HR.out]; rfl, hb3'⟩

end Go.Proofs.Ytghdjmjodgbghaa
