/- The law on FormatMarks, walked. -/
import Derived.Test.YtgenhkmlnflnfaaDoorFmS
import Derived.Test.YtgenhkmlnflnfaaDoorFmM
namespace Go.Proofs.YtgenhkmlnflnfaaDoor
open Go.RowKit

set_option maxRecDepth 100000 in
set_option maxHeartbeats 4000000 in
/-- laws.FnExactFormatMarks -/
theorem lawFormatMarks (P : Option Addr) (pcap : Nat) (ms : List Mk) (w : World) (hX : MarksIn w w.heap.size P ms) (hxl : ms.length ≤ maxLen) (hxs : ∀ m ∈ ms, m.1.size ≤ maxLen ∧ (Lit.int .i64 m.2.1).wf = true) (hp : Pow w) :
    Calls Tryd.prog 3 #[.slice P ms.length pcap] w fun e w' => e = .returned (.bool true) ∧ Below w.heap.size w w' := by
  have HP := Lib.hid hp
  clear hp
  have HWF : Hid (MksWf ms) := Lib.hid fun m hm => by
    have h := (hxs m hm).2
    simp only [Lit.wf, decide_eq_true_eq, Bool.and_eq_true] at h
    first
      | exact h
      | (have h1 := h.1; have h2 := h.2; constructor <;> simp [IntKind.min, IntKind.max] at h1 h2 <;> omega)
  have FZ := Lib.hid (szMarkS_any P pcap ms 1048576 w hX hxl (fun m hm => (hxs m hm).1) (by omega) (by omega))
  have hxl' := hxl
  unfold maxLen at hxl'
  obtain ⟨v, hv⟩ : ∃ v, szm (ms.length + lettersM ms) 1048576 = v := ⟨_, rfl⟩
  have HV := Lib.hid hv; clear hv hxs hxl hxl'
  go_enter Tryd.func3, Tryd.ntmps3
  go_wp2_with fail
  refine FZ.out.mono ?_
  rintro e w2 ⟨rfl, hb2⟩
  rw [HV.out]
  clear FZ
  by_cases h0 : v < 0
  · go_wp2_with fail
    go_ret
    exact ⟨rfl, hb2⟩
  have HL : Hid (ms.length ≤ 1099511627776) := Lib.hid (by
    have := HV.out
    unfold szm at this
    split at this <;> omega)
  obtain ⟨q, hq⟩ : ∃ q : ByteArray, (⟨(formatV ms).toArray⟩ : ByteArray) = q := ⟨_, rfl⟩
  have HQ := Lib.hid hq; clear hq
  go_wp2_with fail
  refine (toMarkS_row P pcap ms _ ((hX.below hb2).more hb2.size) HL.out).mono ?_
  rintro e w3 ⟨g3, rfl, hg3, hE3, hb3, _⟩
  have hb3' := hb2.trans (hb3.mono hb2.size)
  clear hb3 hb2
  go_wp2_with fail
  refine (specFormatMarks_any (some ⟨g3, 0, none⟩) ms.length ms _ hE3 HL.out HWF.out).mono ?_
  rw [HQ.out]
  rintro e w4 ⟨rfl, hb4⟩
  have hb4' := hb3'.trans (hb4.mono hb3'.size)
  clear hb4 hb3' hE3
  go_wp2_with fail
  refine (toMarkS_row P pcap ms _ ((hX.below hb4').more hb4'.size) HL.out).mono ?_
  rintro e w5 ⟨g5, rfl, hg5, hE5, hb5, _⟩
  have hb5' := hb4'.trans (hb5.mono hb4'.size)
  clear hb5 hb4'
  go_wp2_with fail
  refine (implFormatMarks_any (some ⟨g5, 0, none⟩) ms.length ms _ hE5 HL.out HWF.out (HP.out.below hb5')).mono ?_
  rw [HQ.out]
  rintro e w6 ⟨rfl, hb6⟩
  have hb6' := hb5'.trans (hb6.mono hb5'.size)
  have hE6 := (hE5.below hb6).more hb6.size
  have q1 : (q.toList != q.toList) = false := by simp
  clear hb6 hb5' hE5
  go_wp2_with fail
  refine (toMarkS_row P pcap ms _ ((hX.below hb6').more hb6'.size) HL.out).mono ?_
  rintro e w7 ⟨g7, rfl, hg7, hE7, hb7, _⟩
  have hb7' := hb6'.trans (hb7.mono hb6'.size)
  have hE67 := (hE6.below hb7).more hb7.size
  clear hb7 hb6' hE6
  go_wp2_with fail
  refine (eqMarkS_t _ _ _ _ ms _ hE67 hE7 HL.out).mono ?_
  rintro e w8 ⟨rfl, hb8⟩
  have hb8' := hb7'.trans (hb8.mono hb7'.size)
  clear hb8
  go_wp2_with fail
  go_ret
  exact ⟨rfl, hb8'⟩

end Go.Proofs.YtgenhkmlnflnfaaDoor
