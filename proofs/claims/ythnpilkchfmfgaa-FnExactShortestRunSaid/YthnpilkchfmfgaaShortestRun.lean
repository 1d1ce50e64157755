/- The shortest run, by both. -/
import Derived.Test.YthnpilkchfmfgaaShort
import Derived.Test.YthnpilkchfmfgaaShortS
import Derived.Test.YthnpilkchfmfgaaIsRun
import Derived.Test.YthnpilkchfmfgaaNameS
namespace Go.Proofs.Ythnpilkchfmfgaa
open Go.RowKit

/-- a shortest run of a valid net -/
noncomputable def shortV (B : ByteArray) (es : List (ByteArray × ByteArray)) : ByteArray × Bool := textV (Valid B.data.toList (ebs es)) (pathE (ebs es) (entry B.data.toList) (exit_ B.data.toList))

theorem one_text {b : ByteArray} {c : UInt8} (h : b.data.toList = [c]) : b = ⟨#[c]⟩ := bytes_ext (by rw [h])

set_option maxRecDepth 100000 in
set_option maxHeartbeats 4000000 in
/-- spec.ShortestRun -/
theorem specShortestRun_any (B : ByteArray) (A : Option Addr) (cap : Nat) (es : List (ByteArray × ByteArray)) (w : World) (hs : B.size ≤ maxLen) (hE : EdgesIn w w.heap.size A es) (hl : es.length ≤ 1099511627776) (_ : ∀ e ∈ es, e.1.size ≤ 1099511627776 ∧ e.2.size ≤ 1099511627776) :
    Calls Try.prog 41 #[.agg #[.string B, .slice A es.length cap]] w (TextPost (shortV B es) w) := by
  have hl2 : es.length ≤ maxLen := by unfold maxLen; omega
  have HL2 := Lib.hid hl2; have HM := Lib.hid hs
  clear hl hl2 hs
  have hb1 : Below w.heap.size w (w.alloc (.cells #[.string B, .slice A es.length cap] 28)) := (Below.refl _ _).alloc (Nat.le_refl _) _
  have t1 := Two.made w B A es.length cap 28
  have hz1 : (w.alloc (.cells #[.string B, .slice A es.length cap] 28)).heap.size = w.heap.size + 1 := by simp
  by_cases hv : Valid B.data.toList (ebs es)
  case neg =>
    have HD : Hid (decB (Valid B.data.toList (ebs es)) = false) := Lib.hid (decB_f hv)
    have HN : Hid (shortV B es = (⟨#[]⟩, false)) := Lib.hid (textV_no hv)
    clear hv
    go_enter Try.func41, Try.ntmps41
    go_wp2_with fail
    refine (specValid_any B A cap es _ HM.out ((hE.below hb1).more hb1.size) HL2.out).mono ?_
    rw [HD.out]
    rintro e w2 ⟨rfl, hb2⟩
    have hb2' := hb1.trans (hb2.mono hb1.size)
    clear hb2 t1
    go_wp2_with fail
    go_ret2
    exact ⟨by rw [HN.out]; rfl, hb2'⟩
  have HD : Hid (decB (Valid B.data.toList (ebs es)) = true) := Lib.hid (decB_t hv)
  obtain ⟨P, hP⟩ : ∃ P : ByteArray, (⟨(pathE (ebs es) (entry B.data.toList) (exit_ B.data.toList)).toArray⟩ : ByteArray) = P := ⟨_, rfl⟩
  have HN : Hid (shortV B es = (P, true)) := Lib.hid (by rw [← hP]; exact textV_yes hv)
  have h16 : es.length ≤ 16 := by have := (valid_sizes hv).2; omega
  have h8 := (valid_sizes hv).1
  have h28 : B.data.toList.length ≤ 8 := hv.1.1.2.1
  have hB1 : 1 ≤ B.size := by have h := hv.1.1.1; have e : B.data.toList.length = B.size := (by simp); omega
  have hLE := lets_of hv.1.2
  obtain ⟨e1, e2⟩ := entry_bytes (B := B) hB1
  obtain ⟨f1, f2⟩ := exit_bytes (B := B) hB1
  have FS : Hid (∀ W : World, EdgesIn W W.heap.size A es → Calls Try.prog 83 #[.agg #[.string B, .slice A es.length cap], .string (B.extract 0 1)] W fun e w' => e = .returned (.string P) ∧ Below W.heap.size W w') :=
    Lib.hid fun W h => by rw [← hP]; exact l2Short_any B A cap es B.data.toList (B.extract 0 1) (entry B.data.toList) (exit_ B.data.toList) W h h16 hLE e2 h28 e1 hB1 HM.out (one_text f1)
  clear hv hP hLE e1 e2 f1 f2 h16 h8 h28
  go_enter Try.func41, Try.ntmps41
  go_wp2_with fail
  refine (specValid_any B A cap es _ HM.out ((hE.below hb1).more hb1.size) HL2.out).mono ?_
  rw [HD.out]
  rintro e w2 ⟨rfl, hb2⟩
  have hb2' := hb1.trans (hb2.mono hb1.size)
  have t2 := t1.below hb2 (by omega)
  have hz2 : w.heap.size + 1 ≤ w2.heap.size := by have := hb2.size; omega
  clear hb2 t1 hz1 hb1
  have hd0 := t2.1; have hd1 := t2.2
  go_wp2_with fail
  clear hd0 hd1
  have x0 : ∀ x : After w2, x.W.cell? ⟨w.heap.size, 0, none⟩ = some (.string B) := fun x => x.cell (by simp only; omega) t2.1
  have x1 : ∀ x : After w2, x.W.cell? ⟨w.heap.size, 1, none⟩ = some (.slice A es.length cap) := fun x => x.cell (by simp only; omega) t2.2
  have xE : ∀ x : After w2, EdgesIn x.W x.W.heap.size A es := fun x => ((hE.below hb2').below (x.h.mono hb2'.size)).more (Nat.le_trans hb2'.size x.h.size)
  have XE := Lib.hid xE; clear xE t2
  refine wp_region_below (by kernel_rfl) (by kernel_rfl) ?_
  repeat (go_big_quiet_step ((first
    | (go_at_call 83; exact After.call (FS.out _ (XE.out _)))
    | (go_at_call 63; exact After.call (l1Entry_any _ _ _ hB1 HM.out)))))
  refine wpQuiet_nil ?_
  rintro _ ⟨x, rfl⟩
  clear x0 x1
  go_wp2
  go_ret2
  exact ⟨by rw [HN.out]; rfl, hb2'.trans (x.h.mono hb2'.size)⟩

set_option maxRecDepth 100000 in
set_option maxHeartbeats 4000000 in
/-- impl.ShortestRun -/
theorem implShortestRun_any (B : ByteArray) (A : Option Addr) (cap : Nat) (es : List (ByteArray × ByteArray)) (w : World) (hs : B.size ≤ maxLen) (hE : EdgesIn w w.heap.size A es) (hl : es.length ≤ 1099511627776) (_ : ∀ e ∈ es, e.1.size ≤ 1099511627776 ∧ e.2.size ≤ 1099511627776) :
    Calls Try.prog 42 #[.agg #[.string B, .slice A es.length cap]] w (TextPost (shortV B es) w) := by
  have hl2 : es.length ≤ maxLen := by unfold maxLen; omega
  have HL2 := Lib.hid hl2; have HM := Lib.hid hs
  clear hl hl2 hs
  have hb1 : Below w.heap.size w (w.alloc (.cells #[.string B, .slice A es.length cap] 28)) := (Below.refl _ _).alloc (Nat.le_refl _) _
  have t1 := Two.made w B A es.length cap 28
  have hz1 : (w.alloc (.cells #[.string B, .slice A es.length cap] 28)).heap.size = w.heap.size + 1 := by simp
  by_cases hv : Valid B.data.toList (ebs es)
  case neg =>
    have HD : Hid (decB (Valid B.data.toList (ebs es)) = false) := Lib.hid (decB_f hv)
    have HN : Hid (shortV B es = (⟨#[]⟩, false)) := Lib.hid (textV_no hv)
    clear hv
    go_enter Try.func42, Try.ntmps42
    go_wp2_with fail
    refine (valid_any B A cap es _ HM.out ((hE.below hb1).more hb1.size) HL2.out).mono ?_
    rw [HD.out]
    rintro e w2 ⟨rfl, hb2⟩
    have hb2' := hb1.trans (hb2.mono hb1.size)
    clear hb2 t1
    go_wp2_with fail
    go_ret2
    exact ⟨by rw [HN.out]; rfl, hb2'⟩
  have HD : Hid (decB (Valid B.data.toList (ebs es)) = true) := Lib.hid (decB_t hv)
  obtain ⟨P, hP⟩ : ∃ P : ByteArray, (⟨(pathE (ebs es) (entry B.data.toList) (exit_ B.data.toList)).toArray⟩ : ByteArray) = P := ⟨_, rfl⟩
  have HN : Hid (shortV B es = (P, true)) := Lib.hid (by rw [← hP]; exact textV_yes hv)
  have h16 : es.length ≤ 16 := by have := (valid_sizes hv).2; omega
  have h8 := (valid_sizes hv).1
  have h28 : B.data.toList.length ≤ 8 := hv.1.1.2.1
  have hB1 : 1 ≤ B.size := by have h := hv.1.1.1; have e : B.data.toList.length = B.size := (by simp); omega
  have hLE := lets_of hv.1.2
  obtain ⟨e1, e2⟩ := entry_bytes (B := B) hB1
  obtain ⟨f1, f2⟩ := exit_bytes (B := B) hB1
  have FS : Hid (∀ W : World, EdgesIn W W.heap.size A es → Calls Try.prog 84 #[.agg #[.string B, .slice A es.length cap], .string (B.extract 0 1), .string (B.extract (B.size - 1) B.size)] W fun e w' => e = .returned (.string P) ∧ Below W.heap.size W w') :=
    Lib.hid fun W h => by rw [← hP]; exact shortestPath_any B A cap es B.data.toList (B.extract 0 1) (B.extract (B.size - 1) B.size) (entry B.data.toList) (exit_ B.data.toList) W h h16 hLE e2 h28 (one_text e1) (one_text f1)
  clear hv hP hLE e1 e2 f1 f2 h16 h8 h28
  go_enter Try.func42, Try.ntmps42
  go_wp2_with fail
  refine (valid_any B A cap es _ HM.out ((hE.below hb1).more hb1.size) HL2.out).mono ?_
  rw [HD.out]
  rintro e w2 ⟨rfl, hb2⟩
  have hb2' := hb1.trans (hb2.mono hb1.size)
  have t2 := t1.below hb2 (by omega)
  have hz2 : w.heap.size + 1 ≤ w2.heap.size := by have := hb2.size; omega
  clear hb2 t1 hz1 hb1
  have hd0 := t2.1; have hd1 := t2.2
  go_wp2_with fail
  clear hd0 hd1
  have x0 : ∀ x : After w2, x.W.cell? ⟨w.heap.size, 0, none⟩ = some (.string B) := fun x => x.cell (by simp only; omega) t2.1
  have x1 : ∀ x : After w2, x.W.cell? ⟨w.heap.size, 1, none⟩ = some (.slice A es.length cap) := fun x => x.cell (by simp only; omega) t2.2
  have xE : ∀ x : After w2, EdgesIn x.W x.W.heap.size A es := fun x => ((hE.below hb2').below (x.h.mono hb2'.size)).more (Nat.le_trans hb2'.size x.h.size)
  have XE := Lib.hid xE; clear xE t2
  refine wp_region_below (by kernel_rfl) (by kernel_rfl) ?_
  repeat (go_big_quiet_step ((first
    | (go_at_call 84; exact After.call (FS.out _ (XE.out _)))
    | (go_at_call 72; exact After.call (entryOf_any _ _ _ hB1 HM.out))
    | (go_at_call 74; exact After.call (exitOf_any _ _ _ hB1 HM.out)))))
  refine wpQuiet_nil ?_
  rintro _ ⟨x, rfl⟩
  clear x0 x1
  go_wp2
  go_ret2
  exact ⟨by rw [HN.out]; rfl, hb2'.trans (x.h.mono hb2'.size)⟩

end Go.Proofs.Ythnpilkchfmfgaa
