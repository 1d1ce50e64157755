/- FormatMarks, by the program. -/
import Derived.Test.YtgenhkmlnflnfaaDoorFmE
import Derived.Test.YtgenhkmlnflnfaaDoorBuild
import Derived.Test.YtgenhkmlnflnfaaDoorBuildS
namespace Go.Proofs.YtgenhkmlnflnfaaDoor
open Go.RowKit

/-- a mark that lies in memory of its own -/
def MarkAt (w : World) (g : Nat) (a : ByteArray) (n : Int) (c : Bool) : Prop := w.heap[g]? = some (.cells #[.string a, .int .i64 n, .bool c] 32)
theorem MarkAt.made (w : World) (a : ByteArray) (n : Int) (c : Bool) : MarkAt (w.alloc (.cells #[.string a, .int .i64 n, .bool c] 32)) w.heap.size a n c := by
  unfold MarkAt World.alloc
  simp
theorem MarkAt.kept {w w' : World} {g bb : Nat} {a : ByteArray} {n : Int} {c : Bool} (h : MarkAt w g a n c) (k : Lib.OthersKept 5 (some bb) w w') (hg : g ≠ bb) : MarkAt w' g a n c :=
  k g _ h (fun e => hg (by injection e)) (fun c fz e => by injection e with _ e _; exact absurd e (by decide))
theorem MarkAt.below {w w' : World} {g : Nat} {a : ByteArray} {n : Int} {c : Bool} (h : MarkAt w g a n c) (hb : Below w.heap.size w w') : MarkAt w' g a n c :=
  (hb.block g (Array.getElem?_eq_some_iff.1 h).1).trans h
theorem MarkAt.cells {w : World} {g : Nat} {a : ByteArray} {n : Int} {c : Bool} (h : MarkAt w g a n c) : w.cell? ⟨g, 0, none⟩ = some (.string a) ∧ w.cell? ⟨g, 1, none⟩ = some (.int .i64 n) ∧ w.cell? ⟨g, 2, none⟩ = some (.bool c) := by
  unfold MarkAt at h
  refine ⟨?_, ?_, ?_⟩ <;> simp [World.cell?, h]

/-- a builder is one still behind a callee that keeps what lay -/
theorem bldKeeps {T e : TypeId} {B b : Nat} {bs : List Value} {w w' : World} (h : Lib.IsBuilderF T e B b bs w) (hb : Below w.heap.size w w') : Lib.IsBuilderF T e B b bs w' := by
  have one : ∀ p, Lib.BuilderAtF T e B b p bs w → Lib.BuilderAtF T e B b p bs w' := by
    rintro p ⟨hB, v, hbk, ⟨hlen, hown⟩, hne⟩
    refine ⟨hB, v, (hb.block b (Array.getElem?_eq_some_iff.1 hbk).1).trans hbk, ⟨hlen, ?_⟩, hne⟩
    rcases hown with h | ⟨g, cap, cur, fz, hv, hg, hgb, rest⟩
    · exact .inl h
    · exact .inr ⟨g, cap, cur, fz, hv, hg, (hb.block g (Array.getElem?_eq_some_iff.1 hgb).1).trans hgb, rest⟩
  exact h.elim (fun h => .inl (one _ h)) (fun h => .inr (one _ h))
theorem bldLt {T e : TypeId} {B b : Nat} {bs : List Value} {w : World} (h : Lib.IsBuilderF T e B b bs w) : B ≤ b ∧ b < w.heap.size := by
  rcases h with ⟨hB, _, hb, _⟩ | ⟨hB, _, hb, _⟩ <;> exact ⟨hB, (Array.getElem?_eq_some_iff.1 hb).1⟩

set_option maxRecDepth 100000 in
set_option maxHeartbeats 4000000 in
/-- impl.FormatMarks -/
theorem implFormatMarks_any (A : Option Addr) (cap : Nat) (ms : List Mk) (w : World) (hE : MarksIn w w.heap.size A ms) (hl : ms.length ≤ 1099511627776) (hw : MksWf ms) (hp : Pow w) :
    Calls Tryd.prog 7 #[.slice A ms.length cap] w fun e w' => e = .returned (.string ⟨(formatV ms).toArray⟩) ∧ Below w.heap.size w w' := by
  have HW := Lib.hid hw
  have HP := Lib.hid hp
  clear hw hp
  by_cases h0 : ms.length = 0
  · have HR : Hid (formatV ms = [45]) := Lib.hid (if_pos h0)
    go_enter Tryd.func7, Tryd.ntmps7
    go_wp2_with fail
    go_ret
    exact ⟨by rw [HR.out]; try rfl, Below.refl _ _⟩
  have HR : Hid (formatV ms = fmTo ms ms.length) := Lib.hid (if_neg h0)
  have hb1 : Below w.heap.size w (w.alloc (.cells #[.pointer none, .slice none 0 0] 38)) := (Below.refl _ _).alloc (Nat.le_refl _) _
  have hI1 : Lib.IsBuilderF 38 5 w.heap.size w.heap.size (Lib.byteCells []) (w.alloc (.cells #[.pointer none, .slice none 0 0] 38)) := Lib.IsBuilderF.of (Lib.fresh_isBuilder 38 5 w)
  have HB1 := Lib.hid hb1; have HI1 := Lib.hid hI1
  clear hb1 hI1
  go_enter Tryd.func7, Tryd.ntmps7
  go_wp2_with fail
  generalize hW1 : w.alloc (.cells #[.pointer none, .slice none 0 0] 38) = w1 at HB1 HI1 ⊢
  clear hW1
  have hq : ((ms.length : Int) == 0) = false := by rw [beq_eq_false_iff_ne]; omega
  rw [hq]
  go_loopw [11] (fun i wr => ∃ k : Nat, k ≤ ms.length ∧ i = .int .i64 k ∧ Below w.heap.size w wr ∧ Lib.IsBuilderF 38 5 w.heap.size w.heap.size (Lib.byteCells (fmTo ms k)) wr) (fun i _ => ms.length - (intOf i).toNat)
  case atStart => exact ⟨0, Nat.zero_le _, rfl, HB1.out, HI1.out⟩
  case round =>
    obtain ⟨k, hkn, rfl, hb, hI⟩ := hrel
    have hlt := (bldLt hI).2
    by_cases hkl : k < ms.length
    · obtain ⟨eb, eo, rfl, hlow, h1, h2, h3⟩ := (hE.below hb) k hkl
      have hwf := HW.out ms[k] (List.getElem_mem hkl)
      have HT : Hid (fmTo ms (k + 1) = fmTo ms k ++ ((if 0 < k then [32] else []) ++ fmL ms[k])) := Lib.hid (by
        rw [fmTo_succ]; unfold fmAt
        rw [List.getD_eq_getElem?_getD, List.getElem?_eq_getElem hkl]; rfl)
      have HLZ : Hid ((fmTo ms k).length ≤ 25 * 1099511627776) := Lib.hid (by have := (fmTo_len HW.out k hkn).2; omega)
      obtain ⟨⟨a, n, c⟩, hm⟩ : ∃ m, ms[k] = m := ⟨_, rfl⟩
      rw [hm] at h1 h2 h3 HT hwf
      simp only at h1 h2 h3 hwf
      have HDL := Lib.hid (deedT_len (a := a) hwf.1 hwf.2)
      have HWF := Lib.hid hwf
      clear hm hwf
      have hbn : Below wr.heap.size wr (wr.alloc (.cells #[.string a, .int .i64 n, .bool c] 32)) := (Below.refl _ _).alloc (Nat.le_refl _) _
      have HI6 := Lib.hid (hI.alloc (.cells #[.string a, .int .i64 n, .bool c] 32))
      have HM6 := Lib.hid (MarkAt.made wr a n c)
      have hz6 : (wr.alloc (.cells #[.string a, .int .i64 n, .bool c] 32)).heap.size = wr.heap.size + 1 := by simp
      have HBN := Lib.hid (hb.trans (hbn.mono hb.size))
      clear hI hbn
      obtain ⟨p, hpe⟩ : ∃ p, fmTo ms k ++ (if 0 < k then [32] else []) = p := ⟨_, rfl⟩
      have HPL : Hid (p.length ≤ 25 * 1099511627776 + 1) := Lib.hid (by
        rw [← hpe, List.length_append]
        have := HLZ.out
        have e1 : (if 0 < k then ([32] : List UInt8) else []).length ≤ 1 := by split <;> simp
        omega)
      have HT2 : Hid (fmTo ms (k + 1) = p ++ deedT a n ++ (if c = true then [99] else [])) := Lib.hid (by
        rw [HT.out, ← hpe]; unfold fmL; simp only [List.append_assoc])
      have HPE := Lib.hid hpe
      clear hpe HT
      obtain ⟨d, hd⟩ : ∃ d : ByteArray, (⟨(deedT a n).toArray⟩ : ByteArray) = d := ⟨_, rfl⟩
      have HDD : Hid (d.data.toList = deedT a n) := Lib.hid (by rw [← hd])
      have HDS : Hid (d.size ≤ 23) := Lib.hid (by
        rw [← hd]; show (deedT a n).toArray.size ≤ 23
        simpa using HDL.out.2)
      have HDQ := Lib.hid hd
      clear hd HDL
      by_cases hk0 : (0 : Int) < k
      · go_wp2_with fail
        generalize hW6 : wr.alloc (.cells #[.string a, .int .i64 n, .bool c] 32) = w6 at HBN HI6 HM6 hz6 ⊢
        clear hW6
        refine (writeByte_any w.heap.size w.heap.size _ 32 _ HI6.out (by have := HLZ.out; rw [Lib.byteCells_length]; omega) (by omega)).mono ?_
        rintro e w7 ⟨rfl, hA7, hb7, ho7⟩
        have HM7 := Lib.hid (HM6.out.kept ho7 (by omega))
        have HB7 := Lib.hid (HBN.out.trans hb7)
        have hz7 := hb7.size
        have HI7 : Hid (Lib.IsBuilderF 38 5 w.heap.size w.heap.size (Lib.byteCells p) w7) := Lib.hid (.inr (by rw [← HPE.out, if_pos (by omega), Lib.byteCells_append]; exact hA7))
        clear hA7 hb7 ho7
        obtain ⟨hp0, hp1, hp2⟩ := HM7.out.cells
        go_wp2_with fail
        clear HI6 HM6 HBN
        refine (deedOf_any a n c _).mono ?_
        rintro e w8 ⟨rfl, hb8⟩
        have hz8 := hb8.size
        have HM8 := Lib.hid (HM7.out.below hb8)
        have HB8 := Lib.hid (HB7.out.trans (hb8.mono (by omega)))
        have HI8 := Lib.hid (bldKeeps HI7.out hb8)
        clear hb8 HM7 HB7 HI7 hp0 hp1 hp2
        go_wp2_with fail
        refine (deedText_any a n HWF.out.1 HWF.out.2 _ (HP.out.below HB8.out)).mono ?_
        rw [HDQ.out]
        rintro e w9 ⟨rfl, hb9⟩
        have hz9 := hb9.size
        have HM9 := Lib.hid (HM8.out.below hb9)
        have HB9 := Lib.hid (HB8.out.trans (hb9.mono (by omega)))
        have HI9 := Lib.hid (bldKeeps HI8.out hb9)
        clear hb9 HM8 HB8 HI8
        go_wp2_with fail
        refine (writeString_any w.heap.size w.heap.size _ d _ HI9.out (by have := HPL.out; have := HDS.out; rw [Lib.byteCells_length]; omega) (by omega)).mono ?_
        rintro e w10 ⟨rfl, hA10, hb10, ho10⟩
        have hz10 := hb10.size
        have HM10 := Lib.hid (HM9.out.kept ho10 (by omega))
        have HB10 := Lib.hid (HB9.out.trans hb10)
        have HI10 : Hid (Lib.IsBuilderF 38 5 w.heap.size w.heap.size (Lib.byteCells (p ++ deedT a n)) w10) := Lib.hid (.inr (by rw [Lib.byteCells_append, ← HDD.out]; rw [Lib.strCells_eq] at hA10; exact hA10))
        clear hA10 hb10 ho10 HM9 HB9 HI9
        obtain ⟨hr0, hr1, hr2⟩ := HM10.out.cells
        cases c with
        | false =>
          go_wp2_with fail
          go_roundw
          case rel =>
            exact ⟨k + 1, by omega, by go_num, HB10.out, by rw [HT2.out, if_neg (by simp), List.append_nil]; exact HI10.out⟩
          case measure => simp [intOf]; omega
        | true =>
          go_wp2_with fail
          refine (writeByte_any w.heap.size w.heap.size _ 99 _ HI10.out (by have := HPL.out; have := HDS.out; have h := congrArg List.length HDD.out; simp at h; rw [Lib.byteCells_length, List.length_append]; omega) (by omega)).mono ?_
          rintro e w11 ⟨rfl, hA11, hb11, _⟩
          have HB11 := Lib.hid (HB10.out.trans hb11)
          have HI11 : Hid (Lib.IsBuilderF 38 5 w.heap.size w.heap.size (Lib.byteCells (fmTo ms (k + 1))) w11) := Lib.hid (.inr (by rw [HT2.out]; simp only [if_true]; rw [Lib.byteCells_append]; exact hA11))
          clear hA11 hb11
          go_wp2_with fail
          go_roundw
          case rel => exact ⟨k + 1, by omega, by go_num, HB11.out, HI11.out⟩
          case measure => simp [intOf]; omega
      · go_wp2_with fail
        generalize hW6 : wr.alloc (.cells #[.string a, .int .i64 n, .bool c] 32) = w7 at HBN HI6 HM6 hz6 ⊢
        clear hW6
        have hz7 : wr.heap.size + 1 ≤ w7.heap.size := by omega
        have HM7 := HM6
        have HB7 := HBN
        have HI7 : Hid (Lib.IsBuilderF 38 5 w.heap.size w.heap.size (Lib.byteCells p) w7) := Lib.hid (by rw [← HPE.out, if_neg (by omega), List.append_nil]; exact HI6.out)
        obtain ⟨hp0, hp1, hp2⟩ := HM7.out.cells
        clear HI6 HM6 HBN
        refine (deedOf_any a n c _).mono ?_
        rintro e w8 ⟨rfl, hb8⟩
        have hz8 := hb8.size
        have HM8 := Lib.hid (HM7.out.below hb8)
        have HB8 := Lib.hid (HB7.out.trans (hb8.mono (by omega)))
        have HI8 := Lib.hid (bldKeeps HI7.out hb8)
        clear hb8 HM7 HB7 HI7 hp0 hp1 hp2
        go_wp2_with fail
        refine (deedText_any a n HWF.out.1 HWF.out.2 _ (HP.out.below HB8.out)).mono ?_
        rw [HDQ.out]
        rintro e w9 ⟨rfl, hb9⟩
        have hz9 := hb9.size
        have HM9 := Lib.hid (HM8.out.below hb9)
        have HB9 := Lib.hid (HB8.out.trans (hb9.mono (by omega)))
        have HI9 := Lib.hid (bldKeeps HI8.out hb9)
        clear hb9 HM8 HB8 HI8
        go_wp2_with fail
        refine (writeString_any w.heap.size w.heap.size _ d _ HI9.out (by have := HPL.out; have := HDS.out; rw [Lib.byteCells_length]; omega) (by omega)).mono ?_
        rintro e w10 ⟨rfl, hA10, hb10, ho10⟩
        have hz10 := hb10.size
        have HM10 := Lib.hid (HM9.out.kept ho10 (by omega))
        have HB10 := Lib.hid (HB9.out.trans hb10)
        have HI10 : Hid (Lib.IsBuilderF 38 5 w.heap.size w.heap.size (Lib.byteCells (p ++ deedT a n)) w10) := Lib.hid (.inr (by rw [Lib.byteCells_append, ← HDD.out]; rw [Lib.strCells_eq] at hA10; exact hA10))
        clear hA10 hb10 ho10 HM9 HB9 HI9
        obtain ⟨hr0, hr1, hr2⟩ := HM10.out.cells
        cases c with
        | false =>
          go_wp2_with fail
          go_roundw
          case rel => exact ⟨k + 1, by omega, by go_num, HB10.out, by rw [HT2.out, if_neg (by simp), List.append_nil]; exact HI10.out⟩
          case measure => simp [intOf]; omega
        | true =>
          go_wp2_with fail
          refine (writeByte_any w.heap.size w.heap.size _ 99 _ HI10.out (by have := HPL.out; have := HDS.out; have h := congrArg List.length HDD.out; simp at h; rw [Lib.byteCells_length, List.length_append]; omega) (by omega)).mono ?_
          rintro e w11 ⟨rfl, hA11, hb11, _⟩
          have HB11 := Lib.hid (HB10.out.trans hb11)
          have HI11 : Hid (Lib.IsBuilderF 38 5 w.heap.size w.heap.size (Lib.byteCells (fmTo ms (k + 1))) w11) := Lib.hid (.inr (by rw [HT2.out]; simp only [if_true]; rw [Lib.byteCells_append]; exact hA11))
          clear hA11 hb11
          go_wp2_with fail
          go_roundw
          case rel => exact ⟨k + 1, by omega, by go_num, HB11.out, HI11.out⟩
          case measure => simp [intOf]; omega
    · go_wp2_with fail
      refine (builtString_any w.heap.size w.heap.size _ wr hI (by omega)).mono ?_
      rintro e w6 ⟨rfl, _, hb6, _⟩
      have hkn' : k = ms.length := by omega
      subst hkn'
      have hb6' := hb.trans hb6
      go_wp2_with fail
      go_ret
      exact ⟨by rw [HR.out]; rfl, hb6'⟩

end Go.Proofs.YtgenhkmlnflnfaaDoor
