/- The text of a net, by the model and by the program. -/
import Derived.Test.YteioelbpnhcakaaNameL
import Derived.Test.YteioelbpnhcakaaBuildS
import Derived.Test.YteioelbpnhcakaaValid
import Derived.Test.YteioelbpnhcakaaSpec2
namespace Go.Proofs.Yteioelbpnhcakaa
open Go.RowKit

/-- the text of a net up to an edge -/
def fmt (B : ByteArray) (es : List (ByteArray × ByteArray)) (k : Nat) : List UInt8 := B.data.toList ++ [58] ++ (es.take k).flatMap fun e => [32] ++ e.1.data.toList ++ e.2.data.toList
theorem fmt_zero (B : ByteArray) (es : List (ByteArray × ByteArray)) : fmt B es 0 = B.data.toList ++ [58] := by simp [fmt]
theorem fmt_succ {B : ByteArray} {es : List (ByteArray × ByteArray)} {k : Nat} (h : k < es.length) : fmt B es (k + 1) = fmt B es k ++ [32] ++ es[k].1.data.toList ++ es[k].2.data.toList := by
  simp only [fmt, List.take_succ_eq_append_getElem h, List.flatMap_append, List.flatMap_cons, List.flatMap_nil, List.append_nil, List.append_assoc]
theorem fmt_all (B : ByteArray) (es : List (ByteArray × ByteArray)) {k : Nat} (h : k = es.length) : fmt B es k = fmt B es es.length := by rw [h]

/-- the text of a net that is one -/
noncomputable def fmtV (B : ByteArray) (es : List (ByteArray × ByteArray)) : ByteArray := open Classical in if Valid B.data.toList (ebs es) then ⟨(fmt B es es.length).toArray⟩ else ⟨#[]⟩
theorem fmtV_yes {B : ByteArray} {es : List (ByteArray × ByteArray)} (h : Valid B.data.toList (ebs es)) : fmtV B es = ⟨(fmt B es es.length).toArray⟩ := if_pos h
theorem fmtV_no {B : ByteArray} {es : List (ByteArray × ByteArray)} (h : ¬ Valid B.data.toList (ebs es)) : fmtV B es = ⟨#[]⟩ := if_neg h

theorem valid_ones {B : ByteArray} {es : List (ByteArray × ByteArray)} (h : Valid B.data.toList (ebs es)) {k : Nat} (hk : k < es.length) : es[k].1.size = 1 ∧ es[k].2.size = 1 := by
  have hm : (es[k].1.data.toList, es[k].2.data.toList) ∈ ebs es := List.mem_map.2 ⟨es[k], List.getElem_mem hk, rfl⟩
  obtain ⟨h1, h2, _, _⟩ := h.1.2.2 _ hm
  obtain ⟨c, e1, _⟩ := bIdx_some h1
  obtain ⟨d, e2, _⟩ := bIdx_some h2
  simp only at e1 e2
  exact ⟨str_size e1, str_size e2⟩

/-- what is handed back: a text -/
def OnePost (q : ByteArray) (w : World) (e : Ending) (w' : World) : Prop := e = .returned (.string q) ∧ Below w.heap.size w w'

set_option maxRecDepth 100000 in
set_option maxHeartbeats 2000000 in
/-- spec.FormatNet -/
theorem specFormatNet_any (B : ByteArray) (A : Option Addr) (cap : Nat) (es : List (ByteArray × ByteArray)) (w : World) (hs : B.size ≤ maxLen) (hE : EdgesIn w w.heap.size A es) (hl : es.length ≤ 1099511627776) (hS : ∀ e ∈ es, e.1.size ≤ 1099511627776 ∧ e.2.size ≤ 1099511627776) :
    Calls Try.prog 39 #[.agg #[.string B, .slice A es.length cap]] w (OnePost (fmtV B es) w) := by
  have hl2 : es.length ≤ maxLen := by unfold maxLen; omega
  have HL2 := Lib.hid hl2; have HM := Lib.hid hs
  clear hl hl2 hs hS
  have hb1 : Below w.heap.size w (w.alloc (.cells #[.string B, .slice A es.length cap] 25)) := (Below.refl _ _).alloc (Nat.le_refl _) _
  have hc0 : (w.alloc (.cells #[.string B, .slice A es.length cap] 25)).cell? ⟨w.heap.size, 0, none⟩ = some (.string B) := by go_simp
  have hc1 : (w.alloc (.cells #[.string B, .slice A es.length cap] 25)).cell? ⟨w.heap.size, 1, none⟩ = some (.slice A es.length cap) := by go_simp
  by_cases hv : Valid B.data.toList (ebs es)
  case neg =>
    have HD : Hid (decB (Valid B.data.toList (ebs es)) = false) := Lib.hid (decB_f hv)
    have HN : Hid (fmtV B es = ⟨#[]⟩) := Lib.hid (fmtV_no hv)
    clear hv
    go_enter Try.func39, Try.ntmps39
    go_wp2_with fail
    refine (specValid_any B A cap es _ HM.out ((hE.below hb1).more hb1.size) HL2.out).mono ?_
    rw [HD.out]
    rintro e w2 ⟨rfl, hb2⟩
    have hb2' := hb1.trans (hb2.mono hb1.size)
    clear hb2
    go_wp2_with fail
    go_ret
    exact ⟨by rw [HN.out]; rfl, hb2'⟩
  have HD : Hid (decB (Valid B.data.toList (ebs es)) = true) := Lib.hid (decB_t hv)
  have HN : Hid (fmtV B es = ⟨(fmt B es es.length).toArray⟩) := Lib.hid (fmtV_yes hv)
  have h8 : B.size ≤ 8 := by have := hv.1.1.2.1; simpa using this
  have h16 : es.length ≤ 16 := by have := hv.1.2.1; simpa [ebs] using this
  have HO : Hid (∀ k, (h : k < es.length) → es[k].1.size = 1 ∧ es[k].2.size = 1) := Lib.hid fun k h => valid_ones hv h
  have hz0 : ¬ 9223372036854775807 < B.size + 1 := by omega
  clear hv
  go_enter Try.func39, Try.ntmps39
  go_wp2_with fail
  refine (specValid_any B A cap es _ HM.out ((hE.below hb1).more hb1.size) HL2.out).mono ?_
  rw [HD.out]
  rintro e w2 ⟨rfl, hb2⟩
  have hb2' := hb1.trans (hb2.mono hb1.size)
  have hd0 := (hb2.cell (p := ⟨w.heap.size, 0, none⟩) (by simp)).trans hc0
  have hd1 := (hb2.cell (p := ⟨w.heap.size, 1, none⟩) (by simp)).trans hc1
  clear hb2 hc0 hc1
  go_wp2_with fail
  go_loopw [3, 15] (fun out i wr => ∃ (k : Nat) (s : ByteArray), k ≤ es.length ∧ i = .int .i64 k ∧ out = .string s ∧ s.data.toList = fmt B es k ∧ s.size ≤ 9 + 3 * k ∧ Below w.heap.size w wr) (fun _ i _ => es.length - (intOf i).toNat)
  case atStart => exact ⟨0, _, Nat.zero_le _, rfl, rfl, by rw [fmt_zero]; exact Go.Joins.data_append _ _, by have : (⟨#[58]⟩ : ByteArray).size = 1 := rfl; simp; omega, hb2'⟩
  case round =>
    obtain ⟨k, s, hkn, rfl, rfl, hs, hz, hb⟩ := hrel
    have HS := Lib.hid hs
    clear hs
    by_cases hkl : k < es.length
    · obtain ⟨o1, o2⟩ := HO.out k hkl
      have z1 : ¬ 9223372036854775807 < s.size + 1 := by omega
      have z2 : ¬ 9223372036854775807 < s.size + 1 + es[k].1.size := by omega
      have z3 : ¬ 9223372036854775807 < s.size + 1 + es[k].1.size + es[k].2.size := by omega
      have HO1 := Lib.hid o1; have HO2 := Lib.hid o2; have HZ := Lib.hid hz
      clear o1 o2 hz
      obtain ⟨eb, eo, rfl, hlow, h1, h2⟩ := (hE.below hb) k hkl
      have hbn : Below w.heap.size w (wr.alloc (.cells #[.string es[k].1, .string es[k].2] 54)) := hb.alloc hb.size _
      go_wp2_with fail
      go_roundw
      case rel =>
        refine ⟨k + 1, _, by omega, by go_num, rfl, ?_, ?_, hbn⟩
        · rw [fmt_succ hkl, Go.Joins.data_append, Go.Joins.data_append, Go.Joins.data_append, HS.out]
        · have := HO1.out; have := HO2.out; have := HZ.out; have : (⟨#[32]⟩ : ByteArray).size = 1 := rfl; simp; omega
      case measure => simp [intOf]; omega
    · go_wp2_with fail
      go_ret
      have hkn' : k = es.length := by omega
      exact ⟨by rw [HN.out, ← fmt_all B es hkn', ← str_ext HS.out]; rfl, hb⟩

/-- an edge that lies in memory of its own -/
def EdgeAt (w : World) (g : Nat) (a b : ByteArray) : Prop := w.heap[g]? = some (.cells #[.string a, .string b] 54)
theorem EdgeAt.made (w : World) (a b : ByteArray) : EdgeAt (w.alloc (.cells #[.string a, .string b] 54)) w.heap.size a b := by
  unfold EdgeAt World.alloc
  simp
theorem EdgeAt.kept {w w' : World} {g bb : Nat} {a b : ByteArray} (h : EdgeAt w g a b) (k : Lib.OthersKept 5 (some bb) w w') (hg : g ≠ bb) : EdgeAt w' g a b :=
  k g _ h (fun e => hg (by injection e)) (fun c fz e => by injection e with _ e _; exact absurd e (by decide))
theorem EdgeAt.cells {w : World} {g : Nat} {a b : ByteArray} (h : EdgeAt w g a b) : w.cell? ⟨g, 0, none⟩ = some (.string a) ∧ w.cell? ⟨g, 1, none⟩ = some (.string b) := by
  unfold EdgeAt at h
  constructor <;> simp [World.cell?, h]

set_option maxRecDepth 100000 in
set_option maxHeartbeats 4000000 in
/-- impl.FormatNet -/
theorem implFormatNet_any (B : ByteArray) (A : Option Addr) (cap : Nat) (es : List (ByteArray × ByteArray)) (w : World) (hs : B.size ≤ maxLen) (hE : EdgesIn w w.heap.size A es) (hl : es.length ≤ 1099511627776) (hS : ∀ e ∈ es, e.1.size ≤ 1099511627776 ∧ e.2.size ≤ 1099511627776) :
    Calls Try.prog 40 #[.agg #[.string B, .slice A es.length cap]] w (OnePost (fmtV B es) w) := by
  have hl2 : es.length ≤ maxLen := by unfold maxLen; omega
  have HL2 := Lib.hid hl2; have HM := Lib.hid hs
  clear hl hl2 hs hS
  have hb1 : Below w.heap.size w (w.alloc (.cells #[.string B, .slice A es.length cap] 25)) := (Below.refl _ _).alloc (Nat.le_refl _) _
  have hc0 : (w.alloc (.cells #[.string B, .slice A es.length cap] 25)).cell? ⟨w.heap.size, 0, none⟩ = some (.string B) := by go_simp
  have hc1 : (w.alloc (.cells #[.string B, .slice A es.length cap] 25)).cell? ⟨w.heap.size, 1, none⟩ = some (.slice A es.length cap) := by go_simp
  by_cases hv : Valid B.data.toList (ebs es)
  case neg =>
    have HD : Hid (decB (Valid B.data.toList (ebs es)) = false) := Lib.hid (decB_f hv)
    have HN : Hid (fmtV B es = ⟨#[]⟩) := Lib.hid (fmtV_no hv)
    clear hv
    go_enter Try.func40, Try.ntmps40
    go_wp2_with fail
    refine (valid_any B A cap es _ HM.out ((hE.below hb1).more hb1.size) HL2.out).mono ?_
    rw [HD.out]
    rintro e w2 ⟨rfl, hb2⟩
    have hb2' := hb1.trans (hb2.mono hb1.size)
    clear hb2
    go_wp2_with fail
    go_ret
    exact ⟨by rw [HN.out]; rfl, hb2'⟩
  have HD : Hid (decB (Valid B.data.toList (ebs es)) = true) := Lib.hid (decB_t hv)
  have HN : Hid (fmtV B es = ⟨(fmt B es es.length).toArray⟩) := Lib.hid (fmtV_yes hv)
  have h8 : B.size ≤ 8 := by have := hv.1.1.2.1; simpa using this
  have h16 : es.length ≤ 16 := by have := hv.1.2.1; simpa [ebs] using this
  have HO : Hid (∀ k, (h : k < es.length) → es[k].1.size = 1 ∧ es[k].2.size = 1) := Lib.hid fun k h => valid_ones hv h
  have hz1 : (w.alloc (.cells #[.string B, .slice A es.length cap] 25)).heap.size = w.heap.size + 1 := by simp
  clear hv
  go_enter Try.func40, Try.ntmps40
  go_wp2_with fail
  refine (valid_any B A cap es _ HM.out ((hE.below hb1).more hb1.size) HL2.out).mono ?_
  rw [HD.out]
  rintro e w2 ⟨rfl, hb2⟩
  have hb2' := hb1.trans (hb2.mono hb1.size)
  have hd0 := (hb2.cell (p := ⟨w.heap.size, 0, none⟩) (by simp)).trans hc0
  have hd1 := (hb2.cell (p := ⟨w.heap.size, 1, none⟩) (by simp)).trans hc1
  have hz2 := hb2.size
  rw [hz1] at hz2
  clear hb2 hc0 hc1
  have hb3 : Below w2.heap.size w2 (w2.alloc (.cells #[.pointer none, .slice none 0 0] 69)) := (Below.refl _ _).alloc (Nat.le_refl _) _
  have hI3 : Lib.IsBuilderF 69 5 w2.heap.size w2.heap.size (Lib.byteCells []) (w2.alloc (.cells #[.pointer none, .slice none 0 0] 69)) := Lib.IsBuilderF.of (Lib.fresh_isBuilder 69 5 w2)
  have HI3 := Lib.hid hI3
  have hk0 := (hb3.cell (p := ⟨w.heap.size, 0, none⟩) (by simp only; omega)).trans hd0
  have hk1 := (hb3.cell (p := ⟨w.heap.size, 1, none⟩) (by simp only; omega)).trans hd1
  clear hI3
  go_wp2_with fail
  refine (writeString_any w2.heap.size w2.heap.size _ B _ HI3.out (by rw [Lib.byteCells_length]; simp; omega) (by simp)).mono ?_
  rintro e w4 ⟨rfl, hA4, hb4, _⟩
  have hb4' := hb2'.trans ((hb3.trans hb4).mono hb2'.size)
  have hx4 := hb3.trans hb4
  have hf0 := (hx4.cell (p := ⟨w.heap.size, 0, none⟩) (by simp only; omega)).trans hd0
  have hf1 := (hx4.cell (p := ⟨w.heap.size, 1, none⟩) (by simp only; omega)).trans hd1
  have hz4 := hx4.size
  have HI4 : Hid (Lib.IsBuilderF 69 5 w2.heap.size w2.heap.size (Lib.byteCells B.data.toList) w4) := Lib.hid (.inr (by rw [Lib.strCells_eq] at hA4; simpa [Lib.byteCells] using hA4))
  clear hA4 hb4 hd0 hd1 hk0 hk1
  go_wp2_with fail
  refine (writeByte_any w2.heap.size w2.heap.size _ 58 _ HI4.out (by rw [Lib.byteCells_length]; simp; omega) hz4).mono ?_
  rintro e w5 ⟨rfl, hA5, hb5, _⟩
  have hb5' := hb4'.trans (hb5.mono hb2'.size)
  have hg0 := (hb5.cell (p := ⟨w.heap.size, 0, none⟩) (by simp only; omega)).trans hf0
  have hg1 := (hb5.cell (p := ⟨w.heap.size, 1, none⟩) (by simp only; omega)).trans hf1
  have HI5 : Hid (Lib.IsBuilderF 69 5 w2.heap.size w2.heap.size (Lib.byteCells (fmt B es 0)) w5) := Lib.hid (.inr (by rw [fmt_zero, Lib.byteCells_append]; exact hA5))
  have hz5 := Nat.le_trans hz4 hb5.size
  clear hA5 hb5 hf0 hf1
  go_wp2_with fail
  have HZ := Lib.hid hz2
  have HB2 := Lib.hid hb2'
  go_loopw [16] (fun i wr => ∃ k : Nat, k ≤ es.length ∧ i = .int .i64 k ∧ (fmt B es k).length ≤ 9 + 3 * k ∧ Below w.heap.size w wr ∧ Lib.IsBuilderF 69 5 w2.heap.size w2.heap.size (Lib.byteCells (fmt B es k)) wr) (fun i _ => es.length - (intOf i).toNat)
  case atStart => exact ⟨0, Nat.zero_le _, rfl, by rw [fmt_zero]; simp; omega, hb5', HI5.out⟩
  case round =>
    obtain ⟨k, hkn, rfl, hz, hb, hI⟩ := hrel
    have hlt := (isBuilder_lt hI).2
    by_cases hkl : k < es.length
    · obtain ⟨o1, o2⟩ := HO.out k hkl
      have HO1 := Lib.hid o1; have HO2 := Lib.hid o2; have HLZ := Lib.hid hz
      clear o1 o2 hz
      obtain ⟨eb, eo, rfl, hlow, h1, h2⟩ := (hE.below hb) k hkl
      have hbn : Below wr.heap.size wr (wr.alloc (.cells #[.string es[k].1, .string es[k].2] 54)) := (Below.refl _ _).alloc (Nat.le_refl _) _
      have HI6 := Lib.hid (hI.alloc (.cells #[.string es[k].1, .string es[k].2] 54))
      have HE6 := Lib.hid (EdgeAt.made wr es[k].1 es[k].2)
      have hz6 : (wr.alloc (.cells #[.string es[k].1, .string es[k].2] 54)).heap.size = wr.heap.size + 1 := by simp
      clear hI
      go_wp2_with fail
      generalize hW6 : wr.alloc (.cells #[.string es[k].1, .string es[k].2] 54) = w6 at hbn HI6 HE6 hz6 ⊢
      clear hW6
      refine (writeByte_any w2.heap.size w2.heap.size _ 32 _ HI6.out (by have := HLZ.out; rw [Lib.byteCells_length]; omega) (by omega)).mono ?_
      rintro e w7 ⟨rfl, hA7, hb7, ho7⟩
      have HE7 := Lib.hid (HE6.out.kept ho7 (by omega))
      obtain ⟨hp0, hp1⟩ := HE7.out.cells
      have hz7 := hb7.size
      have HI7 : Hid (Lib.IsBuilderF 69 5 w2.heap.size w2.heap.size (Lib.byteCells (fmt B es k ++ [32])) w7) := Lib.hid (.inr (by rw [Lib.byteCells_append]; exact hA7))
      clear hA7 ho7
      go_wp2_with fail
      refine (writeString_any w2.heap.size w2.heap.size _ es[k].1 _ HI7.out (by have := HLZ.out; have := HO1.out; rw [Lib.byteCells_length]; simp; omega) (by omega)).mono ?_
      rintro e w8 ⟨rfl, hA8, hb8, ho8⟩
      have HE8 := Lib.hid (HE7.out.kept ho8 (by omega))
      clear hp0 hp1
      obtain ⟨hp0, hp1⟩ := HE8.out.cells
      have hz8 := hb8.size
      have HI8 : Hid (Lib.IsBuilderF 69 5 w2.heap.size w2.heap.size (Lib.byteCells (fmt B es k ++ [32] ++ es[k].1.data.toList)) w8) := Lib.hid (.inr (by rw [Lib.byteCells_append]; exact hA8))
      clear hA8 ho8
      go_wp2_with fail
      refine (writeString_any w2.heap.size w2.heap.size _ es[k].2 _ HI8.out (by have := HLZ.out; have := HO1.out; have := HO2.out; rw [Lib.byteCells_length]; simp; omega) (by omega)).mono ?_
      rintro e w9 ⟨rfl, hA9, hb9, _⟩
      have HI9 : Hid (Lib.IsBuilderF 69 5 w2.heap.size w2.heap.size (Lib.byteCells (fmt B es (k + 1))) w9) := Lib.hid (.inr (by rw [fmt_succ hkl, Lib.byteCells_append]; exact hA9))
      have hb9' : Below w.heap.size w w9 := hb.trans ((hbn.mono hb.size).trans ((hb7.mono HB2.out.size).trans ((hb8.mono HB2.out.size).trans (hb9.mono HB2.out.size))))
      clear hA9 hb7 hb8 hb9 hp0 hp1
      go_wp2_with fail
      go_roundw
      case rel =>
        refine ⟨k + 1, by omega, by go_num, ?_, hb9', HI9.out⟩
        have := HO1.out; have := HO2.out; have := HLZ.out
        rw [fmt_succ hkl]; simp; omega
      case measure => simp [intOf]; omega
    · go_wp2_with fail
      refine (builtString_any w2.heap.size w2.heap.size _ wr hI (by omega)).mono ?_
      rintro e w6 ⟨rfl, _, hb6, _⟩
      have hkn' : k = es.length := by omega
      subst hkn'
      have hb6' := hb.trans (hb6.mono HB2.out.size)
      go_wp2_with fail
      go_ret
      exact ⟨by rw [HN.out]; rfl, hb6'⟩

end Go.Proofs.Yteioelbpnhcakaa
