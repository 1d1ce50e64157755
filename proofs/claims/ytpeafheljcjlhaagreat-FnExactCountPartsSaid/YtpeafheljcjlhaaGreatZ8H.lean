/- Heads and tails by both. -/
import Derived.Test.YtpeafheljcjlhaaGreatBackE
import Derived.Test.YtpeafheljcjlhaaGreatAny
import Derived.Test.YtpeafheljcjlhaaGreatBlocksWith
import Derived.Test.YtpeafheljcjlhaaGreatInI
import Derived.Test.YtpeafheljcjlhaaGreatSorted
import Derived.Test.YtpeafheljcjlhaaGreatOutI
import Derived.Deep.RegionHeld3
namespace Go.Proofs.YtpeafheljcjlhaaGreat
open Go.RowKit
set_option linter.unusedVariables false
set_option linter.unusedSimpArgs false

/-- the letter of that end of an edge -/
def headsEnd (es : List (ByteArray × ByteArray)) (i : Nat) : UInt8 := ((ebs es).getD i ([], [])).2.headD 0
/-- one of the edges at a block leads back -/
def headsP (B : ByteArray) (es : List (ByteArray × ByteArray)) (c : UInt8) : Bool := (names (intoB es ⟨#[c]⟩) es.length).any fun x => (names (backP B es) es.length).contains x
noncomputable def headsV (B : ByteArray) (es : List (ByteArray × ByteArray)) : ByteArray × Bool := textV (Valid B.data.toList (ebs es)) (B.data.toList.filter (headsP B es))

/-- the letters of that end of so many edges -/
def headsL (es : List (ByteArray × ByteArray)) (is : List Nat) : List UInt8 := is.map (headsEnd es)
theorem heads_iff {B : ByteArray} {es : List (ByteArray × ByteArray)} (hF : Facts B es) (c : UInt8) : headsP B es c = inB (headsL es ((List.range es.length).filter (backP B es))) c := by
  have h16 := hF.few
  have hat : ∀ i, i < es.length → (intoB es ⟨#[c]⟩ i = true ↔ headsEnd es i = c) := fun i hi => by
    obtain ⟨x, y, he, h1, h2, _, _⟩ := edge_letters hF.lets hi
    rw [intoB_at hi, Lib.toList_data, Lib.toList_data, h2]
    have : headsEnd es i = y := by simp [headsEnd, List.getD, he]
    rw [this]
    simp
  rw [Bool.eq_iff_iff, inB_iff]
  unfold headsP headsL
  rw [List.any_eq_true, List.mem_map]
  constructor
  · rintro ⟨x, hx, hb⟩
    unfold names at hx
    obtain ⟨i, hi, rfl⟩ := List.mem_map.1 hx
    obtain ⟨h1, h2⟩ := List.mem_filter.1 hi
    have hil : i < es.length := by simpa using h1
    have hb2 := (mem_names (by omega) hil).1 (List.contains_iff_mem.1 hb)
    exact ⟨i, List.mem_filter.2 ⟨h1, hb2⟩, (hat i hil).1 h2⟩
  · rintro ⟨i, hi, hc⟩
    obtain ⟨h1, h2⟩ := List.mem_filter.1 hi
    have hil : i < es.length := by simpa using h1
    exact ⟨nameOf i, (mem_names (by omega) hil).2 ((hat i hil).2 hc), List.contains_iff_mem.2 ((mem_names (by omega) hil).2 h2)⟩

theorem ascii_namesIn (p : Nat → Bool) {n : Nat} (hn : n ≤ 16) : ∀ b ∈ names p n, b.toNat < 128 := by
  intro b hb
  unfold names at hb
  obtain ⟨i, hi, rfl⟩ := List.mem_map.1 hb
  have : i < n := by simpa using (List.mem_filter.1 hi).1
  rw [nameOf_toNat (by omega)]; omega

set_option maxRecDepth 100000 in
/-- impl.HeadsOf$1 -/
theorem headsKeep_any (s chars : ByteArray) (b : Nat) (w : World) (hs : s.size < 4294967281) (hcs : chars.size < 4294967281) (has : ∀ b ∈ s.data.toList, b.toNat < 128) (hac : ∀ b ∈ chars.data.toList, b.toNat < 128) (hb : w.cell? ⟨b, 0, none⟩ = some (.string chars)) :
    Calls Tryz.prog 125 (#[.string s] ++ #[.pointer (some ⟨b, 0, none⟩)]) w fun e w' => e = .returned (.bool (s.data.toList.any fun c => chars.data.toList.contains c)) ∧ Below w.heap.size w w' := by
  obtain ⟨v, hv⟩ : ∃ v, (s.data.toList.any fun c => chars.data.toList.contains c) = v := ⟨_, rfl⟩
  have HC : Hid (∀ W : World, Calls Tryz.prog 126 #[.string s, .string chars] W fun e w' => e = .returned (.bool v) ∧ Below W.heap.size W w') := Lib.hid fun W => by
    rw [← hv]; exact containsAny_any s chars W hs hcs has hac
  rw [hv]
  clear hv hs hcs has hac
  go_enter Tryz.func125, Tryz.ntmps125
  go_wp2_with fail
  refine (HC.out _).mono ?_
  rintro e w2 ⟨rfl, hb2⟩
  go_wp2_with fail
  go_ret
  exact ⟨rfl, hb2⟩

set_option maxRecDepth 100000 in
set_option maxHeartbeats 2000000 in
/-- impl.HeadsOf -/
theorem implHeadsOf_any (B : ByteArray) (A : Option Addr) (cap : Nat) (es : List (ByteArray × ByteArray)) (w : World) (hs : B.size ≤ maxLen) (hE : EdgesIn w w.heap.size A es) (hl : es.length ≤ 1099511627776) (hS : ∀ e ∈ es, e.1.size ≤ 1099511627776 ∧ e.2.size ≤ 1099511627776) :
    Calls Tryz.prog 96 #[.agg #[.string B, .slice A es.length cap]] w (TextPost (headsV B es) w) := by
  have HL := Lib.hid hl; have HM := Lib.hid hs; have HS := Lib.hid hS
  clear hl hs hS
  have hb1 : Below w.heap.size w (w.alloc (.cells #[.string B, .slice A es.length cap] 31)) := (Below.refl _ _).alloc (Nat.le_refl _) _
  have t1 := Two.made w B A es.length cap 31
  have hz1 : (w.alloc (.cells #[.string B, .slice A es.length cap] 31)).heap.size = w.heap.size + 1 := by simp
  obtain ⟨q, hq⟩ : ∃ q, backV B es = q := ⟨_, rfl⟩
  have HB : Hid (∀ W : World, EdgesIn W W.heap.size A es → Calls Tryz.prog 122 #[.agg #[.string B, .slice A es.length cap]] W fun e w' => e = .returned (.tuple #[.string q.1, .bool q.2]) ∧ Below W.heap.size W w') := Lib.hid fun W h => by
    have := implBackEdges_any B A cap es W HM.out h HL.out HS.out
    rwa [hq] at this
  have HQ := Lib.hid hq
  clear hq
  go_enter Tryz.func96, Tryz.ntmps96
  go_wp2_with fail
  refine (HB.out _ ((hE.below hb1).more hb1.size)).mono ?_
  rintro e w2 ⟨rfl, hb2⟩
  have hb2' := hb1.trans (hb2.mono hb1.size)
  have t2 := t1.below hb2 (by omega)
  have hz2 := hb2.size
  have hb3 : Below w2.heap.size w2 (w2.alloc (.cells #[.string q.1] 9)) := (Below.refl _ _).alloc (Nat.le_refl _) _
  have t3 := t2.below hb3 (by omega)
  have c3 : (w2.alloc (.cells #[.string q.1] 9)).cell? ⟨w2.heap.size, 0, none⟩ = some (.string q.1) := by go_simp
  have hz3 : (w2.alloc (.cells #[.string q.1] 9)).heap.size = w2.heap.size + 1 := by simp
  have hb3' := hb2'.trans (hb3.mono hb2'.size)
  have hd0 := t3.1; have hd1 := t3.2
  clear hb2 t1 t2 hb1 HB t3 hb3
  go_wp2_with fail
  refine (blocksWith_any B A cap es 124 125 #[.pointer (some ⟨w2.heap.size, 0, none⟩)] (fun c => ⟨(names (intoB es ⟨#[c]⟩) es.length).toArray⟩) (headsP B es) _ HM.out ((hE.below hb3').more hb3'.size) HL.out
    (enters_of Tryz.func124 (by kernel_rfl) rfl) (enters_of Tryz.func125 (by kernel_rfl) rfl) (fun hv c W hc hb => ?_) (fun hv c W _ hb => ?_)).mono ?_
  · refine (implInOf_any B A cap es ⟨#[c]⟩ W HM.out (((hE.below hb3').below (hb.mono hb3'.size)).more (Nat.le_trans hb3'.size hb.size)) HL.out HS.out).mono ?_
    rintro e W' ⟨he, hb'⟩
    refine ⟨?_, hb'⟩
    rw [he]
    have : intoV B es ⟨#[c]⟩ = (⟨(names (intoB es ⟨#[c]⟩) es.length).toArray⟩, true) := textV_yes ⟨hv, indexByte_nonneg.2 hc⟩
    rw [this]
  · have h16 : es.length ≤ 16 := (valid_sizes hv).2
    have hn := names_length (intoB es ⟨#[c]⟩) es.length
    have hn2 := names_length (backP B es) es.length
    have hq1 : q.1 = ⟨(names (backP B es) es.length).toArray⟩ := by
      have : backV B es = (⟨(names (backP B es) es.length).toArray⟩, true) := textV_yes hv
      rw [← HQ.out, this]
    rw [hq1] at c3 hb
    refine (headsKeep_any ⟨(names (intoB es ⟨#[c]⟩) es.length).toArray⟩ ⟨(names (backP B es) es.length).toArray⟩ w2.heap.size W (by rw [size_mk]; omega) (by rw [size_mk]; omega) (ascii_namesIn _ h16) (ascii_namesIn _ h16) ((hb.cell (by simp only; simp)).trans c3)).mono ?_
    rintro e W' ⟨he, hb'⟩
    exact ⟨he, hb'⟩
  rintro e w4 ⟨rfl, hb4⟩
  obtain ⟨r, hr⟩ : ∃ r, textV (Valid B.data.toList (ebs es)) (B.data.toList.filter (headsP B es)) = r := ⟨_, rfl⟩
  have HR : Hid (headsV B es = r) := Lib.hid hr
  rw [hr]
  clear hr hd0 hd1 c3
  go_wp2_with fail
  go_ret2
  exact ⟨by rw [HR.out]; rfl, hb3'.trans (hb4.mono hb3'.size)⟩

end Go.Proofs.YtpeafheljcjlhaaGreat

namespace Go.Proofs.YtpeafheljcjlhaaGreat
open Go.RowKit
set_option linter.unusedVariables false
set_option linter.unusedSimpArgs false

theorem headsL_snoc (es : List (ByteArray × ByteArray)) (is : List Nat) (i : Nat) : headsL es (is ++ [i]) = headsL es is ++ [headsEnd es i] := by simp [headsL]

set_option maxRecDepth 100000 in
set_option maxHeartbeats 4000000 in
/-- spec.HeadsOf -/
theorem specHeadsOf_any (B : ByteArray) (A : Option Addr) (cap : Nat) (es : List (ByteArray × ByteArray)) (w : World) (hs : B.size ≤ maxLen) (hE : EdgesIn w w.heap.size A es) (hl : es.length ≤ 1099511627776) (hS : ∀ e ∈ es, e.1.size ≤ 1099511627776 ∧ e.2.size ≤ 1099511627776) :
    Calls Tryz.prog 72 #[.agg #[.string B, .slice A es.length cap]] w (TextPost (headsV B es) w) := by
  have HL := Lib.hid hl; have HM := Lib.hid hs; have HS := Lib.hid hS
  clear hl hs hS
  have hb1 : Below w.heap.size w (w.alloc (.cells #[.string B, .slice A es.length cap] 31)) := (Below.refl _ _).alloc (Nat.le_refl _) _
  have t1 := Two.made w B A es.length cap 31
  have hz1 : (w.alloc (.cells #[.string B, .slice A es.length cap] 31)).heap.size = w.heap.size + 1 := by simp
  by_cases hv : Valid B.data.toList (ebs es)
  case neg =>
    have HB : Hid (∀ W : World, EdgesIn W W.heap.size A es → Calls Tryz.prog 102 #[.agg #[.string B, .slice A es.length cap]] W fun e w' => e = .returned (.tuple #[.string ⟨#[]⟩, .bool false]) ∧ Below W.heap.size W w') := Lib.hid fun W h => by
      have := specBackEdges_any B A cap es W HM.out h HL.out HS.out
      have hq : backV B es = (⟨#[]⟩, false) := textV_no hv
      rwa [hq] at this
    have HN : Hid (headsV B es = (⟨#[]⟩, false)) := Lib.hid (textV_no hv)
    have HSO : Hid (∀ W : World, Calls Tryz.prog 103 #[.agg #[.string B, .slice A es.length cap], .string ⟨#[]⟩] W fun e w' => e = .returned (.string ⟨#[]⟩) ∧ Below W.heap.size W w') := Lib.hid fun W => by
      have h := l3Sorted_any B A es.length cap ⟨#[]⟩ W HM.out (by decide)
      have e : B.data.toList.filter (inB (⟨#[]⟩ : ByteArray).data.toList) = [] := List.filter_eq_nil_iff.2 fun c _ hc => by
        have := inB_iff.1 hc; simp at this
      rwa [e] at h
    clear hv
    go_enter Tryz.func72, Tryz.ntmps72
    go_wp2_with fail
    refine (HB.out _ ((hE.below hb1).more hb1.size)).mono ?_
    rintro e w2 ⟨rfl, hb2⟩
    have t2 := t1.below hb2 (by omega)
    have hb2' := hb1.trans (hb2.mono hb1.size)
    have hd0 := t2.1; have hd1 := t2.2
    clear hb2 t1 hb1
    go_wp2_with fail
    go_loopw [4, 15] (fun a c wr => c = .int .i64 0 ∧ a = .string ⟨#[]⟩ ∧ wr = w2) (fun _ c _ => 0)
    case atStart => exact ⟨rfl, rfl, rfl⟩
    case round =>
      obtain ⟨rfl, rfl, rfl⟩ := hrel
      go_wp2_with fail
      refine (HSO.out _).mono ?_
      rintro e w3 ⟨rfl, hb3⟩
      have hb3' := hb2'.trans (hb3.mono hb2'.size)
      clear hb3 hd0 hd1 t2
      go_wp2_with fail
      go_ret2
      exact ⟨by rw [HN.out]; rfl, hb3'⟩
  have hF := facts_of hv
  have h16 := hF.few
  obtain ⟨idx, hidx⟩ : ∃ idx, (List.range es.length).filter (backP B es) = idx := ⟨_, rfl⟩
  obtain ⟨bt, hbt⟩ : ∃ bt : ByteArray, (⟨(names (backP B es) es.length).toArray⟩ : ByteArray) = bt := ⟨_, rfl⟩
  have hbd : bt.data.toList = idx.map nameOf := by rw [← hbt, ← hidx]; rfl
  have hbs : bt.size = idx.length := by rw [str_size hbd]; simp
  have hil : idx.length ≤ 16 := by
    rw [← hidx]
    exact Nat.le_trans (List.length_filter_le _ _) (by simpa using h16)
  have him : ∀ i ∈ idx, i < es.length := fun i hi => by rw [← hidx] at hi; simpa using (List.mem_filter.1 hi).1
  have HB : Hid (∀ W : World, EdgesIn W W.heap.size A es → Calls Tryz.prog 102 #[.agg #[.string B, .slice A es.length cap]] W fun e w' => e = .returned (.tuple #[.string bt, .bool true]) ∧ Below W.heap.size W w') := Lib.hid fun W h => by
    have := specBackEdges_any B A cap es W HM.out h HL.out HS.out
    have hq : backV B es = (bt, true) := by rw [← hbt]; exact textV_yes hv
    rwa [hq] at this
  have HN : Hid (headsV B es = (⟨(B.data.toList.filter (inB (headsL es idx))).toArray⟩, true)) := Lib.hid (by
    have e : headsP B es = inB (headsL es idx) := funext fun c => by rw [heads_iff hF, hidx]
    rw [← e]; exact textV_yes hv)
  have HBD := Lib.hid hbd; have HBS := Lib.hid hbs; have HIM := Lib.hid him; have HLE := Lib.hid hF.lets
  clear hv hidx hbt hbd hbs him hF
  go_enter Tryz.func72, Tryz.ntmps72
  go_wp2_with fail
  refine (HB.out _ ((hE.below hb1).more hb1.size)).mono ?_
  rintro e w2 ⟨rfl, hb2⟩
  have t2 := t1.below hb2 (by omega)
  have hz2 : w.heap.size + 1 ≤ w2.heap.size := by have := hb2.size; omega
  have hb2' := hb1.trans (hb2.mono hb1.size)
  clear hb2 t1 hb1 hz1 HB
  go_wp2_with fail
  go_loopw [4, 15] (fun a c wr => ∃ (k : Nat) (s : ByteArray), k ≤ bt.size ∧ c = .int .i64 k ∧ a = .string s ∧ s.data.toList = headsL es (idx.take k) ∧ Below w2.heap.size w2 wr) (fun _ c _ => bt.size - (intOf c).toNat)
  case atStart => exact ⟨0, ⟨#[]⟩, Nat.zero_le _, rfl, rfl, rfl, Below.refl _ _⟩
  case round =>
    obtain ⟨k, s, hk, rfl, rfl, hsv, hb⟩ := hrel
    have HSV := Lib.hid hsv; have HBW := Lib.hid hb
    have tr := t2.below hb (by omega)
    have hzr := hb.size
    have hss : s.size ≤ 16 := by
      rw [str_size hsv]
      have : (idx.take k).length ≤ idx.length := by simp; omega
      simp only [headsL, List.length_map]; omega
    clear hsv hb
    by_cases hlt : k < bt.size
    case neg =>
      have hke : idx.take k = idx := List.take_of_length_le (by have := HBS.out; omega)
      have HSE : Hid (s.data.toList = headsL es idx) := Lib.hid (by rw [HSV.out, hke])
      have HSO : Hid (∀ W : World, Calls Tryz.prog 103 #[.agg #[.string B, .slice A es.length cap], .string s] W fun e w' => e = .returned (.string ⟨(B.data.toList.filter (inB (headsL es idx))).toArray⟩) ∧ Below W.heap.size W w') := Lib.hid fun W => by
        have h := l3Sorted_any B A es.length cap s W HM.out (by omega)
        rwa [HSE.out] at h
      have hd0 := tr.1; have hd1 := tr.2
      clear hke tr
      go_wp2_with fail
      refine (HSO.out _).mono ?_
      rintro e w3 ⟨rfl, hb3⟩
      have hb3' := hb2'.trans ((HBW.out.trans (hb3.mono (by omega))).mono (show w.heap.size ≤ w2.heap.size by omega))
      clear hb3 hd0 hd1
      go_wp2_with fail
      go_ret2
      exact ⟨by rw [HN.out]; rfl, hb3'⟩
    have hko : k < idx.length := by have := HBS.out; omega
    obtain ⟨ix, hix⟩ : ∃ ix, idx[k] = ix := ⟨_, rfl⟩
    have hixl : ix < es.length := HIM.out ix (by rw [← hix]; exact List.getElem_mem hko)
    have htk : idx.take (k + 1) = idx.take k ++ [ix] := by rw [List.take_succ_eq_append_getElem hko, hix]
    have hel : (bt.extract k (k + 1)).data.toList = [nameOf ix] := by
      rw [letter_at hlt, HBD.out]
      simp [List.getD, hko, hix]
    obtain ⟨x, y, he, h1, h2, _, _⟩ := edge_letters HLE.out hixl
    have HEND : Hid (headsEnd es ix = y) := Lib.hid (by simp [headsEnd, List.getD, he])
    have HTK := Lib.hid htk
    have H1 := Lib.hid h1; have H2 := Lib.hid h2
    have HX : Hid (eIdx es.length (bt.extract k (k + 1)).data.toList = ix) := Lib.hid (by rw [hel]; exact eIdx_name hixl (by omega))
    have hbw := hb2'.trans (HBW.out.mono (show w.heap.size ≤ w2.heap.size by omega))
    have HA : Hid (EdgesIn wr.drew wr.drew.heap.size A es) := Lib.hid ((hE.below hbw.drew).more hbw.drew.size)
    have hS : ∀ W, Below wr.heap.size wr W → (W.cell? ⟨w.heap.size, 0, none⟩ = some (.string B) ∧ W.cell? ⟨w.heap.size, 1, none⟩ = some (.slice A es.length cap) ∧ Below wr.heap.size wr W) :=
      fun W h => ⟨(h.cell (by simp only; omega)).trans tr.1, (h.cell (by simp only; omega)).trans tr.2, h⟩
    have HSS := Lib.hid hS
    have hsz : ¬ 9223372036854775807 < s.size + (⟨#[y]⟩ : ByteArray).size := by
      have : (⟨#[y]⟩ : ByteArray).size = 1 := rfl
      omega
    have hsz2 : ¬ 9223372036854775807 < s.size + 1 := by omega
    have hsz3 : s.size + 1 ≤ 9223372036854775807 := by omega
    clear hix htk hel he h1 h2 hbw hS tr
    have a1 : (0 : Int) ≤ (k : Int) := by omega
    have a2 : (k : Int) < (bt.size : Int) := by omega
    have a4 : (0 : Int) ≤ (k : Int) + 1 := by omega
    have a5 : ((k : Int) + 1).toNat = k + 1 := by omega
    have a6 : (k : Int) + 1 ≤ (bt.size : Int) := by omega
    have a7 : k + 1 ≤ bt.size := by omega
    have a8 : (k : Int) ≤ (k : Int) + 1 := by omega
    have a3 : IntKind.i64.wrap ((k : Int) + 1) = (k : Int) + 1 := IntWalk.i64_in _ (by omega)
    have e1 := edge_from; have e2 := edge_to
    go_wp2_with fail
    go_region_held3 (fun W => W.cell? ⟨w.heap.size, 0, none⟩ = some (.string B) ∧ W.cell? ⟨w.heap.size, 1, none⟩ = some (.slice A es.length cap) ∧ Below wr.heap.size wr W)
      (first
        | exact HSS.out _ (Below.refl _ _).drew
        | exact HSS.out _ ((Below.refl _ _).drew.trans hb4))
      (first
        | (go_at_call 47; refine (l2Edge_any B A cap es _ ix _ HA.out HL.out hixl HX.out).mono ?_; rw [H1.out, H2.out]; rintro e w4 ⟨rfl, hb4⟩))
    rename_i hHeld
    have HB4 := Lib.hid (HBW.out.trans (hHeld.2.2.mono (by omega)))
    clear hHeld HSS HA hb4 a1 a2 a3 a4 a5 a6 a7 a8 e1 e2
    go_wp2_with fail
    go_roundw
    case rel => exact ⟨k + 1, _, by omega, by go_num, rfl, by rw [HTK.out, headsL_snoc, HEND.out]; exact str_snoc HSV.out, HB4.out⟩
    case measure => simp [intOf]; omega

end Go.Proofs.YtpeafheljcjlhaaGreat

namespace Go.Proofs.YtpeafheljcjlhaaGreat
open Go.RowKit
set_option linter.unusedVariables false
set_option linter.unusedSimpArgs false

/-- the letter of that end of an edge -/
def tailsEnd (es : List (ByteArray × ByteArray)) (i : Nat) : UInt8 := ((ebs es).getD i ([], [])).1.headD 0
/-- one of the edges at a block leads back -/
def tailsP (B : ByteArray) (es : List (ByteArray × ByteArray)) (c : UInt8) : Bool := (names (outB es ⟨#[c]⟩) es.length).any fun x => (names (backP B es) es.length).contains x
noncomputable def tailsV (B : ByteArray) (es : List (ByteArray × ByteArray)) : ByteArray × Bool := textV (Valid B.data.toList (ebs es)) (B.data.toList.filter (tailsP B es))

/-- the letters of that end of so many edges -/
def tailsL (es : List (ByteArray × ByteArray)) (is : List Nat) : List UInt8 := is.map (tailsEnd es)
theorem tails_iff {B : ByteArray} {es : List (ByteArray × ByteArray)} (hF : Facts B es) (c : UInt8) : tailsP B es c = inB (tailsL es ((List.range es.length).filter (backP B es))) c := by
  have h16 := hF.few
  have hat : ∀ i, i < es.length → (outB es ⟨#[c]⟩ i = true ↔ tailsEnd es i = c) := fun i hi => by
    obtain ⟨x, y, he, h1, h2, _, _⟩ := edge_letters hF.lets hi
    rw [outB_at hi, Lib.toList_data, Lib.toList_data, h1]
    have : tailsEnd es i = x := by simp [tailsEnd, List.getD, he]
    rw [this]
    simp
  rw [Bool.eq_iff_iff, inB_iff]
  unfold tailsP tailsL
  rw [List.any_eq_true, List.mem_map]
  constructor
  · rintro ⟨x, hx, hb⟩
    unfold names at hx
    obtain ⟨i, hi, rfl⟩ := List.mem_map.1 hx
    obtain ⟨h1, h2⟩ := List.mem_filter.1 hi
    have hil : i < es.length := by simpa using h1
    have hb2 := (mem_names (by omega) hil).1 (List.contains_iff_mem.1 hb)
    exact ⟨i, List.mem_filter.2 ⟨h1, hb2⟩, (hat i hil).1 h2⟩
  · rintro ⟨i, hi, hc⟩
    obtain ⟨h1, h2⟩ := List.mem_filter.1 hi
    have hil : i < es.length := by simpa using h1
    exact ⟨nameOf i, (mem_names (by omega) hil).2 ((hat i hil).2 hc), List.contains_iff_mem.2 ((mem_names (by omega) hil).2 h2)⟩

theorem ascii_namesOut (p : Nat → Bool) {n : Nat} (hn : n ≤ 16) : ∀ b ∈ names p n, b.toNat < 128 := by
  intro b hb
  unfold names at hb
  obtain ⟨i, hi, rfl⟩ := List.mem_map.1 hb
  have : i < n := by simpa using (List.mem_filter.1 hi).1
  rw [nameOf_toNat (by omega)]; omega

set_option maxRecDepth 100000 in
/-- impl.TailsOf$1 -/
theorem tailsKeep_any (s chars : ByteArray) (b : Nat) (w : World) (hs : s.size < 4294967281) (hcs : chars.size < 4294967281) (has : ∀ b ∈ s.data.toList, b.toNat < 128) (hac : ∀ b ∈ chars.data.toList, b.toNat < 128) (hb : w.cell? ⟨b, 0, none⟩ = some (.string chars)) :
    Calls Tryz.prog 128 (#[.string s] ++ #[.pointer (some ⟨b, 0, none⟩)]) w fun e w' => e = .returned (.bool (s.data.toList.any fun c => chars.data.toList.contains c)) ∧ Below w.heap.size w w' := by
  obtain ⟨v, hv⟩ : ∃ v, (s.data.toList.any fun c => chars.data.toList.contains c) = v := ⟨_, rfl⟩
  have HC : Hid (∀ W : World, Calls Tryz.prog 126 #[.string s, .string chars] W fun e w' => e = .returned (.bool v) ∧ Below W.heap.size W w') := Lib.hid fun W => by
    rw [← hv]; exact containsAny_any s chars W hs hcs has hac
  rw [hv]
  clear hv hs hcs has hac
  go_enter Tryz.func128, Tryz.ntmps128
  go_wp2_with fail
  refine (HC.out _).mono ?_
  rintro e w2 ⟨rfl, hb2⟩
  go_wp2_with fail
  go_ret
  exact ⟨rfl, hb2⟩

set_option maxRecDepth 100000 in
set_option maxHeartbeats 2000000 in
/-- impl.TailsOf -/
theorem implTailsOf_any (B : ByteArray) (A : Option Addr) (cap : Nat) (es : List (ByteArray × ByteArray)) (w : World) (hs : B.size ≤ maxLen) (hE : EdgesIn w w.heap.size A es) (hl : es.length ≤ 1099511627776) (hS : ∀ e ∈ es, e.1.size ≤ 1099511627776 ∧ e.2.size ≤ 1099511627776) :
    Calls Tryz.prog 97 #[.agg #[.string B, .slice A es.length cap]] w (TextPost (tailsV B es) w) := by
  have HL := Lib.hid hl; have HM := Lib.hid hs; have HS := Lib.hid hS
  clear hl hs hS
  have hb1 : Below w.heap.size w (w.alloc (.cells #[.string B, .slice A es.length cap] 31)) := (Below.refl _ _).alloc (Nat.le_refl _) _
  have t1 := Two.made w B A es.length cap 31
  have hz1 : (w.alloc (.cells #[.string B, .slice A es.length cap] 31)).heap.size = w.heap.size + 1 := by simp
  obtain ⟨q, hq⟩ : ∃ q, backV B es = q := ⟨_, rfl⟩
  have HB : Hid (∀ W : World, EdgesIn W W.heap.size A es → Calls Tryz.prog 122 #[.agg #[.string B, .slice A es.length cap]] W fun e w' => e = .returned (.tuple #[.string q.1, .bool q.2]) ∧ Below W.heap.size W w') := Lib.hid fun W h => by
    have := implBackEdges_any B A cap es W HM.out h HL.out HS.out
    rwa [hq] at this
  have HQ := Lib.hid hq
  clear hq
  go_enter Tryz.func97, Tryz.ntmps97
  go_wp2_with fail
  refine (HB.out _ ((hE.below hb1).more hb1.size)).mono ?_
  rintro e w2 ⟨rfl, hb2⟩
  have hb2' := hb1.trans (hb2.mono hb1.size)
  have t2 := t1.below hb2 (by omega)
  have hz2 := hb2.size
  have hb3 : Below w2.heap.size w2 (w2.alloc (.cells #[.string q.1] 9)) := (Below.refl _ _).alloc (Nat.le_refl _) _
  have t3 := t2.below hb3 (by omega)
  have c3 : (w2.alloc (.cells #[.string q.1] 9)).cell? ⟨w2.heap.size, 0, none⟩ = some (.string q.1) := by go_simp
  have hz3 : (w2.alloc (.cells #[.string q.1] 9)).heap.size = w2.heap.size + 1 := by simp
  have hb3' := hb2'.trans (hb3.mono hb2'.size)
  have hd0 := t3.1; have hd1 := t3.2
  clear hb2 t1 t2 hb1 HB t3 hb3
  go_wp2_with fail
  refine (blocksWith_any B A cap es 127 128 #[.pointer (some ⟨w2.heap.size, 0, none⟩)] (fun c => ⟨(names (outB es ⟨#[c]⟩) es.length).toArray⟩) (tailsP B es) _ HM.out ((hE.below hb3').more hb3'.size) HL.out
    (enters_of Tryz.func127 (by kernel_rfl) rfl) (enters_of Tryz.func128 (by kernel_rfl) rfl) (fun hv c W hc hb => ?_) (fun hv c W _ hb => ?_)).mono ?_
  · refine (implOutOf_any B A cap es ⟨#[c]⟩ W HM.out (((hE.below hb3').below (hb.mono hb3'.size)).more (Nat.le_trans hb3'.size hb.size)) HL.out HS.out).mono ?_
    rintro e W' ⟨he, hb'⟩
    refine ⟨?_, hb'⟩
    rw [he]
    have : outV B es ⟨#[c]⟩ = (⟨(names (outB es ⟨#[c]⟩) es.length).toArray⟩, true) := textV_yes ⟨hv, indexByte_nonneg.2 hc⟩
    rw [this]
  · have h16 : es.length ≤ 16 := (valid_sizes hv).2
    have hn := names_length (outB es ⟨#[c]⟩) es.length
    have hn2 := names_length (backP B es) es.length
    have hq1 : q.1 = ⟨(names (backP B es) es.length).toArray⟩ := by
      have : backV B es = (⟨(names (backP B es) es.length).toArray⟩, true) := textV_yes hv
      rw [← HQ.out, this]
    rw [hq1] at c3 hb
    refine (tailsKeep_any ⟨(names (outB es ⟨#[c]⟩) es.length).toArray⟩ ⟨(names (backP B es) es.length).toArray⟩ w2.heap.size W (by rw [size_mk]; omega) (by rw [size_mk]; omega) (ascii_namesOut _ h16) (ascii_namesOut _ h16) ((hb.cell (by simp only; simp)).trans c3)).mono ?_
    rintro e W' ⟨he, hb'⟩
    exact ⟨he, hb'⟩
  rintro e w4 ⟨rfl, hb4⟩
  obtain ⟨r, hr⟩ : ∃ r, textV (Valid B.data.toList (ebs es)) (B.data.toList.filter (tailsP B es)) = r := ⟨_, rfl⟩
  have HR : Hid (tailsV B es = r) := Lib.hid hr
  rw [hr]
  clear hr hd0 hd1 c3
  go_wp2_with fail
  go_ret2
  exact ⟨by rw [HR.out]; rfl, hb3'.trans (hb4.mono hb3'.size)⟩

end Go.Proofs.YtpeafheljcjlhaaGreat

namespace Go.Proofs.YtpeafheljcjlhaaGreat
open Go.RowKit
set_option linter.unusedVariables false
set_option linter.unusedSimpArgs false

theorem tailsL_snoc (es : List (ByteArray × ByteArray)) (is : List Nat) (i : Nat) : tailsL es (is ++ [i]) = tailsL es is ++ [tailsEnd es i] := by simp [tailsL]

set_option maxRecDepth 100000 in
set_option maxHeartbeats 4000000 in
/-- spec.TailsOf -/
theorem specTailsOf_any (B : ByteArray) (A : Option Addr) (cap : Nat) (es : List (ByteArray × ByteArray)) (w : World) (hs : B.size ≤ maxLen) (hE : EdgesIn w w.heap.size A es) (hl : es.length ≤ 1099511627776) (hS : ∀ e ∈ es, e.1.size ≤ 1099511627776 ∧ e.2.size ≤ 1099511627776) :
    Calls Tryz.prog 73 #[.agg #[.string B, .slice A es.length cap]] w (TextPost (tailsV B es) w) := by
  have HL := Lib.hid hl; have HM := Lib.hid hs; have HS := Lib.hid hS
  clear hl hs hS
  have hb1 : Below w.heap.size w (w.alloc (.cells #[.string B, .slice A es.length cap] 31)) := (Below.refl _ _).alloc (Nat.le_refl _) _
  have t1 := Two.made w B A es.length cap 31
  have hz1 : (w.alloc (.cells #[.string B, .slice A es.length cap] 31)).heap.size = w.heap.size + 1 := by simp
  by_cases hv : Valid B.data.toList (ebs es)
  case neg =>
    have HB : Hid (∀ W : World, EdgesIn W W.heap.size A es → Calls Tryz.prog 102 #[.agg #[.string B, .slice A es.length cap]] W fun e w' => e = .returned (.tuple #[.string ⟨#[]⟩, .bool false]) ∧ Below W.heap.size W w') := Lib.hid fun W h => by
      have := specBackEdges_any B A cap es W HM.out h HL.out HS.out
      have hq : backV B es = (⟨#[]⟩, false) := textV_no hv
      rwa [hq] at this
    have HN : Hid (tailsV B es = (⟨#[]⟩, false)) := Lib.hid (textV_no hv)
    have HSO : Hid (∀ W : World, Calls Tryz.prog 103 #[.agg #[.string B, .slice A es.length cap], .string ⟨#[]⟩] W fun e w' => e = .returned (.string ⟨#[]⟩) ∧ Below W.heap.size W w') := Lib.hid fun W => by
      have h := l3Sorted_any B A es.length cap ⟨#[]⟩ W HM.out (by decide)
      have e : B.data.toList.filter (inB (⟨#[]⟩ : ByteArray).data.toList) = [] := List.filter_eq_nil_iff.2 fun c _ hc => by
        have := inB_iff.1 hc; simp at this
      rwa [e] at h
    clear hv
    go_enter Tryz.func73, Tryz.ntmps73
    go_wp2_with fail
    refine (HB.out _ ((hE.below hb1).more hb1.size)).mono ?_
    rintro e w2 ⟨rfl, hb2⟩
    have t2 := t1.below hb2 (by omega)
    have hb2' := hb1.trans (hb2.mono hb1.size)
    have hd0 := t2.1; have hd1 := t2.2
    clear hb2 t1 hb1
    go_wp2_with fail
    go_loopw [4, 15] (fun a c wr => c = .int .i64 0 ∧ a = .string ⟨#[]⟩ ∧ wr = w2) (fun _ c _ => 0)
    case atStart => exact ⟨rfl, rfl, rfl⟩
    case round =>
      obtain ⟨rfl, rfl, rfl⟩ := hrel
      go_wp2_with fail
      refine (HSO.out _).mono ?_
      rintro e w3 ⟨rfl, hb3⟩
      have hb3' := hb2'.trans (hb3.mono hb2'.size)
      clear hb3 hd0 hd1 t2
      go_wp2_with fail
      go_ret2
      exact ⟨by rw [HN.out]; rfl, hb3'⟩
  have hF := facts_of hv
  have h16 := hF.few
  obtain ⟨idx, hidx⟩ : ∃ idx, (List.range es.length).filter (backP B es) = idx := ⟨_, rfl⟩
  obtain ⟨bt, hbt⟩ : ∃ bt : ByteArray, (⟨(names (backP B es) es.length).toArray⟩ : ByteArray) = bt := ⟨_, rfl⟩
  have hbd : bt.data.toList = idx.map nameOf := by rw [← hbt, ← hidx]; rfl
  have hbs : bt.size = idx.length := by rw [str_size hbd]; simp
  have hil : idx.length ≤ 16 := by
    rw [← hidx]
    exact Nat.le_trans (List.length_filter_le _ _) (by simpa using h16)
  have him : ∀ i ∈ idx, i < es.length := fun i hi => by rw [← hidx] at hi; simpa using (List.mem_filter.1 hi).1
  have HB : Hid (∀ W : World, EdgesIn W W.heap.size A es → Calls Tryz.prog 102 #[.agg #[.string B, .slice A es.length cap]] W fun e w' => e = .returned (.tuple #[.string bt, .bool true]) ∧ Below W.heap.size W w') := Lib.hid fun W h => by
    have := specBackEdges_any B A cap es W HM.out h HL.out HS.out
    have hq : backV B es = (bt, true) := by rw [← hbt]; exact textV_yes hv
    rwa [hq] at this
  have HN : Hid (tailsV B es = (⟨(B.data.toList.filter (inB (tailsL es idx))).toArray⟩, true)) := Lib.hid (by
    have e : tailsP B es = inB (tailsL es idx) := funext fun c => by rw [tails_iff hF, hidx]
    rw [← e]; exact textV_yes hv)
  have HBD := Lib.hid hbd; have HBS := Lib.hid hbs; have HIM := Lib.hid him; have HLE := Lib.hid hF.lets
  clear hv hidx hbt hbd hbs him hF
  go_enter Tryz.func73, Tryz.ntmps73
  go_wp2_with fail
  refine (HB.out _ ((hE.below hb1).more hb1.size)).mono ?_
  rintro e w2 ⟨rfl, hb2⟩
  have t2 := t1.below hb2 (by omega)
  have hz2 : w.heap.size + 1 ≤ w2.heap.size := by have := hb2.size; omega
  have hb2' := hb1.trans (hb2.mono hb1.size)
  clear hb2 t1 hb1 hz1 HB
  go_wp2_with fail
  go_loopw [4, 15] (fun a c wr => ∃ (k : Nat) (s : ByteArray), k ≤ bt.size ∧ c = .int .i64 k ∧ a = .string s ∧ s.data.toList = tailsL es (idx.take k) ∧ Below w2.heap.size w2 wr) (fun _ c _ => bt.size - (intOf c).toNat)
  case atStart => exact ⟨0, ⟨#[]⟩, Nat.zero_le _, rfl, rfl, rfl, Below.refl _ _⟩
  case round =>
    obtain ⟨k, s, hk, rfl, rfl, hsv, hb⟩ := hrel
    have HSV := Lib.hid hsv; have HBW := Lib.hid hb
    have tr := t2.below hb (by omega)
    have hzr := hb.size
    have hss : s.size ≤ 16 := by
      rw [str_size hsv]
      have : (idx.take k).length ≤ idx.length := by simp; omega
      simp only [tailsL, List.length_map]; omega
    clear hsv hb
    by_cases hlt : k < bt.size
    case neg =>
      have hke : idx.take k = idx := List.take_of_length_le (by have := HBS.out; omega)
      have HSE : Hid (s.data.toList = tailsL es idx) := Lib.hid (by rw [HSV.out, hke])
      have HSO : Hid (∀ W : World, Calls Tryz.prog 103 #[.agg #[.string B, .slice A es.length cap], .string s] W fun e w' => e = .returned (.string ⟨(B.data.toList.filter (inB (tailsL es idx))).toArray⟩) ∧ Below W.heap.size W w') := Lib.hid fun W => by
        have h := l3Sorted_any B A es.length cap s W HM.out (by omega)
        rwa [HSE.out] at h
      have hd0 := tr.1; have hd1 := tr.2
      clear hke tr
      go_wp2_with fail
      refine (HSO.out _).mono ?_
      rintro e w3 ⟨rfl, hb3⟩
      have hb3' := hb2'.trans ((HBW.out.trans (hb3.mono (by omega))).mono (show w.heap.size ≤ w2.heap.size by omega))
      clear hb3 hd0 hd1
      go_wp2_with fail
      go_ret2
      exact ⟨by rw [HN.out]; rfl, hb3'⟩
    have hko : k < idx.length := by have := HBS.out; omega
    obtain ⟨ix, hix⟩ : ∃ ix, idx[k] = ix := ⟨_, rfl⟩
    have hixl : ix < es.length := HIM.out ix (by rw [← hix]; exact List.getElem_mem hko)
    have htk : idx.take (k + 1) = idx.take k ++ [ix] := by rw [List.take_succ_eq_append_getElem hko, hix]
    have hel : (bt.extract k (k + 1)).data.toList = [nameOf ix] := by
      rw [letter_at hlt, HBD.out]
      simp [List.getD, hko, hix]
    obtain ⟨x, y, he, h1, h2, _, _⟩ := edge_letters HLE.out hixl
    have HEND : Hid (tailsEnd es ix = x) := Lib.hid (by simp [tailsEnd, List.getD, he])
    have HTK := Lib.hid htk
    have H1 := Lib.hid h1; have H2 := Lib.hid h2
    have HX : Hid (eIdx es.length (bt.extract k (k + 1)).data.toList = ix) := Lib.hid (by rw [hel]; exact eIdx_name hixl (by omega))
    have hbw := hb2'.trans (HBW.out.mono (show w.heap.size ≤ w2.heap.size by omega))
    have HA : Hid (EdgesIn wr.drew wr.drew.heap.size A es) := Lib.hid ((hE.below hbw.drew).more hbw.drew.size)
    have hS : ∀ W, Below wr.heap.size wr W → (W.cell? ⟨w.heap.size, 0, none⟩ = some (.string B) ∧ W.cell? ⟨w.heap.size, 1, none⟩ = some (.slice A es.length cap) ∧ Below wr.heap.size wr W) :=
      fun W h => ⟨(h.cell (by simp only; omega)).trans tr.1, (h.cell (by simp only; omega)).trans tr.2, h⟩
    have HSS := Lib.hid hS
    have hsz : ¬ 9223372036854775807 < s.size + (⟨#[x]⟩ : ByteArray).size := by
      have : (⟨#[x]⟩ : ByteArray).size = 1 := rfl
      omega
    have hsz2 : ¬ 9223372036854775807 < s.size + 1 := by omega
    have hsz3 : s.size + 1 ≤ 9223372036854775807 := by omega
    clear hix htk hel he h1 h2 hbw hS tr
    have a1 : (0 : Int) ≤ (k : Int) := by omega
    have a2 : (k : Int) < (bt.size : Int) := by omega
    have a4 : (0 : Int) ≤ (k : Int) + 1 := by omega
    have a5 : ((k : Int) + 1).toNat = k + 1 := by omega
    have a6 : (k : Int) + 1 ≤ (bt.size : Int) := by omega
    have a7 : k + 1 ≤ bt.size := by omega
    have a8 : (k : Int) ≤ (k : Int) + 1 := by omega
    have a3 : IntKind.i64.wrap ((k : Int) + 1) = (k : Int) + 1 := IntWalk.i64_in _ (by omega)
    have e1 := edge_from; have e2 := edge_to
    go_wp2_with fail
    go_region_held3 (fun W => W.cell? ⟨w.heap.size, 0, none⟩ = some (.string B) ∧ W.cell? ⟨w.heap.size, 1, none⟩ = some (.slice A es.length cap) ∧ Below wr.heap.size wr W)
      (first
        | exact HSS.out _ (Below.refl _ _).drew
        | exact HSS.out _ ((Below.refl _ _).drew.trans hb4))
      (first
        | (go_at_call 47; refine (l2Edge_any B A cap es _ ix _ HA.out HL.out hixl HX.out).mono ?_; rw [H1.out, H2.out]; rintro e w4 ⟨rfl, hb4⟩))
    rename_i hHeld
    have HB4 := Lib.hid (HBW.out.trans (hHeld.2.2.mono (by omega)))
    clear hHeld HSS HA hb4 a1 a2 a3 a4 a5 a6 a7 a8 e1 e2
    go_wp2_with fail
    go_roundw
    case rel => exact ⟨k + 1, _, by omega, by go_num, rfl, by rw [HTK.out, tailsL_snoc, HEND.out]; exact str_snoc HSV.out, HB4.out⟩
    case measure => simp [intOf]; omega

end Go.Proofs.YtpeafheljcjlhaaGreat
