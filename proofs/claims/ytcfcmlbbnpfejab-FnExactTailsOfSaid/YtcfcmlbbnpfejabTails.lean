/- Blocks that edges leave that lead back: by the program and by the model. -/
import Derived.Test.YtcfcmlbbnpfejabBackE
import Derived.Test.YtcfcmlbbnpfejabAny
import Derived.Test.YtcfcmlbbnpfejabBlocksWith
import Derived.Test.YtcfcmlbbnpfejabOutI
import Derived.Test.YtcfcmlbbnpfejabSorted
import Derived.Deep.RegionHeld3
namespace Go.Proofs.Ytcfcmlbbnpfejab
open Go.RowKit

/-- the letter of that end of an edge -/
def tailsEnd (es : List (ByteArray × ByteArray)) (i : Nat) : UInt8 := ((ebs es).getD i ([], [])).1.headD 0
/-- one of the edges at a block leads back -/
def tailsP (B : ByteArray) (es : List (ByteArray × ByteArray)) (c : UInt8) : Bool := (names (outB es ⟨#[c]⟩) es.length).any fun x => (names (backP B es) es.length).contains x
noncomputable def tailsV (B : ByteArray) (es : List (ByteArray × ByteArray)) : ByteArray × Bool := textV (Valid B.data.toList (ebs es)) (B.data.toList.filter (tailsP B es))

/-- the letters of that end of so many edges -/
def tailsL (es : List (ByteArray × ByteArray)) (is : List Nat) : List UInt8 := is.map (tailsEnd es)
theorem tails_iff {B : ByteArray} {es : List (ByteArray × ByteArray)} (hF : Facts B es) (c : UInt8) : tailsP B es c = inB (tailsL es ((List.range es.length).filter (backP B es))) c := by
  have h16 := hF.few
  have hat : ∀ i, i < es.length → (outB es ⟨#[c]⟩ i = true ↔ tailsEnd es i = c) := fun i hi => by
    obtain ⟨x, y, he, h1, h2, _, _⟩ := edge_letters hF.lets hi
    rw [outB_at hi, Lib.toList_data, Lib.toList_data, h1]
    have : tailsEnd es i = x := by simp [tailsEnd, List.getD, he]
    rw [this]
    simp
  rw [Bool.eq_iff_iff, inB_iff]
  unfold tailsP tailsL
  rw [List.any_eq_true, List.mem_map]
  constructor
  · rintro ⟨x, hx, hb⟩
    unfold names at hx
    obtain ⟨i, hi, rfl⟩ := List.mem_map.1 hx
    obtain ⟨h1, h2⟩ := List.mem_filter.1 hi
    have hil : i < es.length := by simpa using h1
    have hb2 := (mem_names (by omega) hil).1 (List.contains_iff_mem.1 hb)
    exact ⟨i, List.mem_filter.2 ⟨h1, hb2⟩, (hat i hil).1 h2⟩
  · rintro ⟨i, hi, hc⟩
    obtain ⟨h1, h2⟩ := List.mem_filter.1 hi
    have hil : i < es.length := by simpa using h1
    exact ⟨nameOf i, (mem_names (by omega) hil).2 ((hat i hil).2 hc), List.contains_iff_mem.2 ((mem_names (by omega) hil).2 h2)⟩

theorem ascii_namesOut (p : Nat → Bool) {n : Nat} (hn : n ≤ 16) : ∀ b ∈ names p n, b.toNat < 128 := by
  intro b hb
  unfold names at hb
  obtain ⟨i, hi, rfl⟩ := List.mem_map.1 hb
  have : i < n := by simpa using (List.mem_filter.1 hi).1
  rw [nameOf_toNat (by omega)]; omega

set_option maxRecDepth 100000 in
/-- impl.TailsOf$1 -/
theorem tailsKeep_any (s chars : ByteArray) (b : Nat) (w : World) (hs : s.size < 4294967281) (hcs : chars.size < 4294967281) (has : ∀ b ∈ s.data.toList, b.toNat < 128) (hac : ∀ b ∈ chars.data.toList, b.toNat < 128) (hb : w.cell? ⟨b, 0, none⟩ = some (.string chars)) :
    Calls Try.prog 48 (#[.string s] ++ #[.pointer (some ⟨b, 0, none⟩)]) w fun e w' => e = .returned (.bool (s.data.toList.any fun c => chars.data.toList.contains c)) ∧ Below w.heap.size w w' := by
  obtain ⟨v, hv⟩ : ∃ v, (s.data.toList.any fun c => chars.data.toList.contains c) = v := ⟨_, rfl⟩
  have HC : Hid (∀ W : World, Calls Try.prog 46 #[.string s, .string chars] W fun e w' => e = .returned (.bool v) ∧ Below W.heap.size W w') := Lib.hid fun W => by
    rw [← hv]; exact containsAny_any s chars W hs hcs has hac
  rw [hv]
  clear hv hs hcs has hac
  go_enter Try.func48, Try.ntmps48
  go_wp2_with fail
  refine (HC.out _).mono ?_
  rintro e w2 ⟨rfl, hb2⟩
  go_wp2_with fail
  go_ret
  exact ⟨rfl, hb2⟩

set_option maxRecDepth 100000 in
set_option maxHeartbeats 2000000 in
/-- impl.TailsOf -/
theorem implTailsOf_any (B : ByteArray) (A : Option Addr) (cap : Nat) (es : List (ByteArray × ByteArray)) (w : World) (hs : B.size ≤ maxLen) (hE : EdgesIn w w.heap.size A es) (hl : es.length ≤ 1099511627776) (hS : ∀ e ∈ es, e.1.size ≤ 1099511627776 ∧ e.2.size ≤ 1099511627776) :
    Calls Try.prog 18 #[.agg #[.string B, .slice A es.length cap]] w (TextPost (tailsV B es) w) := by
  have HL := Lib.hid hl; have HM := Lib.hid hs; have HS := Lib.hid hS
  clear hl hs hS
  have hb1 : Below w.heap.size w (w.alloc (.cells #[.string B, .slice A es.length cap] 30)) := (Below.refl _ _).alloc (Nat.le_refl _) _
  have t1 := Two.made w B A es.length cap 30
  have hz1 : (w.alloc (.cells #[.string B, .slice A es.length cap] 30)).heap.size = w.heap.size + 1 := by simp
  obtain ⟨q, hq⟩ : ∃ q, backV B es = q := ⟨_, rfl⟩
  have HB : Hid (∀ W : World, EdgesIn W W.heap.size A es → Calls Try.prog 13 #[.agg #[.string B, .slice A es.length cap]] W fun e w' => e = .returned (.tuple #[.string q.1, .bool q.2]) ∧ Below W.heap.size W w') := Lib.hid fun W h => by
    have := implBackEdges_any B A cap es W HM.out h HL.out HS.out
    rwa [hq] at this
  have HQ := Lib.hid hq
  clear hq
  go_enter Try.func18, Try.ntmps18
  go_wp2_with fail
  refine (HB.out _ ((hE.below hb1).more hb1.size)).mono ?_
  rintro e w2 ⟨rfl, hb2⟩
  have hb2' := hb1.trans (hb2.mono hb1.size)
  have t2 := t1.below hb2 (by omega)
  have hz2 := hb2.size
  have hb3 : Below w2.heap.size w2 (w2.alloc (.cells #[.string q.1] 9)) := (Below.refl _ _).alloc (Nat.le_refl _) _
  have t3 := t2.below hb3 (by omega)
  have c3 : (w2.alloc (.cells #[.string q.1] 9)).cell? ⟨w2.heap.size, 0, none⟩ = some (.string q.1) := by go_simp
  have hz3 : (w2.alloc (.cells #[.string q.1] 9)).heap.size = w2.heap.size + 1 := by simp
  have hb3' := hb2'.trans (hb3.mono hb2'.size)
  have hd0 := t3.1; have hd1 := t3.2
  clear hb2 t1 t2 hb1 HB t3 hb3
  go_wp2_with fail
  refine (blocksWith_any B A cap es 47 48 #[.pointer (some ⟨w2.heap.size, 0, none⟩)] (fun c => ⟨(names (outB es ⟨#[c]⟩) es.length).toArray⟩) (tailsP B es) _ HM.out ((hE.below hb3').more hb3'.size) HL.out
    (enters_of Try.func47 (by kernel_rfl) rfl) (enters_of Try.func48 (by kernel_rfl) rfl) (fun hv c W hc hb => ?_) (fun hv c W _ hb => ?_)).mono ?_
  · refine (implOutOf_any B A cap es ⟨#[c]⟩ W HM.out (((hE.below hb3').below (hb.mono hb3'.size)).more (Nat.le_trans hb3'.size hb.size)) HL.out HS.out).mono ?_
    rintro e W' ⟨he, hb'⟩
    refine ⟨?_, hb'⟩
    rw [he]
    have : outV B es ⟨#[c]⟩ = (⟨(names (outB es ⟨#[c]⟩) es.length).toArray⟩, true) := textV_yes ⟨hv, indexByte_nonneg.2 hc⟩
    rw [this]
  · have h16 : es.length ≤ 16 := (valid_sizes hv).2
    have hn := names_length (outB es ⟨#[c]⟩) es.length
    have hn2 := names_length (backP B es) es.length
    have hq1 : q.1 = ⟨(names (backP B es) es.length).toArray⟩ := by
      have : backV B es = (⟨(names (backP B es) es.length).toArray⟩, true) := textV_yes hv
      rw [← HQ.out, this]
    rw [hq1] at c3 hb
    refine (tailsKeep_any ⟨(names (outB es ⟨#[c]⟩) es.length).toArray⟩ ⟨(names (backP B es) es.length).toArray⟩ w2.heap.size W (by rw [size_mk]; omega) (by rw [size_mk]; omega) (ascii_namesOut _ h16) (ascii_namesOut _ h16) ((hb.cell (by simp only; simp)).trans c3)).mono ?_
    rintro e W' ⟨he, hb'⟩
    exact ⟨he, hb'⟩
  rintro e w4 ⟨rfl, hb4⟩
  obtain ⟨r, hr⟩ : ∃ r, textV (Valid B.data.toList (ebs es)) (B.data.toList.filter (tailsP B es)) = r := ⟨_, rfl⟩
  have HR : Hid (tailsV B es = r) := Lib.hid hr
  rw [hr]
  clear hr hd0 hd1 c3
  go_wp2_with fail
  go_ret2
  exact ⟨by rw [HR.out]; rfl, hb3'.trans (hb4.mono hb3'.size)⟩

end Go.Proofs.Ytcfcmlbbnpfejab
