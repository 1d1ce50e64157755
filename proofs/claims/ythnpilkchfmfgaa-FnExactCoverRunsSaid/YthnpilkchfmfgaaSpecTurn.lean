/- A net turned round by the model. -/
import Derived.Test.YthnpilkchfmfgaaTurnNet
import Derived.Test.YthnpilkchfmfgaaNames
import Derived.Laws.AppendOwn
namespace Go.Proofs.Ythnpilkchfmfgaa
open Go.RowKit

theorem str_size' {s : ByteArray} {l : List UInt8} (h : s.data.toList = l) : s.size = l.length := by
  rw [← h]; simp

/-- the cells of edges the other way -/
def pieces (es : List (ByteArray × ByteArray)) (k : Nat) : List Value := (es.take k).flatMap fun e => [.string e.2, .string e.1]

theorem pieces_succ {es : List (ByteArray × ByteArray)} {k : Nat} (h : k < es.length) : pieces es (k + 1) = pieces es k ++ [.string es[k].2, .string es[k].1] := by
  simp only [pieces, List.take_succ_eq_append_getElem h, List.flatMap_append, List.flatMap_cons, List.flatMap_nil, List.append_nil]
theorem pieces_length {es : List (ByteArray × ByteArray)} : ∀ {k : Nat}, k ≤ es.length → (pieces es k).length = k * 2
  | 0, _ => rfl
  | k + 1, h => by rw [pieces_succ (by omega), List.length_append, pieces_length (by omega)]; simp; omega
theorem pieces_at {es : List (ByteArray × ByteArray)} : ∀ {k i : Nat}, (hk : k ≤ es.length) → (hi : i < k) → (pieces es k)[i * 2]? = some (.string es[i].2) ∧ (pieces es k)[i * 2 + 1]? = some (.string es[i].1)
  | 0, _, _, hi => absurd hi (by omega)
  | k + 1, i, hk, hi => by
    have hl := pieces_length (es := es) (k := k) (by omega)
    rw [pieces_succ (by omega)]
    by_cases h : i < k
    · rw [List.getElem?_append_left (by omega), List.getElem?_append_left (by omega)]
      exact pieces_at (by omega) h
    · have : i = k := by omega
      subst this
      rw [List.getElem?_append_right (by omega), List.getElem?_append_right (by omega), hl]
      simp

theorem own_ne {w : World} {base g k c n p : Nat} {xs : List Value} {f : Nat → Value} (hown : w.ownsRow base 55 2 (.slice (some ⟨g, 0, none⟩) k c) n xs) (hrow : w.rowIs p 28 2 f) : g ≠ p ∧ base ≤ g := by
  rcases hown.2 with ⟨h, _⟩ | ⟨g', c', cur, h, hb', hblk, _⟩
  · injection h with h; cases h
  · injection h with h; injection h with h; injection h with h _ _; subst h
    refine ⟨fun e => ?_, hb'⟩
    obtain ⟨cc, hcc, _⟩ := hrow
    subst e
    rw [hcc] at hblk
    injection hblk with hblk
    injection hblk with _ e2 _
    exact absurd e2 (by decide)
theorem own_keep {w w' : World} {base g k c n : Nat} {xs : List Value} (hown : w.ownsRow base 55 2 (.slice (some ⟨g, 0, none⟩) k c) n xs) (hb : w'.heap[g]? = w.heap[g]?) : w'.ownsRow base 55 2 (.slice (some ⟨g, 0, none⟩) k c) n xs := by
  refine ⟨hown.1, ?_⟩
  rcases hown.2 with h | ⟨g', c', cur, h, hb', hblk, rest⟩
  · exact .inl h
  · refine .inr ⟨g', c', cur, h, hb', ?_, rest⟩
    injection h with h; injection h with h; injection h with h _ _; subst h
    exact hb.trans hblk

/-- what is handed back: a net -/
def SomePost (B : ByteArray) (es : List (ByteArray × ByteArray)) (w : World) (e : Ending) (w' : World) : Prop :=
  ∃ A cap, e = .returned (.tuple #[.agg #[.string B, .slice A es.length cap], .bool true]) ∧ EdgesIn w' w'.heap.size A es ∧ Below w.heap.size w w'

set_option maxRecDepth 100000 in
set_option maxHeartbeats 1000000 in
/-- spec.TurnNet, of a net that is none -/
theorem specTurn_no (B : ByteArray) (A : Option Addr) (cap : Nat) (es : List (ByteArray × ByteArray)) (w : World) (hs : B.size ≤ maxLen) (hE : EdgesIn w w.heap.size A es) (hl : es.length ≤ maxLen) (hv : ¬ Valid B.data.toList (ebs es)) :
    Calls Try.prog 16 #[.agg #[.string B, .slice A es.length cap]] w (NonePost w) := by
  have hb1 : Below w.heap.size w ((w.alloc (.cells #[.string B, .slice A es.length cap] 28)).alloc (.cells #[.string ⟨#[]⟩, .slice none 0 0] 28)) := ((Below.refl _ _).alloc (Nat.le_refl _) _).alloc (by simp) _
  have hr1 : ((w.alloc (.cells #[.string B, .slice A es.length cap] 28)).alloc (.cells #[.string ⟨#[]⟩, .slice none 0 0] 28)).rowIs (w.heap.size + 1) 28 2 (fun i => if i = 0 then .string ⟨#[]⟩ else .slice none 0 0) := by
    have h := World.rowIs_alloc (w.alloc (.cells #[.string B, .slice A es.length cap] 28)) #[.string ⟨#[]⟩, .slice none 0 0] 28 (fun i => if i = 0 then .string ⟨#[]⟩ else .slice none 0 0) (fun i hi => by
      match i, hi with
      | 0, _ => rfl
      | 1, _ => rfl)
    rwa [World.size_alloc] at h
  have HD : Hid (decB (Valid B.data.toList (ebs es)) = false) := Lib.hid (decB_f hv)
  have HM := Lib.hid hs; have HL := Lib.hid hl; have HR := Lib.hid hr1
  clear hv hs hl hr1
  go_enter Try.func16, Try.ntmps16
  go_wp2_with fail
  refine (specValid_any B A cap es _ HM.out ((hE.below hb1).more hb1.size) HL.out).mono ?_
  rw [HD.out]
  rintro e w2 ⟨rfl, hb2⟩
  have hr2 := HR.out.of_block (hb2.block _ (by simp))
  have h0 := hr2.cell (i := 0) (by omega); have h1 := hr2.cell (i := 1) (by omega)
  have f0 := hr2.frozen 0; have f1 := hr2.frozen 1
  have hb2' := hb1.trans (hb2.mono hb1.size)
  clear hb2 hr2
  go_wp2_with fail
  refine bodyPost_ret (v := .tuple #[.agg #[.string ⟨#[]⟩, .slice none 0 0], .bool false]) (by simp [results, Try.results16, go_sem, h0, h1]) rfl ⟨rfl, (hb2'.setCell (by simp only; omega) _).setCell (by simp only; omega) _⟩

set_option maxRecDepth 100000 in
set_option maxHeartbeats 2000000 in
/-- spec.TurnNet, of a net -/
theorem specTurn_yes (B : ByteArray) (A : Option Addr) (cap : Nat) (es : List (ByteArray × ByteArray)) (w : World) (hs : B.size ≤ 8) (hE : EdgesIn w w.heap.size A es) (hl : es.length ≤ 16) (hv : Valid B.data.toList (ebs es)) :
    Calls Try.prog 16 #[.agg #[.string B, .slice A es.length cap]] w (SomePost (revB B) (swapE es) w) := by
  have hb1 : Below w.heap.size w ((w.alloc (.cells #[.string B, .slice A es.length cap] 28)).alloc (.cells #[.string ⟨#[]⟩, .slice none 0 0] 28)) := ((Below.refl _ _).alloc (Nat.le_refl _) _).alloc (by simp) _
  have hr1 : ((w.alloc (.cells #[.string B, .slice A es.length cap] 28)).alloc (.cells #[.string ⟨#[]⟩, .slice none 0 0] 28)).rowIs (w.heap.size + 1) 28 2 (fun i => if i = 0 then .string ⟨#[]⟩ else .slice none 0 0) := by
    have h := World.rowIs_alloc (w.alloc (.cells #[.string B, .slice A es.length cap] 28)) #[.string ⟨#[]⟩, .slice none 0 0] 28 (fun i => if i = 0 then .string ⟨#[]⟩ else .slice none 0 0) (fun i hi => by
      match i, hi with
      | 0, _ => rfl
      | 1, _ => rfl)
    rwa [World.size_alloc] at h
  have hc0 : ((w.alloc (.cells #[.string B, .slice A es.length cap] 28)).alloc (.cells #[.string ⟨#[]⟩, .slice none 0 0] 28)).cell? ⟨w.heap.size, 0, none⟩ = some (.string B) := by go_simp
  have hc1 : ((w.alloc (.cells #[.string B, .slice A es.length cap] 28)).alloc (.cells #[.string ⟨#[]⟩, .slice none 0 0] 28)).cell? ⟨w.heap.size, 1, none⟩ = some (.slice A es.length cap) := by go_simp
  have HD : Hid (decB (Valid B.data.toList (ebs es)) = true) := Lib.hid (decB_t hv)
  have HM : Hid (B.size ≤ maxLen) := Lib.hid (by unfold maxLen; omega)
  have HL : Hid (es.length ≤ maxLen) := Lib.hid (by unfold maxLen; omega)
  have HR := Lib.hid hr1
  clear hv hr1
  go_enter Try.func16, Try.ntmps16
  go_wp2_with fail
  refine (specValid_any B A cap es _ HM.out ((hE.below hb1).more hb1.size) HL.out).mono ?_
  rw [HD.out]
  rintro e w2 ⟨rfl, hb2⟩
  have hr2 := HR.out.of_block (hb2.block _ (by simp))
  have hb2' := hb1.trans (hb2.mono hb1.size)
  have hd0 := (hb2.cell (p := ⟨w.heap.size, 0, none⟩) (by simp; omega)).trans hc0
  have hd1 := (hb2.cell (p := ⟨w.heap.size, 1, none⟩) (by simp; omega)).trans hc1
  have hz2 : w.heap.size + 2 ≤ w2.heap.size := by have := hb2.size; simp at this; omega
  have HR2 := Lib.hid hr2
  clear hb2 hr2 hc0 hc1
  have he : Below w2.heap.size w2 ((w2.alloc (.cells #[] 55)).alloc (.cells #[.string ⟨#[]⟩, .slice (some ⟨w2.heap.size, 0, none⟩) 0 0] 28)) := ((Below.refl _ _).alloc (Nat.le_refl _) _).alloc (by simp) _
  have hr3 : ((w2.alloc (.cells #[] 55)).alloc (.cells #[.string ⟨#[]⟩, .slice (some ⟨w2.heap.size, 0, none⟩) 0 0] 28)).rowIs (w2.heap.size + 1) 28 2 (fun i => if i = 0 then .string ⟨#[]⟩ else .slice (some ⟨w2.heap.size, 0, none⟩) 0 0) := by
    have h := World.rowIs_alloc (w2.alloc (.cells #[] 55)) #[.string ⟨#[]⟩, .slice (some ⟨w2.heap.size, 0, none⟩) 0 0] 28 (fun i => if i = 0 then .string ⟨#[]⟩ else .slice (some ⟨w2.heap.size, 0, none⟩) 0 0) (fun i hi => by
      match i, hi with
      | 0, _ => rfl
      | 1, _ => rfl)
    rwa [World.size_alloc] at h
  have hx3 : ((w2.alloc (.cells #[] 55)).alloc (.cells #[.string ⟨#[]⟩, .slice (some ⟨w2.heap.size, 0, none⟩) 0 0] 28)).heap[w2.heap.size]? = some (.cells #[] 55) := by
    rw [Below.heap_alloc _ _ _ (by simp)]
    unfold World.alloc
    simp
  have hk0 := (he.cell (p := ⟨w.heap.size, 0, none⟩) (by simp only; omega)).trans hd0
  have hk1 := (he.cell (p := ⟨w.heap.size, 1, none⟩) (by simp only; omega)).trans hd1
  have hz3 : ((w2.alloc (.cells #[] 55)).alloc (.cells #[.string ⟨#[]⟩, .slice (some ⟨w2.heap.size, 0, none⟩) 0 0] 28)).heap.size = w2.heap.size + 2 := by simp
  have HR3 := Lib.hid hr3; have HX3 := Lib.hid hx3
  clear hr3 hx3 hd0 hd1
  go_wp2_with fail
  generalize hW3 : (w2.alloc (.cells #[] 55)).alloc (.cells #[.string ⟨#[]⟩, .slice (some ⟨w2.heap.size, 0, none⟩) 0 0] 28) = w3 at he HR3 HX3 hk0 hk1 hz3 ⊢
  clear hW3
  have hb3 := hb2'.trans (he.mono hb2'.size)
  obtain ⟨o, ho⟩ : ∃ o, w2.heap.size = o := ⟨_, rfl⟩
  rw [ho] at HR3 HX3 hz3 he ⊢
  have HO := Lib.hid ho
  have hlo : w.heap.size + 2 ≤ o := by omega
  have HE3 := Lib.hid he
  clear ho he hb3
  go_loopw [5] (fun i wr => ∃ (j : Nat) (s : ByteArray), j ≤ B.size ∧ i = .int .i64 ((B.size : Int) - 1 - j) ∧ s.data.toList = B.data.toList.reverse.take j ∧ wr.heap.size = o + 2 ∧ Below o w2 wr ∧
    wr.rowIs (o + 1) 28 2 (fun i => if i = 0 then .string s else .slice (some ⟨o, 0, none⟩) 0 0) ∧ wr.heap[o]? = some (.cells #[] 55) ∧ wr.cell? ⟨w.heap.size, 0, none⟩ = some (.string B) ∧ wr.cell? ⟨w.heap.size, 1, none⟩ = some (.slice A es.length cap)) (fun i _ => (intOf i + 1).toNat)
  case atStart => exact ⟨0, ⟨#[]⟩, Nat.zero_le _, by go_num, rfl, hz3, HE3.out, HR3.out, HX3.out, hk0, hk1⟩
  case round =>
    obtain ⟨j, s, hj, rfl, hs', hz, hb, hrow, hx, hn0, hn1⟩ := hrel
    have HS := Lib.hid hs'; have HR := Lib.hid hrow; have HX := Lib.hid hx
    have c0 := hrow.cell (i := 0) (by omega); have c1 := hrow.cell (i := 1) (by omega)
    have f0 := hrow.frozen 0
    simp only [if_true] at c0
    have hsl : s.size = j := by rw [str_size' hs']; simp; omega
    clear hs' hrow hx
    by_cases hlt : j < B.size
    · obtain ⟨p, hp⟩ : ∃ p : Nat, p = B.size - 1 - j := ⟨_, rfl⟩
      have hpi : (B.size : Int) - 1 - j = (p : Int) := by omega
      rw [hpi]
      have hp1 : p + 1 ≤ B.size := by omega
      have hge : (p : Int) ≥ 0 := by omega
      have HP := Lib.hid hp; have HPI := Lib.hid hpi; have HSL := Lib.hid hsl; have HZ := Lib.hid hz
      have hex : (B.extract p (p + 1)).size = 1 := by simp; omega
      have hsz : ¬ 9223372036854775807 < s.size + (B.extract p (p + 1)).size := by omega
      have HEX := Lib.hid hex
      clear hp hpi hsl hz hex
      go_wp2_with fail
      go_region
      have HR4 : Hid ((wr.setCell ⟨o + 1, 0, none⟩ (.string (s ++ B.extract p (p + 1)))).drew.rowIs (o + 1) 28 2 (fun i => if i = 0 then .string (s ++ B.extract p (p + 1)) else .slice (some ⟨o, 0, none⟩) 0 0)) := Lib.hid ((HR.out.set 0 _).drew.congr fun i hi => by
        match i, hi with
        | 0, _ => rfl
        | 1, _ => rfl)
      have HB4 : Hid (Below o w2 (wr.setCell ⟨o + 1, 0, none⟩ (.string (s ++ B.extract p (p + 1)))).drew) := Lib.hid (hb.setCell (by simp only; omega) _).drew
      have HX4 : Hid ((wr.setCell ⟨o + 1, 0, none⟩ (.string (s ++ B.extract p (p + 1)))).drew.heap[o]? = some (.cells #[] 55)) := Lib.hid ((Below.heap_setCell _ _ _ _ (by simp only; omega)).trans HX.out)
      have HN0 : Hid ((wr.setCell ⟨o + 1, 0, none⟩ (.string (s ++ B.extract p (p + 1)))).drew.cell? ⟨w.heap.size, 0, none⟩ = some (.string B)) := Lib.hid ((World.cell?_of_block (Below.heap_setCell _ _ _ _ (by simp only; omega))).trans hn0)
      have HN1 : Hid ((wr.setCell ⟨o + 1, 0, none⟩ (.string (s ++ B.extract p (p + 1)))).drew.cell? ⟨w.heap.size, 1, none⟩ = some (.slice A es.length cap)) := Lib.hid ((World.cell?_of_block (Below.heap_setCell _ _ _ _ (by simp only; omega))).trans hn1)
      have HD4 : Hid ((s ++ B.extract p (p + 1)).data.toList = B.data.toList.reverse.take (j + 1)) := Lib.hid (by
        have hlen : B.data.toList.length = B.size := by simp
        have hp' : p = B.size - 1 - j := HP.out
        rw [Go.Joins.data_append, HS.out, Lib.extract_data, List.take_succ_eq_append_getElem (by simp; omega), List.getElem_reverse]
        congr 1
        have hpl : p < B.data.toList.length := by omega
        rw [List.drop_eq_getElem_cons hpl]
        simp [hp', hlen])
      have HZ4 : Hid ((wr.setCell ⟨o + 1, 0, none⟩ (.string (s ++ B.extract p (p + 1)))).drew.heap.size = o + 2) := Lib.hid (by simp [World.setCell]; exact HZ.out)
      generalize hW5 : (wr.setCell ⟨o + 1, 0, none⟩ (.string (s ++ B.extract p (p + 1)))).drew = w5 at HR4 HB4 HX4 HN0 HN1 HZ4 ⊢
      clear hW5 c0 c1 f0 hn0 hn1 hb
      go_wp2_with fail
      go_roundw
      case rel =>
        exact ⟨j + 1, _, by omega, by rw [show (B.size : Int) - 1 - ((j + 1 : Nat) : Int) = (p : Int) - 1 by have := HPI.out; omega], HD4.out, HZ4.out, HB4.out, HR4.out, HX4.out, HN0.out, HN1.out⟩
      case measure => simp [intOf] <;> omega
    · have hge : ¬ ((B.size : Int) - 1 - j ≥ 0) := by omega
      have hsB : s = revB B := by
        have := HS.out
        rw [List.take_of_length_le (by simp; omega)] at this
        unfold revB
        rw [← this]
      subst hsB
      go_wp2_with fail
      have HZ := Lib.hid hz
      obtain ⟨i0, hi, hi0, hi1, hi2⟩ := info_parts edgeInfo
      have HI := Lib.hid hi; have HI0 := Lib.hid hi0; have HI1 := Lib.hid hi1; have HI2 := Lib.hid hi2
      clear hi hi0 hi1 hi2 c0 c1 f0 hge hsl
      go_loopw [35] (fun a wk => ∃ (k g c : Nat), k ≤ es.length ∧ a = .int .i64 k ∧ Below o w2 wk ∧ o + 2 ≤ wk.heap.size ∧ wk.rowIs (o + 1) 28 2 (fun i => if i = 0 then .string (revB B) else .slice (some ⟨g, 0, none⟩) k c) ∧
        wk.ownsRow o 55 2 (.slice (some ⟨g, 0, none⟩) k c) k (pieces es k)) (fun a _ => es.length - (intOf a).toNat)
      case atStart =>
        refine ⟨0, o, 0, Nat.zero_le _, rfl, hb, by omega, HR.out, ⟨rfl, .inr ⟨o, 0, #[], rfl, Nat.le_refl _, HX.out, by simp, by simp, by simp, by simp [pieces]⟩⟩⟩
      case round =>
        clear hb hn0 hn1 hz HR HX HZ
        obtain ⟨k, g, c, hk, rfl, hb, hz, hrow, hown⟩ := hrel
        have hbw : Below w.heap.size w wr := hb2'.trans (hb.mono (by omega))
        have hrr := HR2.out.of_block (hb.block _ (by omega))
        have r0 := hrr.cell (i := 0) (by omega); have r1 := hrr.cell (i := 1) (by omega)
        have rf0 := hrr.frozen 0; have rf1 := hrr.frozen 1
        clear hrr
        have HOWN := Lib.hid hown; have HROW := Lib.hid hrow; have HBB := Lib.hid hb
        have hg := own_ne hown hrow
        have HG2 := Lib.hid hg.2
        have HNE : Hid (some (o + 1) ≠ (Value.slice (some ⟨g, 0, none⟩) k c).ownBlock) := Lib.hid (by simp [Value.ownBlock]; omega)
        have c0 := hrow.cell (i := 0) (by omega); have c1 := hrow.cell (i := 1) (by omega)
        simp only [if_true] at c0
        have e10 : (1 : Nat) = 0 ↔ False := by simp
        simp only [e10, if_false] at c1
        clear e10 hrow hown
        by_cases hlt2 : k < es.length
        · obtain ⟨eb, eo, rfl, hlow, h1, h2⟩ := (hE.below hbw) k hlt2
          have c1' : (wr.alloc (.cells #[.string es[k].1, .string es[k].2] 55)).cell? ⟨o + 1, 1, none⟩ = some (.slice (some ⟨g, 0, none⟩) k c) := (World.cell?_alloc_lt _ _ _ (by simp only; omega)).trans c1
          clear r0 r1 rf0 rf1
          have hnew : ∀ j u, [Value.string es[k].2, Value.string es[k].1][j]? = some u → ((wr.alloc (.cells #[.string es[k].1, .string es[k].2] 55)).alloc (.cells #[.string es[k].2, .string es[k].1] 55)).cell? ((⟨wr.heap.size + 1, 0, none⟩ : Addr).add j) = some u := fun j u hu => by
            match j, hu with
            | 0, hu => simp at hu; subst hu; simp [Addr.add]
            | 1, hu => simp at hu; subst hu; simp [Addr.add]
            | j + 2, hu => simp at hu
          have hone : ∀ u ∈ [Value.string es[k].2, Value.string es[k].1], u.oneCell' = true := fun u hu => by
            simp at hu
            rcases hu with rfl | rfl <;> rfl
          have HNEW := Lib.hid hnew; have HONE := Lib.hid hone
          have HOWN2 := Lib.hid ((HOWN.out.alloc (.cells #[.string es[k].1, .string es[k].2] 55)).alloc (.cells #[.string es[k].2, .string es[k].1] 55))
          have hbase : o ≤ ((wr.alloc (.cells #[.string es[k].1, .string es[k].2] 55)).alloc (.cells #[.string es[k].2, .string es[k].1] 55)).heap.size := by simp; omega
          have HBASE := Lib.hid hbase
          clear hnew hone hbase
          go_wp2_with (first
            | (at_builtin; refine wpList_append_own _ rfl (.tmp 40) (.tmp 46) 26 rfl o 55 i0 (.agg #[.string ⟨#[]⟩, .string ⟨#[]⟩]) 2 32 Try.underlying26 HI.out HI0.out HI1.out HI2.out rfl (by decide) _ k (pieces es k) rfl HOWN2.out ⟨wr.heap.size + 1, 0, none⟩ 1 1 [.string es[k].2, .string es[k].1] rfl rfl HNEW.out HONE.out (by unfold maxLen; omega) (by omega) HBASE.out ?_; intro v4 w4 hown4 hgr4 _; obtain ⟨g4, c4, rfl⟩ := Go.Joins.ownsRow_form hown4 (by omega)
               have hrow4 := ((HROW.out.alloc (.cells #[.string es[k].1, .string es[k].2] 55)).alloc (.cells #[.string es[k].2, .string es[k].1] 55)).of_block (hgr4.block (o + 1) (by simp; omega) HNE.out)
               have d1 := hrow4.cell (i := 1) (by omega); have df1 := hrow4.frozen 1
               have HROW4 := Lib.hid hrow4; have HOWN4 := Lib.hid hown4; have HGR4 := Lib.hid hgr4
               clear hrow4 hown4 hgr4))
          have hz4 := HGR4.out.size
          have hg4 := own_ne HOWN4.out HROW4.out
          have hbx : Below o w2 w4 := ((HBB.out.alloc (by omega) _).alloc (by simp; omega) _).grown HGR4.out (by simp; omega) (fun q e => by
            have hq : some g = some q := e
            injection hq with hq
            exact hq ▸ HG2.out)
          have HBX := Lib.hid (hbx.setCell (p := ⟨o + 1, 1, none⟩) (by simp only; omega) (.slice (some ⟨g4, 0, none⟩) (k + 1) c4))
          clear hbx d1 df1
          go_roundw
          case rel =>
            refine ⟨k + 1, g4, c4, by omega, by go_num, HBX.out, by simp [World.setCell]; simp at hz4; omega, (HROW4.out.set 1 _).congr fun i hi => ?_, ?_⟩
            · match i, hi with
              | 0, _ => rfl
              | 1, _ => rfl
            · rw [pieces_succ hlt2]
              exact own_keep HOWN4.out (Below.heap_setCell _ _ _ _ (by simp only; omega))
          case measure => simp [intOf]; omega
        · go_wp2_with fail
          have hkn : k = es.length := by omega
          have hlen : (swapE es).length = es.length := by simp [swapE]
          refine bodyPost_ret (v := .tuple #[.agg #[.string (revB B), .slice (some ⟨g, 0, none⟩) k c], .bool true]) (by simp [results, Try.results16, go_sem, r0, r1]) rfl ?_
          have hfar : ((wr.setCell ⟨w.heap.size + 1, 0, none⟩ (.string (revB B))).setCell ⟨w.heap.size + 1, 1, none⟩ (.slice (some ⟨g, 0, none⟩) k c)).heap[g]? = wr.heap[g]? :=
            (Below.heap_setCell _ _ _ _ (by simp only; omega)).trans (Below.heap_setCell _ _ _ _ (by simp only; omega))
          refine ⟨some ⟨g, 0, none⟩, c, by rw [hlen, hkn], fun i hi => ?_, (hbw.setCell (by simp only; omega) _).setCell (by simp only; omega) _⟩
          have hi' : i < k := by rw [hlen] at hi; omega
          obtain ⟨p1, p2⟩ := pieces_at (es := es) hk hi'
          have q1 := HOWN.out.cells (g := g) rfl _ _ p1
          have q2 := HOWN.out.cells (g := g) rfl _ _ p2
          have hgl : g < wr.heap.size := by
            rcases HOWN.out.2 with ⟨h, _⟩ | ⟨g', _, _, h, _, hblk, _⟩
            · injection h with h; cases h
            · injection h with h; injection h with h; injection h with h _ _; subst h
              exact (Array.getElem?_eq_some_iff.1 hblk).1
          have a1 : (⟨g, 0, none⟩ : Addr).add (i * 2) = ⟨g, i * 2, none⟩ := by unfold Addr.add; split <;> simp_all
          have a2 : (⟨g, 0, none⟩ : Addr).add (i * 2 + 1) = ⟨g, i * 2 + 1, none⟩ := by unfold Addr.add; split <;> simp_all
          rw [a1] at q1
          rw [a2] at q2
          have e1 : (swapE es)[i] = (es[i].2, es[i].1) := by simp [swapE]
          rw [e1]
          exact ⟨g, 0, rfl, by simp [World.setCell]; exact hgl, by rw [Nat.zero_add]; exact (World.cell?_of_block (a := ⟨g, i * 2, none⟩) hfar).trans q1, by rw [Nat.zero_add]; exact (World.cell?_of_block (a := ⟨g, i * 2 + 1, none⟩) hfar).trans q2⟩

end Go.Proofs.Ythnpilkchfmfgaa
