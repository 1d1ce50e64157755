/- A run, cut at edges that lead back: by the model. -/
import Derived.Test.YtcfcmlbbnpfejabBackS
import Derived.Test.YtcfcmlbbnpfejabIsRunS
import Derived.Test.YtcfcmlbbnpfejabTexts
import Derived.Laws.OwnMore
import Derived.BigRegion
namespace Go.Proofs.Ytcfcmlbbnpfejab
open Go.RowKit

theorem textCell : (Try.prog.info? 9).map (fun i => (i.zero, i.size, i.bytes)) = some (some (.string ⟨#[]⟩), 1, 16) := by kernel_rfl

/-- where the parts lie that are ended, and where the next one begins -/
def spans (q : UInt8 → Bool) (l : List UInt8) : Nat → List (Nat × Nat) × Nat
  | 0 => ([], 0)
  | k + 1 => if q (l.getD k 0) = true then ((spans q l k).1 ++ [((spans q l k).2, k)], k + 1) else spans q l k
theorem spans_yes {q : UInt8 → Bool} {l : List UInt8} {k : Nat} (h : q (l.getD k 0) = true) : spans q l (k + 1) = ((spans q l k).1 ++ [((spans q l k).2, k)], k + 1) := by
  rw [spans]; exact if_pos h
theorem spans_no {q : UInt8 → Bool} {l : List UInt8} {k : Nat} (h : q (l.getD k 0) = false) : spans q l (k + 1) = spans q l k := by
  rw [spans]; exact if_neg (by rw [h]; simp)
theorem spans_ok (q : UInt8 → Bool) (l : List UInt8) : ∀ k, (spans q l k).2 ≤ k ∧ (spans q l k).1.length ≤ k ∧ ∀ s ∈ (spans q l k).1, s.1 ≤ s.2 ∧ s.2 ≤ k
  | 0 => ⟨Nat.le_refl _, Nat.le_refl _, fun s h => absurd h (by simp [spans])⟩
  | k + 1 => by
    obtain ⟨h1, h2, h3⟩ := spans_ok q l k
    cases h : q (l.getD k 0) with
    | false =>
      rw [spans_no h]
      exact ⟨by omega, by omega, fun s hs => ⟨(h3 s hs).1, by have := (h3 s hs).2; omega⟩⟩
    | true =>
      rw [spans_yes h]
      refine ⟨Nat.le_refl _, by simp; omega, fun s hs => ?_⟩
      rcases List.mem_append.1 hs with hs | hs
      · exact ⟨(h3 s hs).1, by have := (h3 s hs).2; omega⟩
      · simp at hs; subst hs; exact ⟨h1, by simp⟩

def part (r : ByteArray) (s : Nat × Nat) : ByteArray := r.extract s.1 s.2
/-- the parts that are ended -/
def doneT (q : UInt8 → Bool) (r : ByteArray) (k : Nat) : List ByteArray := (spans q r.data.toList k).1.map (part r)
/-- the part that is under way -/
def lastT (q : UInt8 → Bool) (r : ByteArray) (k : Nat) : ByteArray := part r ((spans q r.data.toList k).2, k)
/-- a run's parts -/
def cutE (q : UInt8 → Bool) (r : ByteArray) : List ByteArray := doneT q r r.size ++ [lastT q r r.size]

theorem doneT_length (q : UInt8 → Bool) (r : ByteArray) (k : Nat) : (doneT q r k).length ≤ k := by
  unfold doneT; rw [List.length_map]; exact (spans_ok q r.data.toList k).2.1
theorem part_self (r : ByteArray) (k : Nat) : part r (k, k) = ⟨#[]⟩ := bytes_ext (by unfold part; rw [Lib.extract_data]; simp)
theorem lastT_size (q : UInt8 → Bool) (r : ByteArray) (k : Nat) : (lastT q r k).size ≤ k := by
  have := (spans_ok q r.data.toList k).1
  unfold lastT part
  simp only [ByteArray.size_extract]
  omega
theorem doneT_yes {q : UInt8 → Bool} {r : ByteArray} {k : Nat} (h : q (r.data.toList.getD k 0) = true) : doneT q r (k + 1) = doneT q r k ++ [lastT q r k] := by
  unfold doneT lastT; rw [spans_yes h]; simp
theorem lastT_yes {q : UInt8 → Bool} {r : ByteArray} {k : Nat} (h : q (r.data.toList.getD k 0) = true) : lastT q r (k + 1) = ⟨#[]⟩ := by
  unfold lastT; rw [spans_yes h]; exact part_self _ _
theorem doneT_no {q : UInt8 → Bool} {r : ByteArray} {k : Nat} (h : q (r.data.toList.getD k 0) = false) : doneT q r (k + 1) = doneT q r k := by
  unfold doneT; rw [spans_no h]
theorem lastT_no {q : UInt8 → Bool} {r : ByteArray} {k : Nat} (hk : k < r.size) (h : q (r.data.toList.getD k 0) = false) : lastT q r (k + 1) = lastT q r k ++ r.extract k (k + 1) := by
  have h1 := (spans_ok q r.data.toList k).1
  unfold lastT; rw [spans_no h]
  refine bytes_ext ?_
  rw [Go.Joins.data_append]
  unfold part
  rw [Lib.extract_data, Lib.extract_data, letter_at hk]
  have hl : k < r.data.toList.length := by simpa using hk
  simp only
  rw [show k + 1 - (spans q r.data.toList k).2 = (k - (spans q r.data.toList k).2) + 1 by omega, List.take_add_one]
  congr 1
  rw [List.getElem?_drop, show (spans q r.data.toList k).2 + (k - (spans q r.data.toList k).2) = k by omega, List.getElem?_eq_getElem hl]
  have hk2 : k < r.data.size := hk
  simp only [List.getD, Array.getElem?_toList, Array.getElem_toList]
  rw [Array.getElem?_eq_getElem hk2]
  rfl

/-- what holds while parts are gathered -/
structure SeaV (w : World) (B : ByteArray) (A : Option Addr) (n cap : Nat) (v : Value) (xs : List Value) (wr : World) : Prop where
  below : Below w.heap.size w wr
  two : Two wr w.heap.size B A n cap
  own : wr.ownsRow (w.heap.size + 1) 9 1 v xs.length xs
  size : w.heap.size + 1 ≤ wr.heap.size
theorem SeaV.go {w wr W : World} {B : ByteArray} {A : Option Addr} {n cap : Nat} {v : Value} {xs : List Value} (h : SeaV w B A n cap v xs wr) (k : Below wr.heap.size wr W) : SeaV w B A n cap v xs W :=
  ⟨h.below.trans (k.mono h.below.size), h.two.below k (by have := h.size; omega), ownsRow_of_block h.own fun b hb => k.block b (ownBlock_lt h.own hb).2, Nat.le_trans h.size k.size⟩
theorem ownV_ne {W : World} {base n : Nat} {T : TypeId} {z : Nat} {v : Value} {xs : List Value} (h : W.ownsRow base T z v n xs) {c : Nat} (hc : c < base) : some c ≠ v.ownBlock := by
  rcases h.2 with ⟨rfl, _⟩ | ⟨g, cap, cur, rfl, hb, _⟩
  · intro e; cases e
  · intro e
    have e' : some c = some g := e
    injection e' with e'; omega
theorem SeaV.push {w wr W : World} {B : ByteArray} {A : Option Addr} {n cap : Nat} {v v' : Value} {xs xs' : List Value} (h : SeaV w B A n cap v xs wr) (k : wr.grownBy W v.ownBlock) (hq : W.ownsRow (w.heap.size + 1) 9 1 v' xs'.length xs') : SeaV w B A n cap v' xs' W := by
  have hn : ∀ c, c < w.heap.size + 1 → some c ≠ v.ownBlock := fun c hc => ownV_ne h.own hc
  exact ⟨h.below.grown k h.below.size (fun q e => Nat.le_of_not_lt fun hq => hn q (by omega) e.symm), h.two.grown k (by have := h.size; omega) (hn _ (by omega)), hq, Nat.le_trans h.size k.size⟩

/-- the names of edges that lead back -/
def backQ (B : ByteArray) (es : List (ByteArray × ByteArray)) (c : UInt8) : Bool := decide (c ∈ names (backP B es) es.length)

/-- what is handed back: a row of texts of the call's own -/
def RowPost (ts : List ByteArray) (w : World) (e : Ending) (w' : World) : Prop :=
  ∃ A cap, e = .returned (.slice A ts.length cap) ∧ TextsIn w' w'.heap.size A ts ∧ Below w.heap.size w w' ∧ OwnTexts w' w.heap.size A ts.length

theorem one_new (w : World) (u : Value) : ∀ j x, [u][j]? = some x → (w.alloc (.cells #[u] 9)).cell? ((⟨w.heap.size, 0, none⟩ : Addr).add j) = some x := by
  intro j x hj
  match j, hj with
  | 0, hj => simp at hj; subst hj; simp [Addr.add]
  | j + 1, hj => simp at hj

set_option maxRecDepth 100000 in
set_option maxHeartbeats 4000000 in
/-- spec.l3Cut -/
theorem l3Cut_any (B : ByteArray) (A : Option Addr) (cap : Nat) (es : List (ByteArray × ByteArray)) (r : ByteArray) (w : World) (hE : EdgesIn w w.heap.size A es) (hF : Facts B es) (hBm : B.size ≤ maxLen) (hr : r.size ≤ 1048576) :
    Calls Try.prog 61 #[.agg #[.string B, .slice A es.length cap], .string r] w (RowPost (cutE (backQ B es) r) w) := by
  obtain ⟨bt, hbt⟩ : ∃ bt : ByteArray, (⟨(names (backP B es) es.length).toArray⟩ : ByteArray) = bt := ⟨_, rfl⟩
  have hbd : bt.data.toList = names (backP B es) es.length := by rw [← hbt]
  have hbz : bt.size ≤ maxLen := by
    have h1 : bt.size = (names (backP B es) es.length).length := by rw [← hbd]; simp
    have h2 : (names (backP B es) es.length).length ≤ es.length := by
      unfold names; rw [List.length_map]; exact Nat.le_trans (List.length_filter_le _ _) (by simp)
    have := hF.few
    unfold maxLen; omega
  have FB : Hid (∀ W : World, EdgesIn W W.heap.size A es → Calls Try.prog 33 #[.agg #[.string B, .slice A es.length cap]] W fun e w' => e = .returned (.string bt) ∧ Below W.heap.size W w') := Lib.hid fun W h => by
    rw [← hbt]; exact l3Back_any B A cap es W h hF hBm
  obtain ⟨q, hq⟩ : ∃ q, backQ B es = q := ⟨_, rfl⟩
  have HQ : Hid (∀ c, (0 ≤ Lib.indexByte bt.data.toList c) ↔ q c = true) := Lib.hid fun c => by
    rw [← hq, hbd]; unfold backQ; rw [decide_eq_true_iff]; exact indexByte_nonneg
  rw [hq]
  have HBZ := Lib.hid hbz; have HR := Lib.hid hr
  have hbA : Below w.heap.size w ((w.alloc (.cells #[.string B, .slice A es.length cap] 30)).alloc (.cells #[.string ⟨#[]⟩] 9)) := ((Below.refl _ _).alloc (Nat.le_refl _) _).alloc (by simp) _
  have htA : Two ((w.alloc (.cells #[.string B, .slice A es.length cap] 30)).alloc (.cells #[.string ⟨#[]⟩] 9)) w.heap.size B A es.length cap := ⟨by go_simp, by go_simp⟩
  have hoA : ((w.alloc (.cells #[.string B, .slice A es.length cap] 30)).alloc (.cells #[.string ⟨#[]⟩] 9)).ownsRow (w.heap.size + 1) 9 1 (.slice (some ⟨w.heap.size + 1, 0, none⟩) 1 1) 1 [.string ⟨#[]⟩] := by
    have hh := World.alloc_heap_new (w.alloc (.cells #[.string B, .slice A es.length cap] 30)) (.cells #[.string ⟨#[]⟩] 9)
    rw [World.size_alloc] at hh
    exact ⟨rfl, .inr ⟨_, 1, _, rfl, Nat.le_refl _, hh, Nat.le_refl _, by unfold maxLen; omega, rfl, rfl⟩⟩
  have HSEA : Hid (SeaV w B A es.length cap (.slice (some ⟨w.heap.size + 1, 0, none⟩) 1 1) [.string ⟨#[]⟩] ((w.alloc (.cells #[.string B, .slice A es.length cap] 30)).alloc (.cells #[.string ⟨#[]⟩] 9))) := Lib.hid ⟨hbA, htA, hoA, by simp⟩
  have HEA : Hid (EdgesIn ((w.alloc (.cells #[.string B, .slice A es.length cap] 30)).alloc (.cells #[.string ⟨#[]⟩] 9)) ((w.alloc (.cells #[.string B, .slice A es.length cap] 30)).alloc (.cells #[.string ⟨#[]⟩] 9)).heap.size A es) := Lib.hid ((hE.below hbA).more hbA.size)
  have hd0 := htA.1; have hd1 := htA.2
  clear hbA htA hoA hbt hbd hbz hq hF hBm hE
  go_enter Try.func61, Try.ntmps61
  go_wp2_with fail
  refine (FB.out _ HEA.out).mono ?_
  rintro e w2 ⟨rfl, hb2⟩
  have HSEA2 := Lib.hid (HSEA.out.go hb2)
  clear hb2 hd0 hd1 HEA HSEA FB
  go_wp2_with fail
  go_loopw [5, 13] (fun v c wr => ∃ k : Nat, k ≤ r.size ∧ c = .int .i64 k ∧ SeaV w B A es.length cap v ((doneT q r k ++ [lastT q r k]).map Value.string) wr) (fun _ c _ => r.size - (intOf c).toNat)
  case atStart => exact ⟨0, Nat.zero_le _, rfl, by have h := HSEA2.out; rwa [show (doneT q r 0 ++ [lastT q r 0]).map Value.string = [.string ⟨#[]⟩] by rw [show lastT q r 0 = ⟨#[]⟩ from part_self r 0]; rfl]⟩
  case round =>
    clear HSEA2
    obtain ⟨k, hk, rfl, hsea⟩ := hrel
    have hdl := doneT_length q r k
    have hlz := lastT_size q r k
    have HST := Lib.hid (doneT_yes (q := q) (r := r) (k := k)); have HST1 := Lib.hid (lastT_yes (q := q) (r := r) (k := k))
    have HNO := Lib.hid (doneT_no (q := q) (r := r) (k := k)); have HNO1 := Lib.hid (lastT_no (q := q) (r := r) (k := k))
    obtain ⟨D, hD⟩ : ∃ D, doneT q r k = D := ⟨_, rfl⟩
    obtain ⟨cur, hcur⟩ : ∃ cur, lastT q r k = cur := ⟨_, rfl⟩
    rw [hD, hcur] at hsea
    rw [hD] at hdl HST HNO
    rw [hcur] at hlz HST HNO1
    have hr' := HR.out
    have HSEA := Lib.hid hsea
    by_cases hlt : k < r.size
    case neg =>
      have hkr : k = r.size := by omega
      subst hkr
      clear HST HST1 HNO HNO1 hsea
      go_wp2_with fail
      go_ret
      have hx := own_texts (ts := cutE q r) (by
        have := HSEA.out.own
        rw [List.length_map] at this
        unfold cutE; rw [hD, hcur]
        exact this)
      obtain ⟨A', cap', hv, h1, h2⟩ := hx
      unfold RowPost
      exact ⟨A', cap', by rw [← hv]; rfl, h1, HSEA.out.below, OwnTexts.mono h2 (by omega)⟩
    have hL : ((D ++ [cur]).map Value.string).length = D.length + 1 := by simp
    obtain ⟨g, c0, rfl, hgb, hgl⟩ := hsea.own.form (by rw [hL]; omega)
    rw [hL] at hsea HSEA
    have ho := hsea.own
    rw [hL] at ho
    have hc1 : wr.cell? ⟨g, D.length, none⟩ = some (.string cur) := by
      rw [ho.cellAt D.length (by omega)]; simp
    have hf1 := ho.frozenAt D.length
    have hin : k < r.size := hlt
    have hgd : r.data.toList.getD k 0 = r[k] := by
      have : k < r.data.toList.length := by simpa using hlt
      simp only [List.getD, List.getElem?_eq_getElem this, Option.getD_some]; rfl
    have HIX : Hid (∀ (W : World), Calls Try.prog 84 #[.string bt, .int .u8 (r[k].toNat : Int)] W fun e w' => e = .returned (.int .i64 (Lib.indexByte bt.data.toList r[k])) ∧ W = w') := Lib.hid fun W => find_any bt _ W HBZ.out
    obtain ⟨fi, hfi⟩ : ∃ fi, Lib.indexByte bt.data.toList r[k] = fi := ⟨_, rfl⟩
    have hiff : 0 ≤ fi ↔ q (r.data.toList.getD k 0) = true := by rw [← hfi, hgd]; exact HQ.out _
    rw [hfi] at HIX
    have HIFF := Lib.hid hiff
    clear hfi hiff hgd hsea ho hcur hD hL
    by_cases hf : 0 ≤ fi
    · have hqt := HIFF.out.1 hf
      have HA := Lib.hid (HST.out hqt); have HB := Lib.hid (HST1.out hqt)
      clear hqt HST HST1 HNO HNO1 HIFF hc1 hf1
      obtain ⟨i0, hi0, hi1, hi2, hi3⟩ := info_parts textCell
      have HI0 := Lib.hid hi0; have HI1 := Lib.hid hi1; have HI2 := Lib.hid hi2; have HI3 := Lib.hid hi3
      clear hi0 hi1 hi2 hi3
      have hba : Below wr.heap.size wr (wr.alloc (.cells #[.string ⟨#[]⟩] 9)) := (Below.refl _ _).alloc (Nat.le_refl _) _
      have HSEA8 := Lib.hid (HSEA.out.go hba)
      have HNEWS := Lib.hid (one_new wr (.string ⟨#[]⟩))
      have hone : ∀ u ∈ [Value.string ⟨#[]⟩], u.oneCell' = true := by intro u hu; simp at hu; subst hu; rfl
      have HONE := Lib.hid hone
      have HZ8 : Hid (w.heap.size + 1 ≤ (wr.alloc (.cells #[.string ⟨#[]⟩] 9)).heap.size) := Lib.hid HSEA8.out.size
      clear hba hone
      go_wp2_with (first
        | (go_at_call 84; refine (HIX.out _).mono ?_; rintro e wI ⟨rfl, rfl⟩)
        | (at_builtin
           refine wpList_append_own _ rfl (.tmp 22) (.tmp 23) 34 rfl (w.heap.size + 1) 9 i0 (.string ⟨#[]⟩) 1 16 Try.underlying34 HI0.out HI1.out HI2.out HI3.out rfl (by decide) _ (D.length + 1) ((D ++ [cur]).map Value.string) rfl (by have := HSEA8.out.own; rw [List.length_map, List.length_append] at this; exact this) ⟨wr.heap.size, 0, none⟩ 1 1 [.string ⟨#[]⟩] rfl rfl HNEWS.out HONE.out (by unfold maxLen; omega) (by omega) (by have := HZ8.out; omega) ?_
           intro v9 w9 hown9 hgr9 _
           go_must (
           have HSEA9 : Hid (SeaV w B A es.length cap v9 ((doneT q r (k + 1) ++ [lastT q r (k + 1)]).map Value.string) w9) := Lib.hid (HSEA8.out.push hgr9 (by rw [HA.out, HB.out]; simpa using hown9))
           clear hown9 hgr9)))
      go_roundw
      case rel => exact ⟨k + 1, by omega, by go_num, HSEA9.out⟩
      case measure => simp [intOf]; omega
    have hqf : q (r.data.toList.getD k 0) = false := by
      cases h : q (r.data.toList.getD k 0) with
      | false => rfl
      | true => exact absurd (HIFF.out.2 h) hf
    have HA := Lib.hid (HNO.out hqf); have HB := Lib.hid (HNO1.out hlt hqf)
    clear hqf HST HST1 HNO HNO1 HIFF
    go_wp2_with (go_at_call 84; refine (HIX.out _).mono ?_; rintro e wI ⟨rfl, rfl⟩)
    obtain ⟨n, hn⟩ : ∃ n, D.length + 1 = n := ⟨_, rfl⟩
    obtain ⟨d, hd⟩ : ∃ d, D.length = d := ⟨_, rfl⟩
    have HN := Lib.hid hn; have HDL := Lib.hid hd
    rw [hn]
    have a1 : IntKind.i64.wrap ((n : Int) - 1) = (d : Int) := by rw [IntWalk.i64_in _ (by omega)]; omega
    have a2 : (d : Int) < (n : Int) := by omega
    have a3 : d < n := by omega
    have a4 : (0 : Int) ≤ (k : Int) + 1 := by omega
    have a5 : ((k : Int) + 1).toNat = k + 1 := by omega
    have a6 : (k : Int) + 1 ≤ (r.size : Int) := by omega
    have a7 : k + 1 ≤ r.size := by omega
    have a8 : (k : Int) ≤ (k : Int) + 1 := by omega
    have a9 : IntKind.i64.wrap ((k : Int) + 1) = (k : Int) + 1 := IntWalk.i64_in _ (by omega)
    have b1 : ¬ 9223372036854775807 < cur.size + (r.extract k (k + 1)).size := by simp only [ByteArray.size_extract]; omega
    rw [hd] at hc1 hf1
    clear hn hd hdl
    obtain ⟨ex, hex⟩ : ∃ ex, r.extract k (k + 1) = ex := ⟨_, rfl⟩
    rw [hex] at b1
    have HEX := Lib.hid hex
    go_region
    have hso : wr.ownsRow (w.heap.size + 1) 9 1 (.slice (some ⟨g, 0, none⟩) (D.length + 1) c0) (D.length + 1) ((D ++ [cur]).map Value.string) := by
      have h := HSEA.out.own; rw [List.length_map, List.length_append] at h; exact h
    have hst := hso.stored D.length (.string (cur ++ ex))
    have hlist : ((D ++ [cur]).map Value.string).set D.length (.string (cur ++ ex)) = (doneT q r (k + 1) ++ [lastT q r (k + 1)]).map Value.string := by
      rw [HA.out, HB.out, HEX.out]
      simp
    have h9 : SeaV w B A es.length cap (.slice (some ⟨g, 0, none⟩) (D.length + 1) c0) ((doneT q r (k + 1) ++ [lastT q r (k + 1)]).map Value.string) (wr.setCell ⟨g, D.length, none⟩ (.string (cur ++ ex))) :=
      HSEA.out.push hst.2 (by
        have h := hst.1
        rw [hlist] at h
        rw [HA.out, HB.out] at h ⊢
        simpa using h)
    rw [HN.out, HDL.out] at h9
    have HSEA9 := Lib.hid (h9.go (Below.refl _ _).drew)
    clear hso hst hlist h9 hc1 hf1 a1 a2 a3 a4 a5 a6 a7 a8 a9 b1 hex
    go_wp2_with fail
    go_roundw
    case rel => exact ⟨k + 1, by omega, by go_num, HSEA9.out⟩
    case measure => simp [intOf]; omega

/-- a run's parts, and whether it is one -/
noncomputable def cutV (B : ByteArray) (es : List (ByteArray × ByteArray)) (r : ByteArray) : List ByteArray × Bool := if runV B es r = true then (cutE (backQ B es) r, true) else ([], false)
/-- what is handed back -/
def CutPost (q : List ByteArray × Bool) (w : World) (e : Ending) (w' : World) : Prop :=
  ∃ A cap, e = .returned (.tuple #[.slice A q.1.length cap, .bool q.2]) ∧ TextsIn w' w'.heap.size A q.1 ∧ Below w.heap.size w w' ∧ OwnTexts w' w.heap.size A q.1.length
theorem valid_of_run {B : ByteArray} {es : List (ByteArray × ByteArray)} {r : ByteArray} (h : runV B es r = true) : Valid B.data.toList (ebs es) := by
  refine Classical.byContradiction fun hv => ?_
  have hp : pathV B es r = false := decB_f fun x => hv x.1
  have hr : runV B es r = false := decB_f fun x => by rw [hp] at x; exact absurd x.1 (by simp)
  rw [hr] at h
  cases h

set_option maxRecDepth 100000 in
set_option maxHeartbeats 2000000 in
/-- spec.CutRun -/
theorem specCutRun_any (B : ByteArray) (A : Option Addr) (cap : Nat) (es : List (ByteArray × ByteArray)) (r : ByteArray) (w : World) (hs : B.size ≤ maxLen) (hE : EdgesIn w w.heap.size A es) (hl : es.length ≤ 1099511627776) (hS : ∀ e ∈ es, e.1.size ≤ 1099511627776 ∧ e.2.size ≤ 1099511627776) (hr : r.size ≤ 1048576) :
    Calls Try.prog 25 #[.agg #[.string B, .slice A es.length cap], .string r] w (CutPost (cutV B es r) w) := by
  have HL := Lib.hid hl; have HM := Lib.hid hs; have HS := Lib.hid hS; have HR := Lib.hid hr
  clear hl hs hS hr
  have hb1 : Below w.heap.size w (w.alloc (.cells #[.string B, .slice A es.length cap] 30)) := (Below.refl _ _).alloc (Nat.le_refl _) _
  have t1 := Two.made w B A es.length cap 30
  have hz1 : (w.alloc (.cells #[.string B, .slice A es.length cap] 30)).heap.size = w.heap.size + 1 := by simp
  have hd0 := t1.1; have hd1 := t1.2
  obtain ⟨v, hv⟩ : ∃ v, runV B es r = v := ⟨_, rfl⟩
  have HV := Lib.hid hv
  cases v with
  | false =>
    have HQ : Hid (cutV B es r = ([], false)) := Lib.hid (if_neg (by rw [hv]; simp))
    clear hv
    go_enter Try.func25, Try.ntmps25
    go_wp2_with fail
    refine (specIsRun_any B A cap es r _ HM.out ((hE.below hb1).more hb1.size) HL.out HS.out (by have := HR.out; omega)).mono ?_
    rintro e w2 h2
    obtain ⟨rfl, hb2⟩ := h2
    rw [HV.out]
    have hb2' := hb1.trans (hb2.mono hb1.size)
    clear hb2 hd0 hd1 t1 hz1 hb1
    go_wp2_with fail
    go_ret2
    rw [HQ.out]
    have hb3 : Below w.heap.size w (w2.alloc (.cells #[] 9)) := hb2'.alloc hb2'.size _
    refine ⟨some ⟨w2.heap.size, 0, none⟩, 0, rfl, fun k hk => absurd hk (by simp), hb3, .inr ⟨w2.heap.size, 0, fun _ => .bool true, rfl, hb2'.size, by simp, Nat.le_refl _, ?_⟩⟩
    exact World.rowIs_alloc w2 #[] 9 _ (fun i hi => absurd hi (by simp))
  | true =>
    have hF := facts_of (valid_of_run hv)
    have HF := Lib.hid hF
    have HQ : Hid (cutV B es r = (cutE (backQ B es) r, true)) := Lib.hid (if_pos hv)
    clear hv hF
    go_enter Try.func25, Try.ntmps25
    go_wp2_with fail
    refine (specIsRun_any B A cap es r _ HM.out ((hE.below hb1).more hb1.size) HL.out HS.out (by have := HR.out; omega)).mono ?_
    rintro e w2 h2
    obtain ⟨rfl, hb2⟩ := h2
    rw [HV.out]
    have t2 := t1.below hb2 (by omega)
    have hb2' := hb1.trans (hb2.mono hb1.size)
    clear hb2 hd0 hd1 t1 hz1 hb1
    have hd0 := t2.1; have hd1 := t2.2
    go_wp2_with fail
    refine (l3Cut_any B A cap es r _ ((hE.below hb2').more hb2'.size) HF.out HM.out HR.out).mono ?_
    rintro e w3 ⟨A', c', rfl, h3, hb3, h4⟩
    have hb3' := hb2'.trans (hb3.mono hb2'.size)
    clear hb3 hd0 hd1 t2
    go_wp2_with fail
    go_ret2
    rw [HQ.out]
    exact ⟨A', c', rfl, h3, hb3', h4.mono hb2'.size⟩

end Go.Proofs.Ytcfcmlbbnpfejab
