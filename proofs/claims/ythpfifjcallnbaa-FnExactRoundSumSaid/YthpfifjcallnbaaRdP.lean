/- A round, as moves: pure. -/
import Derived.Test.YthpfifjcallnbaaZ6V
namespace Go.Proofs.Ythpfifjcallnbaa
open Go.RowKit

/-- the edge that a letter names, or z -/
def edOf (l : List UInt8) (es : List (ByteArray × ByteArray)) (c : UInt8) : Option Ed := if c = 122 then some (edZ l) else if 0 ≤ eIdx es.length [c] then some (edK es (eIdx es.length [c]).toNat) else none
/-- the move that two letters tell -/
def mvOf (l : List UInt8) (es : List (ByteArray × ByteArray)) (s c : UInt8) : Option Mv := match edOf l es c with
  | none => none
  | some e => if s = 43 then some (plus e) else if s = 45 then some (minus e) else none
/-- the first moves of a text, each from where the one ahead ends -/
def PreR (l : List UInt8) (es : List (ByteArray × ByteArray)) (r : List UInt8) (ms : List Mv) : Prop :=
  (∀ i m, ms[i]? = some m → mvOf l es (r.getD (2 * i) 0) (r.getD (2 * i + 1) 0) = some m) ∧ ∀ i m m', ms[i]? = some m → ms[i + 1]? = some m' → m'.fr = m.tb
/-- the last one ends where the first one begins -/
def ClosedR (ms : List Mv) : Prop := ∃ m m', ms[0]? = some m ∧ ms[ms.length - 1]? = some m' ∧ m.fr = m'.tb
/-- a text of moves round -/
def RoundOk (l : List UInt8) (es : List (ByteArray × ByteArray)) (r : List UInt8) (ms : List Mv) : Prop :=
  2 ≤ r.length ∧ r.length ≤ 120 ∧ r.length = 2 * ms.length ∧ PreR l es r ms ∧ ClosedR ms
theorem PreR.nil (l : List UInt8) (es : List (ByteArray × ByteArray)) (r : List UInt8) : PreR l es r [] := ⟨fun i m h => by simp at h, fun i m m' h => by simp at h⟩
theorem PreR.same {l : List UInt8} {es : List (ByteArray × ByteArray)} {r : List UInt8} {ms ns : List Mv} (h : PreR l es r ms) (k : PreR l es r ns) (hl : ms.length ≤ ns.length) : ∀ i, i < ms.length → ns[i]? = ms[i]? := by
  intro i hi
  have h1 := h.1 i ms[i] (List.getElem?_eq_getElem hi)
  have h2 := k.1 i (ns[i]'(by omega)) (List.getElem?_eq_getElem (by omega))
  rw [h1] at h2
  injection h2 with h2
  rw [List.getElem?_eq_getElem hi, List.getElem?_eq_getElem (show i < ns.length by omega), h2]
theorem round_unique {l : List UInt8} {es : List (ByteArray × ByteArray)} {r : List UInt8} {ms ns : List Mv} (h : RoundOk l es r ms) (k : RoundOk l es r ns) : ms = ns := by
  have hl : ms.length = ns.length := by have := h.2.2.1; have := k.2.2.1; omega
  apply List.ext_getElem?
  intro i
  by_cases hi : i < ms.length
  · exact (h.2.2.2.1.same k.2.2.2.1 (by omega) i hi).symm
  · rw [List.getElem?_eq_none (by omega), List.getElem?_eq_none (by omega)]
/-- one move more -/
theorem PreR.snoc {l : List UInt8} {es : List (ByteArray × ByteArray)} {r : List UInt8} {ms : List Mv} {m : Mv} (h : PreR l es r ms) (hm : mvOf l es (r.getD (2 * ms.length) 0) (r.getD (2 * ms.length + 1) 0) = some m) (hc : ms.length = 0 ∨ ∃ x, ms[ms.length - 1]? = some x ∧ m.fr = x.tb) : PreR l es r (ms ++ [m]) := by
  refine ⟨fun i x hx => ?_, fun i x y hx hy => ?_⟩
  · by_cases hi : i < ms.length
    · rw [List.getElem?_append_left hi] at hx; exact h.1 i x hx
    · have hil : i < (ms ++ [m]).length := (List.getElem?_eq_some_iff.1 hx).1
      have : i = ms.length := by simp at hil; omega
      subst this
      simp at hx
      subst hx
      exact hm
  · have hil : i + 1 < (ms ++ [m]).length := (List.getElem?_eq_some_iff.1 hy).1
    have hi : i < ms.length := by simp at hil; omega
    rw [List.getElem?_append_left hi] at hx
    by_cases hi1 : i + 1 < ms.length
    · rw [List.getElem?_append_left hi1] at hy; exact h.2 i x y hx hy
    · have : i + 1 = ms.length := by simp at hil; omega
      rw [this] at hy
      simp at hy
      subst hy
      rcases hc with h0 | ⟨z, hz, he⟩
      · omega
      · rw [show ms.length - 1 = i by omega, hx] at hz
        injection hz with hz
        rw [he, hz]
/-- where a move is none, or begins elsewhere, there is no round -/
theorem no_round {l : List UInt8} {es : List (ByteArray × ByteArray)} {r : List UInt8} {ms : List Mv} (h : PreR l es r ms) (hr : 2 * ms.length < r.length) (hn : ∀ m, mvOf l es (r.getD (2 * ms.length) 0) (r.getD (2 * ms.length + 1) 0) = some m → ms.length ≠ 0 ∧ ∃ x, ms[ms.length - 1]? = some x ∧ m.fr ≠ x.tb) : ¬ ∃ ns, RoundOk l es r ns := by
  rintro ⟨ns, _, _, hl, hp, _⟩
  have hi : ms.length < ns.length := by omega
  obtain ⟨h0, x, hx, hne⟩ := hn ns[ms.length] (hp.1 ms.length _ (List.getElem?_eq_getElem hi))
  have hs := h.same hp (by omega) (ms.length - 1) (by omega)
  rw [hx] at hs
  have := hp.2 (ms.length - 1) x ns[ms.length] hs (by rw [show ms.length - 1 + 1 = ms.length by omega]; exact List.getElem?_eq_getElem hi)
  exact hne this
theorem full_round {l : List UInt8} {es : List (ByteArray × ByteArray)} {r : List UInt8} {ms : List Mv} (h2 : 2 ≤ r.length) (h120 : r.length ≤ 120) (h : PreR l es r ms) (hl : r.length = 2 * ms.length) : (∃ ns, RoundOk l es r ns) ↔ ClosedR ms := by
  refine ⟨fun ⟨ns, hr⟩ => ?_, fun hc => ⟨ms, h2, h120, hl, h, hc⟩⟩
  have hln : ns.length = ms.length := by have := hr.2.2.1; omega
  have : ms = ns := by
    apply List.ext_getElem?
    intro i
    by_cases hi : i < ms.length
    · exact (h.same hr.2.2.2.1 (by omega) i hi).symm
    · rw [List.getElem?_eq_none (by omega), List.getElem?_eq_none (by omega)]
  rw [this]; exact hr.2.2.2.2
theorem mvOf_some {l : List UInt8} {es : List (ByteArray × ByteArray)} {s c : UInt8} {m : Mv} (h : mvOf l es s c = some m) : ∃ e, edOf l es c = some e ∧ ((s = 43 ∧ m = plus e) ∨ (s = 45 ∧ m = minus e)) := by
  unfold mvOf at h
  split at h
  · cases h
  · rename_i e he
    refine ⟨e, he, ?_⟩
    split at h
    · rename_i hs; injection h with h; exact .inl ⟨hs, h.symm⟩
    · split at h
      · rename_i hs; injection h with h; exact .inr ⟨hs, h.symm⟩
      · cases h
theorem edOf_some {l : List UInt8} {es : List (ByteArray × ByteArray)} {c : UInt8} {e : Ed} (hn : es.length ≤ 16) (h : edOf l es c = some e) : e.nm = c ∧ ((c = 122 ∧ e = edZ l) ∨ ∃ k, k < es.length ∧ c = nameOf k ∧ e = edK es k) := by
  unfold edOf at h
  split at h
  · rename_i hz
    injection h with h
    subst h
    exact ⟨hz.symm, .inl ⟨hz, rfl⟩⟩
  · split at h
    · rename_i hk
      injection h with h
      obtain ⟨k, hk1, hk2⟩ := eIdx_some hk
      have hc : c = nameOf k := by
        have := eIdx_text (b := ⟨#[c]⟩) (n := es.length) (k := k) hk2 hn
        have h2 := congrArg (fun b : ByteArray => b.data.toList) this
        injection h2
      rw [hk2, Int.toNat_natCast] at h
      subst h
      exact ⟨hc.symm, .inr ⟨k, hk1, hc, rfl⟩⟩
    · cases h

/-- what a round adds -/
noncomputable def roundSumV (B : ByteArray) (es : List (ByteArray × ByteArray)) (F : Nat → Nat) (r : ByteArray) (ok : Prop) : Int × Bool := open Classical in if h : ok ∧ ∃ ms, RoundOk B.data.toList es r.data.toList ms then (sumM F h.2.choose, true) else (0, false)
theorem roundSum_yes {B : ByteArray} {es : List (ByteArray × ByteArray)} {F : Nat → Nat} {r : ByteArray} {ok : Prop} {ms : List Mv} (h : ok) (hr : RoundOk B.data.toList es r.data.toList ms) : roundSumV B es F r ok = (sumM F ms, true) := by
  have hh : ok ∧ ∃ ms, RoundOk B.data.toList es r.data.toList ms := ⟨h, ms, hr⟩
  unfold roundSumV
  rw [dif_pos hh, round_unique hh.2.choose_spec hr]
theorem roundSum_no {B : ByteArray} {es : List (ByteArray × ByteArray)} {F : Nat → Nat} {r : ByteArray} {ok : Prop} (h : ¬ (ok ∧ ∃ ms, RoundOk B.data.toList es r.data.toList ms)) : roundSumV B es F r ok = (0, false) := by
  unfold roundSumV
  rw [dif_neg h]

/-- all moves of a net, and along z -/
def allM (l : List UInt8) (es : List (ByteArray × ByteArray)) : List Mv := msP l es (List.range es.length)
theorem edOf_name {l : List UInt8} {es : List (ByteArray × ByteArray)} (hn : es.length ≤ 16) {k : Nat} (hk : k < es.length) : edOf l es (nameOf k) = some (edK es k) := by
  unfold edOf
  have h1 : nameOf k ≠ 122 := fun e => by
    have := congrArg UInt8.toNat e
    rw [nameOf_toNat (by omega)] at this
    have h2 : (122 : UInt8).toNat = 122 := rfl
    omega
  have h2 : eIdx es.length [nameOf k] = (k : Int) := eIdx_name hk (by omega)
  rw [if_neg h1, h2, if_pos (by omega), Int.toNat_natCast]
theorem all_mv {l : List UInt8} {es : List (ByteArray × ByteArray)} (hn : es.length ≤ 16) {m : Mv} (h : m ∈ allM l es) : mvOf l es m.sg m.nm = some m := by
  unfold allM msP at h
  obtain ⟨e, he, hm⟩ := mem_mvs.1 h
  have ho : edOf l es e.nm = some e := by
    rcases List.mem_cons.1 he with rfl | he
    · exact if_pos rfl
    · obtain ⟨k, hk, rfl⟩ := List.mem_map.1 he
      exact edOf_name hn (by simpa using hk)
  rcases hm with rfl | rfl
  · unfold mvOf
    show (match edOf l es e.nm with | none => none | some e' => _) = _
    rw [ho]
    rfl
  · unfold mvOf
    show (match edOf l es e.nm with | none => none | some e' => _) = _
    rw [ho]
    rfl
theorem mv_all {l : List UInt8} {es : List (ByteArray × ByteArray)} (hn : es.length ≤ 16) {s c : UInt8} {m : Mv} (h : mvOf l es s c = some m) : m ∈ allM l es ∧ m.sg = s ∧ m.nm = c := by
  obtain ⟨e, he, hm⟩ := mvOf_some h
  obtain ⟨hnm, hc⟩ := edOf_some hn he
  have hin : e ∈ edZ l :: (List.range es.length).map (edK es) := by
    rcases hc with ⟨_, rfl⟩ | ⟨k, hk, _, rfl⟩
    · exact List.mem_cons_self
    · exact List.mem_cons_of_mem _ (List.mem_map.2 ⟨k, by simpa using hk, rfl⟩)
  unfold allM msP
  rcases hm with ⟨hs, rfl⟩ | ⟨hs, rfl⟩
  · exact ⟨mem_mvs.2 ⟨e, hin, .inl rfl⟩, hs.symm, hnm⟩
  · exact ⟨mem_mvs.2 ⟨e, hin, .inr rfl⟩, hs.symm, hnm⟩
theorem ofNet_round {l : List UInt8} {es : List (ByteArray × ByteArray)} (hn : es.length ≤ 16) {r : List UInt8} {ms : List Mv} (h : PreR l es r ms) : OfNet es.length ms := by
  intro m hm
  obtain ⟨i, hi⟩ := List.mem_iff_getElem?.1 hm
  obtain ⟨e, he, hmm⟩ := mvOf_some (h.1 i m hi)
  obtain ⟨hnm, hc⟩ := edOf_some hn he
  have hmn : m.nm = e.nm := by rcases hmm with ⟨_, rfl⟩ | ⟨_, rfl⟩ <;> rfl
  rw [hmn, hnm]
  rcases hc with ⟨h1, _⟩ | ⟨k, h1, h2, _⟩
  · exact .inl h1
  · exact .inr ⟨k, h1, h2⟩
theorem txt_round {l : List UInt8} {es : List (ByteArray × ByteArray)} (hn : es.length ≤ 16) {r : List UInt8} {ms : List Mv} (h : RoundOk l es r ms) : r = txtM ms := by
  obtain ⟨_, _, hl, hp, _⟩ := h
  apply List.ext_getElem?
  intro i
  by_cases hi : i < r.length
  · obtain ⟨j, hj⟩ : ∃ j, i = 2 * j ∨ i = 2 * j + 1 := ⟨i / 2, by omega⟩
    have hjl : j < ms.length := by omega
    have h1 := hp.1 j ms[j] (List.getElem?_eq_getElem hjl)
    obtain ⟨h2, h3⟩ := (mv_all hn h1).2
    obtain ⟨h4, h5⟩ := txtM_at (List.getElem?_eq_getElem hjl)
    rcases hj with rfl | rfl
    · rw [h4, h2, List.getD_eq_getElem?_getD, List.getElem?_eq_getElem hi]; rfl
    · rw [h5, h3, List.getD_eq_getElem?_getD, List.getElem?_eq_getElem hi]; rfl
  · rw [List.getElem?_eq_none (by omega), List.getElem?_eq_none (by rw [txtM_len]; omega)]

end Go.Proofs.Ythpfifjcallnbaa
