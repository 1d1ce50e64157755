/- The kind of the run of a number, by both. -/
import Derived.Test.YtpeafheljcjlhaaGreatZ8R
import Derived.Test.YtpeafheljcjlhaaGreatZ8I
import Derived.Deep.RegionHeld3
namespace Go.Proofs.YtpeafheljcjlhaaGreat
open Go.RowKit
set_option linter.unusedVariables false
set_option linter.unusedSimpArgs false

theorem runE_letters {es : List (ByteArray × ByteArray)} {t : UInt8} : ∀ (f : Nat) (b : UInt8) (m : Nat), ∀ c ∈ runE es t f b m, ∃ i, i < es.length ∧ c = nameOf i
  | 0, _, _ => by intro c hc; simp [runE] at hc
  | f + 1, b, m => by
    intro c hc
    unfold runE at hc
    split at hc
    · simp at hc
    · split at hc
      · simp at hc
      · rename_i k hk
        rcases List.mem_cons.1 hc with rfl | hc
        · have hm := (lastO_mem hk).1
          unfold outsOf at hm
          exact ⟨k, by simpa using (List.mem_filter.1 hm).1, rfl⟩
        · exact runE_letters f _ _ c hc

theorem entry_ne {B : ByteArray} {es : List (ByteArray × ByteArray)} {O : List UInt8} (hA : Acy B es O) (h2 : 2 ≤ B.data.toList.length) : entry B.data.toList ≠ exit_ B.data.toList := by
  intro e
  have h0 : B.data.toList[0]? = some (entry B.data.toList) := by
    unfold entry
    match hB : B.data.toList, h2 with
    | a :: l, _ => rfl
  have h1 := hA.tix
  have hz : B.data.toList.length = B.size := by simp
  rw [← e, ← h0] at h1
  have := (List.getElem?_inj (by omega) hA.lnd).1 h1
  omega

/-- what the run of a number is like -/
theorem runOf_facts {B : ByteArray} {es : List (ByteArray × ByteArray)} {m : Int} {r : ByteArray} (h : runOfV B es m = (r, true)) :
    1 ≤ r.size ∧ r.size ≤ 8 ∧ ∀ c ∈ r.data.toList, ∃ i, i < es.length ∧ c = nameOf i := by
  unfold runOfV at h
  split at h
  case isFalse => injection h with _ h; cases h
  case isTrue hc =>
    have hA := acy_v hc.1
    have hv := (decB_iff.1 hc.1).1
    injection h with h _
    subst h
    have hne := entry_ne hA hv.1.1.1
    obtain ⟨k, hk, _⟩ := lastE_some hA hA.F.ent hne m.toNat
    refine ⟨?_, ?_, ?_⟩
    · rw [size_mk, runE_go hne hk]; simp
    · rw [size_mk]; exact runE_len es _ 8 _ _
    · intro c hc'
      exact runE_letters 8 _ _ c hc'

/-- what the edge of a letter is -/
def kAt (X : List CutEd) (c : UInt8) : Nat := ((X[c.toNat - 97]?).map fun x => x.2.1).getD 0
theorem kAt_name {X : List CutEd} {i : Nat} (hi : i < X.length) (h : i ≤ 100) : kAt X (nameOf i) = X[i].2.1 := by
  unfold kAt
  rw [nameOf_toNat h, Nat.add_sub_cancel_left, List.getElem?_eq_getElem hi]
  rfl

theorem cutX_kinds {B : ByteArray} {es : List (ByteArray × ByteArray)} : ∀ x ∈ cutX B es, (x.2.1 = 0 ∧ x.2.2 < es.length) ∨ x.2.1 = 1 ∨ x.2.1 = 2 := by
  intro x hx
  unfold cutX at hx
  rcases List.mem_append.1 hx with hx | hx
  · rcases List.mem_append.1 hx with hx | hx
    · obtain ⟨i, hi, rfl⟩ := List.mem_map.1 hx
      exact .inl ⟨rfl, (keptI_mem hi).1⟩
    · obtain ⟨i, hi, rfl⟩ := List.mem_map.1 hx
      exact .inr (.inl rfl)
  · obtain ⟨i, hi, rfl⟩ := List.mem_map.1 hx
    exact .inr (.inr rfl)
/-- the letter of a kind tells the kind -/
theorem kindL_is {B : ByteArray} {es : List (ByteArray × ByteArray)} (h16 : es.length ≤ 16) {x : CutEd} (hx : x ∈ cutX B es) : (kindL x = 43 ↔ x.2.1 = 1) ∧ (kindL x = 45 ↔ x.2.1 = 2) := by
  unfold kindL
  rcases cutX_kinds x hx with ⟨h, hp⟩ | h | h
  · rw [if_pos h, h]
    have hz := nameOf_toNat (k := x.2.2) (by omega)
    refine ⟨⟨fun e => ?_, fun e => by cases e⟩, ⟨fun e => ?_, fun e => by cases e⟩⟩
    · rw [e] at hz; simp at hz; omega
    · rw [e] at hz; simp at hz; omega
  · simp [h]
  · simp [h]

/-- the words -/
def nkText : Bool → Bool → ByteArray
  | false, false => ⟨#[101, 110, 116, 114, 121, 32, 101, 120, 105, 116]⟩
  | false, true => ⟨#[101, 110, 116, 114, 121, 32, 116, 97, 105, 108]⟩
  | true, false => ⟨#[104, 101, 97, 100, 32, 101, 120, 105, 116]⟩
  | true, true => ⟨#[104, 101, 97, 100, 32, 116, 97, 105, 108]⟩

/-- the kind of the run of a number, if there is one -/
noncomputable def numKindV (B : ByteArray) (es : List (ByteArray × ByteArray)) (m : Int) : ByteArray × Bool :=
  open Classical in if Cuttable B es ∧ (runOfV B (cutE B es) m).2 = true then
    (nkText (decide (kAt (cutX B es) ((runOfV B (cutE B es) m).1.data.toList.headD 0) = 1)) (decide (kAt (cutX B es) ((runOfV B (cutE B es) m).1.data.toList.getLastD 0) = 2)), true) else (⟨#[]⟩, false)
theorem numKind_no {B : ByteArray} {es : List (ByteArray × ByteArray)} {m : Int} (h : ¬ Cuttable B es ∨ (runOfV B (cutE B es) m).2 = false) : numKindV B es m = (⟨#[]⟩, false) :=
  if_neg (by rintro ⟨h1, h2⟩; rcases h with h | h; exact h h1; rw [h] at h2; cases h2)
theorem numKind_yes {B : ByteArray} {es : List (ByteArray × ByteArray)} {m : Int} {r : ByteArray} (h : Cuttable B es) (hr : runOfV B (cutE B es) m = (r, true)) :
    numKindV B es m = (nkText (decide (kAt (cutX B es) (r.data.toList.headD 0) = 1)) (decide (kAt (cutX B es) (r.data.toList.getLastD 0) = 2)), true) := by
  unfold numKindV
  rw [if_pos ⟨h, by rw [hr]⟩, hr]

/-- the first and the last letter of such a run -/
theorem ends_of {ce : List (ByteArray × ByteArray)} {r : ByteArray} (h1 : 1 ≤ r.size) (hl : ∀ c ∈ r.data.toList, ∃ i, i < ce.length ∧ c = nameOf i) :
    ∃ i j, i < ce.length ∧ j < ce.length ∧ r.data.toList.headD 0 = nameOf i ∧ r.data.toList.getLastD 0 = nameOf j ∧ (r.extract 0 1).data.toList = [nameOf i] ∧ (r.extract (r.size - 1) r.size).data.toList = [nameOf j] ∧ r.data.toList[0]? = some (nameOf i) ∧ r.data.toList[r.size - 1]? = some (nameOf j) := by
  have hz : r.data.toList.length = r.size := by simp
  have hne : r.data.toList ≠ [] := by intro e; rw [e] at hz; simp at hz; omega
  have hg0 : r.data.toList[0]? = some (r.data.toList.headD 0) := by
    match hB : r.data.toList, hne with
    | a :: l, _ => rfl
  have hgl : r.data.toList[r.size - 1]? = some (r.data.toList.getLastD 0) := by
    rw [List.getLastD_eq_getLast?, List.getLast?_eq_getElem?, hz, List.getElem?_eq_getElem (by omega)]; rfl
  obtain ⟨i, hi, ei⟩ := hl _ (List.mem_of_getElem? hg0)
  obtain ⟨j, hj, ej⟩ := hl _ (List.mem_of_getElem? hgl)
  refine ⟨i, j, hi, hj, ei, ej, ?_, ?_, by rw [hg0, ei], by rw [hgl, ej]⟩
  · have := letter_at (p := r) (i := 0) (by omega)
    rw [this, List.getD_eq_getElem?_getD, hg0, ei]; rfl
  · have := letter_at (p := r) (i := r.size - 1) (by omega)
    rw [show r.size - 1 + 1 = r.size by omega] at this
    rw [this, List.getD_eq_getElem?_getD, hgl, ej]; rfl

end Go.Proofs.YtpeafheljcjlhaaGreat

namespace Go.Proofs.YtpeafheljcjlhaaGreat
open Go.RowKit
set_option linter.unusedVariables false
set_option linter.unusedSimpArgs false

/-- a cutting, as a value -/
abbrev cutgV (B : ByteArray) (A : Option Addr) (n cap m : Nat) (A2 : Option Addr) (n2 c2 : Nat) (A5 : Option Addr) (n5 c5 : Nat) : Value :=
  .agg #[.string B, .slice A n cap, .map (some m), .string B, .slice A2 n2 c2, .slice A5 n5 c5]

theorem rowz (W : World) : (W.alloc (.cells #[.string ⟨#[]⟩, .string ⟨#[]⟩, .int .i64 0, .int .i64 0] 73)).rowIs W.heap.size 73 4 (fun i => if i < 2 then .string ⟨#[]⟩ else .int .i64 0) :=
  World.rowIs_alloc W #[.string ⟨#[]⟩, .string ⟨#[]⟩, .int .i64 0, .int .i64 0] 73 _ (fun i hi => by
    match i, hi with
    | 0, _ => rfl
    | 1, _ => rfl
    | 2, _ => rfl
    | 3, _ => rfl)

set_option maxRecDepth 100000 in
set_option maxHeartbeats 4000000 in
/-- impl.cutting.edgeOf -/
theorem edgeOf_any (B : ByteArray) (A : Option Addr) (n cap m : Nat) (A2 : Option Addr) (n2 c2 : Nat) (A5 : Option Addr) (c5 : Nat) (xs : List CutEd) (b : ByteArray) (i : Nat) (w : World) (hx : CutIn w w.heap.size A5 xs) (hn : n2 = xs.length) (hl : n2 ≤ 100) (hi : i < xs.length) (hb : eIdx n2 b.data.toList = i) :
    Calls Tryz.prog 43 #[cutgV B A n cap m A2 n2 c2 A5 xs.length c5, .string b] w fun e w' => e = .returned (cutV xs[i]) ∧ Below w.heap.size w w' := by
  obtain ⟨x, hxi⟩ : ∃ x, xs[i] = x := ⟨_, rfl⟩
  obtain ⟨eb, eo, rfl, hlow, q1, q2, q3, q4⟩ := hx i hi
  rw [hxi] at q1 q2 q3 q4 ⊢
  obtain ⟨⟨p1, p2⟩, kd, pl⟩ := x
  simp only at q1 q2 q3 q4
  have FI : Hid (∀ W : World, Calls Tryz.prog 66 #[.agg #[.string B, .slice A2 n2 c2], .string b] W fun e w' => e = .returned (.int .i64 (i : Int)) ∧ Below W.heap.size W w') := Lib.hid fun W => by
    rw [← hb]; exact edgeIndex_any (.string B) A2 n2 c2 b W (by omega)
  have hz2 : ((w.alloc (.cells #[.string B, .slice A n cap, .map (some m), .string B, .slice A2 n2 c2, .slice (some ⟨eb, eo, none⟩) xs.length c5] 55)).alloc (.cells #[.string ⟨#[]⟩, .string ⟨#[]⟩, .int .i64 0, .int .i64 0] 73)).heap.size = w.heap.size + 2 := by simp
  have hr2 : ((w.alloc (.cells #[.string B, .slice A n cap, .map (some m), .string B, .slice A2 n2 c2, .slice (some ⟨eb, eo, none⟩) xs.length c5] 55)).alloc (.cells #[.string ⟨#[]⟩, .string ⟨#[]⟩, .int .i64 0, .int .i64 0] 73)).rowIs (w.heap.size + 1) 73 4 (fun i => if i < 2 then .string ⟨#[]⟩ else .int .i64 0) := by
    have h := rowz (w.alloc (.cells #[.string B, .slice A n cap, .map (some m), .string B, .slice A2 n2 c2, .slice (some ⟨eb, eo, none⟩) xs.length c5] 55))
    rwa [World.size_alloc] at h
  have hb2 : Below w.heap.size w ((w.alloc (.cells #[.string B, .slice A n cap, .map (some m), .string B, .slice A2 n2 c2, .slice (some ⟨eb, eo, none⟩) xs.length c5] 55)).alloc (.cells #[.string ⟨#[]⟩, .string ⟨#[]⟩, .int .i64 0, .int .i64 0] 73)) := ((Below.refl _ _).alloc (Nat.le_refl _) _).alloc (by simp) _
  have d3 : ((w.alloc (.cells #[.string B, .slice A n cap, .map (some m), .string B, .slice A2 n2 c2, .slice (some ⟨eb, eo, none⟩) xs.length c5] 55)).alloc (.cells #[.string ⟨#[]⟩, .string ⟨#[]⟩, .int .i64 0, .int .i64 0] 73)).cell? ⟨w.heap.size, 3, none⟩ = some (.string B) := by go_simp
  have d4 : ((w.alloc (.cells #[.string B, .slice A n cap, .map (some m), .string B, .slice A2 n2 c2, .slice (some ⟨eb, eo, none⟩) xs.length c5] 55)).alloc (.cells #[.string ⟨#[]⟩, .string ⟨#[]⟩, .int .i64 0, .int .i64 0] 73)).cell? ⟨w.heap.size, 4, none⟩ = some (.slice A2 n2 c2) := by go_simp
  have d5 : ((w.alloc (.cells #[.string B, .slice A n cap, .map (some m), .string B, .slice A2 n2 c2, .slice (some ⟨eb, eo, none⟩) xs.length c5] 55)).alloc (.cells #[.string ⟨#[]⟩, .string ⟨#[]⟩, .int .i64 0, .int .i64 0] 73)).cell? ⟨w.heap.size, 5, none⟩ = some (.slice (some ⟨eb, eo, none⟩) xs.length c5) := by go_simp
  have a1 : (0 : Int) ≤ (i : Int) := by omega
  have a2 : (i : Int) < (xs.length : Int) := by omega
  clear hx hb hn hl
  go_enter Tryz.func43, Tryz.ntmps43
  go_wp2_with fail
  generalize hW2 : (w.alloc (.cells #[.string B, .slice A n cap, .map (some m), .string B, .slice A2 n2 c2, .slice (some ⟨eb, eo, none⟩) xs.length c5] 55)).alloc (.cells #[.string ⟨#[]⟩, .string ⟨#[]⟩, .int .i64 0, .int .i64 0] 73) = w2 at hz2 hr2 hb2 d3 d4 d5 ⊢
  clear hW2
  have hS : ∀ W, Below (w.heap.size + 1) w2 W → (W.cell? ⟨w.heap.size, 3, none⟩ = some (.string B) ∧ W.cell? ⟨w.heap.size, 4, none⟩ = some (.slice A2 n2 c2) ∧ W.cell? ⟨w.heap.size, 5, none⟩ = some (.slice (some ⟨eb, eo, none⟩) xs.length c5) ∧ W.cell? ⟨eb, eo + i * 4, none⟩ = some (.string p1) ∧ W.cell? ⟨eb, eo + i * 4 + 1, none⟩ = some (.string p2) ∧ W.cell? ⟨eb, eo + i * 4 + 2, none⟩ = some (.int .i64 (kd : Int)) ∧ W.cell? ⟨eb, eo + i * 4 + 3, none⟩ = some (.int .i64 (pl : Int)) ∧ Below (w.heap.size + 1) w2 W) :=
    fun W h => ⟨(h.cell (by simp only; omega)).trans d3, (h.cell (by simp only; omega)).trans d4, (h.cell (by simp only; omega)).trans d5, (h.cell (by simp only; omega)).trans ((hb2.cell hlow).trans q1), (h.cell (by simp only; omega)).trans ((hb2.cell hlow).trans q2), (h.cell (by simp only; omega)).trans ((hb2.cell hlow).trans q3), (h.cell (by simp only; omega)).trans ((hb2.cell hlow).trans q4), h⟩
  have HSS := Lib.hid hS; have HR2 := Lib.hid hr2; have HZ2 := Lib.hid hz2; have HB2 := Lib.hid hb2
  have HK0 : Hid (Below (w.heap.size + 1) w2 w2.drew) := Lib.hid (Below.refl _ _).drew
  clear hS d3 d4 d5 q1 q2 q3 q4 hr2 hb2 hz2
  go_region_held3 (fun W => W.cell? ⟨w.heap.size, 3, none⟩ = some (.string B) ∧ W.cell? ⟨w.heap.size, 4, none⟩ = some (.slice A2 n2 c2) ∧ W.cell? ⟨w.heap.size, 5, none⟩ = some (.slice (some ⟨eb, eo, none⟩) xs.length c5) ∧ W.cell? ⟨eb, eo + i * 4, none⟩ = some (.string p1) ∧ W.cell? ⟨eb, eo + i * 4 + 1, none⟩ = some (.string p2) ∧ W.cell? ⟨eb, eo + i * 4 + 2, none⟩ = some (.int .i64 (kd : Int)) ∧ W.cell? ⟨eb, eo + i * 4 + 3, none⟩ = some (.int .i64 (pl : Int)) ∧ Below (w.heap.size + 1) w2 W)
    (first
      | with_reducible exact HSS.out _ HK0.out
      | with_reducible exact HSS.out _ HB4.out
      | exact HSS.out _ ((((HB4.out.setCell (by simp) _).setCell (by simp) _).setCell (by simp) _).setCell (by simp) _))
    (first
      | (go_at_call 66
         go_must (
         refine (FI.out _).mono ?_
         rintro e w4 ⟨rfl, hb4⟩
         have HB4 : Hid (Below (w.heap.size + 1) w2 w4) := Lib.hid (HK0.out.trans (hb4.mono (by show _ ≤ w2.heap.size; rw [HZ2.out]; omega)))
         have hr4 := HR2.out.drew.of_block (hb4.block _ (by show _ < w2.heap.size; rw [HZ2.out]; omega))
         have z0 := hr4.cell (i := 0) (by omega); have z1 := hr4.cell (i := 1) (by omega); have z2 := hr4.cell (i := 2) (by omega); have z3 := hr4.cell (i := 3) (by omega)
         have zf0 := hr4.frozen 0; have zf1 := hr4.frozen 1; have zf2 := hr4.frozen 2; have zf3 := hr4.frozen 3
         clear hr4 hb4)))
  all_goals
    go_wp2_with fail
    refine bodyPost_ret (v := cutV ((p1, p2), kd, pl)) (by simp [results, Tryz.results43, go_sem, z0, z1, z2, z3]) rfl ⟨rfl, ?_⟩
    exact ((((HB2.out.trans (HB4.out.mono (by omega))).setCell (by simp only; omega) _).setCell (by simp only; omega) _).setCell (by simp only; omega) _).setCell (by simp only; omega) _

end Go.Proofs.YtpeafheljcjlhaaGreat

namespace Go.Proofs.YtpeafheljcjlhaaGreat
open Go.RowKit
set_option linter.unusedVariables false
set_option linter.unusedSimpArgs false

theorem runOfV_nil (m : Int) : runOfV ⟨#[]⟩ [] m = (⟨#[]⟩, false) := by
  unfold runOfV
  refine if_neg ?_
  rintro ⟨h, _⟩
  have := (decB_iff.1 h).1.1.1.1
  simp at this

set_option maxRecDepth 100000 in
set_option maxHeartbeats 4000000 in
/-- spec.NumberKind -/
theorem specNumberKind_any (B : ByteArray) (A : Option Addr) (cap : Nat) (es : List (ByteArray × ByteArray)) (m : Int) (w : World) (hs : B.size ≤ maxLen) (hE : EdgesIn w w.heap.size A es) (hl : es.length ≤ 1099511627776) (hS : ∀ e ∈ es, e.1.size ≤ 1099511627776 ∧ e.2.size ≤ 1099511627776) :
    Calls Tryz.prog 21 #[.agg #[.string B, .slice A es.length cap], .int .i64 m] w (TextPost (numKindV B es m) w) := by
  have FL : Hid (∀ W : World, EdgesIn W W.heap.size A es → Calls Tryz.prog 40 #[.agg #[.string B, .slice A es.length cap]] W (QPost (cutQ B es) W)) := Lib.hid fun W h => specLoopNet_q B A cap es W hs h hl hS
  have HM := Lib.hid hs
  have hb1 : Below w.heap.size w (w.alloc (.cells #[.string B, .slice A es.length cap] 31)) := (Below.refl _ _).alloc (Nat.le_refl _) _
  have t1 := Two.made w B A es.length cap 31
  clear hl hS hs
  by_cases hc : Cuttable B es
  case neg =>
    have HN : Hid (numKindV B es m = (⟨#[]⟩, false)) := Lib.hid (numKind_no (.inl hc))
    have HQ : Hid (cutQ B es = (⟨#[]⟩, [], false)) := Lib.hid (cutQ_no hc)
    clear hc
    go_enter Tryz.func21, Tryz.ntmps21
    go_wp2_with fail
    refine (FL.out _ ((hE.below hb1).more hb1.size)).mono ?_
    rw [HQ.out]
    rintro e w2 ⟨A2, c2, rfl, hE2, hb2⟩
    simp only at hE2
    have hb2' := hb1.trans (hb2.mono hb1.size)
    have hba : Below w2.heap.size w2 (w2.alloc (.cells #[.string ⟨#[]⟩, .slice A2 ([] : List (ByteArray × ByteArray)).length c2] 31)) := (Below.refl _ _).alloc (Nat.le_refl _) _
    have hE3 := (hE2.below hba).more hba.size
    have hb3' := hb2'.trans (hba.mono hb2'.size)
    clear hb2 hba
    go_wp2_with fail
    refine (specRunOf_any ⟨#[]⟩ A2 c2 [] m _ (by unfold maxLen; decide) hE3 (by simp) (by simp)).mono ?_
    rintro e w4 h
    rw [TextPost, runOfV_nil] at h
    obtain ⟨rfl, hb4⟩ := h
    have hb4' := hb3'.trans (hb4.mono hb3'.size)
    clear hb4 hE3 hE2
    go_wp2_with fail
    go_ret2
    exact ⟨by rw [HN.out]; rfl, hb4'⟩
  have HQ : Hid (cutQ B es = (B, cutE B es, true)) := Lib.hid (cutQ_yes hc)
  have hce : (cutE B es).length ≤ 32 := by rw [cutE_len]; exact cutX_len (facts_of hc.1).few (facts_of hc.1).eight
  have hsm := small_of (facts_of hc.2.2)
  have h16 := (facts_of hc.1).few
  have HC := Lib.hid hc
  obtain ⟨q, hq⟩ : ∃ q, runOfV B (cutE B es) m = q := ⟨_, rfl⟩
  obtain ⟨r, ok⟩ := q
  have HRQ := Lib.hid hq
  have FR : Hid (∀ (A2 : Option Addr) (c2 : Nat) (W : World), EdgesIn W W.heap.size A2 (cutE B es) → Calls Tryz.prog 41 #[.agg #[.string B, .slice A2 (cutE B es).length c2], .int .i64 m] W fun e w' => e = .returned (.tuple #[.string r, .bool ok]) ∧ Below W.heap.size W w') := Lib.hid fun A2 c2 W h => by
    have h' := specRunOf_any B A2 c2 (cutE B es) m W HM.out h (by omega) hsm
    rw [hq] at h'
    exact h'
  have HX : Hid ((cutX B es).length = (cutE B es).length) := Lib.hid (cutE_len B es).symm
  clear hq hsm hc
  obtain ⟨ce, hcee⟩ : ∃ ce, cutE B es = ce := ⟨_, rfl⟩
  have HCE := Lib.hid hcee
  rw [hcee] at HQ hce HRQ FR HX
  clear hcee
  have hz1 : (w.alloc (.cells #[.string B, .slice A es.length cap] 31)).heap.size = w.heap.size + 1 := by simp
  cases ok with
  | false =>
    have HN : Hid (numKindV B es m = (⟨#[]⟩, false)) := Lib.hid (numKind_no (.inr (by rw [HCE.out, HRQ.out])))
    go_enter Tryz.func21, Tryz.ntmps21
    go_wp2_with fail
    refine (FL.out _ ((hE.below hb1).more hb1.size)).mono ?_
    rw [HQ.out]
    rintro e w2 ⟨A2, c2, rfl, hE2, hb2⟩
    simp only at hE2
    have hb2' := hb1.trans (hb2.mono hb1.size)
    have hba : Below w2.heap.size w2 (w2.alloc (.cells #[.string B, .slice A2 ce.length c2] 31)) := (Below.refl _ _).alloc (Nat.le_refl _) _
    have hE3 := (hE2.below hba).more hba.size
    have hb3' := hb2'.trans (hba.mono hb2'.size)
    clear hb2 hba
    go_wp2_with fail
    refine (FR.out A2 c2 _ hE3).mono ?_
    rintro e w4 ⟨rfl, hb4⟩
    have hb4' := hb3'.trans (hb4.mono hb3'.size)
    clear hb4 hE3 hE2
    go_wp2_with fail
    go_ret2
    exact ⟨by rw [HN.out]; rfl, hb4'⟩
  | true =>
    obtain ⟨hr1, hr8, hrl⟩ := runOf_facts HRQ.out
    obtain ⟨i, j, hi, hj, ei, ej, -, -, g0, gl⟩ := ends_of hr1 hrl
    have HN : Hid (numKindV B es m = (nkText (decide (kAt (cutX B es) (nameOf i) = 1)) (decide (kAt (cutX B es) (nameOf j) = 2)), true)) := Lib.hid (by
      rw [numKind_yes HC.out (by rw [HCE.out]; exact HRQ.out), ei, ej])
    obtain ⟨ck, hck⟩ : ∃ ck : ByteArray, (⟨(cutK B es).toArray⟩ : ByteArray) = ck := ⟨_, rfl⟩
    have hckd : ck.data.toList = (cutX B es).map kindL := by rw [← hck]; rfl
    have hckz : ck.size = ce.length := by rw [str_size hckd, List.length_map, HX.out]
    have HCK := Lib.hid hck
    have hiX : i < (cutX B es).length := by rw [HX.out]; exact hi
    have hjX : j < (cutX B es).length := by rw [HX.out]; exact hj
    obtain ⟨ki, hki⟩ : ∃ ki, kindL (cutX B es)[i] = ki := ⟨_, rfl⟩
    obtain ⟨kj, hkj⟩ : ∃ kj, kindL (cutX B es)[j] = kj := ⟨_, rfl⟩
    have hv1 : decide (kAt (cutX B es) (nameOf i) = 1) = ((ki.toNat : Int) == 43) := by
      have h := (kindL_is h16 (List.getElem_mem hiX)).1
      rw [hki] at h
      rw [kAt_name hiX (by omega)]
      by_cases hk : (cutX B es)[i].2.1 = 1
      · rw [decide_eq_true hk, h.2 hk]; rfl
      · rw [decide_eq_false hk]
        symm; rw [beq_eq_false_iff_ne]
        intro e
        exact hk (h.1 (UInt8.toNat_inj.1 (by show ki.toNat = 43; omega)))
    have hv2 : decide (kAt (cutX B es) (nameOf j) = 2) = ((kj.toNat : Int) == 45) := by
      have h := (kindL_is h16 (List.getElem_mem hjX)).2
      rw [hkj] at h
      rw [kAt_name hjX (by omega)]
      by_cases hk : (cutX B es)[j].2.1 = 2
      · rw [decide_eq_true hk, h.2 hk]; rfl
      · rw [decide_eq_false hk]
        symm; rw [beq_eq_false_iff_ne]
        intro e
        exact hk (h.1 (UInt8.toNat_inj.1 (by show kj.toNat = 45; omega)))
    have hgi : ck.data.toList[i]? = some ki := by rw [hckd, List.getElem?_map, List.getElem?_eq_getElem hiX, ← hki]; rfl
    have hgj : ck.data.toList[j]? = some kj := by rw [hckd, List.getElem?_map, List.getElem?_eq_getElem hjX, ← hkj]; rfl
    obtain ⟨v1, hv1e⟩ : ∃ v, ((ki.toNat : Int) == 43) = v := ⟨_, rfl⟩
    obtain ⟨v2, hv2e⟩ : ∃ v, ((kj.toNat : Int) == 45) = v := ⟨_, rfl⟩
    rw [hv1e] at hv1; rw [hv2e] at hv2
    have HV1 := Lib.hid hv1; have HV2 := Lib.hid hv2
    have HV := Lib.hid HC.out.1
    obtain ⟨z, hz⟩ : ∃ z, r.size = z + 1 := ⟨r.size - 1, by omega⟩
    have hi32 : i < ck.size := by omega
    have hj32 : j < ck.size := by omega
    have hr0 : 0 < r.size := by omega
    have hzb : z < r.size := by omega
    have az : (r.size : Int) - 1 = (z : Int) := by omega
    have x0 : r[0]'hr0 = nameOf i := by
      rw [List.getElem?_eq_getElem (by simp; omega)] at g0; injection g0
    have x1 : r[z]'hzb = nameOf j := by
      rw [show r.size - 1 = z by omega, List.getElem?_eq_getElem (by simp; omega)] at gl; injection gl
    have y0 : ck[i]'hi32 = ki := by
      rw [List.getElem?_eq_getElem (by simp; omega)] at hgi; injection hgi
    have y1 : ck[j]'hj32 = kj := by
      rw [List.getElem?_eq_getElem (by simp; omega)] at hgj; injection hgj
    have HI0 : Hid (IntKind.u8.wrap (((nameOf i).toNat : Int) - 97) = (i : Int)) := Lib.hid (by rw [nameOf_toNat (by omega)]; rw [show (((97 + i : Nat) : Int) - 97) = (i : Int) by omega]; exact IntWalk.u8_in _ (by omega))
    have HJ0 : Hid (IntKind.u8.wrap (((nameOf j).toNat : Int) - 97) = (j : Int)) := Lib.hid (by rw [nameOf_toNat (by omega)]; rw [show (((97 + j : Nat) : Int) - 97) = (j : Int) by omega]; exact IntWalk.u8_in _ (by omega))
    have HX0 := Lib.hid x0; have HX1 := Lib.hid x1; have HY0 := Lib.hid y0; have HY1 := Lib.hid y1; have HCZ := Lib.hid hckz; have HZ := Lib.hid hz; have HV1E := Lib.hid hv1e; have HV2E := Lib.hid hv2e
    clear hki hkj hgi hgj hckd hck x0 x1 y0 y1 g0 gl ei ej hrl hv1 hv2 hv1e hv2e hckz hiX hjX hz
    go_enter Tryz.func21, Tryz.ntmps21
    go_wp2_with fail
    refine (FL.out _ ((hE.below hb1).more hb1.size)).mono ?_
    rw [HQ.out]
    rintro e w2 ⟨A2, c2, rfl, hE2, hb2⟩
    simp only at hE2
    have hb2' := hb1.trans (hb2.mono hb1.size)
    have t2 := t1.below hb2 (by omega)
    have hz2 := hb2.size
    have hba : Below w2.heap.size w2 (w2.alloc (.cells #[.string B, .slice A2 ce.length c2] 31)) := (Below.refl _ _).alloc (Nat.le_refl _) _
    have hE3 := (hE2.below hba).more hba.size
    have t3 := t2.below hba (by omega)
    have hb3' := hb2'.trans (hba.mono hb2'.size)
    have hz3 : w.heap.size + 1 ≤ (w2.alloc (.cells #[.string B, .slice A2 ce.length c2] 31)).heap.size := by simp; omega
    clear hb2 hba t2
    go_wp2_with fail
    refine (FR.out A2 c2 _ hE3).mono ?_
    rintro e w4 ⟨rfl, hb4⟩
    have hb4' := hb3'.trans (hb4.mono hb3'.size)
    have t4 := t3.below hb4 (by omega)
    have hd0 := t4.1; have hd1 := t4.2
    clear hb4 hE3 hE2 t3 t4
    go_wp2_with fail
    refine (l8Build_any B A cap es _ HM.out ((hE.below hb4').more hb4'.size) HV.out).mono ?_
    rintro e w5 ⟨A5, c5, rfl, hE5, hb5, hO5⟩
    rw [HCE.out, HCK.out]
    have hb5' := hb4'.trans (hb5.mono hb4'.size)
    have hb6' := hb5'.alloc (o := .cells #[.string B, .slice A5 ce.length c5] 31) hb5'.size
    clear hb5 hE5 hO5 hd0 hd1
    have x0 := HX0.out; have x1 := HX1.out
    have b1 : (0 : Int) ≤ (z : Int) := by omega
    have b2 : (z : Int) < (r.size : Int) := by omega
    have b3 : (0 : Int) ≤ (i : Int) := by omega
    have b4 : (i : Int) < (ck.size : Int) := by omega
    have b5 : (0 : Int) ≤ (j : Int) := by omega
    have b6 : (j : Int) < (ck.size : Int) := by omega
    have b7 : IntKind.i64.wrap (z : Int) = (z : Int) := IntWalk.i64_in _ (by omega)
    have y0 := HY0.out; have y1 := HY1.out
    have a0 := HI0.out; have a1 := HJ0.out
    go_wp2_with fail
    go_quiet (fail)
    clear x0 x1 y0 y1 a0 a1 b1 b2 b3 b4 b5 b6 b7 az
    have hv1e := HV1E.out; have hv2e := HV2E.out
    cases v1 <;> cases v2
    all_goals
      go_wp2_with fail
      go_ret2
      exact ⟨by rw [HN.out, HV1.out, HV2.out]; rfl, below_drewN hb6' _⟩

end Go.Proofs.YtpeafheljcjlhaaGreat

namespace Go.Proofs.YtpeafheljcjlhaaGreat
open Go.RowKit
set_option linter.unusedVariables false
set_option linter.unusedSimpArgs false

theorem edge_kind (p1 p2 : ByteArray) (kd pl : Int) (w : World) : (Instr.field 73 (.agg #[.string p1, .string p2, .int .i64 kd, .int .i64 pl]) 1).run Tryz.prog w = .ok (.int .i64 kd) w := by kernel_rfl

set_option maxRecDepth 100000 in
set_option maxHeartbeats 4000000 in
/-- impl.NumberKind -/
theorem implNumberKind_any (B : ByteArray) (A : Option Addr) (cap : Nat) (es : List (ByteArray × ByteArray)) (m : Int) (w : World) (hs : B.size ≤ maxLen) (hE : EdgesIn w w.heap.size A es) (hl : es.length ≤ 1099511627776) (hS : ∀ e ∈ es, e.1.size ≤ 1099511627776 ∧ e.2.size ≤ 1099511627776) :
    Calls Tryz.prog 22 #[.agg #[.string B, .slice A es.length cap], .int .i64 m] w (TextPost (numKindV B es m) w) := by
  have HM := Lib.hid hs
  have hb1 : Below w.heap.size w (w.alloc (.cells #[.string B, .slice A es.length cap] 31)) := (Below.refl _ _).alloc (Nat.le_refl _) _
  go_enter Tryz.func22, Tryz.ntmps22
  go_wp2_with fail
  refine (cuttingOf_any B A cap es _ hs ((hE.below hb1).more hb1.size) hl).mono ?_
  rintro e w2 h
  rcases h with ⟨hc, mm, A2, c2, A5, c5, rfl, hset, hE2, hO2, hx2, hb2⟩ | ⟨hc, rfl, hb2⟩
  case inr =>
    have HN : Hid (numKindV B es m = (⟨#[]⟩, false)) := Lib.hid (numKind_no (.inl hc))
    have hb2' := hb1.trans (hb2.mono hb1.size)
    have hb3' := hb2'.alloc (o := .cells #[.string ⟨#[]⟩, .slice none 0 0, .map none, .string ⟨#[]⟩, .slice none 0 0, .slice none 0 0] 55) hb2'.size
    clear hb2 hc
    go_wp2_with fail
    refine (implRunOf_any ⟨#[]⟩ none 0 [] m _ (by unfold maxLen; decide) (fun i hi => absurd hi (by simp)) (by simp) (by simp)).mono ?_
    rintro e w4 h
    rw [TextPost, runOfV_nil] at h
    obtain ⟨rfl, hb4⟩ := h
    have hb4' := hb3'.trans (hb4.mono hb3'.size)
    clear hb4
    go_wp2_with fail
    go_ret2
    exact ⟨by rw [HN.out]; rfl, hb4'⟩
  have h16 := (facts_of hc.1).few
  have hce : (cutE B es).length ≤ 32 := by rw [cutE_len]; exact cutX_len h16 (facts_of hc.1).eight
  have hsm := small_of (facts_of hc.2.2)
  have HC := Lib.hid hc
  obtain ⟨q, hq⟩ : ∃ q, runOfV B (cutE B es) m = q := ⟨_, rfl⟩
  obtain ⟨r, ok⟩ := q
  have HRQ := Lib.hid hq
  have HXL : Hid ((cutE B es).length = (cutX B es).length) := Lib.hid (cutE_len B es)
  have hb2' := hb1.trans (hb2.mono hb1.size)
  have hba : Below w2.heap.size w2 (w2.alloc (.cells #[.string B, .slice A es.length cap, .map (some mm), .string B, .slice A2 (cutE B es).length c2, .slice A5 (cutX B es).length c5] 55)) := (Below.refl _ _).alloc (Nat.le_refl _) _
  have hrw : (w2.alloc (.cells #[.string B, .slice A es.length cap, .map (some mm), .string B, .slice A2 (cutE B es).length c2, .slice A5 (cutX B es).length c5] 55)).rowIs w2.heap.size 55 6 (ctC B A es.length cap (.map (some mm)) B (.slice A2 (cutE B es).length c2) (.slice A5 (cutX B es).length c5)) :=
    World.rowIs_alloc w2 #[.string B, .slice A es.length cap, .map (some mm), .string B, .slice A2 (cutE B es).length c2, .slice A5 (cutX B es).length c5] 55 _ (fun i hi => by
      match i, hi with
      | 0, _ => rfl
      | 1, _ => rfl
      | 2, _ => rfl
      | 3, _ => rfl
      | 4, _ => rfl
      | 5, _ => rfl)
  have hE3 := (hE2.below hba).more hba.size
  have hX3 := (hx2.below hba).more hba.size
  have FR := implRunOf_any B A2 c2 (cutE B es) m (w2.alloc (.cells #[.string B, .slice A es.length cap, .map (some mm), .string B, .slice A2 (cutE B es).length c2, .slice A5 (cutX B es).length c5] 55)) hs hE3 (by omega) hsm
  rw [hq] at FR
  have FRH := Lib.hid FR
  obtain ⟨ce, hcee⟩ : ∃ ce, cutE B es = ce := ⟨_, rfl⟩
  obtain ⟨xs, hxss⟩ : ∃ xs, cutX B es = xs := ⟨_, rfl⟩
  have HCE := Lib.hid hcee; have HXS := Lib.hid hxss
  rw [hcee] at HRQ HXL hba hrw FRH hce hX3
  rw [hxss] at HXL hba hrw FRH hX3
  rw [hcee, hxss]
  have hb3' := hb2'.trans (hba.mono hb2'.size)
  have HB3 := Lib.hid hb3'; have HX3 := Lib.hid hX3; have HRW := Lib.hid hrw
  have hcr := ct_at hrw
  have d3 := hcr.c3; have d4 := hcr.c4
  clear hset hE2 hO2 hx2 hb2 hq hsm hc hb2' hba hE3 hX3 FR hcee hxss hb3' hcr hrw hb1
  go_wp2_with fail
  generalize hW3 : w2.alloc (.cells #[.string B, .slice A es.length cap, .map (some mm), .string B, .slice A2 ce.length c2, .slice A5 xs.length c5] 55) = w3 at HB3 HX3 HRW FRH d3 d4 ⊢
  clear hW3
  refine FRH.out.mono ?_
  rintro e w4 ⟨rfl, hb4⟩
  have HB4 := Lib.hid (HB3.out.trans (hb4.mono HB3.out.size))
  cases ok with
  | false =>
    have HN : Hid (numKindV B es m = (⟨#[]⟩, false)) := Lib.hid (numKind_no (.inr (by rw [HCE.out, HRQ.out])))
    clear hb4 d3 d4
    go_wp2_with fail
    go_ret2
    exact ⟨by rw [HN.out]; rfl, HB4.out⟩
  | true =>
    obtain ⟨hr1, hr8, hrl⟩ := runOf_facts HRQ.out
    obtain ⟨i, j, hi, hj, ei, ej, e1, e2, -, -⟩ := ends_of hr1 hrl
    have HN : Hid (numKindV B es m = (nkText (decide (kAt (cutX B es) (nameOf i) = 1)) (decide (kAt (cutX B es) (nameOf j) = 2)), true)) := Lib.hid (by
      rw [numKind_yes HC.out (by rw [HCE.out]; exact HRQ.out), ei, ej])
    have hiX : i < xs.length := by have := HXL.out; omega
    have hjX : j < xs.length := by have := HXL.out; omega
    have hk1 : kAt (cutX B es) (nameOf i) = xs[i].2.1 := by rw [HXS.out]; exact kAt_name hiX (by omega)
    have hk2 : kAt (cutX B es) (nameOf j) = xs[j].2.1 := by rw [HXS.out]; exact kAt_name hjX (by omega)
    obtain ⟨S1, hS1⟩ : ∃ S1, r.extract 0 1 = S1 := ⟨_, rfl⟩
    obtain ⟨S2, hS2⟩ : ∃ S2, r.extract (r.size - 1) r.size = S2 := ⟨_, rfl⟩
    rw [hS1] at e1; rw [hS2] at e2
    have hx1 : eIdx ce.length S1.data.toList = i := by rw [e1]; exact eIdx_name hi (by omega)
    have hx2 : eIdx ce.length S2.data.toList = j := by rw [e2]; exact eIdx_name hj (by omega)
    have HR4 := Lib.hid (HRW.out.of_block (hb4.block _ HRW.out.lt))
    have HX4 := Lib.hid ((HX3.out.below hb4).more hb4.size)
    have hcl : w2.heap.size < w4.heap.size := HR4.out.lt
    obtain ⟨xi, hxi⟩ : ∃ x, xs[i] = x := ⟨_, rfl⟩
    obtain ⟨xj, hxj⟩ : ∃ x, xs[j] = x := ⟨_, rfl⟩
    rw [hxi] at hk1; rw [hxj] at hk2
    have F1 : Hid (∀ W : World, CutIn W W.heap.size A5 xs → Calls Tryz.prog 43 #[.agg #[.string B, .slice A es.length cap, .map (some mm), .string B, .slice A2 ce.length c2, .slice A5 xs.length c5], .string S1] W fun e w' => e = .returned (cutV xi) ∧ Below W.heap.size W w') := Lib.hid fun W h => by
      have h' := edgeOf_any B A es.length cap mm A2 ce.length c2 A5 c5 xs S1 i W h HXL.out (by omega) hiX hx1
      rw [hxi] at h'
      exact h'
    have F2 : Hid (∀ W : World, CutIn W W.heap.size A5 xs → Calls Tryz.prog 43 #[.agg #[.string B, .slice A es.length cap, .map (some mm), .string B, .slice A2 ce.length c2, .slice A5 xs.length c5], .string S2] W fun e w' => e = .returned (cutV xj) ∧ Below W.heap.size W w') := Lib.hid fun W h => by
      have h' := edgeOf_any B A es.length cap mm A2 ce.length c2 A5 c5 xs S2 j W h HXL.out (by omega) hjX hx2
      rw [hxj] at h'
      exact h'
    obtain ⟨⟨p1, p2⟩, k1, l1⟩ := xi
    obtain ⟨⟨q1, q2⟩, k2, l2⟩ := xj
    simp only at hk1 hk2
    obtain ⟨v1, hv1⟩ : ∃ v, ((k1 : Int) == 1) = v := ⟨_, rfl⟩
    obtain ⟨v2, hv2⟩ : ∃ v, ((k2 : Int) == 2) = v := ⟨_, rfl⟩
    have HV1 : Hid (decide (kAt (cutX B es) (nameOf i) = 1) = v1) := Lib.hid (by
      rw [hk1, ← hv1]
      by_cases h : k1 = 1
      · subst h; rfl
      · rw [decide_eq_false h]; symm; rw [beq_eq_false_iff_ne]; omega)
    have HV2 : Hid (decide (kAt (cutX B es) (nameOf j) = 2) = v2) := Lib.hid (by
      rw [hk2, ← hv2]
      by_cases h : k2 = 2
      · subst h; rfl
      · rw [decide_eq_false h]; symm; rw [beq_eq_false_iff_ne]; omega)
    have cR := ct_at HR4.out
    have x0 : ∀ x : After w4, x.W.cell? ⟨w2.heap.size, 0, none⟩ = some (.string B) := fun x => x.cell hcl cR.c0
    have x1 : ∀ x : After w4, x.W.cell? ⟨w2.heap.size, 1, none⟩ = some (.slice A es.length cap) := fun x => x.cell hcl cR.c1
    have x2 : ∀ x : After w4, x.W.cell? ⟨w2.heap.size, 2, none⟩ = some (.map (some mm)) := fun x => x.cell hcl cR.c2
    have x3 : ∀ x : After w4, x.W.cell? ⟨w2.heap.size, 3, none⟩ = some (.string B) := fun x => x.cell hcl cR.c3
    have x4 : ∀ x : After w4, x.W.cell? ⟨w2.heap.size, 4, none⟩ = some (.slice A2 ce.length c2) := fun x => x.cell hcl cR.c4
    have x5 : ∀ x : After w4, x.W.cell? ⟨w2.heap.size, 5, none⟩ = some (.slice A5 xs.length c5) := fun x => x.cell hcl cR.c5
    have XE : Hid (∀ x : After w4, CutIn x.W x.W.heap.size A5 xs) := Lib.hid fun x => (HX4.out.below x.h).more x.h.size
    have HCR := Lib.hid cR
    obtain ⟨z, hz⟩ : ∃ z, r.size = z + 1 := ⟨r.size - 1, by omega⟩
    have HAZ : Hid ((r.size : Int) - 1 = (z : Int)) := Lib.hid (by omega)
    have HZS : Hid (z < r.size) := Lib.hid (by omega)
    have HS2 : Hid (r.extract z r.size = S2) := Lib.hid (by rw [← hS2]; congr 1; omega)
    clear hz hS2
    have b1 : (1 : Int) ≤ (r.size : Int) := by omega
    have b2 : 1 ≤ r.size := hr1
    have ek := edge_kind
    clear hb4 d3 d4 hrl ei ej e1 e2 hk1 hk2 hx1 hx2 hxi hxj hiX hjX cR
    go_wp2_with fail
    refine wp_region_below (by kernel_rfl) (by kernel_rfl) ?_
    repeat (go_big_quiet_step ((first
      | (go_at_call 43; exact After.call (F1.out _ (XE.out _))))))
    refine wpQuiet_nil ?_
    rintro _ ⟨x, rfl⟩
    obtain ⟨w5, hw5⟩ : ∃ w5, x.W = w5 := ⟨_, rfl⟩
    have hb5 := x.h
    rw [hw5] at hb5 ⊢
    clear hw5 x x0 x1 x2 x3 x4 x5 hS1 b1 b2 XE F1 hv1
    have HB5 := Lib.hid (HB4.out.trans (hb5.mono HB4.out.size))
    have HX5 := Lib.hid ((HX4.out.below hb5).more hb5.size)
    have hcl5 : w2.heap.size < w5.heap.size := Nat.lt_of_lt_of_le hcl hb5.size
    have x0 : ∀ x : After w5, x.W.cell? ⟨w2.heap.size, 0, none⟩ = some (.string B) := fun x => x.cell hcl5 ((hb5.cell hcl).trans HCR.out.c0)
    have x1 : ∀ x : After w5, x.W.cell? ⟨w2.heap.size, 1, none⟩ = some (.slice A es.length cap) := fun x => x.cell hcl5 ((hb5.cell hcl).trans HCR.out.c1)
    have x2 : ∀ x : After w5, x.W.cell? ⟨w2.heap.size, 2, none⟩ = some (.map (some mm)) := fun x => x.cell hcl5 ((hb5.cell hcl).trans HCR.out.c2)
    have x3 : ∀ x : After w5, x.W.cell? ⟨w2.heap.size, 3, none⟩ = some (.string B) := fun x => x.cell hcl5 ((hb5.cell hcl).trans HCR.out.c3)
    have x4 : ∀ x : After w5, x.W.cell? ⟨w2.heap.size, 4, none⟩ = some (.slice A2 ce.length c2) := fun x => x.cell hcl5 ((hb5.cell hcl).trans HCR.out.c4)
    have x5 : ∀ x : After w5, x.W.cell? ⟨w2.heap.size, 5, none⟩ = some (.slice A5 xs.length c5) := fun x => x.cell hcl5 ((hb5.cell hcl).trans HCR.out.c5)
    have XE : Hid (∀ x : After w5, CutIn x.W x.W.heap.size A5 xs) := Lib.hid fun x => (HX5.out.below x.h).more x.h.size
    have az := HAZ.out; have hS2 := HS2.out
    have c1 : (0 : Int) ≤ (z : Int) := by omega
    have c3 : (z : Int) ≤ (r.size : Int) := by have := HZS.out; omega
    have c4 : z ≤ r.size := by have := HZS.out; omega
    have c6 : IntKind.i64.wrap (z : Int) = (z : Int) := IntWalk.i64_in _ (by have := HZS.out; omega)
    clear hb5
    cases v1
    all_goals
      go_wp2_with fail
      refine wp_region_below (by kernel_rfl) (by kernel_rfl) ?_
      repeat (go_big_quiet_step ((first
        | (go_at_call 43; exact After.call (F2.out _ (XE.out _))))))
      refine wpQuiet_nil ?_
      rintro _ ⟨x, rfl⟩
      have HB6 := Lib.hid (HB5.out.trans (x.h.mono HB5.out.size))
      clear x0 x1 x2 x3 x4 x5 az hS2 c1 c3 c4 c6
      cases v2
      all_goals
        go_wp2_with fail
        go_ret2
        exact ⟨by rw [HN.out, HV1.out, HV2.out]; rfl, HB6.out⟩

end Go.Proofs.YtpeafheljcjlhaaGreat
