/- Paths gathered from an iterator, but none at all if there are too many: by the program. -/
import Derived.Test.YtcfcmlbbnpfejaaRangeT
import Derived.Test.YtcfcmlbbnpfejaaPathE
import Derived.Test.YtcfcmlbbnpfejaaTexts
import Derived.Maps.OwnIn
import Derived.Deep.AppendLies
namespace Go.Proofs.Ytcfcmlbbnpfejaa
open Go.RowKit Go.Shelf
attribute [local go_sem] Oper.semAt_some

/-- a path, handed to the body of a round -/
def encsT (p : List UInt8) : Array Value := #[.string ⟨p.toArray⟩]

/-- what holds while paths are gathered: w the world before, s its heap's size -/
structure ToldI (s : Nat) (w : World) (pre : List (List UInt8)) (V : World) : Prop where
  below : Below s w V
  few : pre.length ≤ 400
  size : s + 3 ≤ V.heap.size
  r0 : V.heap[s]? = some (.cells #[.slice none 0 0] 43 (0, 0))
  r1 : V.heap[s + 1]? = some (.cells #[.bool false] 4 (0, 0))
  list : ∃ v, V.heap[s + 2]? = some (.cells #[v] 43 (0, 0)) ∧ V.ownsRow (s + 3) 9 1 v pre.length ((tx pre).map Value.string)
/-- what holds when they were too many -/
structure ToldX (s : Nat) (w : World) (pre : List (List UInt8)) (V : World) : Prop where
  below : Below s w V
  many : pre.length = 401
  size : s + 3 ≤ V.heap.size
  r0 : V.heap[s]? = some (.cells #[.slice none 0 0] 43 (0, 0))
  r1 : V.heap[s + 1]? = some (.cells #[.bool false] 4 (0, 0))

theorem below_keep {s B : Nat} {w V V' : World} (h : Below s w V) (k : KeepT B V V') (hB : s ≤ B) : Below s w V' :=
  ⟨k.os.trans h.os, k.tape.trans h.tape, k.output.trans h.output, Nat.le_trans h.size k.size, fun i hi => (k.low i (by omega)).trans (h.block i hi)⟩
theorem own_cells {V : World} {base n : Nat} {v : Value} {xs : List Value} {T : TypeId} (h : V.ownsRow base T 1 v n xs) {g : Nat} (hg : v.ownBlock = some g) : base ≤ g ∧ ∃ C, V.heap[g]? = some (.cells C T (0, 0)) := by
  rcases h.2 with ⟨rfl, _⟩ | ⟨g', cap, cur, rfl, hb, hh, _⟩
  · cases hg
  · injection hg with hg
    subst hg
    exact ⟨hb, cur, hh⟩
theorem own_shape {V : World} {base n : Nat} {v : Value} {xs : List Value} {T : TypeId} (h : V.ownsRow base T 1 v n xs) : ∃ A c, v = .slice A n c := by
  rcases h.2 with ⟨rfl, h0⟩ | ⟨g', cap, cur, rfl, _⟩
  · exact ⟨none, 0, by rw [h0]⟩
  · exact ⟨_, _, rfl⟩
theorem ToldI.keep {s : Nat} {w V V' : World} {pre : List (List UInt8)} (h : ToldI s w pre V) (k : KeepT (s + 3) V V') : ToldI s w pre V' := by
  obtain ⟨v, h1, h2⟩ := h.list
  refine ⟨below_keep h.below k (by omega), h.few, Nat.le_trans h.size k.size, (k.low _ (by omega)).trans h.r0, (k.low _ (by omega)).trans h.r1, v, (k.low _ (by omega)).trans h1, ?_⟩
  refine ownsRow_of_block h2 fun g hg => ?_
  obtain ⟨_, C, hC⟩ := own_cells h2 hg
  rw [k.texts g C _ hC, hC]
theorem ToldX.keep {s : Nat} {w V V' : World} {pre : List (List UInt8)} (h : ToldX s w pre V) (k : KeepT (s + 3) V V') : ToldX s w pre V' :=
  ⟨below_keep h.below k (by omega), h.many, Nat.le_trans h.size k.size, (k.low _ (by omega)).trans h.r0, (k.low _ (by omega)).trans h.r1⟩
/-- a store of what lies there -/
theorem setCell_id {W : World} {b : Nat} {u : Value} {T : TypeId} {fr : Nat × Nat} (h : W.heap[b]? = some (.cells #[u] T fr)) (i : Nat) : (W.setCell ⟨b, 0, none⟩ u).heap[i]? = W.heap[i]? := by
  simp only [World.setCell, Array.getElem?_modify]
  split
  · rename_i e; subst e; rw [h]; simp
  · rfl
theorem KeepN.same {D l : Nat} {A B : World} (h : ∀ i : Nat, B.heap[i]? = A.heap[i]?) (hs : A.heap.size ≤ B.heap.size) : KeepN D l A B :=
  ⟨hs, fun i _ => h i, fun i _ _ _ hi _ _ => (h i).trans hi, fun i _ _ hi _ => (h i).trans hi⟩
theorem cell_of {W : World} {b : Nat} {u : Value} {T : TypeId} (h : W.heap[b]? = some (.cells #[u] T (0, 0))) : W.cell? ⟨b, 0, none⟩ = some u ∧ W.frozen? ⟨b, 0, none⟩ = false := by
  constructor
  · simp [World.cell?, h]
  · simp [World.frozen?, h]

set_option maxRecDepth 100000 in
set_option maxHeartbeats 4000000 in
/-- impl.told -/
theorem told_any (f : FuncId) (lb : Array Value) (full : List (List UInt8)) (w : World) (eg : ∀ args w, (callFunc f args).run Try.prog w = .ok (.enter f args) w)
    (hseq : ∀ (W : World) (k : Nat), Below w.heap.size w W → W.heap.size ≤ k → SeqRunT Fence.wide 4 Try.prog f lb encsT (KeepN w.heap.size k) (fun xs => xs = full) (fun pre => ∃ rest, full = pre ++ rest) full.length W k) :
    Calls Try.prog 110 #[.func (.func f) #[] lb] w (CutPost (if full.length ≤ 400 then (tx full, true) else ([], false)) w) := by
  refine (callsIn_wide (n := 5)).1 ?_
  refine callsIn_of_wp_marks Try.func110 rfl trivial ?_ rfl
  simp only [Try.ntmps110, List.size_toArray, List.length_cons, List.length_nil, Nat.reduceAdd, Nat.reduceSub, Array.replicate_succ, Array.replicate_zero, List.push_toArray, List.append_toArray, List.nil_append, List.cons_append]
  obtain ⟨q, hq⟩ : ∃ q, (if full.length ≤ 400 then (tx full, true) else (([] : List ByteArray), false)) = q := ⟨_, rfl⟩
  rw [hq]
  have HQ := Lib.hid hq; have HSQ := Lib.hid hseq; have HEG := Lib.hid eg
  clear hq hseq eg
  obtain ⟨s, hs⟩ : ∃ s, w.heap.size = s := ⟨_, rfl⟩
  have HS := Lib.hid hs
  have hI0 : ToldI w.heap.size w [] (((w.alloc (.cells #[.slice none 0 0] 43)).alloc (.cells #[.bool false] 4)).alloc (.cells #[.slice none 0 0] 43)) := by
    have z1 : (w.alloc (.cells #[.slice none 0 0] 43)).heap.size = w.heap.size + 1 := by simp
    have z2 : ((w.alloc (.cells #[.slice none 0 0] 43)).alloc (.cells #[.bool false] 4)).heap.size = w.heap.size + 2 := by simp
    have h0 := World.alloc_heap_new w (.cells #[.slice none 0 0] 43)
    have h1 := World.alloc_heap_new (w.alloc (.cells #[.slice none 0 0] 43)) (.cells #[.bool false] 4)
    have h2 := World.alloc_heap_new ((w.alloc (.cells #[.slice none 0 0] 43)).alloc (.cells #[.bool false] 4)) (.cells #[.slice none 0 0] 43)
    rw [z1] at h1
    rw [z2] at h2
    refine ⟨((((Below.refl _ w).alloc (Nat.le_refl _) _).alloc (by omega) _).alloc (by omega) _), by simp, by simp, ?_, ?_, .slice none 0 0, h2, World.ownsRow_nil _ _ _ _⟩
    · exact (Below.heap_alloc _ _ _ (by omega)).trans ((Below.heap_alloc _ _ _ (by omega)).trans h0)
    · exact (Below.heap_alloc _ _ _ (by omega)).trans h1
  have hz0 : (((w.alloc (.cells #[.slice none 0 0] 43)).alloc (.cells #[.bool false] 4)).alloc (.cells #[.slice none 0 0] 43)).heap.size = w.heap.size + 3 := by simp
  rw [hs] at hI0 hz0
  have HI0 := Lib.hid hI0; have HZ0 := Lib.hid hz0
  clear hI0 hz0 hs
  gi_wp2_with fail
  have hs := HS.out
  rw [hs, show s + 1 + 1 = s + 2 from rfl]
  obtain ⟨W0, hW0⟩ : ∃ W0, ((w.alloc (.cells #[.slice none 0 0] 43)).alloc (.cells #[.bool false] 4)).alloc (.cells #[.slice none 0 0] 43) = W0 := ⟨_, rfl⟩
  rw [hW0] at HI0 HZ0 ⊢
  clear hW0
  have hz0 := HZ0.out
  have hrun := HSQ.out W0 (W0.heap.size + 1) (by rw [hs]; exact HI0.out.below) (by omega)
  rw [hs] at hrun
  refine wpIn_range_texts rfl (by decide) (gf := f) (lb := lb) rfl trivial HEG.out hrun
    (fun h k => h.trans k) (fun W o o' h ho _ => KeepN.put h ho (by omega)) (Below.refl _ _) (fun _ => rfl)
    (fun pre V => ToldI s w pre V) (fun _ pre V => ToldX s w pre V)
    (fun pre V V' h hb => h.keep (hb.mono (by omega)))
    (fun _ pre V V' h hb => h.keep (hb.mono (by omega)))
    HI0.out
    (fun x => { tmps := #[.func (.func f) #[] lb, undef, .pointer (some ⟨s, 0, none⟩), .pointer (some ⟨s + 1, 0, none⟩), .pointer (some ⟨s + 2, 0, none⟩), .string ⟨x.toArray⟩, .func (.func f) #[] lb, .string ⟨x.toArray⟩,
      undef, undef, undef, undef, undef, undef, undef, undef], defers := [] }) ?assign ?body ?done ?stop
  case assign =>
    intro l x V K hK
    dsimp only [encsT]
    gi_wp2
    exact hK
  case body =>
    rintro l0 pre x V hV hlen hlt
    obtain ⟨v, hv1, hown⟩ := hV.list
    obtain ⟨A1, c1, rfl⟩ := own_shape hown
    obtain ⟨b0, f0⟩ := cell_of hV.r0
    obtain ⟨b1, f1⟩ := cell_of hV.r1
    obtain ⟨b2, f2⟩ := cell_of hv1
    have hfew := hV.few
    have HV := Lib.hid hV; have HOWN := Lib.hid hown; have HV1 := Lib.hid hv1
    clear hV hown hv1
    by_cases h4 : pre.length = 400
    · have g1 : ((pre.length : Int) == 400) = true := by simp [h4]
      gi_wp2_with fail
      have hV := HV.out
      have e1 := setCell_id hV.r0
      have e2 := setCell_id (W := V.setCell ⟨s, 0, none⟩ (.slice none 0 0)) ((e1 (s + 1)).trans hV.r1)
      have same : ∀ i : Nat, ((V.setCell ⟨s, 0, none⟩ (.slice none 0 0)).setCell ⟨s + 1, 0, none⟩ (.bool false)).heap[i]? = V.heap[i]? := fun i => (e2 i).trans (e1 i)
      have hsz : V.heap.size ≤ ((V.setCell ⟨s, 0, none⟩ (.slice none 0 0)).setCell ⟨s + 1, 0, none⟩ (.bool false)).heap.size := by simp [World.setCell]
      exact ⟨⟨hsz, fun k o _ hk _ => (same k).trans hk⟩, KeepN.same same hsz, (hV.below.setCell (by simp only; omega) _).setCell (by simp only; omega) _, by simp; omega, Nat.le_trans hV.size hsz, (same _).trans hV.r0, (same _).trans hV.r1⟩
    have g1 : ((pre.length : Int) == 400) = false := by simp; omega
    obtain ⟨i0, hi0, hi1, hi2, hi3⟩ := info_parts textCell
    have HI0' := Lib.hid hi0; have HI1 := Lib.hid hi1; have HI2 := Lib.hid hi2; have HI3 := Lib.hid hi3
    have hba : Below V.heap.size V (V.alloc (.cells #[.string ⟨x.toArray⟩] 9)) := (Below.refl _ _).alloc (Nat.le_refl _) _
    have hown8 : (V.alloc (.cells #[.string ⟨x.toArray⟩] 9)).ownsRow (s + 3) 9 1 (.slice A1 pre.length c1) pre.length ((tx pre).map Value.string) :=
      ownsRow_of_block HOWN.out fun g hg => hba.block g (by obtain ⟨_, C, hC⟩ := own_cells HOWN.out hg; exact (Array.getElem?_eq_some_iff.1 hC).1)
    have HOWN8 := Lib.hid hown8
    have HNEWS := Lib.hid (one_new V (.string ⟨x.toArray⟩))
    have hone : ∀ u ∈ [Value.string ⟨x.toArray⟩], u.oneCell' = true := by intro u hu; simp at hu; subst hu; rfl
    have HONE := Lib.hid hone
    have HZ8 : Hid (s + 3 ≤ (V.alloc (.cells #[.string ⟨x.toArray⟩] 9)).heap.size) := Lib.hid (by have := HV.out.size; simp; omega)
    have HF1 : Hid (pre.length + 1 ≤ maxLen) := Lib.hid (by unfold maxLen; omega)
    have HF2 : Hid ((pre.length + 1) * 16 ≤ 140737488355328) := Lib.hid (by omega)
    have HBA := Lib.hid hba
    clear hi0 hi1 hi2 hi3 hba hown8 hone
    gi_wp2_with (first
      | (gi_at_builtin
         refine wpListIn_append_own_at _ rfl (.tmp 11) (.tmp 13) 43 rfl (s + 3) 9 i0 (.string ⟨#[]⟩) 1 16 Try.underlying43 HI0'.out HI1.out HI2.out HI3.out rfl (by decide) _ pre.length ((tx pre).map Value.string) rfl HOWN8.out ⟨V.heap.size, 0, none⟩ 1 1 [.string ⟨x.toArray⟩] rfl rfl HNEWS.out HONE.out HF1.out HF2.out HZ8.out ?_
         intro v9 w9 hown9 hgr9 _ _
         go_must (
         have h1 := (hgr9.block (s + 2) (by have := HZ8.out; omega) (ownV_ne HOWN8.out (by omega))).trans ((HBA.out.block (s + 2) (by have := HV.out.size; omega)).trans HV1.out)
         obtain ⟨b3, f3⟩ := cell_of h1
         obtain ⟨g9, c9, hv9, _, _⟩ := hown9.form (by omega)
         subst hv9
         have HOWN9 := Lib.hid hown9; have HGR9 := Lib.hid hgr9; have HC9 := Lib.hid h1
         clear h1 hown9 hgr9)))
    have hV := HV.out
    have hn9 : KeepN s (s + 2) V w9 := (KeepN.grown (row := none) ⟨HBA.out.os, HBA.out.tape, HBA.out.output, HBA.out.size, fun i hi _ => HBA.out.block i hi⟩ (fun _ e => by cases e) (by have := hV.size; omega)).trans
      (KeepN.grown HGR9.out (fun g hg => by
        obtain ⟨h1, C, hC⟩ := own_cells HOWN8.out hg
        exact ⟨by omega, C, _, _, hC, .inl rfl⟩) (by have := HZ8.out; omega))
    have hnf : KeepN s (s + 2) V (w9.setCell ⟨s + 2, 0, none⟩ (.slice (some ⟨g9, 0, none⟩) (pre.length + 1) c9)) := hn9.trans (KeepN.grown (row := some (s + 2)) (grownBy_setCell' _ _ _) (fun g hg => by
        injection hg with hg; subst hg
        exact ⟨by omega, _, _, _, HC9.out, .inr rfl⟩) (by have := hn9.size; have := hV.size; omega))
    have hb9 : Below s w w9 := (hV.below.trans (HBA.out.mono (by have := hV.size; omega))).grown HGR9.out (by have := HZ8.out; omega) (fun q e => by obtain ⟨h1, _⟩ := own_cells HOWN8.out e; omega)
    have keep9 : ∀ i, i < s + 3 → i ≠ s + 2 → (w9.setCell ⟨s + 2, 0, none⟩ (.slice (some ⟨g9, 0, none⟩) (pre.length + 1) c9)).heap[i]? = V.heap[i]? := fun i hi hne =>
      (heap_setCell_other _ _ _ _ (by simp only; omega)).trans ((HGR9.out.block i (by have := HZ8.out; omega) (ownV_ne HOWN8.out hi)).trans (HBA.out.block i (by have := hV.size; omega)))
    refine ⟨hnf.from (by omega), hnf.mono (by omega), ⟨hb9.setCell (by simp only; omega) _, by simp; omega, Nat.le_trans hV.size hnf.size, ?_, ?_, .slice (some ⟨g9, 0, none⟩) (pre.length + 1) c9, ?_, ?_⟩⟩
    · exact (keep9 s (by omega) (by omega)).trans hV.r0
    · exact (keep9 (s + 1) (by omega) (by omega)).trans hV.r1
    · have h := HC9.out
      simp [World.setCell, Array.getElem?_modify, h]
    · have h := ownsRow_setCell_below HOWN9.out (a := ⟨s + 2, 0, none⟩) (by show s + 2 < s + 3; omega) (.slice (some ⟨g9, 0, none⟩) (pre.length + 1) c9)
      simpa [tx] using h
  case done =>
    rintro D xs V hD rfl hV hK
    obtain ⟨v, hv1, hown⟩ := hV.list
    obtain ⟨A1, c1, rfl⟩ := own_shape hown
    obtain ⟨b0, f0⟩ := cell_of hV.r0
    obtain ⟨b1, f1⟩ := cell_of hV.r1
    obtain ⟨b2, f2⟩ := cell_of hv1
    have HV := Lib.hid hV; have HOWN := Lib.hid hown; have HV1 := Lib.hid hv1; have HK := Lib.hid hK
    have HQ2 : Hid (q = (tx xs, true)) := Lib.hid (by rw [← HQ.out]; exact if_pos hV.few)
    clear hV hown hv1 hK
    gi_wp2_with fail
    have hV := HV.out
    have hDs : s + 3 ≤ D := by omega
    have p0 : ((V.setCell ⟨s, 0, none⟩ (.slice A1 xs.length c1)).setCell ⟨s + 1, 0, none⟩ (.bool true)).heap[s]? = some (.cells #[.slice A1 xs.length c1] 43 (0, 0)) := by
      simp [World.setCell, Array.getElem?_modify, hV.r0]
    have p1 : ((V.setCell ⟨s, 0, none⟩ (.slice A1 xs.length c1)).setCell ⟨s + 1, 0, none⟩ (.bool true)).heap[s + 1]? = some (.cells #[.bool true] 4 (0, 0)) := by
      simp [World.setCell, Array.getElem?_modify, hV.r1]
    have pD : ((V.setCell ⟨s, 0, none⟩ (.slice A1 xs.length c1)).setCell ⟨s + 1, 0, none⟩ (.bool true)).heap[D]? = some (.deferred (some [])) :=
      (heap_setCell_other _ _ _ _ (by simp only; omega)).trans ((heap_setCell_other _ _ _ _ (by simp only; omega)).trans HK.out)
    have hoV := ownsRow_setCell_below (ownsRow_setCell_below HOWN.out (a := ⟨s, 0, none⟩) (by show s < s + 3; omega) (.slice A1 xs.length c1)) (a := ⟨s + 1, 0, none⟩) (by show s + 1 < s + 3; omega) (.bool true)
    have hbV : Below s w ((V.setCell ⟨s, 0, none⟩ (.slice A1 xs.length c1)).setCell ⟨s + 1, 0, none⟩ (.bool true)) := (hV.below.setCell (by simp only; omega) _).setCell (by simp only; omega) _
    generalize (V.setCell ⟨s, 0, none⟩ (.slice A1 xs.length c1)).setCell ⟨s + 1, 0, none⟩ (.bool true) = V2 at p0 p1 pD hoV hbV ⊢
    have hb2 := below_put (B := s) (o' := Obj.deferred none) pD (by omega)
    have r0 := (cell_of ((World.putObj_heap_other (o := Obj.deferred none) (show s ≠ D by omega)).trans p0)).1
    have r1 := (cell_of ((World.putObj_heap_other (o := Obj.deferred none) (show s + 1 ≠ D by omega)).trans p1)).1
    have hoW : (V2.putObj D (.deferred none)).ownsRow (s + 3) 9 1 (.slice A1 xs.length c1) xs.length ((tx xs).map Value.string) := ownsRow_of_block hoV fun g hg => World.putObj_heap_other (fun e => by
      obtain ⟨_, C, hC⟩ := own_cells hoV hg
      subst e
      rw [pD] at hC
      cases hC)
    refine ⟨by simp, .inl ⟨_, _, rfl, run_takeDeferred pD, ?_⟩⟩
    refine ⟨.tuple #[.slice A1 xs.length c1, .bool true], by simp [results, Try.results110, go_sem, r0, r1], ?_⟩
    obtain ⟨A', cap', hv, h1, h2⟩ := own_texts (ts := tx xs) (by rw [tx_length]; exact hoW)
    rw [HQ2.out]
    refine ⟨A', cap', ?_, h1, by rw [hs]; exact hbV.trans hb2, h2.mono (by omega)⟩
    rw [hv]
  case stop =>
    rintro D pre V hD ⟨rest, hfull⟩ hV hK
    obtain ⟨b0, f0⟩ := cell_of hV.r0
    obtain ⟨b1, f1⟩ := cell_of hV.r1
    have HV := Lib.hid hV; have HK := Lib.hid hK
    have HQ2 : Hid (q = ([], false)) := Lib.hid (by
      rw [← HQ.out]
      refine if_neg fun h => ?_
      have h1 := congrArg List.length hfull
      have h2 := hV.many
      simp at h1
      omega)
    clear hV hK hfull
    gi_wp2_with fail
    have hV := HV.out
    have hDs : s + 3 ≤ D := by omega
    have hb2 := below_put (B := s) (o' := Obj.deferred none) HK.out (by omega)
    have r0 := (cell_of ((World.putObj_heap_other (o := Obj.deferred none) (show s ≠ D by omega)).trans hV.r0)).1
    have r1 := (cell_of ((World.putObj_heap_other (o := Obj.deferred none) (show s + 1 ≠ D by omega)).trans hV.r1)).1
    refine ⟨by simp, .inl ⟨_, _, rfl, run_takeDeferred HK.out, ?_⟩⟩
    refine ⟨.tuple #[.slice none 0 0, .bool false], by simp [results, Try.results110, go_sem, r0, r1], ?_⟩
    rw [HQ2.out]
    exact ⟨none, 0, rfl, fun k hk => absurd hk (by simp), by rw [hs]; exact hV.below.trans hb2, .inl ⟨rfl, rfl⟩⟩

end Go.Proofs.Ytcfcmlbbnpfejaa
