/- The net of a text, by the model: the walk. -/
import Derived.Test.YtkclbjgnaichhaaParseS
namespace Go.Proofs.Ytkclbjgnaichhaa
open Go.RowKit

theorem ownP_ne {w : World} {base g k c n p : Nat} {xs : List Value} {f : Nat → Value} (hown : w.ownsRow base 46 2 (.slice (some ⟨g, 0, none⟩) k c) n xs) (hrow : w.rowIs p 25 2 f) : g ≠ p ∧ base ≤ g := by
  rcases hown.2 with ⟨h, _⟩ | ⟨g', c', cur, h, hb', hblk, _⟩
  · injection h with h; cases h
  · injection h with h; injection h with h; injection h with h _ _; subst h
    refine ⟨fun e => ?_, hb'⟩
    obtain ⟨cc, hcc, _⟩ := hrow
    subst e
    rw [hcc] at hblk
    injection hblk with hblk
    injection hblk with _ e2 _
    exact absurd e2 (by decide)
theorem ownP_keep {w w' : World} {base g k c n : Nat} {xs : List Value} (hown : w.ownsRow base 46 2 (.slice (some ⟨g, 0, none⟩) k c) n xs) (hb : w'.heap[g]? = w.heap[g]?) : w'.ownsRow base 46 2 (.slice (some ⟨g, 0, none⟩) k c) n xs := by
  refine ⟨hown.1, ?_⟩
  rcases hown.2 with h | ⟨g', c', cur, h, hb', hblk, rest⟩
  · exact .inl h
  · refine .inr ⟨g', c', cur, h, hb', ?_, rest⟩
    injection h with h; injection h with h; injection h with h _ _; subst h
    exact hb.trans hblk
theorem pes_succ {ts : List ByteArray} {j : Nat} (h : j + 1 < ts.length) : pes ts (j + 1) = pes ts j ++ [pe ts[j + 1]] := by
  unfold pes
  have hl : j < (ts.drop 1).length := by simp; omega
  rw [List.take_succ_eq_append_getElem hl, List.map_append]
  simp

theorem cut_sum (c : UInt8) : ∀ l : List UInt8, ∀ p ∈ cutL c l, p.length ≤ l.length
  | [], p, hp => by simp [cutL] at hp; subst hp; simp
  | b :: r, p, hp => by
    have ih := cut_sum c r
    by_cases h : b = c
    · subst h
      rw [cutL_yes] at hp
      rcases List.mem_cons.1 hp with e | hp
      · subst e; simp
      · have := ih p hp; simp; omega
    · match hr : cutL c r with
      | [] => exact absurd hr (cutL_ne c r)
      | q :: qs =>
        rw [cutL_no h hr] at hp
        rw [hr] at ih
        rcases List.mem_cons.1 hp with e | hp
        · subst e; have := ih q (by simp); simp; omega
        · have := ih p (by simp [hp]); simp; omega
theorem cut_size {c : UInt8} {t : List UInt8} {ts : List ByteArray} (h : ts.map (·.data.toList) = cutL c t) (i : Nat) (hi : i < ts.length) : ts[i].size ≤ t.length := by
  have hm : ts[i].data.toList ∈ cutL c t := by rw [← h]; exact List.mem_map.2 ⟨_, List.getElem_mem hi, rfl⟩
  have := cut_sum c t _ hm
  rwa [size_toList] at this

set_option maxRecDepth 100000 in
set_option maxHeartbeats 4000000 in
/-- spec.ParseNet -/
theorem specParseNet_any (t : ByteArray) (w : World) (ht : t.size ≤ 1048576) :
    Calls Try.prog 73 #[.string t] w (QPost (parseQ t) w) := by
  obtain ⟨i0, hi, hi0, hi1, hi2⟩ := info_parts edgeInfo
  have HI := Lib.hid hi; have HI0 := Lib.hid hi0; have HI1 := Lib.hid hi1; have HI2 := Lib.hid hi2
  have HTZ := Lib.hid ht
  have hb1 : Below w.heap.size w (w.alloc (.cells #[.string ⟨#[]⟩, .slice none 0 0] 25)) := (Below.refl _ _).alloc (Nat.le_refl _) _
  have hr1 : (w.alloc (.cells #[.string ⟨#[]⟩, .slice none 0 0] 25)).rowIs w.heap.size 25 2 (fun i => if i = 0 then .string ⟨#[]⟩ else .slice none 0 0) := by
    refine World.rowIs_alloc w #[.string ⟨#[]⟩, .slice none 0 0] 25 (fun i => if i = 0 then .string ⟨#[]⟩ else .slice none 0 0) (fun i hi => by
      match i, hi with
      | 0, _ => rfl
      | 1, _ => rfl)
  have hz1 : (w.alloc (.cells #[.string ⟨#[]⟩, .slice none 0 0] 25)).heap.size = w.heap.size + 1 := by simp
  have FCUT : Hid (∀ W : World, Calls Try.prog 77 #[.string t, .int .u8 32] W (PartsPost 32 t W)) := Lib.hid fun W => l16Cut_any t 32 W HTZ.out
  have HR1 := Lib.hid hr1
  clear hi hi0 hi1 hi2 ht hr1
  go_enter Try.func73, Try.ntmps73
  go_wp2_with fail
  refine (FCUT.out _).mono ?_
  rintro e w2 ⟨A, cap, ts, rfl, hcut, hcap, hT, hb2⟩
  have hn1 : 1 ≤ ts.length := by
    rcases hts : ts with _ | ⟨a, r⟩
    · rw [hts] at hcut
      exact absurd hcut.symm (cutL_ne _ _)
    · simp
  have hnz : ts.length ≤ t.size + 1 := by
    have h1 := cutL_len 32 t.data.toList
    rw [← hcut, List.length_map, size_toList] at h1
    exact h1
  have hr2 := HR1.out.of_block (hb2.block _ (by simp))
  have hb2' := hb1.trans (hb2.mono hb1.size)
  have hz2 : w.heap.size + 1 ≤ w2.heap.size := by have := hb2.size; omega
  obtain ⟨tb, rfl, hlow, c0⟩ := hT 0 (by omega)
  obtain ⟨s0, hs0⟩ : ∃ s0, ts[0] = s0 := ⟨_, rfl⟩
  rw [hs0] at c0
  have hpb : pb ts = s0.extract 0 (s0.size - 1) := by
    unfold pb
    rw [List.getD_eq_getElem?_getD, List.getElem?_eq_getElem (by omega), Option.getD_some, hs0]
  have hg0 : ts.getD 0 ⟨#[]⟩ = s0 := by rw [List.getD_eq_getElem?_getD, List.getElem?_eq_getElem (by omega), Option.getD_some, hs0]
  have HPB := Lib.hid hpb; have HG0 := Lib.hid hg0; have HCUT := Lib.hid hcut; have HT2 := Lib.hid hT; have HR2 := Lib.hid hr2; have HB2 := Lib.hid hb2'
  clear hb1 hz1 hb2 HR1 hcut hT hr2 hs0 hpb hg0 FCUT hb2'
  have hx : (0 : Int) < (ts.length : Int) := by omega
  obtain ⟨W3, hW3⟩ : ∃ W3, (w2.alloc (.cells #[] 46)).alloc (.cells #[.string ⟨#[]⟩, .slice (some ⟨w2.heap.size, 0, none⟩) 0 0] 25) = W3 := ⟨_, rfl⟩
  have hb3 : Below w2.heap.size w2 W3 := by rw [← hW3]; exact ((Below.refl _ _).alloc (Nat.le_refl _) _).alloc (by simp) _
  have hr3 : W3.rowIs (w2.heap.size + 1) 25 2 (fun i => if i = 0 then .string ⟨#[]⟩ else .slice (some ⟨w2.heap.size, 0, none⟩) 0 0) := by
    have h := World.rowIs_alloc (w2.alloc (.cells #[] 46)) #[.string ⟨#[]⟩, .slice (some ⟨w2.heap.size, 0, none⟩) 0 0] 25 (fun i => if i = 0 then .string ⟨#[]⟩ else .slice (some ⟨w2.heap.size, 0, none⟩) 0 0) (fun i hi => by
      match i, hi with
      | 0, _ => rfl
      | 1, _ => rfl)
    rw [World.size_alloc] at h
    rw [← hW3]; exact h
  have hx3 : W3.heap[w2.heap.size]? = some (.cells #[] 46) := by rw [← hW3]; exact alloc_old _ _ (heap_alloc_new _ _)
  have hz3 : W3.heap.size = w2.heap.size + 2 := by rw [← hW3]; simp
  have c3 := (hb3.cell (p := ⟨tb, 0, none⟩) hlow).trans c0
  have hrr := HR2.out.of_block (hb3.block w.heap.size (by omega))
  have r0 := hrr.cell (i := 0) (by omega); have r1 := hrr.cell (i := 1) (by omega)
  have rf0 := hrr.frozen 0; have rf1 := hrr.frozen 1
  have HR3 := Lib.hid hr3; have HX3 := Lib.hid hx3; have HB3 := Lib.hid hb3
  clear c0 hr3 hx3 hrr hb3
  by_cases hz : s0.size < 1
  · have HQ : Hid (parseQ t = (⟨#[]⟩, [], false)) := Lib.hid (parseQ_no fun B es h => by
      have := (parts_of h HCUT.out).1
      rw [HG0.out] at this
      omega)
    have hzi : (s0.size : Int) < 1 := by omega
    clear hz
    go_wp2_with fail
    refine bodyPost_ret (v := .tuple #[.agg #[.string ⟨#[]⟩, .slice none 0 0], .bool false]) (by simp [results, Try.results73, go_sem, r0, r1]) rfl ?_
    rw [HQ.out]
    have hbw := HB2.out.trans (HB3.out.mono HB2.out.size)
    exact ⟨none, 0, rfl, fun k hk => absurd hk (by simp), (hbw.setCell (by simp only; omega) _).setCell (by simp only; omega) _⟩
  obtain ⟨d, hd⟩ : ∃ d, s0.size = d + 1 := ⟨s0.size - 1, by omega⟩
  have hs0z : s0.size ≤ 1048576 := by
    have h1 := cut_size HCUT.out 0 (by omega)
    have h2 := HTZ.out
    rw [size_toList] at h1
    rw [← HG0.out, List.getD_eq_getElem?_getD, List.getElem?_eq_getElem (by omega), Option.getD_some]
    omega
  have HPB2 : Hid (pb ts = s0.extract 0 d) := Lib.hid (by rw [HPB.out, hd]; rfl)
  have HS01 : Hid (1 ≤ s0.size) := Lib.hid (by omega)
  have a1 : IntKind.i64.wrap ((s0.size : Int) - 1) = (d : Int) := by rw [IntWalk.i64_in _ (by omega)]; omega
  have a2 : (d : Int) ≤ (s0.size : Int) := by omega
  have a3 : d ≤ s0.size := by omega
  have a4 : (0 : Int) ≤ (d : Int) := by omega
  have hzi : ¬ ((s0.size : Int) < 1) := by omega
  have p0 := HR3.out.cell (i := 0) (by omega)
  simp only [if_true] at p0
  have pf0 := HR3.out.frozen 0
  have hcap1 : (1 : Int) ≤ (ts.length : Int) := by omega
  have hcap2 : (ts.length : Int) ≤ (cap : Int) := by omega
  clear hz hd
  go_wp2_with fail
  go_region
  obtain ⟨E, hE⟩ : ∃ E, w2.heap.size = E := ⟨_, rfl⟩
  rw [hE] at hz3 HR3 HX3 hlow hz2 HB3 ⊢
  have hlowE : tb < E := hlow
  obtain ⟨W5, hW5⟩ : ∃ W5, (W3.setCell ⟨E + 1, 0, none⟩ (.string (s0.extract 0 d))).drew = W5 := ⟨_, rfl⟩
  have HR5 : Hid (W5.rowIs (E + 1) 25 2 (fun i => if i = 0 then .string (pb ts) else .slice (some ⟨E, 0, none⟩) 0 0)) := Lib.hid (by
    rw [← hW5]
    refine (HR3.out.set 0 _).drew.congr fun i hi => ?_
    match i, hi with
    | 0, _ => simp [HPB2.out]
    | 1, _ => rfl)
  have HB5 : Hid (Below E w2 W5) := Lib.hid (by rw [← hW5]; exact (HB3.out.setCell (by simp only; omega) _).drew)
  have HX5 : Hid (W5.heap[E]? = some (.cells #[] 46)) := Lib.hid (by rw [← hW5]; exact (Below.heap_setCell _ _ _ _ (by simp only; omega)).trans HX3.out)
  have hz5 : W5.heap.size = E + 2 := by rw [← hW5]; simp [World.setCell]; exact hz3
  rw [hW5]
  clear hW5 p0 pf0 c3 r0 r1 rf0 rf1 a1 a2 a3 a4 HR3 HX3 HB3 HPB hzi
  obtain ⟨n, hn⟩ : ∃ n, ts.length = n + 1 := ⟨ts.length - 1, by omega⟩
  have HN := Lib.hid hn
  have HCAP : Hid (n + 1 ≤ cap) := Lib.hid (by omega)
  have HNZ : Hid (n ≤ t.size) := Lib.hid (by omega)
  have hc : cap = 1 ∧ n = 0 ∨ (¬ cap = 1 ∧ 1 < cap) := by omega
  rw [hn]
  rw [hn] at hcap1 hcap2
  clear hn hn1 hnz hcap hx hcap1
  have hcap1 : (1 : Int) ≤ ((n + 1 : Nat) : Int) := by omega
  have hc' : (cap = 1 ∧ Hid (n = 0)) ∨ (¬ cap = 1 ∧ 1 < cap) := hc.imp (fun h => ⟨h.1, Lib.hid h.2⟩) id
  clear hc
  rcases hc' with ⟨rfl, HN0⟩ | ⟨hc1, hc2⟩
  case' inl => rw [HN0.out] at hcap1 hcap2 ⊢
  all_goals
    go_wp2_with fail
    clear hcap1 hcap2
    go_loopw [31] (fun a wk => ∃ (j g c : Nat), j ≤ n ∧ a = .int .i64 j ∧ (∀ i, (h : i + 1 < ts.length) → i < j → ts[i + 1].size = 2) ∧ Below E w2 wk ∧ E + 2 ≤ wk.heap.size ∧ wk.rowIs (E + 1) 25 2 (fun i => if i = 0 then .string (pb ts) else .slice (some ⟨g, 0, none⟩) j c) ∧
      wk.ownsRow E 46 2 (.slice (some ⟨g, 0, none⟩) j c) j (cellsP (pes ts j))) (fun a _ => n - (intOf a).toNat)
    case atStart =>
      exact ⟨0, E, 0, Nat.zero_le _, rfl, fun i _ h => absurd h (by omega), HB5.out, by omega, HR5.out, ⟨rfl, .inr ⟨E, 0, #[], rfl, Nat.le_refl _, HX5.out, by simp, by simp, by simp, by simp [cellsP, pes]⟩⟩⟩
    case round =>
      obtain ⟨j, g, c, hj, rfl, hsz, hb, hzw, hrow, hown⟩ := hrel
      have HSZ := Lib.hid hsz; have HROW := Lib.hid hrow; have HOWN := Lib.hid hown; have HBB := Lib.hid hb
      clear hsz hrow hown hb
      have hbw : Below w.heap.size w wr := HB2.out.trans (HBB.out.mono (by omega))
      have hrr := HR2.out.of_block (HBB.out.block w.heap.size (by omega))
      have r0 := hrr.cell (i := 0) (by omega); have r1 := hrr.cell (i := 1) (by omega)
      have rf0 := hrr.frozen 0; have rf1 := hrr.frozen 1
      have HBW := Lib.hid hbw
      clear hrr hbw
      by_cases hj1 : j + 1 < ts.length
      · first
        | exact absurd hj1 (by have := HN.out; have := HN0.out; omega)
        | (obtain ⟨tb', e', hl', cj⟩ := HT2.out (j + 1) hj1
           injection e' with e'; injection e' with e' _ _
           subst e'
           have cj2 : wr.cell? ⟨tb, 1 + j, none⟩ = some (.string ts[j + 1]) := by rw [Nat.add_comm]; exact (HBB.out.cell (p := ⟨tb, j + 1, none⟩) hlowE).trans cj
           obtain ⟨u, hu⟩ : ∃ u, ts[j + 1] = u := ⟨_, rfl⟩
           rw [hu] at cj2
           have HU := Lib.hid hu
           have hbq : ((u.size : Int) == 2) = true ∨ True := .inr trivial
           clear hbq
           have hlti : (j : Int) < (n : Int) := by have := HN.out; omega
           have hj0 : (0 : Int) ≤ (j : Int) := by omega
           clear cj hu
           by_cases hz2u : u.size = 2
           · have HG := Lib.hid (ownP_ne HOWN.out HROW.out)
             have HNE : Hid (some (E + 1) ≠ (Value.slice (some ⟨g, 0, none⟩) j c).ownBlock) := Lib.hid (by have := HG.out.1; simp [Value.ownBlock]; omega)
             have c0 := HROW.out.cell (i := 0) (by omega); have c1 := HROW.out.cell (i := 1) (by omega)
             have f1 := HROW.out.frozen 1
             simp only [if_true] at c0
             have e10 : (1 : Nat) = 0 ↔ False := by simp
             simp only [e10, if_false] at c1
             obtain ⟨p1, hp1⟩ : ∃ p1, u.extract 0 1 = p1 := ⟨_, rfl⟩
             obtain ⟨p2, hp2⟩ : ∃ p2, u.extract 1 2 = p2 := ⟨_, rfl⟩
             have HPE : Hid (pe u = (p1, p2)) := Lib.hid (by unfold pe; rw [hz2u, hp1, hp2])
             have hrn : (wr.drew.alloc (.cells #[.string p1, .string p2] 46)).rowIs wr.heap.size 46 2 (fun i => if i = 0 then .string p1 else .string p2) :=
               World.rowIs_alloc wr.drew #[.string p1, .string p2] 46 _ (fun i hi => by
                 match i, hi with
                 | 0, _ => rfl
                 | 1, _ => rfl)
             have hnew : ∀ i v, [Value.string p1, Value.string p2][i]? = some v → (wr.drew.alloc (.cells #[.string p1, .string p2] 46)).cell? ((⟨wr.heap.size, 0, none⟩ : Addr).add i) = some v := fun i v hv => by
               match i, hv with
               | 0, hv => simp at hv; subst hv; exact hrn.cell (i := 0) (by omega)
               | 1, hv => simp at hv; subst hv; exact hrn.cell (i := 1) (by omega)
               | i + 2, hv => simp at hv
             have hone : ∀ v ∈ [Value.string p1, Value.string p2], v.oneCell' = true := fun v hv => by
               simp at hv
               rcases hv with rfl | rfl <;> rfl
             have HNEW := Lib.hid hnew; have HONE := Lib.hid hone
             have HOWN2 := Lib.hid (HOWN.out.drew.alloc (.cells #[.string p1, .string p2] 46))
             have hbase : E ≤ (wr.drew.alloc (.cells #[.string p1, .string p2] 46)).heap.size := by simp; omega
             have HBASE := Lib.hid hbase
             have c1' : (wr.alloc (.cells #[.string p1, .string p2] 46)).cell? ⟨E + 1, 1, none⟩ = some (.slice (some ⟨g, 0, none⟩) j c) := (World.cell?_alloc_lt _ _ _ (by simp only; omega)).trans c1
             have c1'' : (wr.drew.alloc (.cells #[.string p1, .string p2] 46)).cell? ⟨E + 1, 1, none⟩ = some (.slice (some ⟨g, 0, none⟩) j c) := (World.cell?_alloc_lt _ _ _ (by show _ < wr.heap.size; simp only; omega)).trans c1
             have q1 : (1 : Int) ≤ 2 := by omega
             have q2 : IntKind.i64.wrap ((j : Int) + 1) = (j : Int) + 1 := IntWalk.i64_in _ (by have := HNZ.out; have := HTZ.out; have := HN.out; omega)
             clear e10 hnew hone hbase hrn r0 r1 rf0 rf1
             go_wp2_with fail
             go_region_law (
               refine step_append_own' rfl (.tmp 40) (.tmp 46) 23 rfl E 46 i0 (.agg #[.string ⟨#[]⟩, .string ⟨#[]⟩]) 2 32 Try.underlying23 HI.out HI0.out HI1.out HI2.out rfl (by decide) _ j (cellsP (pes ts j)) rfl HOWN2.out ⟨wr.heap.size, 0, none⟩ 1 1 [.string p1, .string p2] rfl rfl HNEW.out HONE.out (by have := HNZ.out; have := HTZ.out; unfold maxLen; omega) (by have := HNZ.out; have := HTZ.out; omega) HBASE.out ?_
               go_must (
               intro v4 w4 hown4 hgr4
               obtain ⟨g4, c4, rfl⟩ := Go.Joins.ownsRow_form hown4 (by omega)
               have hrow4 := (HROW.out.drew.alloc (.cells #[.string p1, .string p2] 46)).of_block (hgr4.block (E + 1) (by simp; omega) HNE.out)
               have d1 := hrow4.cell (i := 1) (by omega); have df1 := hrow4.frozen 1
               have HROW4 := Lib.hid hrow4; have HOWN4 := Lib.hid hown4; have HGR4 := Lib.hid hgr4
               clear hrow4 hown4 hgr4))
             all_goals
               have hz4 := HGR4.out.size
               have hg4 := ownP_ne HOWN4.out HROW4.out
               have hbx : Below E w2 w4 := (HBB.out.drew.alloc (by show E ≤ wr.heap.size; omega) _).grown HGR4.out (by simp; omega) (fun q e => by
                 have hq : some g = some q := e
                 injection hq with hq
                 exact hq ▸ HG.out.2)
               have HBX := Lib.hid (hbx.setCell (p := ⟨E + 1, 1, none⟩) (by simp only; omega) (.slice (some ⟨g4, 0, none⟩) (j + 1) c4))
               clear hbx d1 df1
               go_wp2_with fail
               go_roundw
               case rel =>
                 refine ⟨j + 1, g4, c4, by have := HN.out; omega, by go_num, fun i hi hij => ?_, HBX.out, by simp [World.setCell]; simp at hz4; omega, (HROW4.out.set 1 _).congr fun i hi => ?_, ?_⟩
                 · by_cases hie : i < j
                   · exact HSZ.out i hi hie
                   · have : i = j := by omega
                     subst this
                     rw [HU.out]; exact hz2u
                 · match i, hi with
                   | 0, _ => rfl
                   | 1, _ => rfl
                 · rw [pes_succ hj1, cellsP_snoc, HU.out, HPE.out]
                   exact ownP_keep HOWN4.out (Below.heap_setCell _ _ _ _ (by simp only; omega))
               case measure => simp [intOf]; have := HN.out; omega
           · have HQ : Hid (parseQ t = (⟨#[]⟩, [], false)) := Lib.hid (parseQ_no fun B es h => by
               have h2 := (parts_of h HCUT.out).2.2.1 u (by
                 rw [← HU.out]
                 refine List.mem_iff_getElem.2 ⟨j, by simp; omega, by simp⟩)
               exact hz2u h2)
             have hbq : ((u.size : Int) == 2) = false := by rw [beq_eq_false_iff_ne]; omega
             clear hz2u
             go_wp2_with fail
             refine bodyPost_ret (v := .tuple #[.agg #[.string ⟨#[]⟩, .slice none 0 0], .bool false]) (by simp [results, Try.results73, go_sem, r0, r1]) rfl ?_
             rw [HQ.out]
             exact ⟨none, 0, rfl, fun k hk => absurd hk (by simp), (HBW.out.setCell (by simp only; omega) _).setCell (by simp only; omega) _⟩)
      · have hjn : j = n := by have := HN.out; omega
        have h0 : ¬ ((j : Int) < 0) := by omega
        have h1 : ¬ ((j : Int) < (n : Int)) := by omega
        have c0 := HROW.out.cell (i := 0) (by omega); have c1 := HROW.out.cell (i := 1) (by omega)
        simp only [if_true] at c0
        have e10 : (1 : Nat) = 0 ↔ False := by simp
        simp only [e10, if_false] at c1
        obtain ⟨pbs, hpbs⟩ : ∃ pbs, pb ts = pbs := ⟨_, rfl⟩
        rw [hpbs] at c0
        have HPB3 : Hid (pbs.size ≤ s0.size) := Lib.hid (by rw [← hpbs, HPB2.out]; simp; omega)
        have HPBS := Lib.hid hpbs
        have HHJ := Lib.hid hjn
        clear e10 hj1 hpbs hjn
        go_wp2_with fail
        obtain ⟨A, cap2, hv, hE, hO⟩ := own_edgesP (es := pes ts j) (by
          have e : (pes ts j).length = j := by have := HN.out; unfold pes; simp; omega
          rw [e]; exact HOWN.out)
        have hpl : (pes ts j).length = j := by have := HN.out; unfold pes; simp; omega
        rw [hpl] at hv
        injection hv with hA _ hc2
        subst hA hc2
        have HE := Lib.hid hE; have HPL := Lib.hid hpl
        clear hE hO hpl
        have hcall := specFormatNet_any pbs (some ⟨g, 0, none⟩) c (pes ts j) wr (by have := HTZ.out; have := HPB3.out; unfold maxLen; omega) HE.out (by have := HPL.out; have := HNZ.out; have := HTZ.out; omega) (fun e he => by
          obtain ⟨q, hq, rfl⟩ := List.mem_map.1 he
          obtain ⟨i, hi, rfl⟩ := List.getElem_of_mem hq
          simp at hi
          have hsz2 : ∀ k, (hk : k < ts.length) → k = i + 1 → ts[k].size = 2 := fun k hk e => by
            subst e
            exact HSZ.out i hk (by omega)
          simp only [List.getElem_take, List.getElem_drop, pe]
          simp [hsz2 (1 + i) (by omega) (by omega)])
        rw [HPL.out] at hcall
        refine hcall.mono ?_
        clear hcall
        rintro e w5 ⟨rfl, hb5⟩
        have hE5 := HE.out.below hb5
        have hr5 := HROW.out.of_block (hb5.block (E + 1) (by omega))
        have c0 := hr5.cell (i := 0) (by omega); have c1 := hr5.cell (i := 1) (by omega)
        simp only [if_true] at c0
        have e10 : (1 : Nat) = 0 ↔ False := by simp
        simp only [e10, if_false] at c1
        rw [HPBS.out] at c0
        have hrr := HR2.out.of_block ((HBB.out.trans (hb5.mono (by omega))).block w.heap.size (by omega))
        have r0 := hrr.cell (i := 0) (by omega); have r1 := hrr.cell (i := 1) (by omega)
        have rf0 := hrr.frozen 0; have rf1 := hrr.frozen 1
        have HBW5 := Lib.hid (HBW.out.trans (hb5.mono HBW.out.size))
        have HZ5 : Hid (w.heap.size + 1 ≤ w5.heap.size ∧ wr.heap.size ≤ w5.heap.size ∧ g ≠ w.heap.size) := Lib.hid ⟨by have := hb5.size; omega, hb5.size, by have := (ownP_ne HOWN.out HROW.out).2; omega⟩
        have HE5 := Lib.hid hE5
        obtain ⟨F, hF⟩ : ∃ F, fmtV pbs (pes ts j) = F := ⟨_, rfl⟩
        rw [hF]
        have HF := Lib.hid hF
        clear hF hE5 hr5 hrr e10 hb5
        by_cases hft : F = t
        · subst hft
          have HQ : Hid (parseQ F = (pbs, pes ts j, true)) := Lib.hid (parseQ_yes (text_of HF.out (by
            intro h0
            have h1 := HCUT.out
            rw [h0] at h1
            have h2 : ts.map (·.data.toList) = [[]] := h1
            have h3 : ts.getD 0 ⟨#[]⟩ = s0 := HG0.out
            match ts, h2, h3 with
            | [], h2, _ => simp at h2
            | _ :: _ :: _, h2, _ => simp at h2
            | [x], h2, h3 =>
              simp at h2 h3
              have h4 := HS01.out
              rw [← h3] at h4
              have h5 : x.size = 0 := by rw [← size_toList, h2]; rfl
              omega)))
          have hq : (F.toList == F.toList) = true := by simp
          go_wp2_with fail
          refine bodyPost_ret (v := .tuple #[.agg #[.string pbs, .slice (some ⟨g, 0, none⟩) j c], .bool true]) (by simp [results, Try.results73, go_sem, r0, r1]) rfl ?_
          rw [HQ.out]
          have hz6 := HZ5.out
          refine ⟨some ⟨g, 0, none⟩, c, by simp [HPL.out], ?_, (HBW5.out.setCell (by simp only; omega) _).setCell (by simp only; omega) _⟩
          have hg6 : w5.grownBy ((w5.setCell ⟨w.heap.size, 0, none⟩ (.string pbs)).setCell ⟨w.heap.size, 1, none⟩ (.slice (some ⟨g, 0, none⟩) j c)) (some w.heap.size) :=
            only_setCell_at (only_setCell_at (World.grownBy.refl w5 _))
          exact ((HE5.out.more hz6.2.1).grown hg6 (Nat.le_refl _) (fun a ha => by
            injection ha with ha; subst ha
            intro e; injection e with e
            exact hz6.2.2 e)).more hg6.size
        · have hq : (F.toList == t.toList) = false := by
            rw [beq_eq_false_iff_ne, ByteArray.toList_eq, ByteArray.toList_eq]
            exact fun h => hft (bytes_ext h)
          have HQ : Hid (parseQ t = (⟨#[]⟩, [], false)) := Lib.hid (parseQ_no fun B es h => by
            have h2 := parts_of h HCUT.out
            have h3 := text_fmt h
            have h4 : pes ts j = (ts.drop 1).map pe := by
              unfold pes
              rw [List.take_of_length_le (by simp; have := HN.out; have := HHJ.out; omega)]
            rw [h2.2.1, h2.2.2.2, ← h4, HPBS.out, HF.out] at h3
            exact hft h3)
          clear hft
          go_wp2_with fail
          refine bodyPost_ret (v := .tuple #[.agg #[.string ⟨#[]⟩, .slice none 0 0], .bool false]) (by simp [results, Try.results73, go_sem, r0, r1]) rfl ?_
          rw [HQ.out]
          exact ⟨none, 0, rfl, fun k hk => absurd hk (by simp), (HBW5.out.setCell (by simp only; omega) _).setCell (by simp only; omega) _⟩

end Go.Proofs.Ytkclbjgnaichhaa
