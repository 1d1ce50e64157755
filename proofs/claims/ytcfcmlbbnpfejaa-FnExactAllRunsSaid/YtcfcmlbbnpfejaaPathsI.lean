/- All paths from a block, by the program: an iterator that ranges over itself. -/
import Derived.Test.YtcfcmlbbnpfejaaTold
import Derived.Test.YtcfcmlbbnpfejaaPathsS
import Derived.Test.YtcfcmlbbnpfejaaAlong
import Derived.Test.YtcfcmlbbnpfejaaEntry
namespace Go.Proofs.Ytcfcmlbbnpfejaa
open Go.RowKit Go.Shelf
attribute [local go_sem] Oper.semAt_some

/-- marks on the deferred calls, none of which hands over a call -/
def Marks (lo : Nat) : List Deferred → World → Prop
  | [], _ => True
  | d :: ds, V => ∃ D, d = { target := .collected D, args := #[] } ∧ lo ≤ D ∧ V.heap[D]? = some (.deferred (some [])) ∧ (∀ d' ∈ ds, d'.target ≠ .collected D) ∧ Marks lo ds V
theorem Marks.lt {lo : Nat} : ∀ {ds : List Deferred} {V : World}, Marks lo ds V → ∀ d ∈ ds, ∃ D, d.target = .collected D ∧ D < V.heap.size
  | [], _, _ => fun d h => by simp at h
  | d :: ds, V, h => fun d' hd => by
    obtain ⟨D, rfl, _, hD, _, hr⟩ := h
    rcases List.mem_cons.1 hd with e | hd
    · subst e; exact ⟨D, rfl, (Array.getElem?_eq_some_iff.1 hD).1⟩
    · exact hr.lt d' hd
theorem Marks.same {lo : Nat} : ∀ {ds : List Deferred} {V V' : World}, Marks lo ds V → (∀ D, (∃ d ∈ ds, d.target = .collected D) → V'.heap[D]? = V.heap[D]?) → Marks lo ds V'
  | [], _, _, _, _ => trivial
  | d :: ds, V, V', h, k => by
    obtain ⟨D, rfl, hlo, hD, hne, hr⟩ := h
    exact ⟨D, rfl, hlo, (k D ⟨{ target := .collected D, args := #[] }, List.mem_cons_self, rfl⟩).trans hD, hne, hr.same fun D' ⟨d', hd', e⟩ => k D' ⟨d', List.mem_cons_of_mem _ hd', e⟩⟩
theorem leaves_marks {F : Fence} {n : Nat} {P : Program} {fn : Func} {tmps : Array Value} {R : Ending → World → Prop} {lo : Nat} : ∀ (ds : List Deferred) (V : World), Marks lo ds V →
    (∀ V', KeepT lo V V' → LeavesIn F n P fn tmps R [] .returning V') → LeavesInM F n P fn tmps R ds .returning V
  | [], V, _, h => h V (KeepT.refl _ _)
  | d :: ds, V, hm, h => by
    obtain ⟨D, rfl, hlo, hD, hne, hr⟩ := hm
    refine ⟨by simp, .inl ⟨D, _, rfl, run_takeDeferred hD, ?_⟩⟩
    refine leaves_marks ds _ (hr.same fun D' ⟨d', hd', e⟩ => World.putObj_heap_other fun e2 => ?_) fun V' hk => h V' ((KeepT.put hD rfl hlo).trans hk)
    subst e2
    exact hne d' hd' e

theorem edges_low {w w' : World} {D : Nat} {A : Option Addr} {es : List (ByteArray × ByteArray)} (h : EdgesIn w D A es) (k : ∀ i, i < D → w'.heap[i]? = w.heap[i]?) : EdgesIn w' D A es := by
  intro i hi
  obtain ⟨b, o, e, hl, h1, h2⟩ := h i hi
  exact ⟨b, o, e, hl, (World.cell?_of_block (k b hl)).trans h1, (World.cell?_of_block (k b hl)).trans h2⟩
theorem Marks.low {lo : Nat} {ds : List Deferred} {V V' : World} (h : Marks lo ds V) (hB : ∀ i, i < V.heap.size → V'.heap[i]? = V.heap[i]?) : Marks lo ds V' :=
  h.same fun D ⟨d, hd, e⟩ => by
    obtain ⟨D', e', hl⟩ := h.lt d hd
    rw [e] at e'; injection e' with e'
    exact hB D (by omega)

theorem Marks.keep {lo D k : Nat} {ds : List Deferred} {V V' : World} (h : Marks lo ds V) (hk : KeepN D k V V') (hlo : k < lo) : Marks lo ds V' := by
  induction ds with
  | nil => trivial
  | cons d ds ih =>
    obtain ⟨D', rfl, h1, h2, h3, h4⟩ := h
    exact ⟨D', rfl, h1, hk.others D' _ (by omega) h2 rfl, h3, ih h4⟩
theorem KeepN.of_below {D l : Nat} {A B : World} (h : Below A.heap.size A B) (hD : D ≤ A.heap.size) : KeepN D l A B :=
  KeepN.grown (row := none) ⟨h.os, h.tape, h.output, h.size, fun i hi _ => h.block i hi⟩ (fun _ e => by cases e) hD
theorem KeepN.then {D l B : Nat} {A V V' : World} (h : KeepN D l A V) (k : KeepT B V V') (hD : D ≤ B) (hA : A.heap.size ≤ B) : KeepN D l A V' :=
  ⟨Nat.le_trans h.size k.size, fun i hi => (k.low i (by omega)).trans (h.low i hi), fun i C T fr hi h1 h2 => (k.low i (by have := (Array.getElem?_eq_some_iff.1 hi).1; omega)).trans (h.cells i C T fr hi h1 h2),
    fun i o hl hi ho => (k.low i (by have := (Array.getElem?_eq_some_iff.1 hi).1; omega)).trans (h.others i o hl hi ho)⟩

/-- impl.pathsToExit -/
theorem pathsToExit_any (B : ByteArray) (sl : Value) (b p : ByteArray) (w : World) :
    Calls Try.prog 111 #[.agg #[.string B, sl], .agg #[.string b, .string p]] w fun e w' =>
      e = .returned (.func (.func 148) #[] #[.pointer (some ⟨w.heap.size + 1, 0, none⟩), .pointer (some ⟨w.heap.size, 0, none⟩)]) ∧ (w.alloc (.cells #[.string B, sl] 25)).alloc (.cells #[.string b, .string p] 84) = w' := by
  go_enter Try.func111, Try.ntmps111
  go_wp2
  go_ret
  exact ⟨rfl, rfl⟩

set_option maxRecDepth 100000 in
set_option maxHeartbeats 4000000 in
/-- impl.pathsToExit$1 -/
theorem paths_run (B : ByteArray) (A : Option Addr) (cap : Nat) (es : List (ByteArray × ByteArray)) (l : List UInt8) (t : UInt8) (hl : es.length ≤ 16) (hL : Lets l es) (hBm : B.size ≤ maxLen) (hB1 : 1 ≤ B.size) (hlast : B.extract (B.size - 1) B.size = ⟨#[t]⟩) : ∀ (n : Nat) (r : List UInt8) (b : UInt8) (p : List UInt8) (hb nb D k : Nat) (w : World), r.length < n → r.length ≤ 7 → p.length + r.length ≤ 100 → Topo (ebs es) (b :: r) →
    w.heap[nb]? = some (.cells #[.string B, .slice A es.length cap] 25 (0, 0)) → w.heap[hb]? = some (.cells #[.string ⟨#[b]⟩, .string ⟨p.toArray⟩] 84 (0, 0)) → EdgesIn w D A es → D ≤ w.heap.size → w.heap.size ≤ k →
    SeqRunT Fence.wide 4 Try.prog 148 #[.pointer (some ⟨hb, 0, none⟩), .pointer (some ⟨nb, 0, none⟩)] encsT (KeepN D k) (fun xs => xs = (pathsE (ebs es) t b).map (p ++ ·)) (fun pre => ∃ rest, (pathsE (ebs es) t b).map (p ++ ·) = pre ++ rest) ((pathsE (ebs es) t b).map (p ++ ·)).length w k := by
  intro n
  induction n with
  | zero => intro r b p hb nb D k w hn; exact absurd hn (by omega)
  | succ n ih =>
    intro r b p hb nb D k w hn h7 hp100 ht hnb hhb hE hDw hwk
    intro J Jx W hbW hkW hJ hJx hY h0
    have IH := Lib.hid ih; have HTO := Lib.hid ht
    have HY := Lib.hid hY; have HJ := Lib.hid hJ; have HJX := Lib.hid hJx; have H0 := Lib.hid h0
    have hnW := (hbW.block nb (Array.getElem?_eq_some_iff.1 hnb).1).trans hnb
    have hhW := (hbW.block hb (Array.getElem?_eq_some_iff.1 hhb).1).trans hhb
    have hEW : EdgesIn W D A es := hE.below (hbW.mono hDw)
    have hDW : D ≤ W.heap.size := Nat.le_trans hDw hbW.size
    clear ih ht hY hJ hJx h0 hnb hhb hE
    refine callsIn_of_wp_marks Try.func148 rfl trivial ?_ rfl
    simp only [Try.ntmps148, List.size_toArray, List.length_cons, List.length_nil, Nat.reduceAdd, Nat.reduceSub, Array.replicate_succ, Array.replicate_zero, List.push_toArray, List.append_toArray, List.nil_append, List.cons_append]
    have hs1 : (W.alloc (.cells #[.func (.yield k) #[] #[]] 76)).heap.size = W.heap.size + 1 := by simp
    have hb1 : Below W.heap.size W (W.alloc (.cells #[.func (.yield k) #[] #[]] 76)) := (Below.refl _ _).alloc (Nat.le_refl _) _
    have hyb := World.alloc_heap_new W (.cells #[.func (.yield k) #[] #[]] 76)
    gi_wp2_with fail
    obtain ⟨W1, hW1⟩ : ∃ W1, W.alloc (.cells #[.func (.yield k) #[] #[]] 76) = W1 := ⟨_, rfl⟩
    rw [hW1] at hs1 hb1 hyb ⊢
    clear hW1
    obtain ⟨s, hs⟩ : ∃ s, W.heap.size = s := ⟨_, rfl⟩
    rw [hs] at hs1 hb1 hyb hDW hkW ⊢
    have hnl : nb < s := by rw [← hs]; exact (Array.getElem?_eq_some_iff.1 hnW).1
    have hhl : hb < s := by rw [← hs]; exact (Array.getElem?_eq_some_iff.1 hhW).1
    have hn1 := (hb1.block nb hnl).trans hnW
    have hh1 := (hb1.block hb hhl).trans hhW
    have hE1 : EdgesIn W1 D A es := hEW.below (hb1.mono hDW)
    have hJ1 : J [] W1 := HJ.out _ _ _ H0.out (by rw [hs]; exact KeepT.below (by rw [hs]; exact hb1) (by omega))
    have FX : Hid (∀ V : World, Calls Try.prog 97 #[.agg #[.string B, .slice A es.length cap]] V fun e w' => e = .returned (.string ⟨#[t]⟩) ∧ Below V.heap.size V w') := Lib.hid fun V => by
      have := exitOf_any B (.slice A es.length cap) V hB1 hBm; rwa [hlast] at this
    have m0 : W1.cell? ⟨hb, 0, none⟩ = some (.string ⟨#[b]⟩) := by simp [World.cell?, hh1]
    have m1 : W1.cell? ⟨nb, 0, none⟩ = some (.string B) := by simp [World.cell?, hn1]
    have m2 : W1.cell? ⟨nb, 1, none⟩ = some (.slice A es.length cap) := by simp [World.cell?, hn1]
    have x0 : ∀ x : After W1, x.W.cell? ⟨hb, 0, none⟩ = some (.string ⟨#[b]⟩) := fun x => x.cell (by simp only; omega) m0
    have x1 : ∀ x : After W1, x.W.cell? ⟨nb, 0, none⟩ = some (.string B) := fun x => x.cell (by simp only; omega) m1
    have x2 : ∀ x : After W1, x.W.cell? ⟨nb, 1, none⟩ = some (.slice A es.length cap) := fun x => x.cell (by simp only; omega) m2
    have HN1 := Lib.hid hn1; have HH1 := Lib.hid hh1; have HE1 := Lib.hid hE1; have HJ1 := Lib.hid hJ1; have HYB := Lib.hid hyb; have HB1 := Lib.hid hb1
    clear m0 m1 m2 hn1 hh1 hE1 hJ1 hyb hb1 hnW hhW hEW
    refine wpIn_wide.2 ?_
    refine wp_region_below (by kernel_rfl) (by kernel_rfl) ?_
    repeat (go_big_quiet_step ((first
      | (go_at_call 97; exact After.call (FX.out _)))))
    refine wpQuiet_nil ?_
    rintro _ ⟨x, rfl⟩
    clear x0 x1 x2
    obtain ⟨W2, hW2⟩ : ∃ W2, x.W = W2 := ⟨_, rfl⟩
    have hb2 := x.h
    rw [hW2] at hb2 ⊢
    clear hW2 x
    have hz2 := hb2.size
    have hn2 := (hb2.block nb (by omega)).trans HN1.out
    have hh2 := (hb2.block hb (by omega)).trans HH1.out
    have hy2 := (hb2.block s (by omega)).trans HYB.out
    have hJ2 : J [] W2 := HJ.out _ _ _ HJ1.out (by rw [hs]; exact KeepT.below hb2 (by omega))
    have hE2 : EdgesIn W2 D A es := HE1.out.below (hb2.mono (by omega))
    have hbs2 : Below s W W2 := HB1.out.trans (hb2.mono (by omega))
    obtain ⟨cy, fy⟩ := cell_of hy2
    have c0 : W2.cell? ⟨hb, 0, none⟩ = some (.string ⟨#[b]⟩) := by simp [World.cell?, hh2]
    have c1 : W2.cell? ⟨hb, 1, none⟩ = some (.string ⟨p.toArray⟩) := by simp [World.cell?, hh2]
    have c2 : W2.cell? ⟨nb, 1, none⟩ = some (.slice A es.length cap) := by simp [World.cell?, hn2]
    have HN2 := Lib.hid hn2; have HH2 := Lib.hid hh2; have HY2 := Lib.hid hy2; have HJ2 := Lib.hid hJ2; have HE2 := Lib.hid hE2; have HBS2 := Lib.hid hbs2
    clear hn2 hh2 hy2 hJ2 hE2 hbs2 HN1 HH1 HYB HJ1 HE1 HB1 hb2 FX
    by_cases hbt : b = t
    · subst hbt
      have HF : Hid ((pathsE (ebs es) b b).map (p ++ ·) = [p]) := Lib.hid (by rw [pathsE_at]; simp)
      have q1 : (b == b) = true := by simp
      rw [q1]
      clear q1
      obtain ⟨fn, tmps, assign, body, hy, hR⟩ := HY.out [] p W2 HJ2.out (by rw [HF.out]; simp)
      dsimp only [encsT] at hy
      gi_wp2
      refine hR.mono ?_
      rintro e W3 (⟨rfl, hJ3, hk3⟩ | ⟨rfl, hJx3, hk3⟩)
      · gi_wp2_with fail
        refine leaves_marks (lo := s) [] _ trivial fun V' hk => ?_
        refine ⟨_, results_none rfl _ _ _, ⟨_, rfl⟩, .inl ⟨[p], ?_, HJ.out _ _ _ hJ3 (by rw [hs]; exact hk)⟩⟩
        exact HF.out.symm
      · gi_wp2_with fail
        refine leaves_marks (lo := s) [] _ trivial fun V' hk => ?_
        refine ⟨_, results_none rfl _ _ _, ⟨_, rfl⟩, .inr ⟨[p], ⟨[], ?_⟩, HJX.out _ _ _ hJx3 (by rw [hs]; exact hk)⟩⟩
        rw [HF.out]; rfl
    have q1 : (b == t) = false := by simp [hbt]
    rw [q1]
    clear q1
    have HFIX : Hid (pathsE (ebs es) t b = rowP (ebs es) (pathsE (ebs es) t) b (List.range es.length)) := Lib.hid (by
      have hel : (ebs es).length = es.length := by simp [ebs]
      rw [pathsE_fix HTO.out h7 hbt, hel])
    clear cy fy c0 c1
    gi_wp2_with fail
    refine wpIn_loop (fun a V => ∃ (j : Nat) (DS : List Deferred) (u4 u5 u6 u16 u20 u21 u22 u23 u24 u25 u26 u27 u28 u29 u30 u31 u32 u33 u34 u35 u36 u37 u38 u39 u40 : Value), j ≤ es.length ∧
        a = { tmps := #[.func (.yield k) #[] #[], .pointer (some ⟨hb, 0, none⟩), .pointer (some ⟨nb, 0, none⟩), .pointer (some ⟨s, 0, none⟩), u4, u5, u6, .pointer (some ⟨hb, 0, none⟩), .string ⟨#[b]⟩, .agg #[.string B, .slice A es.length cap], .string ⟨#[t]⟩, .bool false,
          undef, undef, undef, undef, u16, .slice A es.length cap, .int .i64 es.length, .int .i64 j, u20, u21, u22, u23, u24, u25, u26, u27, u28, u29, u30, u31, u32, u33, u34, u35, u36, u37, u38, u39, u40], defers := DS } ∧
        Marks s DS V ∧ J ((rowP (ebs es) (pathsE (ebs es) t) b (List.range j)).map (p ++ ·)) V ∧ KeepN D s W2 V)
      (fun a _ => es.length - (intOf (a.tmps.getD 19 undef)).toNat) ?start ?round
    case start =>
      exact ⟨0, [], _, _, _, _, _, _, _, _, _, _, _, _, _, _, _, _, _, _, _, _, _, _, _, _, _, Nat.zero_le _, rfl, trivial, HJ2.out, KeepN.refl _ _ _⟩
    case round =>
      rintro _ V ⟨j, DS, u4, u5, u6, u16, u20, u21, u22, u23, u24, u25, u26, u27, u28, u29, u30, u31, u32, u33, u34, u35, u36, u37, u38, u39, u40, hj, rfl, hm, hJV, hkV⟩
      by_cases hlt : j < es.length
      case neg =>
        have hje : j = es.length := by omega
        subst hje
        have HEND : Hid ((rowP (ebs es) (pathsE (ebs es) t) b (List.range es.length)).map (p ++ ·) = (pathsE (ebs es) t b).map (p ++ ·)) := Lib.hid (by rw [HFIX.out])
        have HM := Lib.hid hm; have HJV := Lib.hid hJV
        clear hm hJV hkV
        gi_wp2_with fail
        refine leaves_marks (lo := s) DS _ HM.out fun V' hk => ?_
        refine ⟨_, results_none rfl _ _ _, ⟨_, rfl⟩, .inl ?_⟩
        have hfin := HJ.out _ _ _ HJV.out (show KeepT W.heap.size V V' by rw [hs]; exact hk)
        rw [HEND.out] at hfin
        first | exact hfin | exact ⟨_, rfl, hfin⟩
      obtain ⟨x, y, he, e1, e2, hxl, hyl⟩ := edge_letters hL hlt
      have hhV := hkV.cells hb _ _ _ HH2.out (by decide) (by decide)
      have hnV := hkV.cells nb _ _ _ HN2.out (by decide) (by decide)
      have hyV := hkV.cells s _ _ _ HY2.out (by decide) (by decide)
      have hEV := edges_low HE2.out hkV.low
      have HEV := Lib.hid hEV
      obtain ⟨eb, eo, rfl, hlow, q1, q2⟩ := hEV j hlt
      rw [e1] at q1
      rw [e2] at q2
      have c0 : V.cell? ⟨hb, 0, none⟩ = some (.string ⟨#[b]⟩) := by simp [World.cell?, hhV]
      have c1 : V.cell? ⟨hb, 1, none⟩ = some (.string ⟨p.toArray⟩) := by simp [World.cell?, hhV]
      have c2 : V.cell? ⟨nb, 0, none⟩ = some (.string B) := by simp [World.cell?, hnV]
      have c3 : V.cell? ⟨nb, 1, none⟩ = some (.slice (some ⟨eb, eo, none⟩) es.length cap) := by simp [World.cell?, hnV]
      have hjl : (j : Int) < (es.length : Int) := by omega
      have HHV := Lib.hid hhV; have HNV := Lib.hid hnV; have HYV := Lib.hid hyV; have HE := Lib.hid he; have HE2' := Lib.hid e2; have HM := Lib.hid hm; have HJV := Lib.hid hJV; have HKV := Lib.hid hkV
      have hzV := hkV.size
      have hbv : hb < V.heap.size := by omega
      have nbv : nb < V.heap.size := by omega
      have sv : s < V.heap.size := by omega
      have hba : Below V.heap.size V (V.alloc (.cells #[.string ⟨#[x]⟩, .string ⟨#[y]⟩] 72)) := (Below.refl _ _).alloc (Nat.le_refl _) _
      have HBA := Lib.hid hba
      have HKV1 : Hid (KeepN D s W2 (V.alloc (.cells #[.string ⟨#[x]⟩, .string ⟨#[y]⟩] 72))) := Lib.hid (hkV.trans (KeepN.grown (row := none) ⟨hba.os, hba.tape, hba.output, hba.size, fun i hi _ => hba.block i hi⟩ (fun _ e => by cases e) (by omega)))
      have HM1 : Hid (Marks s DS (V.alloc (.cells #[.string ⟨#[x]⟩, .string ⟨#[y]⟩] 72))) := Lib.hid (hm.low fun i hi => hba.block i hi)
      have HJ1 : Hid (J ((rowP (ebs es) (pathsE (ebs es) t) b (List.range j)).map (p ++ ·)) (V.alloc (.cells #[.string ⟨#[x]⟩, .string ⟨#[y]⟩] 72))) := Lib.hid (HJ.out _ _ _ hJV (by rw [hs]; exact KeepT.below hba (by omega)))
      clear hhV hnV hyV he e1 e2 hm hJV hkV hba
      by_cases hxb : x = b
      case neg =>
        have HT : Hid (rowP (ebs es) (pathsE (ebs es) t) b (List.range (j + 1)) = rowP (ebs es) (pathsE (ebs es) t) b (List.range j)) := Lib.hid (by
          rw [List.range_succ, rowP_snoc, stepP_no HE.out hxb, List.append_nil])
        have qn : (x == b) = false := by simp [hxb]
        have qn2 : (x != b) = true := by simp [hxb]
        gi_wp2_with fail
        refine ⟨⟨j + 1, DS, _, _, _, _, _, _, _, _, _, _, _, _, _, _, _, _, _, _, _, _, _, _, _, _, _, by omega, rfl, HM1.out, by rw [HT.out]; exact HJ1.out, HKV1.out⟩, ?_⟩
        simp [intOf]; omega
      subst hxb
      have HT : Hid ((rowP (ebs es) (pathsE (ebs es) t) x (List.range (j + 1))).map (p ++ ·) = (rowP (ebs es) (pathsE (ebs es) t) x (List.range j)).map (p ++ ·) ++ (pathsE (ebs es) t y).map ((p ++ [nameOf j]) ++ ·)) := Lib.hid (by
        rw [List.range_succ, rowP_snoc, stepP_yes HE.out, List.map_append, List.map_map]
        congr 1
        refine List.map_congr_left fun q _ => ?_
        show p ++ ((97 + j).toUInt8 :: q) = (p ++ [nameOf j]) ++ q
        rw [List.append_assoc]; rfl)
      have HALL : Hid (∃ rest, (pathsE (ebs es) t x).map (p ++ ·) = (rowP (ebs es) (pathsE (ebs es) t) x (List.range j)).map (p ++ ·) ++ (pathsE (ebs es) t y).map ((p ++ [nameOf j]) ++ ·) ++ rest) := Lib.hid (by
        refine ⟨(rowP (ebs es) (pathsE (ebs es) t) x ((List.range es.length).drop (j + 1))).map (p ++ ·), ?_⟩
        have e : List.range es.length = List.range (j + 1) ++ (List.range es.length).drop (j + 1) := by
          have h := List.take_append_drop (j + 1) (List.range es.length)
          rw [List.take_range, Nat.min_eq_left (by omega)] at h
          exact h.symm
        rw [HFIX.out, ← HT.out, ← List.map_append]
        unfold rowP
        rw [← List.flatMap_append, ← e])
      have FI : Hid (∀ (hb' nb' k' : Nat) (V' : World), V'.heap[nb']? = some (.cells #[.string B, .slice (some ⟨eb, eo, none⟩) es.length cap] 25 (0, 0)) → V'.heap[hb']? = some (.cells #[.string ⟨#[y]⟩, .string ⟨(p ++ [nameOf j]).toArray⟩] 84 (0, 0)) → EdgesIn V' D (some ⟨eb, eo, none⟩) es → D ≤ V'.heap.size → V'.heap.size ≤ k' →
          SeqRunT Fence.wide 3 Try.prog 148 #[.pointer (some ⟨hb', 0, none⟩), .pointer (some ⟨nb', 0, none⟩)] encsT (KeepN D k') (fun xs => xs = (pathsE (ebs es) t y).map ((p ++ [nameOf j]) ++ ·)) (fun pre => ∃ rest, (pathsE (ebs es) t y).map ((p ++ [nameOf j]) ++ ·) = pre ++ rest) ((pathsE (ebs es) t y).map ((p ++ [nameOf j]) ++ ·)).length V' k') := Lib.hid fun hb' nb' k' V' h1 h2 h3 h4 h5 => by
        obtain ⟨a, r2, hr⟩ := List.append_of_mem (HTO.out.1 y (List.mem_of_getElem? HE.out))
        have h6 : Topo (ebs es) (y :: r2) := Topo.drop (a := a) (by rw [← hr]; exact HTO.out.2)
        have hlr := congrArg List.length hr
        simp at hlr
        have hrun := IH.out r2 y (p ++ [nameOf j]) hb' nb' D k' V' (by omega) (by omega) (by simp; omega) h6 h1 h2 h3 h4 h5
        intro J' Jx' W' g1 g2 g3 g4 g5 g6
        exact callsIn_wide.2 (callsIn_wide.1 (hrun J' Jx' W' g1 g2 g3 g4 (fun pre z W3 i1 i2 => yield_wide (g5 pre z W3 i1 i2)) g6))
      obtain ⟨Tj, hTj⟩ : ∃ Tj, (rowP (ebs es) (pathsE (ebs es) t) x (List.range j)).map (p ++ ·) = Tj := ⟨_, rfl⟩
      obtain ⟨In, hIn⟩ : ∃ In, (pathsE (ebs es) t y).map ((p ++ [nameOf j]) ++ ·) = In := ⟨_, rfl⟩
      rw [hTj] at HT HALL HJ1
      rw [hIn] at HT HALL FI
      clear hTj hIn
      obtain ⟨V1, hV1⟩ : ∃ V1, V.alloc (.cells #[.string ⟨#[x]⟩, .string ⟨#[y]⟩] 72) = V1 := ⟨_, rfl⟩
      have hzv1 : V1.heap.size = V.heap.size + 1 := by rw [← hV1]; simp
      have HV1 := Lib.hid hV1
      rw [hV1] at HKV1 HM1 HJ1 HBA
      clear hV1
      have hE1 : EdgesIn V1 D (some ⟨eb, eo, none⟩) es := HEV.out.below (HBA.out.mono (by omega))
      have d0 : V1.cell? ⟨hb, 0, none⟩ = some (.string ⟨#[x]⟩) := (HBA.out.cell (p := ⟨hb, 0, none⟩) hbv).trans c0
      have d1 : V1.cell? ⟨hb, 1, none⟩ = some (.string ⟨p.toArray⟩) := (HBA.out.cell (p := ⟨hb, 1, none⟩) hbv).trans c1
      have d2 : V1.cell? ⟨nb, 0, none⟩ = some (.string B) := (HBA.out.cell (p := ⟨nb, 0, none⟩) nbv).trans c2
      have d3 : V1.cell? ⟨nb, 1, none⟩ = some (.slice (some ⟨eb, eo, none⟩) es.length cap) := (HBA.out.cell (p := ⟨nb, 1, none⟩) nbv).trans c3
      have hS : ∀ W, Below V1.heap.size V1 W → (W.cell? ⟨hb, 0, none⟩ = some (.string ⟨#[x]⟩) ∧ W.cell? ⟨hb, 1, none⟩ = some (.string ⟨p.toArray⟩) ∧ W.cell? ⟨nb, 0, none⟩ = some (.string B) ∧ W.cell? ⟨nb, 1, none⟩ = some (.slice (some ⟨eb, eo, none⟩) es.length cap) ∧ Below V1.heap.size V1 W) :=
        fun W h => ⟨(h.cell (by simp only; omega)).trans d0, (h.cell (by simp only; omega)).trans d1, (h.cell (by simp only; omega)).trans d2, (h.cell (by simp only; omega)).trans d3, h⟩
      have HSS := Lib.hid hS
      have FA : Hid (∀ W : World, Below V1.heap.size V1 W → Calls Try.prog 98 #[.agg #[.string ⟨#[x]⟩, .string ⟨p.toArray⟩], .agg #[.string B, .slice (some ⟨eb, eo, none⟩) es.length cap], .int .i64 j] W fun e w' => e = .returned (.agg #[.string ⟨#[y]⟩, .string ⟨(p ++ [nameOf j]).toArray⟩]) ∧ Below W.heap.size W w') := Lib.hid fun W h => by
        have := along_any ⟨#[x]⟩ ⟨p.toArray⟩ B (some ⟨eb, eo, none⟩) cap es j W (((hE1.below (h.mono (by omega)))).more (by have := h.size; omega)) (by omega) hlt (by show p.toArray.size ≤ 1048576; simp; omega)
        rw [HE2'.out] at this
        rwa [show (⟨p.toArray⟩ ++ ⟨#[nameOf j]⟩ : ByteArray) = ⟨(p ++ [nameOf j]).toArray⟩ from bytes_ext (by simp)] at this
      have HE1' := Lib.hid hE1
      have qn : ((⟨#[x]⟩ : ByteArray).toList == (⟨#[x]⟩ : ByteArray).toList) = true := by simp
      have qn2 : ((⟨#[x]⟩ : ByteArray).toList != (⟨#[x]⟩ : ByteArray).toList) = false := by simp
      clear hS d0 d1 d2 d3 hE1
      gi_wp2_with fail
      rw [HV1.out]
      clear c0 c1 c2 c3 q1 q2 qn qn2
      refine wpIn_wide.2 ?_
      go_region_held3 (fun W => W.cell? ⟨hb, 0, none⟩ = some (.string ⟨#[x]⟩) ∧ W.cell? ⟨hb, 1, none⟩ = some (.string ⟨p.toArray⟩) ∧ W.cell? ⟨nb, 0, none⟩ = some (.string B) ∧ W.cell? ⟨nb, 1, none⟩ = some (.slice (some ⟨eb, eo, none⟩) es.length cap) ∧ Below V1.heap.size V1 W)
        (first
          | exact HSS.out _ (Below.refl _ _).drew
          | exact HSS.out _ ((Below.refl _ _).drew.trans hb4)
          | exact HSS.out _ (((Below.refl _ _).drew.trans hb4).trans (hb5.mono hb4.size)))
        (first
          | (go_at_call 98; refine (FA.out _ (Below.refl _ _).drew).mono ?_; rintro e w4 ⟨rfl, hb4⟩)
          | (go_at_call 111; refine (pathsToExit_any _ _ _ _ _).mono ?_; rintro e w5 ⟨rfl, hw5⟩
             have hb5 : Below w4.heap.size w4 w5 := by rw [← hw5]; exact ((Below.refl _ _).alloc (Nat.le_refl _) _).alloc (by simp) _
             have HW5 := Lib.hid hw5
             clear hw5))
      rename_i hHeld
      have hb15 := hHeld.2.2.2.2
      have hz4 : V1.heap.size ≤ w4.heap.size := hb4.size
      have hz5 : w5.heap.size = w4.heap.size + 2 := by rw [← HW5.out]; simp
      have hn5 : w5.heap[w4.heap.size]? = some (.cells #[.string B, .slice (some ⟨eb, eo, none⟩) es.length cap] 25 (0, 0)) := by
        rw [← HW5.out]; exact (Below.heap_alloc _ _ _ (by simp)).trans (World.alloc_heap_new w4 _)
      have hh5 : w5.heap[w4.heap.size + 1]? = some (.cells #[.string ⟨#[y]⟩, .string ⟨(p ++ [nameOf j]).toArray⟩] 84 (0, 0)) := by
        rw [← HW5.out]
        have := World.alloc_heap_new (w4.alloc (.cells #[.string B, .slice (some ⟨eb, eo, none⟩) es.length cap] 25)) (.cells #[.string ⟨#[y]⟩, .string ⟨(p ++ [nameOf j]).toArray⟩] 84)
        rwa [World.size_alloc] at this
      have hDV1 : D ≤ V1.heap.size := by omega
      have hE5 : EdgesIn w5 D (some ⟨eb, eo, none⟩) es := HE1'.out.below (hb15.mono hDV1)
      have hk5 : KeepN D s W2 w5 := HKV1.out.trans (KeepN.of_below hb15 hDV1)
      have hm5 : Marks s DS w5 := HM1.out.low fun i hi => hb15.block i hi
      have hJ5 : J Tj w5 := HJ.out _ _ _ HJ1.out (by rw [hs]; exact KeepT.below hb15 (by omega))
      have hrun := FI.out (w4.heap.size + 1) w4.heap.size (w5.heap.size + 1) w5 hn5 hh5 hE5 (by omega) (by omega)
      obtain ⟨rest0, hall⟩ := HALL.out
      have HALL2 := Lib.hid hall
      have HML : Hid (∀ d ∈ DS, ∃ D', d.target = .collected D' ∧ D' < w5.heap.size) := Lib.hid hm5.lt
      have HK5 := Lib.hid hk5; have HM5 := Lib.hid hm5; have HJ5 := Lib.hid hJ5
      clear hHeld hb5 hb4 hn5 hh5 hE5 hk5 hm5 hJ5 hall HW5 HSS FA FI HALL hb15
      obtain ⟨g4, hg4⟩ : ∃ g4, w4.heap.size = g4 := ⟨_, rfl⟩
      rw [hg4] at hrun hz4 hz5 ⊢
      clear hg4
      gi_wp2_with fail
      refine wpIn_range_texts rfl (by decide) (gf := 148) (lb := #[.pointer (some ⟨g4 + 1, 0, none⟩), .pointer (some ⟨g4, 0, none⟩)]) rfl trivial (enters_of Try.func148 (by kernel_rfl) rfl) hrun
        (fun h k => h.trans k) (fun W o o' h ho _ => KeepN.put h ho (by omega)) (Below.refl _ _) (fun _ => rfl)
        (fun pre V' => J (Tj ++ pre) V' ∧ KeepN D s W2 V' ∧ Marks s DS V') (fun _ pre V' => Jx (Tj ++ pre) V' ∧ Marks s DS V')
        (fun pre V' V2 h hk => ⟨HJ.out _ _ _ h.1 (hk.mono (by omega)), h.2.1.then hk (by omega) (by omega), h.2.2.same fun D' ⟨d, hd, e⟩ => by
          obtain ⟨D2, e2, hl2⟩ := HML.out d hd
          rw [e] at e2; injection e2 with e2
          exact hk.low D' (by omega)⟩)
        (fun _ pre V' V2 h hk => ⟨HJX.out _ _ _ h.1 (hk.mono (by omega)), h.2.same fun D' ⟨d, hd, e⟩ => by
          obtain ⟨D2, e2, hl2⟩ := HML.out d hd
          rw [e] at e2; injection e2 with e2
          exact hk.low D' (by omega)⟩)
        ⟨by rw [List.append_nil]; exact HJ5.out, HK5.out, HM5.out⟩
        (fun z => { tmps := #[.func (.yield k) #[] #[], .pointer (some ⟨hb, 0, none⟩), .pointer (some ⟨nb, 0, none⟩), .pointer (some ⟨s, 0, none⟩), .int .i64 j, .pointer (some ⟨V.heap.size, 0, none⟩), .string ⟨z.toArray⟩, .pointer (some ⟨hb, 0, none⟩), .string ⟨#[x]⟩,
          .agg #[.string B, .slice (some ⟨eb, eo, none⟩) es.length cap], .string ⟨#[t]⟩, .bool false, undef, undef, undef, undef, u16, .slice (some ⟨eb, eo, none⟩) es.length cap, .int .i64 es.length, .int .i64 j, .bool true, .int .i64 j, .pointer (some ⟨eb, eo + j * 2, none⟩),
          .agg #[.string ⟨#[x]⟩, .string ⟨#[y]⟩], .pointer (some ⟨V.heap.size, 0, none⟩), .string ⟨#[x]⟩, .pointer (some ⟨hb, 0, none⟩), .string ⟨#[x]⟩, .bool false, .agg #[.string B, .slice (some ⟨eb, eo, none⟩) es.length cap], .agg #[.string ⟨#[x]⟩, .string ⟨p.toArray⟩],
          .agg #[.string B, .slice (some ⟨eb, eo, none⟩) es.length cap], .int .i64 j, .agg #[.string ⟨#[y]⟩, .string ⟨(p ++ [nameOf j]).toArray⟩], .func (.func 148) #[] #[.pointer (some ⟨g4 + 1, 0, none⟩), .pointer (some ⟨g4, 0, none⟩)], .string ⟨z.toArray⟩, u36, u37, u38, u39, u40], defers := [] }) ?assign ?body ?done ?stop
      case assign =>
        intro l0 z V' K hK
        dsimp only [encsT]
        gi_wp2
        exact hK
      case body =>
        rintro l0 pre z V' ⟨hJz, hkz, hmz⟩ hlen hlt'
        have hyz := hkz.cells s _ _ _ HY2.out (by decide) (by decide)
        obtain ⟨cy, fy⟩ := cell_of hyz
        have hlen2 : (Tj ++ pre).length < ((pathsE (ebs es) t x).map (p ++ ·)).length := by
          rw [HALL2.out]; simp; omega
        obtain ⟨fn, tmps, assign, body, hy, hR⟩ := HY.out (Tj ++ pre) z V' hJz hlen2
        dsimp only [encsT] at hy
        have HJZ := Lib.hid hJz; have HKZ := Lib.hid hkz; have HMZ := Lib.hid hmz
        clear hJz hkz hmz hyz hlen2
        gi_wp2
        refine (round_in (round_wide hR)).mono ?_
        rintro e W3 (⟨rfl, hJ3, hk3⟩ | ⟨rfl, hJx3, hk3⟩)
        · have HK3 := Lib.hid hk3; have HJ3 := Lib.hid hJ3
          clear hy hR hk3 hJ3
          gi_wp2
          exact ⟨HK3.out.from (by omega), HK3.out.mono (by omega), by rw [← List.append_assoc]; exact HJ3.out, HKZ.out.trans (HK3.out.mono (by omega)), HMZ.out.keep HK3.out (by omega)⟩
        · have HK3 := Lib.hid hk3; have HJ3 := Lib.hid hJx3
          clear hy hR hk3 hJx3
          gi_wp2
          exact ⟨HK3.out.from (by omega), HK3.out.mono (by omega), by rw [← List.append_assoc]; exact HJ3.out, HMZ.out.keep HK3.out (by omega)⟩
      case done =>
        rintro D' xs V' hD' rfl ⟨hJz, hkz, hmz⟩ hK
        have hne : ∀ d' ∈ DS, d'.target ≠ .collected D' := fun d' hd' e => by
          obtain ⟨D2, e2, hl2⟩ := HML.out d' hd'
          rw [e] at e2; injection e2 with e2
          omega
        have HMD : Hid (Marks s (({ target := .collected D', args := #[] } : Deferred) :: DS) V') := Lib.hid ⟨D', rfl, by omega, hK, hne, hmz⟩
        have HJZ := Lib.hid hJz; have HKZ := Lib.hid hkz
        clear hJz hkz hmz hK hne
        gi_wp2
        refine ⟨⟨j + 1, _, _, _, _, _, _, _, _, _, _, _, _, _, _, _, _, _, _, _, _, _, _, _, _, _, _, by omega, rfl, HMD.out, by rw [HT.out]; exact HJZ.out, HKZ.out⟩, ?_⟩
        simp [intOf]; omega
      case stop =>
        rintro D' pre V' hD' ⟨rest, hrest⟩ ⟨hJz, hmz⟩ hK
        have hne : ∀ d' ∈ DS, d'.target ≠ .collected D' := fun d' hd' e => by
          obtain ⟨D2, e2, hl2⟩ := HML.out d' hd'
          rw [e] at e2; injection e2 with e2
          omega
        have HMD : Hid (Marks s (({ target := .collected D', args := #[] } : Deferred) :: DS) V') := Lib.hid ⟨D', rfl, by omega, hK, hne, hmz⟩
        have HJZ := Lib.hid hJz
        have HFULL : Hid ((pathsE (ebs es) t x).map (p ++ ·) = (Tj ++ pre) ++ (rest ++ rest0)) := Lib.hid (by rw [HALL2.out, hrest]; simp)
        clear hJz hmz hK hne hrest
        gi_wp2
        refine leaves_marks (lo := s) _ _ HMD.out fun V2 hk => ?_
        exact ⟨_, results_none rfl _ _ _, ⟨_, rfl⟩, .inr ⟨Tj ++ pre, ⟨_, HFULL.out⟩, HJX.out _ _ _ HJZ.out (by rw [hs]; exact hk)⟩⟩

end Go.Proofs.Ytcfcmlbbnpfejaa
