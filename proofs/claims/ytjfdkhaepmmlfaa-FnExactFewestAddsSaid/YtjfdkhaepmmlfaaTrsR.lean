/- All trees that have some edges, by the program: an iterator that ranges over itself. -/
import Derived.Test.YtjfdkhaepmmlfaaTrsK
import Derived.Test.YtjfdkhaepmmlfaaTrsO
import Derived.Test.YtjfdkhaepmmlfaaTrsP
import Derived.Test.YtjfdkhaepmmlfaaEdgeName
import Derived.Test.YtjfdkhaepmmlfaaRangeN
namespace Go.Proofs.Ytjfdkhaepmmlfaa
open Go.RowKit
attribute [local go_sem] Oper.semAt_some

theorem KeepZ.block {D E l i o : Nat} {A B : World} {v : Value} (h : KeepZ D E l A B) (hc : A.cell? ⟨i, o, none⟩ = some v) (h1 : i < D ∨ E ≤ i) : B.heap[i]? = A.heap[i]? := by
  cases ha : A.heap[i]? with
  | none => simp [World.cell?, ha] at hc
  | some ob =>
    cases ob with
    | cells C T fr => exact h.cells i C T fr ha h1
    | _ => simp [World.cell?, ha] at hc
theorem TrsBox.keep {W W' : World} {b D E l : Nat} {B : ByteArray} {A : Option Addr} {n cap : Nat} {f : Nat → Nat} {t : ByteArray} {i : Nat} (h : TrsBox W b B A n cap f t i) (k : KeepZ D E l W W') (hb : E ≤ b) : TrsBox W' b B A n cap f t i := by
  have e0 := k.block h.net.1 (.inr hb)
  have e1 := k.block (h.lab.cell (i := 0) (by omega)) (.inr (show E ≤ b + 1 by omega))
  have e2 := k.block h.txt (.inr (show E ≤ b + 2 by omega))
  have e3 := k.block h.pos (.inr (show E ≤ b + 3 by omega))
  exact ⟨⟨(World.cell?_of_block e0).trans h.net.1, (World.cell?_of_block e0).trans h.net.2⟩, h.lab.of_block e1, (World.cell?_of_block e2).trans h.txt, (World.cell?_of_block e3).trans h.pos, Nat.lt_of_lt_of_le h.lt k.size⟩
theorem TrsBox.of {w W : World} {b : Nat} {B : ByteArray} {A : Option Addr} {n cap : Nat} {f : Nat → Nat} {t : ByteArray} {i : Nat} (h : TrsBox w b B A n cap f t i) (k : Below w.heap.size w W) : TrsBox W b B A n cap f t i := h.below k

set_option maxRecDepth 100000 in
set_option maxHeartbeats 4000000 in
/-- impl.treesFrom$1 -/
theorem trees_run (B : ByteArray) (A : Option Addr) (cap : Nat) (es : List (ByteArray × ByteArray)) (hl : es.length ≤ 16) (hV : Valid B.data.toList (ebs es)) (hB8 : B.size ≤ 8) : ∀ (n i : Nat) (f : Nat → Nat) (t : List UInt8) (b D E k : Nat) (w : World), es.length - i < n → i ≤ es.length → t.length + 2 ≤ B.size → TrsBox w b B A es.length cap f ⟨t.toArray⟩ i → EdgesIn w D A es → D ≤ E → E ≤ b → w.heap.size ≤ k →
    SeqRunN Fence.wide 4 Try.prog 103 #[.pointer (some ⟨b + 2, 0, none⟩), .pointer (some ⟨b, 0, none⟩), .pointer (some ⟨b + 3, 0, none⟩), .pointer (some ⟨b + 1, 0, none⟩)] encsT (KeepZ D E k) (fun xs => xs = trs (endsN B.data.toList (ebs es)) f (fromK es.length i) (B.size - 2 - t.length) t) (fun pre => ∃ rest, trs (endsN B.data.toList (ebs es)) f (fromK es.length i) (B.size - 2 - t.length) t = pre ++ rest) (fun pre x => ∃ rest, trs (endsN B.data.toList (ebs es)) f (fromK es.length i) (B.size - 2 - t.length) t = pre ++ x :: rest) w k := by
  intro n
  induction n with
  | zero => intro i f t b D E k w hn; exact absurd hn (by omega)
  | succ n ih =>
    intro i f t b D E k w hn hi ht hbox hE hDE hEb hwk
    intro J Jx W hbW hkW hJ hJx hY h0
    have IH := Lib.hid ih
    have HY := Lib.hid hY; have HJ := Lib.hid hJ; have HJX := Lib.hid hJx; have H0 := Lib.hid h0
    have hbx := hbox.below hbW
    have hDw : D ≤ w.heap.size := by have := hbox.lt; omega
    have hEW : EdgesIn W D A es := hE.below (hbW.mono hDw)
    have hltW := hbx.lt
    clear ih hY hJ hJx h0 hbox hE hbW
    refine callsIn_of_wp_marks Try.func103 rfl trivial ?_ rfl
    simp only [Try.ntmps103, List.size_toArray, List.length_cons, List.length_nil, Nat.reduceAdd, Nat.reduceSub, Array.replicate_succ, Array.replicate_zero, List.push_toArray, List.append_toArray, List.nil_append, List.cons_append]
    obtain ⟨s, hs⟩ : ∃ s, W.heap.size = s := ⟨_, rfl⟩
    have hs1 : (W.alloc (.cells #[.func (.yield k) #[] #[]] 120)).heap.size = s + 1 := by simp [hs]
    have hb1 : Below s W (W.alloc (.cells #[.func (.yield k) #[] #[]] 120)) := (Below.refl _ _).alloc (by omega) _
    have hyb := World.alloc_heap_new W (.cells #[.func (.yield k) #[] #[]] 120)
    rw [hs] at hyb
    have HBX1 := Lib.hid (hbx.below (by rw [hs]; exact hb1))
    have HE1 := Lib.hid (hEW.below (hb1.mono (by omega)))
    have HJ1 : Hid (J [] (W.alloc (.cells #[.func (.yield k) #[] #[]] 120))) := Lib.hid (HJ.out _ _ _ H0.out (by rw [hs]; exact KeepT.below (by rw [hs]; exact hb1) (by omega)))
    have HYB := Lib.hid hyb; have HB1 := Lib.hid hb1
    have c0 := HBX1.out.net.1
    have c1 := HBX1.out.net.2
    have c2 := HBX1.out.txt
    have c3 := HBX1.out.pos
    obtain ⟨cy, fy⟩ := cell_of hyb
    obtain ⟨c, hc⟩ : ∃ c, B.size - 2 = c := ⟨_, rfl⟩
    have zc : IntKind.i64.wrap ((B.size : Int) - 2) = (c : Int) := by rw [IntWalk.i64_in _ (by omega)]; omega
    rw [hc]
    have htc : t.length ≤ c := by omega
    have HC := Lib.hid hc
    clear hbx hEW hb1 hyb hc
    rw [hs] at hkW hltW
    by_cases hend : t.length = c
    · have q1 : ((t.length : Int) == (c : Int)) = true := by simp; omega
      have HF : Hid (trs (endsN B.data.toList (ebs es)) f (fromK es.length i) (c - t.length) t = [t]) := Lib.hid (by rw [hend, Nat.sub_self, trs_zero])
      obtain ⟨fn, tmps, assign, body, hy, hR⟩ := HY.out [] t _ HJ1.out ⟨[], by rw [HC.out, HF.out]; rfl⟩
      dsimp only [encsT] at hy
      gi_wp2
      refine hR.mono ?_
      rintro e W3 (⟨rfl, hJ3, hk3⟩ | ⟨rfl, hJx3, hk3⟩)
      · gi_wp2_with fail
        refine leaves_marks (lo := s) [] _ trivial fun V' hk => ?_
        refine ⟨_, results_none rfl _ _ _, ⟨_, rfl⟩, .inl ⟨[t], ?_, HJ.out _ _ _ hJ3 (by rw [hs]; exact hk)⟩⟩
        exact HF.out.symm
      · gi_wp2_with fail
        refine leaves_marks (lo := s) [] _ trivial fun V' hk => ?_
        refine ⟨_, results_none rfl _ _ _, ⟨_, rfl⟩, .inr ⟨[t], ⟨[], ?_⟩, HJX.out _ _ _ hJx3 (by rw [hs]; exact hk)⟩⟩
        rw [HF.out]; rfl
    have q1 : ((t.length : Int) == (c : Int)) = false := by simp; omega
    obtain ⟨full, hfull⟩ : ∃ full, trs (endsN B.data.toList (ebs es)) f (fromK es.length i) (c - t.length) t = full := ⟨_, rfl⟩
    obtain ⟨m, hm⟩ : ∃ m, c - t.length = m + 1 := ⟨c - t.length - 1, by omega⟩
    have HFULL0 : Hid (full = [] ++ trs (endsN B.data.toList (ebs es)) f (fromK es.length i) (m + 1) t) := Lib.hid (by rw [← hfull, hm]; rfl)
    have HM := Lib.hid hm
    rw [HC.out, hfull] at HY
    rw [hfull]
    clear hfull hm
    gi_wp2_with fail
    clear cy fy c0 c1 c2
    obtain ⟨W1, hW1⟩ : ∃ W1, W.alloc (.cells #[.func (.yield k) #[] #[]] 120) = W1 := ⟨_, rfl⟩
    rw [hW1] at hs1 HBX1 HE1 HJ1 HYB HB1 ⊢
    clear hW1 c3
    refine wpIn_loop (fun a V => ∃ (j : Nat) (DS : List Deferred) (Tj : List (List UInt8)) (u7 u8 u9 u21 u22 u23 u24 u25 u26 u27 u28 u29 u30 u31 u32 u33 u34 u35 u36 u37 u38 u39 u40 u41 u42 u43 u44 u45 u46 u47 u48 u49 u50 u51 u52 u53 u54 u55 u56 u57 u58 u59 u60 u61 u62 u63 u64 u65 u66 u67 : Value), (i ≤ j ∧ j ≤ es.length) ∧
        a = { tmps := #[.func (.yield k) #[] #[], .pointer (some ⟨b + 2, 0, none⟩), .pointer (some ⟨b, 0, none⟩), .pointer (some ⟨b + 3, 0, none⟩), .pointer (some ⟨b + 1, 0, none⟩), .pointer (some ⟨s, 0, none⟩), .int .i64 j, u7, u8, u9, .string ⟨t.toArray⟩, .int .i64 t.length, .pointer (some ⟨b, 0, none⟩), .string B, .int .i64 B.size, .int .i64 c, .bool false, undef, undef, undef, .int .i64 i, u21, u22, u23, u24, u25, u26, u27, u28, u29, u30, u31, u32, u33, u34, u35, u36, u37, u38, u39, u40, u41, u42, u43, u44, u45, u46, u47, u48, u49, u50, u51, u52, u53, u54, u55, u56, u57, u58, u59, u60, u61, u62, u63, u64, u65, u66, u67], defers := DS } ∧
        Marks s DS V ∧ full = Tj ++ trs (endsN B.data.toList (ebs es)) f (fromK es.length j) (m + 1) t ∧ J Tj V ∧ KeepZ D E s W1 V)
      (fun a _ => es.length - (intOf (a.tmps.getD 6 undef)).toNat) ?start ?round
    case start =>
      exact ⟨i, [], [], _, _, _, _, _, _, _, _, _, _, _, _, _, _, _, _, _, _, _, _, _, _, _, _, _, _, _, _, _, _, _, _, _, _, _, _, _, _, _, _, _, _, _, _, _, _, _, _, _, _, ⟨Nat.le_refl _, hi⟩, rfl, trivial, HFULL0.out, HJ1.out, KeepZ.refl _ _ _ _⟩
    case round =>
      rintro _ V ⟨j, DS, Tj, u7, u8, u9, u21, u22, u23, u24, u25, u26, u27, u28, u29, u30, u31, u32, u33, u34, u35, u36, u37, u38, u39, u40, u41, u42, u43, u44, u45, u46, u47, u48, u49, u50, u51, u52, u53, u54, u55, u56, u57, u58, u59, u60, u61, u62, u63, u64, u65, u66, u67, ⟨hij, hj⟩, rfl, hm, hTj, hJV, hkV⟩
      by_cases hlt : j < es.length
      case neg =>
        have hje : j = es.length := by omega
        have HEND : Hid (Tj = full) := Lib.hid (by rw [hTj, trs_short (by omega), List.append_nil])
        have bxV := HBX1.out.keep hkV hEb
        have c1 := bxV.net.2
        have HM' := Lib.hid hm; have HJV := Lib.hid hJV
        clear hm hJV hkV hTj bxV
        gi_wp2_with fail
        refine leaves_marks (lo := s) DS _ HM'.out fun V' hk => ?_
        refine ⟨_, results_none rfl _ _ _, ⟨_, rfl⟩, .inl ?_⟩
        have hfin := HJ.out _ _ _ HJV.out (show KeepT W.heap.size V V' by rw [hs]; exact hk)
        rw [HEND.out] at hfin
        first | exact hfin | exact ⟨_, rfl, hfin⟩
      obtain ⟨x, y, p1, p2, e1, e2, hen, hp1, hp2, hl1, hl2⟩ := ends_at hV.1.2 hlt
      have hl8 : B.data.toList.length ≤ 8 := by have e : B.data.toList.length = B.size := (by simp); omega
      have HNO : Hid (f p1 = f p2 → trs (endsN B.data.toList (ebs es)) f (fromK es.length j) (m + 1) t = trs (endsN B.data.toList (ebs es)) f (fromK es.length (j + 1)) (m + 1) t) := Lib.hid fun h => by
        rw [trs_go hlt, hen]; simp only; rw [if_pos h, List.nil_append]
      have HYES : Hid (¬ f p1 = f p2 → trs (endsN B.data.toList (ebs es)) f (fromK es.length j) (m + 1) t = trs (endsN B.data.toList (ebs es)) (joinR f p1 p2) (fromK es.length (j + 1)) m (t ++ [nameOf j]) ++ trs (endsN B.data.toList (ebs es)) f (fromK es.length (j + 1)) (m + 1) t) := Lib.hid fun h => by
        rw [trs_go hlt, hen]; simp only; rw [if_neg h, trs_joinR _ f p1 p2 B.data.toList.length _ _ _ hl1 hl2 fun k hk => ?_]
        obtain ⟨_, _, i1, i2, _, _, h3, _, _, h4, h5⟩ := ends_at hV.1.2 (show k < es.length from by unfold fromK at hk; have := List.mem_of_mem_drop hk; simpa using this)
        rw [h3]; exact ⟨h4, h5⟩
      have bxV := HBX1.out.keep hkV hEb
      have hEV := edges_low HE1.out hkV.low
      have HEV := Lib.hid hEV
      obtain ⟨eb, eo, rfl, hlow, q2, q3⟩ := hEV j hlt
      rw [e1] at q2
      rw [e2] at q3
      obtain ⟨xb, hxb⟩ : ∃ xb : ByteArray, (⟨#[x]⟩ : ByteArray) = xb := ⟨_, rfl⟩
      obtain ⟨yb, hyb⟩ : ∃ yb : ByteArray, (⟨#[y]⟩ : ByteArray) = yb := ⟨_, rfl⟩
      have FBX : Hid (∀ W : World, Calls Try.prog 102 #[.agg #[.string B, .slice (some ⟨eb, eo, none⟩) es.length cap], .string xb] W fun e w' => e = .returned (.int .i64 (p1 : Int)) ∧ Below W.heap.size W w') := Lib.hid fun W => by
        have := blockIndex_any B ⟨#[x]⟩ (.slice (some ⟨eb, eo, none⟩) es.length cap) W
        rw [show bIdx B.data.toList (⟨#[x]⟩ : ByteArray).data.toList = (p1 : Int) from hp1, hxb] at this
        exact this
      have FBY : Hid (∀ W : World, Calls Try.prog 102 #[.agg #[.string B, .slice (some ⟨eb, eo, none⟩) es.length cap], .string yb] W fun e w' => e = .returned (.int .i64 (p2 : Int)) ∧ Below W.heap.size W w') := Lib.hid fun W => by
        have := blockIndex_any B ⟨#[y]⟩ (.slice (some ⟨eb, eo, none⟩) es.length cap) W
        rw [show bIdx B.data.toList (⟨#[y]⟩ : ByteArray).data.toList = (p2 : Int) from hp2, hyb] at this
        exact this
      rw [hxb] at q2
      rw [hyb] at q3
      have hltV := bxV.lt
      have hsV := hkV.size
      have c1 := bxV.net.2
      have y0 : ∀ x : After V, x.W.cell? ⟨b, 0, none⟩ = some (.string B) := fun x => x.cell (by simp only; omega) bxV.net.1
      have y1 : ∀ x : After V, x.W.cell? ⟨b, 1, none⟩ = some (.slice (some ⟨eb, eo, none⟩) es.length cap) := fun x => x.cell (by simp only; omega) bxV.net.2
      have y2 : ∀ x : After V, x.W.cell? ⟨eb, eo + j * 2, none⟩ = some (.string xb) := fun x => x.cell (by simp only; omega) q2
      have y3 : ∀ x : After V, x.W.cell? ⟨eb, eo + j * 2 + 1, none⟩ = some (.string yb) := fun x => x.cell (by simp only; omega) q3
      have j0 : (0 : Int) ≤ (j : Int) := by omega
      have j1 : (j : Int) < (es.length : Int) := by omega
      have HBXV := Lib.hid bxV; have HMV := Lib.hid hm; have HTJ := Lib.hid hTj; have HJV := Lib.hid hJV; have HKV := Lib.hid hkV
      clear bxV hm hTj hJV hkV hxb hyb e1 e2 hen hp1 hp2 q2 q3 hlow
      gi_wp2_with fail
      refine wpIn_wide.2 ?_
      refine wp_region_below (by kernel_rfl) (by kernel_rfl) ?_
      repeat (go_big_quiet_step ((first
        | (go_at_call 102; (with_reducible exact After.call (FBX.out _)))
        | (go_at_call 102; (with_reducible exact After.call (FBY.out _))))))
      refine wpQuiet_nil ?_
      rintro _ ⟨xw, rfl⟩
      clear y0 y1 y2 y3 c1 FBX FBY
      obtain ⟨V2, hV2⟩ : ∃ V2, xw.W = V2 := ⟨_, rfl⟩
      have hb2 := xw.h
      rw [hV2] at hb2 ⊢
      clear hV2 xw
      have bx2 := HBXV.out.below hb2
      have hlt2 := bx2.lt
      obtain ⟨g1, hg1⟩ : ∃ g1 : Int, ((f p1 : Nat) : Int) = g1 := ⟨_, rfl⟩
      obtain ⟨g2, hg2⟩ : ∃ g2 : Int, ((f p2 : Nat) : Int) = g2 := ⟨_, rfl⟩
      have z1 : ∀ x : After V2, x.W.cell? ⟨b + 1, p1, none⟩ = some (.int .i64 g1) := fun x => by rw [← hg1]; exact x.cell (by simp only; omega) (bx2.lab.cell (i := p1) (by omega))
      have z2 : ∀ x : After V2, x.W.cell? ⟨b + 1, p2, none⟩ = some (.int .i64 g2) := fun x => by rw [← hg2]; exact x.cell (by simp only; omega) (bx2.lab.cell (i := p2) (by omega))
      have a1 : (0 : Int) ≤ (p1 : Int) := by omega
      have a2 : (p1 : Int) < 8 := by omega
      have a3 : (0 : Int) ≤ (p2 : Int) := by omega
      have a4 : (p2 : Int) < 8 := by omega
      have hb2' : Below V.heap.size V V2 := hb2
      have HBX2 := Lib.hid bx2; have HBV2 := Lib.hid hb2'
      clear bx2 hb2 hb2'
      by_cases hsame : f p1 = f p2
      case pos =>
        have qs : (g1 == g2) = true := by rw [← hg1, ← hg2, hsame]; simp
        have HT : Hid (full = Tj ++ trs (endsN B.data.toList (ebs es)) f (fromK es.length (j + 1)) (m + 1) t) := Lib.hid (by rw [← HNO.out hsame]; exact HTJ.out)
        clear hg1 hg2 HYES HNO
        gi_wp2_with fail
        refine wpIn_wide.2 ?_
        refine wp_region_below (by kernel_rfl) (by kernel_rfl) ?_
        repeat (go_big_quiet_step (fail))
        refine wpQuiet_nil ?_
        rintro _ ⟨xw, rfl⟩
        clear z1 z2
        obtain ⟨V3, hV3⟩ : ∃ V3, xw.W = V3 := ⟨_, rfl⟩
        have hb3 := xw.h
        rw [hV3] at hb3 ⊢
        clear hV3 xw
        have hb3' := HBV2.out.trans (hb3.mono HBV2.out.size)
        have hm3 := HMV.out.low fun i hi => hb3'.block i hi
        have hJ3 := HJ.out _ _ _ HJV.out (show KeepT W.heap.size V V3 by rw [hs]; exact KeepT.below hb3' (by omega))
        have hk3 := HKV.out.trans (KeepZ.of_below (D := D) (E := E) (l := s) hb3' (by omega))
        have HM3 := Lib.hid hm3; have HJ3 := Lib.hid hJ3; have HK3 := Lib.hid hk3
        clear hb3 hb3' hm3 hJ3 hk3
        gi_wp2_with fail
        refine ⟨⟨j + 1, DS, Tj, _, _, _, _, _, _, _, _, _, _, _, _, _, _, _, _, _, _, _, _, _, _, _, _, _, _, _, _, _, _, _, _, _, _, _, _, _, _, _, _, _, _, _, _, _, _, _, _, _, _, ⟨by omega, by omega⟩, rfl, HM3.out, HT.out, HJ3.out, HK3.out⟩, ?_⟩
        simp [intOf]; omega
      have qs : (g1 == g2) = false := by rw [← hg1, ← hg2, beq_eq_false_iff_ne]; omega
      gi_wp2_with fail
      refine wpIn_wide.2 ?_
      refine wp_region_below (by kernel_rfl) (by kernel_rfl) ?_
      repeat (go_big_quiet_step (fail))
      refine wpQuiet_nil ?_
      rintro _ ⟨xw, rfl⟩
      clear z1 z2 hg1 hg2
      obtain ⟨V3, hV3⟩ : ∃ V3, xw.W = V3 := ⟨_, rfl⟩
      have hb3 := xw.h
      rw [hV3] at hb3 ⊢
      clear hV3 xw
      have hb3' := HBV2.out.trans (hb3.mono HBV2.out.size)
      have hsz3 := hb3'.size
      have bx3 := HBX2.out.below hb3
      have hlt3 := bx3.lt
      have HB3 := Lib.hid hb3'
      have HY3 : Hid (full = Tj ++ trs (endsN B.data.toList (ebs es)) (joinR f p1 p2) (fromK es.length (j + 1)) m (t ++ [nameOf j]) ++ trs (endsN B.data.toList (ebs es)) f (fromK es.length (j + 1)) (m + 1) t) := Lib.hid (by
        have h := HTJ.out
        rw [HYES.out hsame, ← List.append_assoc] at h
        exact h)
      have FJ : Hid (∀ W : World, Calls Try.prog 71 #[arrL f, .int .i64 p1, .int .i64 p2] W fun e w' => e = .returned (arrL (joinR f p1 p2)) ∧ Below W.heap.size W w') := Lib.hid fun W => joined_any f p1 p2 W (by omega) (by omega)
      obtain ⟨f', hf'⟩ : ∃ f', joinR f p1 p2 = f' := ⟨_, rfl⟩
      rw [hf'] at FJ HY3
      have FN : Hid (∀ W : World, Calls Try.prog 104 #[.int .i64 j] W fun e w' => e = .returned (.string ⟨#[nameOf j]⟩) ∧ W = w') := Lib.hid fun W => edgeName_any j (by omega) W
      obtain ⟨nb, hnb⟩ : ∃ nb : ByteArray, (⟨#[nameOf j]⟩ : ByteArray) = nb := ⟨_, rfl⟩
      obtain ⟨tb, htb⟩ : ∃ tb : ByteArray, (⟨t.toArray⟩ : ByteArray) = tb := ⟨_, rfl⟩
      have htn : tb ++ nb = ⟨(t ++ [nameOf j]).toArray⟩ := by rw [← htb, ← hnb]; exact bytes_ext (by simp)
      have FT : Hid (∀ W : World, Calls Try.prog 74 #[.agg #[.string B, .slice (some ⟨eb, eo, none⟩) es.length cap], arrL f', .string (tb ++ nb), .int .i64 ((j : Int) + 1)] W fun e w' => e = .returned (.func (.func 103) #[] #[.pointer (some ⟨W.heap.size + 2, 0, none⟩), .pointer (some ⟨W.heap.size, 0, none⟩), .pointer (some ⟨W.heap.size + 3, 0, none⟩), .pointer (some ⟨W.heap.size + 1, 0, none⟩)]) ∧ TrsBox w' W.heap.size B (some ⟨eb, eo, none⟩) es.length cap f' ⟨(t ++ [nameOf j]).toArray⟩ (j + 1) ∧ Below W.heap.size W w') := Lib.hid fun W => by
        have := treesFrom_any B (some ⟨eb, eo, none⟩) es.length cap f' (tb ++ nb) (j + 1) W
        rw [Int.natCast_add] at this
        rw [← htn]
        exact this
      have hcat : ¬ 9223372036854775807 < tb.size + nb.size := by
        have e1 : tb.size = t.length := by rw [← htb]; show t.toArray.size = t.length; simp
        have e2 : nb.size = 1 := by rw [← hnb]; rfl
        omega
      rw [hnb] at FN
      have zj : IntKind.i64.wrap ((j : Int) + 1) = (j : Int) + 1 := IntWalk.i64_in _ (by omega)
      have HSS : Hid (∀ W, Below V3.heap.size V3 W → (W.cell? ⟨b, 0, none⟩ = some (.string B) ∧ W.cell? ⟨b, 1, none⟩ = some (.slice (some ⟨eb, eo, none⟩) es.length cap) ∧ W.cell? ⟨b + 2, 0, none⟩ = some (.string ⟨t.toArray⟩) ∧ W.cell? ⟨b + 1, 0, none⟩ = some (.int .i64 ((f 0 : Nat) : Int)) ∧ W.cell? ⟨b + 1, 1, none⟩ = some (.int .i64 ((f 1 : Nat) : Int)) ∧ W.cell? ⟨b + 1, 2, none⟩ = some (.int .i64 ((f 2 : Nat) : Int)) ∧ W.cell? ⟨b + 1, 3, none⟩ = some (.int .i64 ((f 3 : Nat) : Int)) ∧ W.cell? ⟨b + 1, 4, none⟩ = some (.int .i64 ((f 4 : Nat) : Int)) ∧ W.cell? ⟨b + 1, 5, none⟩ = some (.int .i64 ((f 5 : Nat) : Int)) ∧ W.cell? ⟨b + 1, 6, none⟩ = some (.int .i64 ((f 6 : Nat) : Int)) ∧ W.cell? ⟨b + 1, 7, none⟩ = some (.int .i64 ((f 7 : Nat) : Int)))) := Lib.hid fun W hW => by
        have h := bx3.below hW
        exact ⟨h.net.1, h.net.2, h.txt, h.lab.cell (i := 0) (by omega), h.lab.cell (i := 1) (by omega), h.lab.cell (i := 2) (by omega), h.lab.cell (i := 3) (by omega), h.lab.cell (i := 4) (by omega), h.lab.cell (i := 5) (by omega), h.lab.cell (i := 6) (by omega), h.lab.cell (i := 7) (by omega)⟩
      unfold arrL at FJ FT
      rw [htb] at HSS ⊢
      have HTB := Lib.hid htb
      clear htb bx3 hf' hnb htn hb3 hb3' HBX2
      gi_wp2_with fail
      refine wpIn_wide.2 ?_
      go_region_held3 (fun W => (W.cell? ⟨b, 0, none⟩ = some (.string B) ∧ W.cell? ⟨b, 1, none⟩ = some (.slice (some ⟨eb, eo, none⟩) es.length cap) ∧ W.cell? ⟨b + 2, 0, none⟩ = some (.string tb) ∧ W.cell? ⟨b + 1, 0, none⟩ = some (.int .i64 ((f 0 : Nat) : Int)) ∧ W.cell? ⟨b + 1, 1, none⟩ = some (.int .i64 ((f 1 : Nat) : Int)) ∧ W.cell? ⟨b + 1, 2, none⟩ = some (.int .i64 ((f 2 : Nat) : Int)) ∧ W.cell? ⟨b + 1, 3, none⟩ = some (.int .i64 ((f 3 : Nat) : Int)) ∧ W.cell? ⟨b + 1, 4, none⟩ = some (.int .i64 ((f 4 : Nat) : Int)) ∧ W.cell? ⟨b + 1, 5, none⟩ = some (.int .i64 ((f 5 : Nat) : Int)) ∧ W.cell? ⟨b + 1, 6, none⟩ = some (.int .i64 ((f 6 : Nat) : Int)) ∧ W.cell? ⟨b + 1, 7, none⟩ = some (.int .i64 ((f 7 : Nat) : Int))))
        (first
          | exact HSS.out _ (Below.refl _ _).drew
          | exact HSS.out _ HB4.out
          | exact HSS.out _ HB5.out)
        (first
          | (go_at_call 71
             go_must (
             (refine (FJ.out _).mono ?_)
             rintro e w4 ⟨rfl, hb4⟩
             have HB4 : Hid (Below V3.heap.size V3 w4) := Lib.hid ((Below.refl _ _).drew.trans hb4)
             clear hb4))
          | (go_at_call 104
             go_must (
             (refine (FN.out _).mono ?_)
             rintro e w4b ⟨rfl, rfl⟩))
          | (go_at_call 74
             go_must (
             (refine (FT.out _).mono ?_)
             rintro e w5 ⟨rfl, hbx5, hb5⟩
             have HB5 : Hid (Below V3.heap.size V3 w5) := Lib.hid (HB4.out.trans (hb5.mono HB4.out.size))
             have HBX5 := Lib.hid hbx5
             clear hb5 hbx5)))
      rename_i hHeld
      clear hHeld FJ FN FT HSS hcat zj
      have hz4 := HB4.out.size
      have hbVW : Below V.heap.size V w5 := HB3.out.trans (HB5.out.mono HB3.out.size)
      have hk5 := HKV.out.trans (KeepZ.of_below (D := D) (E := E) (l := s) hbVW (by omega))
      have hm5 := HMV.out.low fun i hi => hbVW.block i hi
      have hJ5 : J Tj w5 := HJ.out _ _ _ HJV.out (show KeepT W.heap.size V w5 by rw [hs]; exact KeepT.below hbVW (by omega))
      have hE5 := edges_low HE1.out hk5.low
      have hbx5 := HBX5.out
      obtain ⟨g4, hg4⟩ : ∃ g4, w4.heap.size = g4 := ⟨_, rfl⟩
      rw [hg4] at hbx5 hz4 ⊢
      have hg5 := hbx5.lt
      have hrun0 := IH.out (j + 1) f' (t ++ [nameOf j]) g4 D E (w5.heap.size + 1) w5 (by omega) (by omega) (by have := HC.out; simp; omega) hbx5 hE5 hDE (by omega) (by omega)
      rw [show B.size - 2 - (t ++ [nameOf j]).length = m by have := HC.out; have := HM.out; simp; omega] at hrun0
      obtain ⟨In, hIn⟩ : ∃ In, trs (endsN B.data.toList (ebs es)) f' (fromK es.length (j + 1)) m (t ++ [nameOf j]) = In := ⟨_, rfl⟩
      obtain ⟨rest0, hrest0⟩ : ∃ rest0, trs (endsN B.data.toList (ebs es)) f (fromK es.length (j + 1)) (m + 1) t = rest0 := ⟨_, rfl⟩
      rw [hIn] at hrun0 HY3
      rw [hrest0] at HY3
      have HR0 := Lib.hid hrest0
      have hrun : SeqRunN Fence.wide 3 Try.prog 103 #[.pointer (some ⟨g4 + 2, 0, none⟩), .pointer (some ⟨g4, 0, none⟩), .pointer (some ⟨g4 + 3, 0, none⟩), .pointer (some ⟨g4 + 1, 0, none⟩)] encsT (KeepZ D E (w5.heap.size + 1)) (fun xs => xs = In) (fun pre => ∃ rest, In = pre ++ rest) (fun pre x => ∃ rest, In = pre ++ x :: rest) w5 (w5.heap.size + 1) := by
        intro J' Jx' W' g1 g2 g3 g4 g5 g6
        exact callsIn_wide.2 (callsIn_wide.1 (hrun0 J' Jx' W' g1 g2 g3 g4 (fun pre z W3 i1 i2 => yield_wide (g5 pre z W3 i1 i2)) g6))
      have hDw5 : D ≤ w5.heap.size := by omega
      have hWw5 : W1.heap.size ≤ w5.heap.size := by omega
      have HML : Hid (∀ d ∈ DS, ∃ D', d.target = .collected D' ∧ D' < w5.heap.size) := Lib.hid hm5.lt
      have HK5 := Lib.hid hk5; have HM5 := Lib.hid hm5; have HJ5 := Lib.hid hJ5
      clear hbVW hk5 hm5 hJ5 hE5 hbx5 hg4 hrun0 hIn hrest0 HB4 HB5 HBX5 HB3 HBV2 HJV HKV HMV HTJ HEV HNO HYES IH
      gi_wp2_with fail
      refine wpIn_range_next rfl (by decide) (gf := 103) (lb := #[.pointer (some ⟨g4 + 2, 0, none⟩), .pointer (some ⟨g4, 0, none⟩), .pointer (some ⟨g4 + 3, 0, none⟩), .pointer (some ⟨g4 + 1, 0, none⟩)]) rfl trivial (enters_of Try.func103 (by kernel_rfl) rfl) hrun
        (fun h k => h.trans k) (fun W o o' h ho _ => KeepZ.put h ho (by omega)) (Below.refl _ _) (fun _ => rfl)
        (fun pre V' => J (Tj ++ pre) V' ∧ KeepZ D E s W1 V' ∧ Marks s DS V') (fun _ pre V' => Jx (Tj ++ pre) V' ∧ Marks s DS V')
        (fun pre V' V2 h hk => ⟨HJ.out _ _ _ h.1 (hk.mono (by omega)), h.2.1.then hk (by omega) (by omega), h.2.2.same fun D' ⟨d, hd, e⟩ => by
          obtain ⟨D2, e2, hl2⟩ := HML.out d hd
          rw [e] at e2; injection e2 with e2
          exact hk.low D' (by omega)⟩)
        (fun _ pre V' V2 h hk => ⟨HJX.out _ _ _ h.1 (hk.mono (by omega)), h.2.same fun D' ⟨d, hd, e⟩ => by
          obtain ⟨D2, e2, hl2⟩ := HML.out d hd
          rw [e] at e2; injection e2 with e2
          exact hk.low D' (by omega)⟩)
        ⟨by rw [List.append_nil]; exact HJ5.out, HK5.out, HM5.out⟩
        (fun z => { tmps := #[.func (.yield k) #[] #[], .pointer (some ⟨b + 2, 0, none⟩), .pointer (some ⟨b, 0, none⟩), .pointer (some ⟨b + 3, 0, none⟩), .pointer (some ⟨b + 1, 0, none⟩), .pointer (some ⟨s, 0, none⟩), .int .i64 j, .int .i64 p1, .int .i64 p2, .string ⟨z.toArray⟩, .string tb, .int .i64 t.length, .pointer (some ⟨b, 0, none⟩), .string B, .int .i64 B.size, .int .i64 c, .bool false, undef, undef, undef, .int .i64 i, .int .i64 j, .pointer (some ⟨b, 1, none⟩), .slice (some ⟨eb, eo, none⟩) es.length cap, .int .i64 es.length, .bool true, u26, u27, .agg #[.string B, .slice (some ⟨eb, eo, none⟩) es.length cap], .pointer (some ⟨b, 1, none⟩), .slice (some ⟨eb, eo, none⟩) es.length cap, .int .i64 j, .pointer (some ⟨eb, eo + j * 2, none⟩), .pointer (some ⟨eb, eo + j * 2, none⟩), .string xb, .int .i64 p1, .agg #[.string B, .slice (some ⟨eb, eo, none⟩) es.length cap], .pointer (some ⟨b, 1, none⟩), .slice (some ⟨eb, eo, none⟩) es.length cap, .int .i64 j, .pointer (some ⟨eb, eo + j * 2, none⟩), .pointer (some ⟨eb, eo + j * 2 + 1, none⟩), .string yb, .int .i64 p2, .int .i64 p1, .pointer (some ⟨b + 1, p1, none⟩), .int .i64 g1, .int .i64 p2, .pointer (some ⟨b + 1, p2, none⟩), .int .i64 g2, .bool false, .agg #[.string B, .slice (some ⟨eb, eo, none⟩) es.length cap], .agg #[.int .i64 ((f 0 : Nat) : Int), .int .i64 ((f 1 : Nat) : Int), .int .i64 ((f 2 : Nat) : Int), .int .i64 ((f 3 : Nat) : Int), .int .i64 ((f 4 : Nat) : Int), .int .i64 ((f 5 : Nat) : Int), .int .i64 ((f 6 : Nat) : Int), .int .i64 ((f 7 : Nat) : Int)], .int .i64 p1, .int .i64 p2, .agg #[.int .i64 ((f' 0 : Nat) : Int), .int .i64 ((f' 1 : Nat) : Int), .int .i64 ((f' 2 : Nat) : Int), .int .i64 ((f' 3 : Nat) : Int), .int .i64 ((f' 4 : Nat) : Int), .int .i64 ((f' 5 : Nat) : Int), .int .i64 ((f' 6 : Nat) : Int), .int .i64 ((f' 7 : Nat) : Int)], .string tb, .int .i64 j, .string nb, .string (tb ++ nb), .int .i64 j, .int .i64 ((j : Int) + 1), .func (.func 103) #[] #[.pointer (some ⟨g4 + 2, 0, none⟩), .pointer (some ⟨g4, 0, none⟩), .pointer (some ⟨g4 + 3, 0, none⟩), .pointer (some ⟨g4 + 1, 0, none⟩)], .string ⟨z.toArray⟩, u64, u65, u66, u67], defers := [] }) ?assign ?body ?done ?stop
      case assign =>
        intro l0 z V' K hK
        dsimp only [encsT]
        gi_wp2
        exact hK
      case body =>
        rintro l0 pre z V' ⟨hJz, hkz, hmz⟩ hlen hlt'
        have hyz := hkz.cells s _ _ _ HYB.out (.inr (by omega))
        obtain ⟨cy, fy⟩ := cell_of hyz
        obtain ⟨rest, hrest⟩ := hlen
        have hlen2 : ∃ rest, full = (Tj ++ pre) ++ z :: rest := ⟨rest ++ rest0, by rw [HY3.out, hrest]; simp⟩
        obtain ⟨fn, tmps, assign, body, hy, hR⟩ := HY.out (Tj ++ pre) z V' hJz hlen2
        dsimp only [encsT] at hy
        have HJZ := Lib.hid hJz; have HKZ := Lib.hid hkz; have HMZ := Lib.hid hmz
        clear hJz hkz hmz hyz hlen2 hrest
        gi_wp2
        refine (round_in (round_wide hR)).mono ?_
        rintro e W3 (⟨rfl, hJ3, hk3⟩ | ⟨rfl, hJx3, hk3⟩)
        · have HK3 := Lib.hid hk3; have HJ3 := Lib.hid hJ3
          clear hy hR hk3 hJ3
          gi_wp2
          exact ⟨HK3.out.from (by omega), HK3.out.mono (by omega), by rw [← List.append_assoc]; exact HJ3.out, HKZ.out.trans (HK3.out.mono (by omega)), HMZ.out.keepZ HK3.out (by omega)⟩
        · have HK3 := Lib.hid hk3; have HJ3 := Lib.hid hJx3
          clear hy hR hk3 hJx3
          gi_wp2
          exact ⟨HK3.out.from (by omega), HK3.out.mono (by omega), by rw [← List.append_assoc]; exact HJ3.out, HMZ.out.keepZ HK3.out (by omega)⟩
      case done =>
        rintro D' xs V' hD' rfl ⟨hJz, hkz, hmz⟩ hK
        have hne : ∀ d' ∈ DS, d'.target ≠ .collected D' := fun d' hd' e => by
          obtain ⟨D2, e2, hl2⟩ := HML.out d' hd'
          rw [e] at e2; injection e2 with e2
          omega
        have HMD : Hid (Marks s (({ target := .collected D', args := #[] } : Deferred) :: DS) V') := Lib.hid ⟨D', rfl, by omega, hK, hne, hmz⟩
        have HJZ := Lib.hid hJz; have HKZ := Lib.hid hkz
        clear hJz hkz hmz hK hne
        have htb := HTB.out
        subst htb
        gi_wp2
        refine ⟨⟨j + 1, ⟨by omega, by omega⟩, _, ⟨by omega, rfl⟩, HMD.out, _, by rw [HR0.out]; exact HY3.out, HJZ.out, HKZ.out⟩, ?_⟩
        simp [intOf]; omega
      case stop =>
        rintro D' pre V' hD' ⟨rest, hrest⟩ ⟨hJz, hmz⟩ hK
        have hne : ∀ d' ∈ DS, d'.target ≠ .collected D' := fun d' hd' e => by
          obtain ⟨D2, e2, hl2⟩ := HML.out d' hd'
          rw [e] at e2; injection e2 with e2
          omega
        have HMD : Hid (Marks s (({ target := .collected D', args := #[] } : Deferred) :: DS) V') := Lib.hid ⟨D', rfl, by omega, hK, hne, hmz⟩
        have HJZ := Lib.hid hJz
        have HFULL : Hid (full = (Tj ++ pre) ++ (rest ++ rest0)) := Lib.hid (by rw [HY3.out, hrest]; simp)
        clear hJz hmz hK hne hrest
        gi_wp2
        refine leaves_marks (lo := s) _ _ HMD.out fun V2 hk => ?_
        exact ⟨_, results_none rfl _ _ _, ⟨_, rfl⟩, .inr ⟨Tj ++ pre, ⟨_, HFULL.out⟩, HJX.out _ _ _ HJZ.out (by rw [hs]; exact hk)⟩⟩

end Go.Proofs.Ytjfdkhaepmmlfaa
