/- The tree with fewest adds, by the program: impl.FewestAdds. -/
import Derived.Test.YtjfdkhaepmmlfaaFwstS
import Derived.Test.YtjfdkhaepmmlfaaLeast
import Derived.Test.YtjfdkhaepmmlfaaTrsR
import Derived.Test.YtjfdkhaepmmlfaaInRound
import Derived.Test.YtjfdkhaepmmlfaaZ6P
import Derived.Test.YtjfdkhaepmmlfaaZ6I
namespace Go.Proofs.Ytjfdkhaepmmlfaa
open Go.RowKit
attribute [local go_sem] Oper.semAt_some

theorem Least.blocks {W W' : World} {K : Nat} {s : List UInt8 × Int} (h : Least W K s) (hs : W.heap.size ≤ W'.heap.size) (hb : ∀ i, K ≤ i → i ≤ K + 2 → W'.heap[i]? = W.heap[i]?) : Least W' K s := by
  obtain ⟨h1, ⟨v, h2, hv⟩, h3, f1, f2, f3, hlt⟩ := h
  have b0 := hb K (by omega) (by omega); have b1 := hb (K + 1) (by omega) (by omega); have b2 := hb (K + 2) (by omega) (by omega)
  have fz : ∀ (i : Nat), W'.heap[i]? = W.heap[i]? → W'.frozen? ⟨i, 0, none⟩ = W.frozen? ⟨i, 0, none⟩ := fun i e => by simp [World.frozen?, e]
  exact ⟨(World.cell?_of_block b0).trans h1, ⟨v, (World.cell?_of_block b1).trans h2, hv⟩, (World.cell?_of_block b2).trans h3, (fz _ b0).trans f1, (fz _ b1).trans f2, (fz _ b2).trans f3, Nat.lt_of_lt_of_le hlt hs⟩

/-- what holds while trees are gone through -/
structure FewI (w7 : World) (r kb : Nat) (V : World) (s : List UInt8 × Int) : Prop where
  low : ∀ i, i < r → V.heap[i]? = w7.heap[i]?
  clo : V.heap[kb]? = w7.heap[kb]?
  size : w7.heap.size ≤ V.heap.size
  os : V.os = w7.os
  tape : V.tape = w7.tape
  output : V.output = w7.output
  least : Least V (r + 1) s
  kept : V.heap[r]? = some (.cells #[.string ⟨s.1.toArray⟩] 9 (0, 0))
theorem FewI.keep {w7 V V' : World} {r kb : Nat} {s : List UInt8 × Int} (h : FewI w7 r kb V s) (k : KeepT w7.heap.size V V') (hr : r + 4 ≤ w7.heap.size) (hk : kb < w7.heap.size) : FewI w7 r kb V' s :=
  ⟨fun i hi => (k.low i (by omega)).trans (h.low i hi), (k.low kb hk).trans h.clo, Nat.le_trans h.size k.size, k.os.trans h.os, k.tape.trans h.tape, k.output.trans h.output,
    h.least.blocks k.size (fun i _ _ => k.low i (by omega)), (k.low r (by omega)).trans h.kept⟩

set_option maxRecDepth 100000 in
set_option maxHeartbeats 8000000 in
/-- impl.FewestAdds -/
theorem implFewestAdds_any (B : ByteArray) (A : Option Addr) (cap : Nat) (es : List (ByteArray × ByteArray)) (w : World) (hs : B.size ≤ maxLen) (hE : EdgesIn w w.heap.size A es) (hl : es.length ≤ 1099511627776) (hS : ∀ e ∈ es, e.1.size ≤ 1099511627776 ∧ e.2.size ≤ 1099511627776) :
    Calls Try.prog 11 #[.agg #[.string B, .slice A es.length cap]] w (SBPost2 (fewestV B es) w) := by
  obtain ⟨v, hv⟩ : ∃ v, acycV B es = v := ⟨_, rfl⟩
  have FA : Hid (∀ W : World, EdgesIn W W.heap.size A es → Calls Try.prog 34 #[.agg #[.string B, .slice A es.length cap]] W fun e w' => e = .returned (.bool v) ∧ Below W.heap.size W w') := Lib.hid fun W h => by
    have := implIsAcyclic_any B A cap es W hs h hl hS
    rwa [hv] at this
  obtain ⟨ct, hct⟩ : ∃ ct, countTV B es = ct := ⟨_, rfl⟩
  have FC : Hid (∀ W : World, EdgesIn W W.heap.size A es → Calls Try.prog 35 #[.agg #[.string B, .slice A es.length cap]] W fun e w' => e = .returned (.int .i64 ct) ∧ Below W.heap.size W w') := Lib.hid fun W h => by
    rw [← hct]; exact implCountTrees_any B A cap es W hs h hl hS
  have hb1 : Below w.heap.size w (w.alloc (.cells #[.string B, .slice A es.length cap] 30)) := (Below.refl _ _).alloc (Nat.le_refl _) _
  have t1 := Two.made w B A es.length cap 30
  have hz1 : (w.alloc (.cells #[.string B, .slice A es.length cap] 30)).heap.size = w.heap.size + 1 := by simp
  have HE := Lib.hid hE
  cases v with
  | false =>
    have HN : Hid (SBPost2 (fewestV B es) w = fun e w' => e = .returned (.tuple #[.string ⟨#[]⟩, .bool false]) ∧ Below w.heap.size w w') := Lib.hid (by
      rw [fewest_no (fun h => by rw [hv] at h; exact absurd h.1 (by simp))]; rfl)
    clear hv hct hE hl hS hs FC
    rw [HN.out]
    go_enter Try.func11, Try.ntmps11
    go_wp2_with fail
    refine (FA.out _ ((HE.out.below hb1).more hb1.size)).mono ?_
    rintro e w2 ⟨rfl, hb2⟩
    have hb2' := hb1.trans (hb2.mono hb1.size)
    clear hb2 t1
    go_wp2_with fail
    go_ret2
    exact ⟨rfl, hb2'⟩
  | true =>
    by_cases hc : ct ≤ 300
    case neg =>
      have HN : Hid (SBPost2 (fewestV B es) w = fun e w' => e = .returned (.tuple #[.string ⟨#[]⟩, .bool false]) ∧ Below w.heap.size w w') := Lib.hid (by
        rw [fewest_no (fun h => hc (hct ▸ h.2))]; rfl)
      have g1 : (300 : Int) < ct := by omega
      clear hv hct hE hl hS hs hc
      rw [HN.out]
      go_enter Try.func11, Try.ntmps11
      go_wp2_with fail
      refine (FA.out _ ((HE.out.below hb1).more hb1.size)).mono ?_
      rintro e w2 ⟨rfl, hb2⟩
      have hb2' := hb1.trans (hb2.mono hb1.size)
      have t2 := t1.below hb2 (by omega)
      have hd0 := t2.1; have hd1 := t2.2
      clear hb2 t1 FA
      go_wp2_with fail
      refine (FC.out _ ((HE.out.below hb2').more hb2'.size)).mono ?_
      rintro e w3 ⟨rfl, hb3⟩
      have hb3' := hb2'.trans (hb3.mono hb2'.size)
      clear hb3 t2 hd0 hd1
      go_wp2_with fail
      go_ret2
      exact ⟨rfl, hb3'⟩
    have hA := acy_v hv
    have hV : Valid B.data.toList (ebs es) := (decB_iff.1 hv).1
    have h2 : 2 ≤ B.size := by have := hV.1.1.1; simpa using this
    have h8 : B.size ≤ 8 := (valid_sizes hV).1
    have h16 : es.length ≤ 16 := (valid_sizes hV).2
    have hN : SBPost2 (fewestV B es) w = fun e w' => e = .returned (.tuple #[.string ⟨((trsB B es).foldl (keepT (cstB B es)) ([], -1)).1.toArray⟩, .bool true]) ∧ Below w.heap.size w w' := by
      rw [fewest_yes hv (by rw [hct]; exact hc)]; rfl
    have FTN : Hid (∀ x ∈ trsB B es, ∀ W : World, EdgesIn W W.heap.size A es → Calls Try.prog 39 #[.agg #[.string B, .slice A es.length cap], .string ⟨x.toArray⟩] W (TnetPost B A es.length cap (valB B es) (hgtB B es ⟨x.toArray⟩ (valB B es)) W)) := Lib.hid fun x hx W h => ask_tnet hv A cap (trs_tree hV x hx) hs hl W h
    have FST : Hid (∀ x ∈ trsB B es, ∀ (H : Nat → Int), (∀ y ∈ B.data.toList, H (idxL B.data.toList y) = hgtB B es ⟨x.toArray⟩ (valB B es) y) → ∀ W : World, EdgesIn W W.heap.size A es → Calls Try.prog 40 #[.agg (tnC B A es.length cap (valB B es) H).toArray] W (RowI (stpB B es ⟨x.toArray⟩) es.length W)) :=
      Lib.hid fun x hx H hH W h => steps_any B A cap es (valB B es) (hgtB B es ⟨x.toArray⟩ (valB B es)) H W h hV (tame_of (trs_tree hV x hx) (F := valB B es) (valE_all hA)) hH
    have FTO : Hid (∀ W : World, Calls Try.prog 37 #[.agg #[.string B, .slice A es.length cap]] W fun e w' => ∃ (b : Nat) (f : Nat → Nat), e = .returned (.func (.func 103) #[] #[.pointer (some ⟨b + 2, 0, none⟩), .pointer (some ⟨b, 0, none⟩), .pointer (some ⟨b + 3, 0, none⟩), .pointer (some ⟨b + 1, 0, none⟩)]) ∧ W.heap.size ≤ b ∧ SameL B.size (fresh B.size) f ∧ TrsBox w' b B A es.length cap f ⟨#[]⟩ 0 ∧ Below W.heap.size W w') := Lib.hid fun W => treesOf_any B A es.length cap W h2 h8
    have HRUN : Hid (∀ (f : Nat → Nat) (b D E k : Nat) (W : World), SameL B.size (fresh B.size) f → TrsBox W b B A es.length cap f ⟨#[]⟩ 0 → EdgesIn W D A es → D ≤ E → E ≤ b → W.heap.size ≤ k → SeqRunN Fence.wide 4 Try.prog 103 #[.pointer (some ⟨b + 2, 0, none⟩), .pointer (some ⟨b, 0, none⟩), .pointer (some ⟨b + 3, 0, none⟩), .pointer (some ⟨b + 1, 0, none⟩)] encsT (KeepZ D E k) (fun xs => xs = trsB B es) (fun pre => ∃ rest, trsB B es = pre ++ rest) (fun pre x => ∃ rest, trsB B es = pre ++ x :: rest) W k) := Lib.hid fun f b D E k W hf hb hE hDE hEb hWk => by
      have h := trees_run B A cap es h16 hV h8 (es.length + 1) 0 f [] b D E k W (by omega) (Nat.zero_le _) (by simpa using h2) hb hE hDE hEb hWk
      have e : trs (endsN B.data.toList (ebs es)) f (fromK es.length 0) (B.size - 2 - ([] : List UInt8).length) [] = trsB B es := by
        unfold trsB
        rw [List.length_nil, Nat.sub_zero]
        refine (trs_same _ B.size _ (fun k hk => ?_) _ _ _ _ hf).symm
        obtain ⟨_, _, i1, i2, _, _, h3, _, _, h4, h5⟩ := ends_at hV.1.2 (fromK_mem hk)
        have e : B.data.toList.length = B.size := by simp
        rw [h3]; exact ⟨by simp only; omega, by simp only; omega⟩
      rw [e] at h
      exact h
    have HCST : Hid (∀ x, cstB B es x = cntK ((List.range es.length).map (stpB B es ⟨x.toArray⟩))) := Lib.hid fun x => rfl
    obtain ⟨full, hfull⟩ : ∃ full, trsB B es = full := ⟨_, rfl⟩
    obtain ⟨cst, hcst⟩ : ∃ cst, cstB B es = cst := ⟨_, rfl⟩
    rw [hN, hfull, hcst]
    rw [hfull] at FTN FST HRUN
    rw [hcst] at HCST
    have g1 : ¬ (300 : Int) < ct := by omega
    clear hv hct hE hl hS hs hc hV hA hN h2 h8 hfull hcst
    refine (callsIn_wide (n := 5)).1 ?_
    refine callsIn_of_wp_marks Try.func11 rfl trivial ?_ rfl
    simp only [Try.ntmps11, List.size_toArray, List.length_cons, List.length_nil, Nat.reduceAdd, Nat.reduceSub, Array.replicate_succ, Array.replicate_zero, List.push_toArray, List.append_toArray, List.nil_append, List.cons_append]
    refine wpIn_wide.2 ?_
    go_wp2_with fail
    refine (FA.out _ ((HE.out.below hb1).more hb1.size)).mono ?_
    rintro e w2 ⟨rfl, hb2⟩
    have hb2' := hb1.trans (hb2.mono hb1.size)
    have t2 := t1.below hb2 (by omega)
    have hd0 := t2.1; have hd1 := t2.2
    have hz2 := hb2.size
    clear hb2 t1 FA
    go_wp2_with fail
    refine (FC.out _ ((HE.out.below hb2').more hb2'.size)).mono ?_
    rintro e w3 ⟨rfl, hb3⟩
    have hb3' := hb2'.trans (hb3.mono hb2'.size)
    have t3 := t2.below hb3 (by omega)
    have hz3 := hb3.size
    clear hb3 t2 hd0 hd1 FC
    go_wp2_with fail
    obtain ⟨r, hr⟩ : ∃ r, w3.heap.size = r := ⟨_, rfl⟩
    obtain ⟨w4, hw4⟩ : ∃ w4, w3.alloc (.cells #[.string ⟨#[]⟩] 9) = w4 := ⟨_, rfl⟩
    have hb4 : Below w3.heap.size w3 w4 := by rw [← hw4]; exact (Below.refl _ _).alloc (Nat.le_refl _) _
    have hz4 : w4.heap.size = r + 1 := by rw [← hw4, ← hr]; simp
    have h4r : w4.heap[r]? = some (.cells #[.string ⟨#[]⟩] 9 (0, 0)) := by rw [← hw4, ← hr]; exact World.alloc_heap_new w3 _
    rw [hw4, hr]
    clear hw4
    refine (leastKept_any w4).mono ?_
    rintro e w5 ⟨rfl, hL5, hb5⟩
    rw [hz4] at hL5 ⊢
    have h5r := (hb5.block r (by omega)).trans h4r
    have t5 := (t3.below hb4 (by omega)).below hb5 (by omega)
    have hbw5 := (hb3'.trans (hb4.mono hb3'.size)).trans (hb5.mono (by have := hb3'.size; omega))
    have hz5 : r + 4 ≤ w5.heap.size := by have := hL5.lt; omega
    obtain ⟨kb, hkb⟩ : ∃ kb, w5.heap.size = kb := ⟨_, rfl⟩
    obtain ⟨w6, hw6⟩ : ∃ w6, w5.alloc (.cells #[.func (.func 73) #[] #[.pointer (some ⟨r + 1 + 2, 0, none⟩), .pointer (some ⟨r + 1 + 1, 0, none⟩), .pointer (some ⟨r + 1, 0, none⟩)]] 63) = w6 := ⟨_, rfl⟩
    have hb6 : Below w5.heap.size w5 w6 := by rw [← hw6]; exact (Below.refl _ _).alloc (Nat.le_refl _) _
    have hz6 : w6.heap.size = kb + 1 := by rw [← hw6, ← hkb]; simp
    have h6k : w6.heap[kb]? = some (.cells #[.func (.func 73) #[] #[.pointer (some ⟨r + 1 + 2, 0, none⟩), .pointer (some ⟨r + 1 + 1, 0, none⟩), .pointer (some ⟨r + 1, 0, none⟩)]] 63 (0, 0)) := by rw [← hw6, ← hkb]; exact World.alloc_heap_new w5 _
    have t6 := t5.below hb6 (by omega)
    have h6r := (hb6.block r (by omega)).trans h5r
    have hL6 := hL5.below hb6
    have hbw6 := hbw5.trans (hb6.mono hbw5.size)
    have d0 : (w5.alloc (.cells #[.func (.func 73) #[] #[.pointer (some ⟨r + 1 + 2, 0, none⟩), .pointer (some ⟨r + 1 + 1, 0, none⟩), .pointer (some ⟨r + 1, 0, none⟩)]] 63)).cell? ⟨w.heap.size, 0, none⟩ = some (.string B) := by rw [hw6]; exact t6.1
    have d1 : (w5.alloc (.cells #[.func (.func 73) #[] #[.pointer (some ⟨r + 1 + 2, 0, none⟩), .pointer (some ⟨r + 1 + 1, 0, none⟩), .pointer (some ⟨r + 1, 0, none⟩)]] 63)).cell? ⟨w.heap.size, 1, none⟩ = some (.slice A es.length cap) := by rw [hw6]; exact t6.2
    have HT6 := Lib.hid t6; have H6R := Lib.hid h6r; have H6K := Lib.hid h6k; have HL6 := Lib.hid hL6; have HBW6 := Lib.hid hbw6; have HZ6 := Lib.hid hz6
    have HW6 := Lib.hid hw6
    clear h4r h5r hb4 hb5 hbw5 hL5 t3 t5 hw6 hb6 hb3' hb2' hb1 t6 h6r h6k hL6 hbw6 hz6
    go_wp2_with fail
    rw [HW6.out]
    clear d0 d1
    refine (FTO.out _).mono ?_
    rintro e w7 ⟨b, f, rfl, hb, hsame, hbx, hb7⟩
    have hz6 := HZ6.out
    have t7 := HT6.out.below hb7 (by omega)
    have h7r := (hb7.block r (by omega)).trans H6R.out
    have h7k := (hb7.block kb (by omega)).trans H6K.out
    have hL7 := HL6.out.below hb7
    have hbw7 := HBW6.out.trans (hb7.mono HBW6.out.size)
    have hE7 : EdgesIn w7 r A es := (HE.out.below hbw7).more (by omega)
    have hz7 := hb7.size
    have hrun := HRUN.out f b r (r + 4) (w7.heap.size + 1) w7 hsame hbx hE7 (by omega) (by omega) (by omega)
    have HZ3 : Hid (w.heap.size + 1 ≤ r) := Lib.hid (by omega)
    have HE7 : Hid (EdgesIn w7 w.heap.size A es) := Lib.hid (HE.out.below hbw7)
    have HT7 := Lib.hid t7; have H7K := Lib.hid h7k
    clear hb7 HW6 FTO HRUN HL6 HT6 H6R H6K HBW6 hsame hbx
    go_wp2_with fail
    refine (wpIn_wide (n := 5)).1 ?_
    refine wpIn_range_next rfl (by decide) (gf := 103) (lb := #[.pointer (some ⟨b + 2, 0, none⟩), .pointer (some ⟨b, 0, none⟩), .pointer (some ⟨b + 3, 0, none⟩), .pointer (some ⟨b + 1, 0, none⟩)]) rfl trivial (enters_of Try.func103 (by kernel_rfl) rfl) hrun
      (fun h k => h.trans k) (fun W o o' h ho _ => KeepZ.put h ho (by omega)) (Below.refl _ _) (fun _ => rfl)
      (fun pre V => FewI w7 r kb V (pre.foldl (keepT cst) ([], -1))) (fun _ _ _ => False)
      (fun pre V V2 h hk => h.keep hk (by omega) (by omega))
      (fun _ _ _ _ h _ => h)
      ⟨fun _ _ => rfl, rfl, Nat.le_refl _, rfl, rfl, rfl, hL7, h7r⟩
      (fun z => { tmps := #[.agg #[.string B, .slice A es.length cap], .pointer (some ⟨w.heap.size, 0, none⟩), .string ⟨#[]⟩, .bool false, .pointer (some ⟨r, 0, none⟩), .pointer (some ⟨kb, 0, none⟩), .string ⟨z.toArray⟩, .agg #[.string B, .slice A es.length cap], .bool true, .bool false, .bool false, .agg #[.string B, .slice A es.length cap], .int .i64 ct, .bool (decide (300 < ct)), .bool (decide (300 < ct)), .func (.func 73) #[] #[.pointer (some ⟨r + 1 + 2, 0, none⟩), .pointer (some ⟨r + 1 + 1, 0, none⟩), .pointer (some ⟨r + 1, 0, none⟩)], .agg #[.string B, .slice A es.length cap], .func (.func 103) #[] #[.pointer (some ⟨b + 2, 0, none⟩), .pointer (some ⟨b, 0, none⟩), .pointer (some ⟨b + 3, 0, none⟩), .pointer (some ⟨b + 1, 0, none⟩)], .string ⟨z.toArray⟩, undef, undef, undef, undef, undef, undef, undef, undef, undef], defers := [] }) ?assign ?body ?done ?stop
    case assign =>
      intro l0 z V' K hK
      dsimp only [encsT]
      gi_wp2
      exact hK
    case stop =>
      rintro D' pre V hD' _ h
      exact h.elim
    case body =>
      rintro l0 pre z V hV ⟨rest, hrest⟩ hlt
      have hzf : z ∈ full := by rw [hrest]; simp
      obtain ⟨st, hst⟩ : ∃ st, pre.foldl (keepT cst) ([], -1) = st := ⟨_, rfl⟩
      have hst2 : (pre ++ [z]).foldl (keepT cst) ([], -1) = keepT cst st z := by rw [List.foldl_append, hst]; rfl
      rw [hst] at hV
      have hw1 : w.heap.size + 1 ≤ r := by have := HZ3.out; omega
      have hEV : EdgesIn V w.heap.size A es := fun j hj => by
        obtain ⟨eb, eo, e, h1, h2, h3⟩ := HE7.out j hj
        have hb' := hV.low eb (by omega)
        exact ⟨eb, eo, e, h1, (World.cell?_of_block hb').trans h2, (World.cell?_of_block hb').trans h3⟩
      have n0 : V.cell? ⟨w.heap.size, 0, none⟩ = some (.string B) := (World.cell?_of_block (hV.low w.heap.size (by omega))).trans HT7.out.1
      have n1 : V.cell? ⟨w.heap.size, 1, none⟩ = some (.slice A es.length cap) := (World.cell?_of_block (hV.low w.heap.size (by omega))).trans HT7.out.2
      have nk : V.cell? ⟨kb, 0, none⟩ = some (.func (.func 73) #[] #[.pointer (some ⟨r + 1 + 2, 0, none⟩), .pointer (some ⟨r + 1 + 1, 0, none⟩), .pointer (some ⟨r + 1, 0, none⟩)]) := (World.cell?_of_block hV.clo).trans (cell_of H7K.out).1
      have hsV := hV.size
      have HSS : Hid (∀ W : World, (∀ i, i < V.heap.size → (i < r ∨ r + 4 ≤ i) → W.heap[i]? = V.heap[i]?) → (fun (W : World) => W.cell? ⟨kb, 0, none⟩ = some (.func (.func 73) #[] #[.pointer (some ⟨r + 1 + 2, 0, none⟩), .pointer (some ⟨r + 1 + 1, 0, none⟩), .pointer (some ⟨r + 1, 0, none⟩)]) ∧ W.cell? ⟨w.heap.size, 0, none⟩ = some (.string B) ∧ W.cell? ⟨w.heap.size, 1, none⟩ = some (.slice A es.length cap)) W) := Lib.hid fun W h =>
        ⟨(World.cell?_of_block (h kb (by omega) (by omega))).trans nk, (World.cell?_of_block (h w.heap.size (by omega) (by omega))).trans n0, (World.cell?_of_block (h w.heap.size (by omega) (by omega))).trans n1⟩
      have HV := Lib.hid hV; have HEV := Lib.hid hEV; have HST2 := Lib.hid hst2
      clear hV hEV n0 n1 nk hst hst2 hrest
      gi_wp2_with fail
      refine region_in_round (S := (fun (W : World) => W.cell? ⟨kb, 0, none⟩ = some (.func (.func 73) #[] #[.pointer (some ⟨r + 1 + 2, 0, none⟩), .pointer (some ⟨r + 1 + 1, 0, none⟩), .pointer (some ⟨r + 1, 0, none⟩)]) ∧ W.cell? ⟨w.heap.size, 0, none⟩ = some (.string B) ∧ W.cell? ⟨w.heap.size, 1, none⟩ = some (.slice A es.length cap))) (by kernel_rfl) (by kernel_rfl) (fun ⟨_, _, h⟩ => h) ?_
      change wpAnyH _ _ _ _ _ 9 _ _ _
      refine wpAnyH_take (i := 0) (v := .func (.func 73) #[] #[.pointer (some ⟨r + 1 + 2, 0, none⟩), .pointer (some ⟨r + 1 + 1, 0, none⟩), .pointer (some ⟨r + 1, 0, none⟩)]) rfl (by kernel_rfl) (by kernel_rfl) (by kernel_rfl) (fun _ _ _ h => h) (.inl ⟨by kernel_rfl, fun W hW => ?_⟩) (HSS.out _ fun _ _ _ => rfl) ?_
      · obtain ⟨s0, s1, s2⟩ := hW
        go_simp
      refine wpAnyH_take (i := 1) (v := .string ⟨z.toArray⟩) rfl (by kernel_rfl) (by kernel_rfl) (by kernel_rfl) (fun _ _ _ h => h) (.inl ⟨by kernel_rfl, fun W hW => ?_⟩) (HSS.out _ fun _ _ _ => rfl) ?_
      · obtain ⟨s0, s1, s2⟩ := hW
        go_simp
      refine wpAnyH_take (i := 2) (v := .agg #[.string B, .slice A es.length cap]) rfl (by kernel_rfl) (by kernel_rfl) (by kernel_rfl) (fun _ _ _ h => h) (.inl ⟨by kernel_rfl, fun W hW => ?_⟩) (HSS.out _ fun _ _ _ => rfl) ?_
      · obtain ⟨s0, s1, s2⟩ := hW
        go_simp
      refine wpAnyH_take (i := 3) (v := .string ⟨z.toArray⟩) rfl (by kernel_rfl) (by kernel_rfl) (by kernel_rfl) (fun _ _ _ h => h) (.inl ⟨by kernel_rfl, fun W hW => ?_⟩) (HSS.out _ fun _ _ _ => rfl) ?_
      · obtain ⟨s0, s1, s2⟩ := hW
        go_simp
      have hd : Below V.heap.size V { V with drawn := V.drawn + 1 } := (Below.refl _ V).drew
      have HD := Lib.hid hd
      clear hd
      refine wpAnyH_all (rs := [4]) (by kernel_rfl) (by decide) fun i hi => ?_
      obtain rfl : i = 4 := by simpa using hi
      refine op_call (f := 39) (args := #[.agg #[.string B, .slice A es.length cap], .string ⟨z.toArray⟩]) rfl (by kernel_rfl) (by go_simp) ?_
      refine (FTN.out z hzf _ ((HEV.out.below (HD.out.mono (by omega))).more (by show _ ≤ V.heap.size; omega))).mono ?_
      rintro e w1 ⟨H, rfl, hH, hb1⟩
      have HB1 := Lib.hid (HD.out.trans hb1)
      refine ⟨_, rfl, HSS.out _ fun i hi _ => HB1.out.block i hi, ?_⟩
      clear hb1
      refine wpAnyH_all (rs := [5]) (by kernel_rfl) (by decide) fun i hi => ?_
      obtain rfl : i = 5 := by simpa using hi
      have FS := FST.out z hzf H hH w1 ((HEV.out.below (HB1.out.mono (by omega))).more (by have := HB1.out.size; omega))
      obtain ⟨cs, hcs⟩ : ∃ cs, tnC B A es.length cap (valB B es) H = cs := ⟨_, rfl⟩
      rw [hcs] at FS ⊢
      refine op_call (f := 40) (args := #[.agg cs.toArray]) rfl (by kernel_rfl) (by go_simp) ?_
      refine FS.mono ?_
      rintro e w2 ⟨g, rfl, hrow, hg, hb2⟩
      have HB2 := Lib.hid (HB1.out.trans (hb2.mono HB1.out.size))
      refine ⟨_, rfl, HSS.out _ fun i hi _ => HB2.out.block i hi, ?_⟩
      clear hb2 FS hcs
      refine wpAnyH_all (rs := [6]) (by kernel_rfl) (by decide) fun i hi => ?_
      obtain rfl : i = 6 := by simpa using hi
      refine op_call (f := 38) (args := #[.slice (some ⟨g, 0, none⟩) es.length es.length]) rfl (by kernel_rfl) (by go_simp) ?_
      refine (countAdding_any g es.length _ w2 hrow (by omega)).mono ?_
      rw [← HCST.out z]
      rintro e w3 ⟨rfl, hb3⟩
      have HB3 := Lib.hid (HB2.out.trans (hb3.mono HB2.out.size))
      refine ⟨_, rfl, HSS.out _ fun i hi _ => HB3.out.block i hi, ?_⟩
      clear hb3 hrow hg
      refine wpAnyH_all (rs := [7]) (by kernel_rfl) (by decide) fun i hi => ?_
      obtain rfl : i = 7 := by simpa using hi
      refine op_call (f := 73) (args := #[.string ⟨z.toArray⟩, .int .i64 ((cst z : Nat) : Int), .pointer (some ⟨r + 1 + 2, 0, none⟩), .pointer (some ⟨r + 1 + 1, 0, none⟩), .pointer (some ⟨r + 1, 0, none⟩)]) rfl (by kernel_rfl) (by go_simp) ?_
      refine (least_call (r + 1) st cst z w3 (HV.out.least.below HB3.out)).mono ?_
      rintro e w4 ⟨rfl, hL4, h34⟩
      have hk4 : ∀ i, i < V.heap.size → i < r + 1 ∨ r + 4 ≤ i → w4.heap[i]? = V.heap[i]? := fun i hi hz =>
        (h34.block i (by have := HB3.out.size; omega) (by omega) (by omega) (by omega)).trans (HB3.out.block i hi)
      have h4r := (hk4 r (by omega) (by omega)).trans HV.out.kept
      refine ⟨_, rfl, HSS.out _ fun i hi hz => hk4 i hi (by omega), ?_⟩
      obtain ⟨c4, f4⟩ := cell_of h4r
      refine wpAnyH_all (rs := [8]) (by kernel_rfl) (by decide) fun i hi => ?_
      obtain rfl : i = 8 := by simpa using hi
      obtain ⟨nt, hnt⟩ : ∃ nt : ByteArray, (⟨(keepT cst st z).1.toArray⟩ : ByteArray) = nt := ⟨_, rfl⟩
      rw [hnt]
      refine op_skip (w' := w4.setCell ⟨r, 0, none⟩ (.string nt)) rfl (by kernel_rfl) (by go_simp) ?_
      have hk5 : ∀ i, i < V.heap.size → i < r ∨ r + 4 ≤ i → (w4.setCell ⟨r, 0, none⟩ (.string nt)).heap[i]? = V.heap[i]? := fun i hi hz =>
        (heap_setCell_other _ _ _ _ (by simp only; omega)).trans (hk4 i hi (by omega))
      have hsz5 : (w4.setCell ⟨r, 0, none⟩ (.string nt)).heap.size = w4.heap.size := by simp [World.setCell]
      have hs4 : V.heap.size ≤ w4.heap.size := Nat.le_trans HB3.out.size h34.size
      refine ⟨HSS.out _ hk5, ?_⟩
      refine wpAnyH_done (by kernel_rfl) ?_ _
      have hkz : KeepZ r (r + 4) (r + 4) V (w4.setCell ⟨r, 0, none⟩ (.string nt)) := KeepZ.written (by rw [hsz5]; exact hs4) hk5 (fun i _ h => by omega) (by omega)
      refine ⟨hkz.from (by omega), hkz.mono (by omega), ?_⟩
      show FewI w7 r kb _ ((pre ++ [z]).foldl (keepT cst) ([], -1))
      rw [HST2.out]
      have hv := HV.out
      refine ⟨fun i hi => (hk5 i (by omega) (.inl hi)).trans (hv.low i hi), (hk5 kb (by omega) (by omega)).trans hv.clo, by rw [hsz5]; omega, ?_, ?_, ?_, ?_, ?_⟩
      · exact (h34.os.trans HB3.out.os).trans hv.os
      · exact (h34.tape.trans HB3.out.tape).trans hv.tape
      · exact (h34.output.trans HB3.out.output).trans hv.output
      · exact hL4.blocks (by rw [hsz5]; exact Nat.le_refl _) fun i h1 h2 => heap_setCell_other _ _ _ _ (by simp only; omega)
      · rw [hnt]
        have h := h4r
        simp [World.setCell, Array.getElem?_modify, h]
    case done =>
      rintro D' xs V hD' rfl hV hK
      have hr := (cell_of hV.kept).1
      obtain ⟨zt, hzt⟩ : ∃ zt : ByteArray, (⟨(xs.foldl (keepT cst) ([], -1)).1.toArray⟩ : ByteArray) = zt := ⟨_, rfl⟩
      rw [hzt] at hr
      have HV := Lib.hid hV; have HZT := Lib.hid hzt; have HK := Lib.hid hK; have HBW7 := Lib.hid hbw7
      clear hV hK hbw7 hzt
      dsimp only
      go_wp2_with fail
      refine leaves_marks (lo := w7.heap.size) [_] V ⟨D', rfl, hD', HK.out, by simp, trivial⟩ fun V' hk => ?_
      refine ⟨.tuple #[.string zt, .bool true], by simp [results, Try.results11, go_sem], by rw [HZT.out], ?_⟩
      have hb := HBW7.out
      have hv := HV.out
      exact ⟨hk.os.trans (hv.os.trans hb.os), hk.tape.trans (hv.tape.trans hb.tape), hk.output.trans (hv.output.trans hb.output), Nat.le_trans hb.size (Nat.le_trans hv.size hk.size),
        fun i hi => (hk.low i (by have := hb.size; omega)).trans ((hv.low i (by have := HZ3.out; omega)).trans (hb.block i hi))⟩

end Go.Proofs.Ytjfdkhaepmmlfaa
