/- The longest paths from all blocks, by the program: an array by block. -/
import Derived.Test.YtcfcmlbbnpfejabOnce
import Derived.Test.YtcfcmlbbnpfejabLongS
import Derived.Test.YtcfcmlbbnpfejabWayO
import Derived.Test.YtcfcmlbbnpfejabEdgeName
import Derived.Test.YtcfcmlbbnpfejabKept
import Derived.Deep.RegionHeld3
namespace Go.Proofs.Ytcfcmlbbnpfejab
open Go.RowKit

/-- an array of eight texts -/
def TabAt (W : World) (X : Nat) (F : Nat → List UInt8) : Prop := ∃ f, W.rowIs X 59 8 f ∧ ∀ i, i < 8 → f i = .string ⟨(F i).toArray⟩
theorem TabAt.cell {W : World} {X : Nat} {F : Nat → List UInt8} (h : TabAt W X F) {i : Nat} (hi : i < 8) : W.cell? ⟨X, i, none⟩ = some (.string ⟨(F i).toArray⟩) := by
  obtain ⟨f, hr, hf⟩ := h
  rw [← hf i hi]; exact hr.cell hi
theorem TabAt.frozen {W : World} {X : Nat} {F : Nat → List UInt8} (h : TabAt W X F) (i : Nat) : W.frozen? ⟨X, i, none⟩ = false := by
  obtain ⟨f, hr, _⟩ := h
  exact hr.frozen i
theorem TabAt.of_block {W W' : World} {X : Nat} {F : Nat → List UInt8} (h : TabAt W X F) (k : W'.heap[X]? = W.heap[X]?) : TabAt W' X F := by
  obtain ⟨f, hr, hf⟩ := h
  exact ⟨f, hr.of_block k, hf⟩
theorem TabAt.congr {W : World} {X : Nat} {F G : Nat → List UInt8} (h : TabAt W X F) (e : ∀ i, i < 8 → F i = G i) : TabAt W X G := by
  obtain ⟨f, hr, hf⟩ := h
  exact ⟨f, hr, fun i hi => by rw [hf i hi, e i hi]⟩
theorem TabAt.set {W : World} {X : Nat} {F : Nat → List UInt8} (h : TabAt W X F) {i : Nat} (_ : i < 8) {t : List UInt8} : TabAt (W.setCell ⟨X, i, none⟩ (.string ⟨t.toArray⟩)) X (fun j => if j = i then t else F j) := by
  obtain ⟨f, hr, hf⟩ := h
  refine ⟨_, hr.set i (.string ⟨t.toArray⟩), fun j hj => ?_⟩
  by_cases hji : j = i
  · simp [hji]
  · simp [hji, hf j hj]
theorem TabAt.lt {W : World} {X : Nat} {F : Nat → List UInt8} (h : TabAt W X F) : X < W.heap.size := World.block_lt_of_cell? W ⟨X, 0, none⟩ (h.cell (i := 0) (by omega))

set_option maxRecDepth 100000 in
set_option maxHeartbeats 8000000 in
/-- impl.longestPaths -/
theorem longestPaths_any (B : ByteArray) (A : Option Addr) (cap : Nat) (es : List (ByteArray × ByteArray)) (w : World) (hE : EdgesIn w w.heap.size A es) (hF : Facts B es) (hBm : B.size ≤ maxLen) (hc : ¬ Cyc B.data.toList (ebs es)) (hnd : B.data.toList.Nodup) :
    Calls Try.prog 57 #[.agg #[.string B, .slice A es.length cap]] w fun e w' =>
      e = .returned (.agg #[.string ⟨(tab (ebs es) B.data.toList (orderE B.data.toList (ebs es)) 0).toArray⟩, .string ⟨(tab (ebs es) B.data.toList (orderE B.data.toList (ebs es)) 1).toArray⟩, .string ⟨(tab (ebs es) B.data.toList (orderE B.data.toList (ebs es)) 2).toArray⟩, .string ⟨(tab (ebs es) B.data.toList (orderE B.data.toList (ebs es)) 3).toArray⟩, .string ⟨(tab (ebs es) B.data.toList (orderE B.data.toList (ebs es)) 4).toArray⟩, .string ⟨(tab (ebs es) B.data.toList (orderE B.data.toList (ebs es)) 5).toArray⟩, .string ⟨(tab (ebs es) B.data.toList (orderE B.data.toList (ebs es)) 6).toArray⟩, .string ⟨(tab (ebs es) B.data.toList (orderE B.data.toList (ebs es)) 7).toArray⟩]) ∧ Below w.heap.size w w' := by
  have h16 := hF.few
  obtain ⟨htopo, _⟩ := order_topo hF.into hc hF.ent hF.small
  have hond := order_nodup hF.into hc hF.ent hF.small
  have hosub : ∀ x ∈ orderE B.data.toList (ebs es), x ∈ B.data.toList := by
    have h0 : GoneOk B.data.toList (([], []) : Gone) := ⟨by simp, by simp, by simp⟩
    have h := visit_deep hF.into hc 8 (entry B.data.toList) [] ([], []) h0 (by simp) (by simp [Trail]) (by simpa using hF.ent) (by have := hF.small; simpa using this) ⟨by simp [Topo], by simp⟩
    have hon := visit_on hF.into 8 (entry B.data.toList) ([], []) h0 hF.ent (by simp)
    intro x hx
    have hb := hon.bal
    simp only [List.length_nil, Nat.add_zero] at hb
    have hs1 : ∀ y ∈ (visit (ebs es) 8 (entry B.data.toList) ([], [])).1, y ∈ (visit (ebs es) 8 (entry B.data.toList) ([], [])).2 := fun y hy => (h.1.cover y hy).resolve_right (by simp)
    -- the same number of blocks, all of the first among the second: the same blocks
    refine hon.ok.sub x (Classical.byContradiction fun hn => ?_)
    have h2 := nodup_len (a := x :: (visit (ebs es) 8 (entry B.data.toList) ([], [])).1) (b := (visit (ebs es) 8 (entry B.data.toList) ([], [])).2) (List.nodup_cons.2 ⟨hn, hon.ok.nodup⟩) (fun y hy => by
      rcases List.mem_cons.1 hy with e | hy
      · subst e; exact hx
      · exact hs1 y hy)
    simp at h2; omega
  have hoz := orderE_len hF.into hF.ent hF.small
  obtain ⟨O, hO⟩ : ∃ O, orderE B.data.toList (ebs es) = O := ⟨_, rfl⟩
  rw [hO] at htopo hond hosub hoz ⊢
  obtain ⟨o, ho⟩ : ∃ o : ByteArray, (⟨O.toArray⟩ : ByteArray) = o := ⟨_, rfl⟩
  have hod : o.data.toList = O := by rw [← ho]
  have hos : o.size = O.length := str_size hod
  have FO : Hid (∀ W : World, EdgesIn W W.heap.size A es → Calls Try.prog 78 #[.agg #[.string B, .slice A es.length cap]] W fun e w' => e = .returned (.string o) ∧ Below W.heap.size W w') := Lib.hid fun W h => by
    rw [← ho, ← hO]; exact wayOrder_any B A cap es W h (by omega) hF.lets hF.into hF.small hF.ent hF.one hBm hF.first
  obtain ⟨l, hl⟩ : ∃ l, B.data.toList = l := ⟨_, rfl⟩
  have FB : Hid (∀ (c : UInt8) (W : World), Calls Try.prog 58 #[.agg #[.string B, .slice A es.length cap], .string ⟨#[c]⟩] W fun e w' => e = .returned (.int .i64 (Lib.indexByte l c)) ∧ Below W.heap.size W w') := Lib.hid fun c W => by
    have := blockIndex_any B ⟨#[c]⟩ (.slice A es.length cap) W
    rw [← hl]; exact this
  have HLE := Lib.hid hF.lets; have HSM := Lib.hid hF.small
  rw [hl] at hnd hosub HLE HSM ⊢
  have HT := Lib.hid htopo; have HND := Lib.hid hond; have HSUB := Lib.hid hosub; have HLN := Lib.hid hnd; have HOD := Lib.hid hod; have HOS := Lib.hid hos
  clear htopo hond hosub hnd hod hos ho hO hF hc hBm hl
  -- the three boxes
  go_enter Try.func57, Try.ntmps57
  go_wp2_with fail
  simp only [Nat.add_assoc, Nat.reduceAdd]
  obtain ⟨W0, hW0⟩ : ∃ W0, W0 = (((w.alloc (.cells #[.string B, .slice A es.length cap] 30)).alloc (.cells #[.string ⟨#[]⟩, .string ⟨#[]⟩, .string ⟨#[]⟩, .string ⟨#[]⟩, .string ⟨#[]⟩, .string ⟨#[]⟩, .string ⟨#[]⟩, .string ⟨#[]⟩] 59)).alloc (.cells #[.string ⟨#[]⟩, .string ⟨#[]⟩, .string ⟨#[]⟩, .string ⟨#[]⟩, .string ⟨#[]⟩, .string ⟨#[]⟩, .string ⟨#[]⟩, .string ⟨#[]⟩] 59)) := ⟨_, rfl⟩
  have hb0 : Below w.heap.size w W0 := by rw [hW0]; exact (((Below.refl _ _).alloc (Nat.le_refl _) _).alloc (by simp) _).alloc (by simp; omega) _
  have hz0 : W0.heap.size = w.heap.size + 3 := by rw [hW0]; simp
  have b0 : W0.heap[w.heap.size]? = some (.cells #[.string B, .slice A es.length cap] 30 (0, 0)) := by
    rw [hW0]; exact alloc_old _ _ (alloc_old _ _ (heap_alloc_new _ _))
  have b1 : W0.heap[w.heap.size + 1]? = some (.cells #[.string ⟨#[]⟩, .string ⟨#[]⟩, .string ⟨#[]⟩, .string ⟨#[]⟩, .string ⟨#[]⟩, .string ⟨#[]⟩, .string ⟨#[]⟩, .string ⟨#[]⟩] 59 (0, 0)) := by
    rw [hW0]; exact alloc_old _ _ (alloc_at _ _ (by simp))
  have b2 : W0.heap[w.heap.size + 2]? = some (.cells #[.string ⟨#[]⟩, .string ⟨#[]⟩, .string ⟨#[]⟩, .string ⟨#[]⟩, .string ⟨#[]⟩, .string ⟨#[]⟩, .string ⟨#[]⟩, .string ⟨#[]⟩] 59 (0, 0)) := by
    rw [hW0]; exact alloc_at _ _ (by simp)
  rw [← hW0]
  clear hW0
  have t0 : Two W0 w.heap.size B A es.length cap := ⟨by simp [World.cell?, b0], by simp [World.cell?, b0]⟩
  have z8 : ∀ X, W0.heap[X]? = some (.cells #[.string ⟨#[]⟩, .string ⟨#[]⟩, .string ⟨#[]⟩, .string ⟨#[]⟩, .string ⟨#[]⟩, .string ⟨#[]⟩, .string ⟨#[]⟩, .string ⟨#[]⟩] 59 (0, 0)) → TabAt W0 X (fun _ => []) := fun X h =>
    ⟨fun _ => .string ⟨#[]⟩, ⟨_, h, rfl, fun i hi => by
      match i, hi with
      | 0, _ => rfl
      | 1, _ => rfl
      | 2, _ => rfl
      | 3, _ => rfl
      | 4, _ => rfl
      | 5, _ => rfl
      | 6, _ => rfl
      | 7, _ => rfl⟩, fun _ _ => rfl⟩
  have r0 := z8 _ b1
  have x0 := z8 _ b2
  clear z8 b0 b1 b2
  obtain ⟨X, hX⟩ : ∃ X, w.heap.size + 2 = X := ⟨_, rfl⟩
  obtain ⟨R, hR⟩ : ∃ R, w.heap.size + 1 = R := ⟨_, rfl⟩
  rw [hX] at x0 ⊢
  rw [hR] at r0 ⊢
  refine (FO.out _ ((hE.below hb0).more hb0.size)).mono ?_
  rintro e w3 ⟨rfl, hb3⟩
  have hb3' := hb0.trans (hb3.mono hb0.size)
  have t3 := t0.below hb3 (by omega)
  have r3 := r0.of_block (hb3.block R (by omega))
  have x3 := x0.of_block (hb3.block X (by omega))
  have hz3 := hb3.size
  clear hb3 t0 r0 x0 hb0 FO
  have HT3 := Lib.hid t3; have HR3 := Lib.hid r3; have HX3 := Lib.hid x3; have HB3 := Lib.hid hb3'
  clear t3 r3 x3 hb3'
  go_wp2_with fail
  go_loopw [5] (fun c wr => ∃ j : Nat, j ≤ o.size ∧ c = .int .i64 ((j : Int) - 1) ∧ TabAt wr X (tab (ebs es) l (O.drop j)) ∧ w3.grownBy wr (some X)) (fun c _ => (intOf c + 1).toNat)
  case atStart => exact ⟨o.size, Nat.le_refl _, by first | rfl | exact congrArg (Value.int IntKind.i64) (by have := HOS.out; unfold wrap64; omega), HX3.out.congr (fun i _ => by rw [List.drop_of_length_le (by have := HOS.out; omega), tab_nil]), World.grownBy.refl _ _⟩
  case round =>
    clear HX3
    obtain ⟨j, hj, rfl, htab, hgr⟩ := hrel
    have tr := HT3.out.grown hgr (by omega) (by intro e; injection e with e; omega)
    have hbw : Below w.heap.size w wr := HB3.out.grown hgr (by omega) (fun q e => by injection e with e; omega)
    have rr : TabAt wr R (fun _ => []) := HR3.out.of_block (hgr.block R (by omega) (by intro e; injection e with e; omega))
    have hzr := hgr.size
    have HTAB := Lib.hid htab; have HGR := Lib.hid hgr; have HRR := Lib.hid rr
    clear htab hgr rr
    have hos := HOS.out
    cases j with
    | zero =>
      have q0 := HTAB.out.cell (i := 0) (by omega); have s0 := HRR.out.cell (i := 0) (by omega); have f0 := HRR.out.frozen 0
      have q1 := HTAB.out.cell (i := 1) (by omega); have s1 := HRR.out.cell (i := 1) (by omega); have f1 := HRR.out.frozen 1
      have q2 := HTAB.out.cell (i := 2) (by omega); have s2 := HRR.out.cell (i := 2) (by omega); have f2 := HRR.out.frozen 2
      have q3 := HTAB.out.cell (i := 3) (by omega); have s3 := HRR.out.cell (i := 3) (by omega); have f3 := HRR.out.frozen 3
      have q4 := HTAB.out.cell (i := 4) (by omega); have s4 := HRR.out.cell (i := 4) (by omega); have f4 := HRR.out.frozen 4
      have q5 := HTAB.out.cell (i := 5) (by omega); have s5 := HRR.out.cell (i := 5) (by omega); have f5 := HRR.out.frozen 5
      have q6 := HTAB.out.cell (i := 6) (by omega); have s6 := HRR.out.cell (i := 6) (by omega); have f6 := HRR.out.frozen 6
      have q7 := HTAB.out.cell (i := 7) (by omega); have s7 := HRR.out.cell (i := 7) (by omega); have f7 := HRR.out.frozen 7
      simp only [List.drop_zero] at q0 q1 q2 q3 q4 q5 q6 q7
      obtain ⟨v0, e0⟩ : ∃ v0 : ByteArray, (⟨(tab (ebs es) l O 0).toArray⟩ : ByteArray) = v0 := ⟨_, rfl⟩
      obtain ⟨v1, e1⟩ : ∃ v1 : ByteArray, (⟨(tab (ebs es) l O 1).toArray⟩ : ByteArray) = v1 := ⟨_, rfl⟩
      obtain ⟨v2, e2⟩ : ∃ v2 : ByteArray, (⟨(tab (ebs es) l O 2).toArray⟩ : ByteArray) = v2 := ⟨_, rfl⟩
      obtain ⟨v3, e3⟩ : ∃ v3 : ByteArray, (⟨(tab (ebs es) l O 3).toArray⟩ : ByteArray) = v3 := ⟨_, rfl⟩
      obtain ⟨v4, e4⟩ : ∃ v4 : ByteArray, (⟨(tab (ebs es) l O 4).toArray⟩ : ByteArray) = v4 := ⟨_, rfl⟩
      obtain ⟨v5, e5⟩ : ∃ v5 : ByteArray, (⟨(tab (ebs es) l O 5).toArray⟩ : ByteArray) = v5 := ⟨_, rfl⟩
      obtain ⟨v6, e6⟩ : ∃ v6 : ByteArray, (⟨(tab (ebs es) l O 6).toArray⟩ : ByteArray) = v6 := ⟨_, rfl⟩
      obtain ⟨v7, e7⟩ : ∃ v7 : ByteArray, (⟨(tab (ebs es) l O 7).toArray⟩ : ByteArray) = v7 := ⟨_, rfl⟩
      rw [e0] at q0; rw [e1] at q1; rw [e2] at q2; rw [e3] at q3; rw [e4] at q4; rw [e5] at q5; rw [e6] at q6; rw [e7] at q7
      have HRES : Hid (Value.agg #[.string ⟨(tab (ebs es) l O 0).toArray⟩, .string ⟨(tab (ebs es) l O 1).toArray⟩, .string ⟨(tab (ebs es) l O 2).toArray⟩, .string ⟨(tab (ebs es) l O 3).toArray⟩, .string ⟨(tab (ebs es) l O 4).toArray⟩, .string ⟨(tab (ebs es) l O 5).toArray⟩, .string ⟨(tab (ebs es) l O 6).toArray⟩, .string ⟨(tab (ebs es) l O 7).toArray⟩] = .agg #[.string v0, .string v1, .string v2, .string v3, .string v4, .string v5, .string v6, .string v7]) := Lib.hid (by rw [e0, e1, e2, e3, e4, e5, e6, e7])
      clear e0 e1 e2 e3 e4 e5 e6 e7 tr hos
      go_wp2_with fail
      have hbR : ∀ (W : World) (k : Nat) (u : Value), Below w.heap.size w W → Below w.heap.size w (W.setCell ⟨R, k, none⟩ u) := fun W k u h => h.setCell (by simp only; omega) _
      refine bodyPost_ret (v := .agg #[.string v0, .string v1, .string v2, .string v3, .string v4, .string v5, .string v6, .string v7]) (by simp [results, Try.results57, go_sem, s0, s1, s2, s3, s4, s5, s6, s7]) rfl ⟨by rw [HRES.out], ?_⟩
      exact hbR _ _ _ (hbR _ _ _ (hbR _ _ _ (hbR _ _ _ (hbR _ _ _ (hbR _ _ _ (hbR _ _ _ (hbR _ _ _ hbw)))))))
    | succ j =>
      have hjl : j < o.size := by omega
      have hjO : j < O.length := by omega
      obtain ⟨b, hb⟩ : ∃ b, O[j] = b := ⟨_, rfl⟩
      have hdrop : O.drop j = b :: O.drop (j + 1) := by rw [List.drop_eq_getElem_cons hjO, hb]
      have hTj : Topo (ebs es) (b :: O.drop (j + 1)) := by
        rw [← hdrop]
        exact Topo.drop (a := O.take j) (by rw [List.take_append_drop]; exact HT.out)
      have hbl : b ∈ l := HSUB.out b (hb ▸ List.getElem_mem hjO)
      have hbn : b ∉ O.drop (j + 1) := by
        have h := HND.out
        rw [← List.take_append_drop j O, hdrop] at h
        exact (List.nodup_cons.1 (List.nodup_append.1 h).2.1).1
      have hrl : (O.drop (j + 1)).length ≤ 7 := by simp; omega
      have hkey : o.extract j (j + 1) = ⟨#[b]⟩ := by
        have := letter_at (p := o) hjl
        rw [HOD.out] at this
        have e : O.getD j 0 = b := by simp [List.getD, hjO, hb]
        rw [e] at this
        exact one_byte this
      obtain ⟨h, hh⟩ := Int.eq_ofNat_of_zero_le (indexByte_nonneg.2 hbl)
      have hhl : h < l.length := by have := indexByte_lt (l := l) (c := b); omega
      have hlh : l[h]? = some b := by have := indexByte_get hbl; rw [hh] at this; simpa using this
      have h8 : h < 8 := by have := HSM.out; omega
      have FH : Hid (∀ W : World, Calls Try.prog 58 #[.agg #[.string B, .slice A es.length cap], .string (o.extract j (j + 1))] W fun e w' => e = .returned (.int .i64 h) ∧ Below W.heap.size W w') := Lib.hid fun W => by
        have := FB.out b W
        rw [hh] at this
        rw [hkey]; exact this
      have HDR := Lib.hid hdrop; have HTJ := Lib.hid hTj; have HBN := Lib.hid hbn; have HKEY := Lib.hid hkey; have HLH := Lib.hid hlh; have HRL := Lib.hid hrl; have HHH := Lib.hid hh
      have e1 : ((j + 1 : Nat) : Int) - 1 = (j : Int) := by omega
      rw [e1]
      have d0 := tr.1; have d1 := tr.2
      clear hb hdrop hTj hbl hbn hrl hkey hh hlh e1 hos
      go_wp2_with fail
      refine (FH.out _).mono ?_
      rintro e w5 ⟨rfl, hb5⟩
      have hg5 := grown_below HGR.out hb5
      have t5 := tr.below hb5 (by omega)
      have x5 := HTAB.out.of_block (hb5.block X (by omega))
      have HX5 := Lib.hid x5; have HG5 := Lib.hid hg5
      clear hb5 hg5 x5 d0 d1 HTAB tr
      have d0 := t5.1; have d1 := t5.2
      rw [HKEY.out]
      go_wp2_with fail
      clear d0 d1 t5
      go_loopw [31] (fun c wi => ∃ k : Nat, k ≤ es.length ∧ c = .int .i64 k ∧ TabAt wi X (fun i => if i = h then rowG (ebs es) (longE (ebs es)) b (List.range k) else tab (ebs es) l (O.drop (j + 1)) i) ∧ w3.grownBy wi (some X)) (fun c _ => es.length - (intOf c).toNat)
      case atStart => exact ⟨0, Nat.zero_le _, rfl, HX5.out.congr (fun i _ => by
        by_cases hi : i = h
        · rw [if_pos hi, hi, tab_out HLH.out HBN.out]; rfl
        · rw [if_neg hi]), HG5.out⟩
      case round =>
        clear HX5 HG5
        obtain ⟨k, hk, rfl, htab, hgr⟩ := hrel
        have tr := HT3.out.grown hgr (by omega) (by intro e; injection e with e; omega)
        have hbw : Below w.heap.size w wr := HB3.out.grown hgr (by omega) (fun q e => by injection e with e; omega)
        have hzr := hgr.size
        have HTAB := Lib.hid htab; have HGR := Lib.hid hgr
        clear htab hgr
        by_cases hlt : k < es.length
        case neg =>
          have hkn : k = es.length := by omega
          have hel : (ebs es).length = es.length := by simp [ebs]
          have HN : Hid (TabAt wr X (tab (ebs es) l (O.drop j))) := Lib.hid (HTAB.out.congr (fun i _ => by
            rw [HDR.out, tab_cons HLN.out HLH.out i, hkn, ← hel, ← longE_fix HTJ.out HRL.out]))
          clear tr
          go_wp2_with fail
          go_roundw
          case rel =>
            exact ⟨j, by omega, by go_num, HN.out, HGR.out⟩
          case measure => simp [intOf]
        obtain ⟨x, y, he, h1, h2, hxl, hyl⟩ := edge_letters HLE.out hlt
        obtain ⟨eb, eo, rfl, hlow, q1, q2⟩ := (hE.below hbw) k hlt
        rw [h1] at q1
        rw [h2] at q2
        have HE1 := Lib.hid he
        have hba : Below wr.heap.size wr (wr.alloc (.cells #[.string ⟨#[x]⟩, .string ⟨#[y]⟩] 52)) := (Below.refl _ _).alloc (Nat.le_refl _) _
        have HBA := Lib.hid hba
        have HRS : Hid (rowG (ebs es) (longE (ebs es)) b (List.range (k + 1)) = stepG (ebs es) (longE (ebs es)) b (rowG (ebs es) (longE (ebs es)) b (List.range k)) k) := Lib.hid (by rw [List.range_succ, rowG_snoc])
        clear he h1 h2 hba
        by_cases hxb : x = b
        case neg =>
          have hq : (x == b) = false := by simp [hxb]
          have HN : Hid (rowG (ebs es) (longE (ebs es)) b (List.range (k + 1)) = rowG (ebs es) (longE (ebs es)) b (List.range k)) := Lib.hid (by rw [HRS.out, stepG_no HE1.out hxb])
          have HG6 := Lib.hid (grown_below HGR.out HBA.out)
          have HX6 := Lib.hid (HTAB.out.of_block (HBA.out.block X (by omega)))
          clear hxb tr
          go_wp2_with fail
          go_roundw
          case rel => exact ⟨k + 1, by omega, by go_num, by rw [HN.out]; exact HX6.out, HG6.out⟩
          case measure => simp [intOf]; omega
        subst hxb
        -- an edge from the block
        obtain ⟨iy, hiy⟩ := Int.eq_ofNat_of_zero_le (indexByte_nonneg.2 hyl)
        have hiyl : iy < l.length := by have := indexByte_lt (l := l) (c := y); omega
        have hly : l[iy]? = some y := by have := indexByte_get hyl; rw [hiy] at this; simpa using this
        have hiy8 : iy < 8 := by have := HSM.out; omega
        have hyO : y ∈ O.drop (j + 1) := HTJ.out.1 y (List.mem_of_getElem? HE1.out)
        have hne : iy ≠ h := fun e => by
          subst e
          have := hly.symm.trans HLH.out
          injection this with e2
          subst e2
          exact topo_self _ _ _ (Nat.le_refl _) HTJ.out (List.mem_of_getElem? HE1.out)
        have FY : Hid (∀ W : World, Calls Try.prog 58 #[.agg #[.string B, .slice (some ⟨eb, eo, none⟩) es.length cap], .string ⟨#[y]⟩] W fun e w' => e = .returned (.int .i64 iy) ∧ Below W.heap.size W w') := Lib.hid fun W => by
          have := FB.out y W
          rwa [hiy] at this
        obtain ⟨ql, hql⟩ : ∃ ql : ByteArray, (⟨(longE (ebs es) y).toArray⟩ : ByteArray) = ql := ⟨_, rfl⟩
        have hqs : ql.size = (longE (ebs es) y).length := by rw [← hql]; exact size_mk _
        have hq8 : ql.size ≤ 8 := by rw [hqs]; exact longE_len _ _
        obtain ⟨o1, ho1⟩ : ∃ o1 : ByteArray, (⟨(rowG (ebs es) (longE (ebs es)) x (List.range k)).toArray⟩ : ByteArray) = o1 := ⟨_, rfl⟩
        have ho1s : o1.size = (rowG (ebs es) (longE (ebs es)) x (List.range k)).length := by rw [← ho1]; exact size_mk _
        have cy : wr.cell? ⟨X, iy, none⟩ = some (.string ql) := by
          have := HTAB.out.cell hiy8
          rw [if_neg hne, tab_in hly hyO, hql] at this
          exact this
        have ch : wr.cell? ⟨X, h, none⟩ = some (.string o1) := by
          have := HTAB.out.cell h8
          rw [if_pos rfl, ho1] at this
          exact this
        obtain ⟨pp, hpp⟩ : ∃ pp : ByteArray, (⟨#[nameOf k]⟩ : ByteArray) ++ ql = pp := ⟨_, rfl⟩
        have hpd : pp = ⟨((97 + k).toUInt8 :: longE (ebs es) y).toArray⟩ := by rw [← hpp, ← hql]; exact bytes_ext (by rw [append_data]; simp [nameOf])
        have hps : pp.size = ql.size + 1 := by rw [hpd, hqs, size_mk]; simp
        have HPP := Lib.hid hpp; have HPD := Lib.hid hpd; have HPS := Lib.hid hps; have HQS := Lib.hid hqs; have HO1 := Lib.hid ho1; have HO1S := Lib.hid ho1s
        have z1 : ¬ 9223372036854775807 < (⟨#[nameOf k]⟩ : ByteArray).size + ql.size := by
          have : (⟨#[nameOf k]⟩ : ByteArray).size = 1 := rfl
          omega
        have z2 : ¬ 9223372036854775807 < 1 + ql.size := by omega
        have z3 : 1 + ql.size ≤ 9223372036854775807 := by omega
        have hq : (x == x) = true := by simp
        have i1 : (0 : Int) ≤ (iy : Int) := by omega
        have i2 : (iy : Int) < 8 := by omega
        have i3 : (0 : Int) ≤ (h : Int) := by omega
        have i4 : (h : Int) < 8 := by omega
        have hXr : X < wr.heap.size := HTAB.out.lt
        have hba := HBA.out
        have c0 : (wr.alloc (.cells #[.string ⟨#[x]⟩, .string ⟨#[y]⟩] 52)).cell? ⟨wr.heap.size, 0, none⟩ = some (.string ⟨#[x]⟩) := by go_simp
        have c1 : (wr.alloc (.cells #[.string ⟨#[x]⟩, .string ⟨#[y]⟩] 52)).cell? ⟨wr.heap.size, 1, none⟩ = some (.string ⟨#[y]⟩) := by go_simp
        have cz : (wr.alloc (.cells #[.string ⟨#[x]⟩, .string ⟨#[y]⟩] 52)).heap.size = wr.heap.size + 1 := by simp
        have C1 := Lib.hid c1; have CZ := Lib.hid cz
        clear hiy hiyl hly hyO hne hql hqs ho1 ho1s hpp hpd hps c0 c1 cz
        go_wp2_with fail
        obtain ⟨wa, hwa⟩ : ∃ wa, wr.alloc (.cells #[.string ⟨#[x]⟩, .string ⟨#[y]⟩] 52) = wa := ⟨_, rfl⟩
        rw [hwa] at hba C1 CZ ⊢
        have tA := tr.below hba (by omega)
        have hS : ∀ W, Below wa.heap.size wa W → (W.cell? ⟨w.heap.size, 0, none⟩ = some (.string B) ∧ W.cell? ⟨w.heap.size, 1, none⟩ = some (.slice (some ⟨eb, eo, none⟩) es.length cap) ∧ W.cell? ⟨wr.heap.size, 1, none⟩ = some (.string ⟨#[y]⟩) ∧ W.cell? ⟨X, iy, none⟩ = some (.string ql) ∧ Below wa.heap.size wa W) :=
          fun W hW => ⟨(hW.cell (by have := CZ.out; simp only; omega)).trans tA.1, (hW.cell (by have := CZ.out; simp only; omega)).trans tA.2, (hW.cell (by have := CZ.out; simp only; omega)).trans C1.out, (hW.cell (by have := CZ.out; simp only; omega)).trans ((hba.cell (by simp only; omega)).trans cy), hW⟩
        have HSS := Lib.hid hS; have HBA2 := Lib.hid hba; have CH := Lib.hid ch
        clear hS tA hwa hba cy ch tr q1 q2
        go_region_held3 (fun W => W.cell? ⟨w.heap.size, 0, none⟩ = some (.string B) ∧ W.cell? ⟨w.heap.size, 1, none⟩ = some (.slice (some ⟨eb, eo, none⟩) es.length cap) ∧ W.cell? ⟨wr.heap.size, 1, none⟩ = some (.string ⟨#[y]⟩) ∧ W.cell? ⟨X, iy, none⟩ = some (.string ql) ∧ Below wa.heap.size wa W)
          (first
            | exact HSS.out _ (Below.refl _ _).drew
            | exact HSS.out _ ((Below.refl _ _).drew.trans hb6))
          (first
            | (go_at_call 39; refine (edgeName_any k (by omega) _).mono ?_; rintro e w7 ⟨rfl, rfl⟩)
            | (go_at_call 58; refine (FY.out _).mono ?_; rintro e w6 ⟨rfl, hb6⟩))
        rename_i hHeld
        have hb6' := hHeld.2.2.2.2
        have HB6 := Lib.hid (HBA2.out.trans (hb6'.mono HBA2.out.size))
        have hz6 := HB6.out.size
        have HT6 := Lib.hid (HTAB.out.of_block (HB6.out.block X (by omega)))
        have HG6 := Lib.hid (grown_below HGR.out HB6.out)
        have ch6 := (HB6.out.cell (p := ⟨X, h, none⟩) (by simp only; omega)).trans CH.out
        have fh6 := HT6.out.frozen h
        rw [HPP.out]
        have hpz := HPS.out
        clear hHeld hb6 hb6' z1 z2 z3 hq i1 i2 HSS FY
        by_cases hgt : o1.size < pp.size
        · have HN : Hid (rowG (ebs es) (longE (ebs es)) x (List.range (k + 1)) = (97 + k).toUInt8 :: longE (ebs es) y) := Lib.hid (by
            rw [HRS.out, stepG_yes HE1.out (by rw [← HQS.out, ← HO1S.out]; omega)])
          have hgi : (pp.size : Int) > (o1.size : Int) := by omega
          clear hpz
          go_wp2_with fail
          have hset := HT6.out.set h8 (t := (97 + k).toUInt8 :: longE (ebs es) y)
          rw [← HPD.out] at hset
          have HSET : Hid (TabAt (w6.setCell ⟨X, h, none⟩ (.string pp)) X (fun i => if i = h then rowG (ebs es) (longE (ebs es)) x (List.range (k + 1)) else tab (ebs es) l (O.drop (j + 1)) i)) := Lib.hid (hset.congr (fun i _ => by
            by_cases hi : i = h
            · simp only [hi, if_true, HN.out]
            · simp only [hi, if_false]))
          have HG7 := Lib.hid (only_setCell_at (i := h) (u := .string pp) HG6.out)
          clear hset ch6 fh6
          go_roundw
          case rel => exact ⟨k + 1, by omega, by go_num, HSET.out, HG7.out⟩
          case measure => simp [intOf]; omega
        · have HN : Hid (rowG (ebs es) (longE (ebs es)) x (List.range (k + 1)) = rowG (ebs es) (longE (ebs es)) x (List.range k)) := Lib.hid (by
            rw [HRS.out, stepG_short HE1.out (by rw [← HQS.out, ← HO1S.out]; omega)])
          have hgi : ¬ ((pp.size : Int) > (o1.size : Int)) := by omega
          clear hpz
          go_wp2_with fail
          clear ch6 fh6
          go_roundw
          case rel => exact ⟨k + 1, by omega, by go_num, by rw [HN.out]; exact HT6.out, HG6.out⟩
          case measure => simp [intOf]; omega

end Go.Proofs.Ytcfcmlbbnpfejab
