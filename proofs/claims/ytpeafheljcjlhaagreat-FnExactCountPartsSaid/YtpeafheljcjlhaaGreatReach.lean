/- Can all blocks be come to? -/
import Derived.Test.YtpeafheljcjlhaaGreatIter
namespace Go.Proofs.YtpeafheljcjlhaaGreat
open Go.RowKit Go.Shelf
attribute [local go_sem] Oper.semAt_some

/-- impl.reachedFrom -/
theorem reachedFrom_any (p : Option Addr) (w : World) :
    Calls Tryz.prog 116 #[.pointer p] w fun e w' => e = .returned (.func (.func 133) #[] #[.pointer (some ⟨w.heap.size, 0, none⟩)]) ∧ w.alloc (.cells #[.pointer p] 123) = w' := by
  go_enter Tryz.func116, Tryz.ntmps116
  go_wp2
  go_ret
  exact ⟨rfl, rfl⟩

set_option maxRecDepth 100000 in
set_option maxHeartbeats 4000000 in
/-- impl.reachesAll -/
theorem reachesAll_any (B : ByteArray) (A : Option Addr) (cap : Nat) (es : List (ByteArray × ByteArray)) (w : World) (hs : BlocksOk B.data.toList) (hE : EdgesIn w w.heap.size A es) (hok : EdgesOk B.data.toList (ebs es)) :
    Calls Tryz.prog 91 #[.agg #[.string B, .slice A es.length cap]] w fun e w' => e = .returned (.bool (decB (AllFrom B.data.toList (ebs es) (entry B.data.toList)))) ∧ Below w.heap.size w w' := by
  refine (callsIn_wide (n := 5)).1 ?_
  refine callsIn_of_wp_marks Tryz.func91 rfl trivial ?_ rfl
  simp only [Tryz.ntmps91, List.size_toArray, List.length_cons, List.length_nil, Nat.reduceAdd, Nat.reduceSub, Array.replicate_succ, Array.replicate_zero, List.push_toArray, List.append_toArray, List.nil_append, List.cons_append]
  have h2 : 2 ≤ B.size := by have := hs.1; simpa using this
  have h8 : B.size ≤ 8 := by have := hs.2.1; simpa using this
  have hent : B.data.toList[0]? = some (entry B.data.toList) := by
    have hl : 0 < B.data.toList.length := by simp; omega
    unfold entry
    match hB : B.data.toList, hl with
    | a :: l, _ => rfl
  have hW2 : ((w.alloc (.cells #[.string B, .slice A es.length cap] 31)).alloc (.cells #[.int .i64 0] 3)).heap.size = w.heap.size + 2 := by simp
  have hbB : Below w.heap.size w ((w.alloc (.cells #[.string B, .slice A es.length cap] 31)).alloc (.cells #[.int .i64 0] 3)) := ((Below.refl _ w).alloc (Nat.le_refl _) _).alloc (by simp) _
  have hc0 : ((w.alloc (.cells #[.string B, .slice A es.length cap] 31)).alloc (.cells #[.int .i64 0] 3)).cell? ⟨w.heap.size, 0, none⟩ = some (.string B) := by go_simp
  have hc1 : ((w.alloc (.cells #[.string B, .slice A es.length cap] 31)).alloc (.cells #[.int .i64 0] 3)).heap[w.heap.size + 1]? = some (.cells #[.int .i64 0] 3 (0, 0)) := by
    have := heap_alloc_new (w.alloc (.cells #[.string B, .slice A es.length cap] 31)) (.cells #[.int .i64 0] 3)
    rwa [World.size_alloc] at this
  have HS := Lib.hid hs; have HOK := Lib.hid hok; have HENT := Lib.hid hent
  clear hs hok hent
  gi_wp2_with fail
  generalize hW0 : (w.alloc (.cells #[.string B, .slice A es.length cap] 31)).alloc (.cells #[.int .i64 0] 3) = W0 at hW2 hbB hc0 hc1 ⊢
  clear hW0
  refine ⟨trivial, (callsIn_wide.2 (nodesOf_any B A cap es W0 HS.out ((hE.below hbB).more hbB.size) HOK.out)).mono ?_⟩
  rintro e w1 ⟨G, M, S, V, rfl, hG, hN, hM, hb1⟩
  have hp0 : w1.cell? ⟨G, 0, none⟩ = some (.pointer (some ⟨G + 1 + 0, 0, none⟩)) := hN.ptrs.cell (by simp; omega)
  have hlen : B.data.toList.length = B.size := by simp
  rw [hlen]
  have HLEN := Lib.hid hlen; clear hlen
  have HW2 := Lib.hid hW2; have HN := Lib.hid hN
  clear hN hW2
  gi_wp2_with (refine ⟨trivial, ?_⟩; gi_at_call 116; refine (callsIn_wide.2 (reachedFrom_any _ _)).mono ?_; rintro e w' ⟨rfl, rfl⟩)
  have hB2 : Below W0.heap.size W0 (w1.alloc (.cells #[.pointer (some ⟨G + 1, 0, none⟩)] 123)) := hb1.alloc hb1.size _
  have hs2 : (w1.alloc (.cells #[.pointer (some ⟨G + 1, 0, none⟩)] 123)).heap.size = w1.heap.size + 1 := by simp
  have hN2 := HN.out.keep (w' := w1.alloc (.cells #[.pointer (some ⟨G + 1, 0, none⟩)] 123)) (fun b _ hb _ => Below.heap_alloc _ _ _ hb)
  have hx2 : (w1.alloc (.cells #[.pointer (some ⟨G + 1, 0, none⟩)] 123)).cell? ⟨w1.heap.size, 0, none⟩ = some (.pointer (some ⟨G + 1 + 0, 0, none⟩)) := by simp
  generalize hW2' : w1.alloc (.cells #[.pointer (some ⟨G + 1, 0, none⟩)] 123) = W2 at hB2 hs2 hN2 hx2 ⊢
  clear hW2'
  have hw1G : G < w1.heap.size := HN.out.ptrs.lt
  have hrun := reached_run Fence.wide 4 trivial rfl (by decide) B.data.toList (ebs es) G M S V W2 hN2 w1.heap.size 0 (entry B.data.toList) HENT.out hx2 (by omega) (w.heap.size + 1) (W2.heap.size + 1)
    (by have := HW2.out; omega) (by omega) (by have := HW2.out; omega) (fun x y he => by
      have := (HOK.out.2 _ he).2.1
      exact indexByte_nonneg.1 this) (by simp; omega) (by have := HOK.out.1; exact this)
  have hI0 : W2.heap[w.heap.size + 1]? = some (.cells #[.int .i64 (([] : List UInt8).length : Int)] 3 (0, 0)) ∧ W2.cell? ⟨w.heap.size, 0, none⟩ = some (.string B) ∧ Below w.heap.size w W2 :=
    ⟨(hB2.block _ (by have := HW2.out; omega)).trans hc1, (hB2.cell (by have := HW2.out; simp only; omega)).trans hc0, hbB.trans (hB2.mono hbB.size)⟩
  have hcL : w.heap.size + 1 < W2.heap.size := by have := hB2.size; have := HW2.out; omega
  have HCL := Lib.hid hcL
  clear hx2 hN2 hc0 hc1 hB2 hp0 hs2 hw1G hcL
  refine wpIn_range_run rfl (by decide) (gf := 133) (lb := #[.pointer (some ⟨w1.heap.size, 0, none⟩)]) rfl trivial (enters_of Tryz.func133 (by kernel_rfl) rfl) hrun
    (fun h k => h.trans k) (fun W o o' h => KeepBut.put h) (Below.refl _ _) (fun _ => rfl)
    (fun pre W => W.heap[w.heap.size + 1]? = some (.cells #[.int .i64 (pre.length : Int)] 3 (0, 0)) ∧ W.cell? ⟨w.heap.size, 0, none⟩ = some (.string B) ∧ Below w.heap.size w W)
    (fun _ _ _ => False)
    (fun s A A' h hb => ⟨(hb.block _ HCL.out).trans h.1, (hb.cell (by have := HCL.out; simp only; omega)).trans h.2.1, h.2.2.trans (hb.mono (by have := HCL.out; omega))⟩)
    (fun _ _ _ _ h _ => h) hI0
    (fun x => { tmps := #[.agg #[.string B, .slice A es.length cap], .pointer (some ⟨w.heap.size, 0, none⟩), .bool false, .pointer (some ⟨w.heap.size + 1, 0, none⟩), .agg #[.string B, .slice A es.length cap],
      .slice (some ⟨G, 0, none⟩) B.size B.size, .pointer (some ⟨G, 0, none⟩), .pointer (some ⟨G + 1, 0, none⟩), .func (.func 133) #[] #[.pointer (some ⟨w1.heap.size, 0, none⟩)], .int .u8 x.toNat, undef, undef, undef, undef, undef, undef, undef], defers := [] }) ?assign ?body ?done ?stop
  case assign =>
    intro l x W K hK
    gi_wp2
    simpa [encs8] using hK
  case body =>
    rintro l pre x W ⟨hc, hd, hb⟩ hlen _
    have hcc : W.cell? ⟨w.heap.size + 1, 0, none⟩ = some (.int .i64 (pre.length : Int)) := by simp [World.cell?, hc]
    have hcf : W.frozen? ⟨w.heap.size + 1, 0, none⟩ = false := by simp [World.frozen?, hc]
    have hl8 : pre.length < 8 := by simp at hlen; omega
    have HC := Lib.hid hc; clear hc
    gi_wp2
    refine ⟨KeepsOthers.setCell _ _ _, ⟨by simp [World.setCell], fun b _ h _ => Below.heap_setCell _ _ _ _ h⟩, ?_, (World.cell?_setCell_other _ _ _ _ (by intro h; injection h with h; omega)).trans hd, hb.setCell (by simp only; omega) _⟩
    simp [World.setCell, Array.getElem?_modify, HC.out]
  case done =>
    rintro D xs W hD ⟨hcl, hsub⟩ ⟨hc, hd, hb⟩ hK
    have hcc : W.cell? ⟨w.heap.size + 1, 0, none⟩ = some (.int .i64 (xs.length : Int)) := by simp [World.cell?, hc]
    have HC := Lib.hid hc; clear hc
    have hfin := hcl.count HS.out.2.2.2 hsub
    have HF : Hid (((xs.length : Int) == (B.size : Int)) = decB (AllFrom B.data.toList (ebs es) (entry B.data.toList))) := Lib.hid (by
      by_cases h : AllFrom B.data.toList (ebs es) (entry B.data.toList)
      · rw [decB_t h, beq_iff_eq]; have := hfin.2 h; simp at this; omega
      · rw [decB_f h, beq_eq_false_iff_ne]; intro e; exact h (hfin.1 (by simp; omega)))
    clear hfin
    gi_wp2
    refine ⟨by simp, .inl ⟨_, _, rfl, run_takeDeferred hK, ?_⟩⟩
    refine ⟨_, results_tmp rfl _ _ _, ?_⟩
    exact ⟨ret_bool HF.out, hb.trans (below_put hK (by have := HCL.out; omega))⟩
  case stop =>
    rintro D pre W _ _ h _
    exact h.elim

end Go.Proofs.YtpeafheljcjlhaaGreat
