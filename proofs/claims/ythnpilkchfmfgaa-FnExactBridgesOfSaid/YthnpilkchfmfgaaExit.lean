/- Can the exit be come to? -/
import Derived.Test.YthnpilkchfmfgaaReach
namespace Go.Proofs.Ythnpilkchfmfgaa
open Go.RowKit Go.Shelf
attribute [local go_sem] Oper.semAt_some

theorem exit_at {B : ByteArray} (h : 1 ≤ B.size) : B.data.toList[B.size - 1]? = some (exit_ B.data.toList) := by
  have hlen : B.data.toList.length = B.size := by simp
  have hl : B.size - 1 < B.data.toList.length := by omega
  unfold exit_
  rw [List.getLastD_eq_getLast?, List.getLast?_eq_getElem?, hlen, List.getElem?_eq_getElem hl]; rfl

set_option maxRecDepth 100000 in
set_option maxHeartbeats 4000000 in
/-- impl.reachesExit -/
theorem reachesExit_any (B : ByteArray) (A : Option Addr) (cap : Nat) (es : List (ByteArray × ByteArray)) (w : World) (hs : BlocksOk B.data.toList) (hE : EdgesIn w w.heap.size A es) (hok : EdgesOk B.data.toList (ebs es)) :
    Calls Try.prog 68 #[.agg #[.string B, .slice A es.length cap]] w fun e w' => e = .returned (.bool (decB (Way (ebs es) (entry B.data.toList) (exit_ B.data.toList)))) ∧ Below w.heap.size w w' := by
  refine (callsIn_wide (n := 5)).1 ?_
  refine callsIn_of_wp_marks Try.func68 rfl trivial ?_ rfl
  simp only [Try.ntmps68, List.size_toArray, List.length_cons, List.length_nil, Nat.reduceAdd, Nat.reduceSub, Array.replicate_succ, Array.replicate_zero, List.push_toArray, List.append_toArray, List.nil_append, List.cons_append]
  have h2 : 2 ≤ B.size := by have := hs.1; simpa using this
  have h8 : B.size ≤ 8 := by have := hs.2.1; simpa using this
  obtain ⟨n, hn⟩ : ∃ n, B.size = n + 1 := ⟨B.size - 1, by omega⟩
  have hent : B.data.toList[0]? = some (entry B.data.toList) := by
    have hl : 0 < B.data.toList.length := by simp; omega
    unfold entry
    match hB : B.data.toList, hl with
    | a :: l, _ => rfl
  have hex0 := exit_at (B := B) (by omega)
  have hnl : n < B.size := by omega
  have hexn : B[n] = exit_ B.data.toList := by
    rw [show B.size - 1 = n by omega, getElem_data hnl] at hex0
    injection hex0
  obtain ⟨ex, hex⟩ : ∃ ex, exit_ B.data.toList = ex := ⟨_, rfl⟩
  rw [hex] at hexn ⊢
  have a1 : (B.size : Int) - 1 = (n : Int) := by omega
  have hnl' : (n : Int) < (B.size : Int) := by omega
  have hW3 : (((w.alloc (.cells #[.string B, .slice A es.length cap] 28)).alloc (.cells #[.bool false] 4)).alloc (.cells #[.int .u8 ex.toNat] 5)).heap.size = w.heap.size + 3 := by simp
  have hbB : Below w.heap.size w (((w.alloc (.cells #[.string B, .slice A es.length cap] 28)).alloc (.cells #[.bool false] 4)).alloc (.cells #[.int .u8 ex.toNat] 5)) := (((Below.refl _ w).alloc (Nat.le_refl _) _).alloc (by simp) _).alloc (by simp; omega) _
  have hc1 : (((w.alloc (.cells #[.string B, .slice A es.length cap] 28)).alloc (.cells #[.bool false] 4)).alloc (.cells #[.int .u8 ex.toNat] 5)).heap[w.heap.size + 1]? = some (.cells #[.bool false] 4 (0, 0)) := by
    have := heap_alloc_new (w.alloc (.cells #[.string B, .slice A es.length cap] 28)) (.cells #[.bool false] 4)
    rw [World.size_alloc] at this
    exact (Below.heap_alloc _ _ _ (by simp)).trans this
  have hc2 : (((w.alloc (.cells #[.string B, .slice A es.length cap] 28)).alloc (.cells #[.bool false] 4)).alloc (.cells #[.int .u8 ex.toNat] 5)).cell? ⟨w.heap.size + 2, 0, none⟩ = some (.int .u8 ex.toNat) := by go_simp
  have HS := Lib.hid hs; have HOK := Lib.hid hok; have HENT := Lib.hid hent
  have HNN := Lib.hid hn
  clear hs hok hent hex0 hn
  gi_wp2_with fail
  generalize hW0 : ((w.alloc (.cells #[.string B, .slice A es.length cap] 28)).alloc (.cells #[.bool false] 4)).alloc (.cells #[.int .u8 ex.toNat] 5) = W0 at hW3 hbB hc1 hc2 ⊢
  clear hW0
  refine ⟨trivial, (callsIn_wide.2 (nodesOf_any B A cap es W0 HS.out ((hE.below hbB).more hbB.size) HOK.out)).mono ?_⟩
  rintro e w1 ⟨G, M, S, V, rfl, hG, hN, hM, hb1⟩
  have hp0 : w1.cell? ⟨G, 0, none⟩ = some (.pointer (some ⟨G + 1 + 0, 0, none⟩)) := hN.ptrs.cell (by simp; omega)
  have hlen : B.data.toList.length = B.size := by simp
  rw [hlen]
  have HLEN := Lib.hid hlen; clear hlen
  have HW3 := Lib.hid hW3; have HN := Lib.hid hN
  have HEXN := Lib.hid hexn
  clear hN hW3 hexn a1 hnl'
  gi_wp2_with (refine ⟨trivial, ?_⟩; gi_at_call 103; refine (callsIn_wide.2 (reachedFrom_any _ _)).mono ?_; rintro e w' ⟨rfl, rfl⟩)
  have hB2 : Below W0.heap.size W0 (w1.alloc (.cells #[.pointer (some ⟨G + 1, 0, none⟩)] 101)) := hb1.alloc hb1.size _
  have hs2 : (w1.alloc (.cells #[.pointer (some ⟨G + 1, 0, none⟩)] 101)).heap.size = w1.heap.size + 1 := by simp
  have hN2 := HN.out.keep (w' := w1.alloc (.cells #[.pointer (some ⟨G + 1, 0, none⟩)] 101)) (fun b _ hb _ => Below.heap_alloc _ _ _ hb)
  have hx2 : (w1.alloc (.cells #[.pointer (some ⟨G + 1, 0, none⟩)] 101)).cell? ⟨w1.heap.size, 0, none⟩ = some (.pointer (some ⟨G + 1 + 0, 0, none⟩)) := by simp
  generalize hW2' : w1.alloc (.cells #[.pointer (some ⟨G + 1, 0, none⟩)] 101) = W2 at hB2 hs2 hN2 hx2 ⊢
  clear hW2'
  have hw1G : G < w1.heap.size := HN.out.ptrs.lt
  have hrun := reached_run Fence.wide 4 trivial rfl (by decide) B.data.toList (ebs es) G M S V W2 hN2 w1.heap.size 0 (entry B.data.toList) HENT.out hx2 (by omega) (w.heap.size + 1) (W2.heap.size + 1)
    (by have := HW3.out; omega) (by omega) (by have := HW3.out; omega) (fun x y he => by
      have := (HOK.out.2 _ he).2.1
      exact indexByte_nonneg.1 this) (by simp; omega) (by have := HOK.out.1; exact this)
  have hI0 : W2.heap[w.heap.size + 1]? = some (.cells #[.bool false] 4 (0, 0)) ∧ W2.cell? ⟨w.heap.size + 1 + 1, 0, none⟩ = some (.int .u8 ex.toNat) ∧ Below w.heap.size w W2 ∧ ∀ x ∈ ([] : List UInt8), x ≠ ex :=
    ⟨(hB2.block _ (by have := HW3.out; omega)).trans hc1, (hB2.cell (by have := HW3.out; simp only; omega)).trans hc2, hbB.trans (hB2.mono hbB.size), fun x h => by simp at h⟩
  have hcL : w.heap.size + 2 < W2.heap.size := by have := hB2.size; have := HW3.out; omega
  have HCL := Lib.hid hcL
  clear hx2 hN2 hc1 hc2 hB2 hp0 hs2 hw1G hcL
  refine wpIn_range_run rfl (by decide) (gf := 113) (lb := #[.pointer (some ⟨w1.heap.size, 0, none⟩)]) rfl trivial (enters_of Try.func113 (by kernel_rfl) rfl) hrun
    (fun h k => h.trans k) (fun W o o' h => KeepBut.put h) (Below.refl _ _) (fun _ => rfl)
    (fun pre W => W.heap[w.heap.size + 1]? = some (.cells #[.bool false] 4 (0, 0)) ∧ W.cell? ⟨w.heap.size + 1 + 1, 0, none⟩ = some (.int .u8 ex.toNat) ∧ Below w.heap.size w W ∧ ∀ x ∈ pre, x ≠ ex)
    (fun _ pre W => W.heap[w.heap.size + 1]? = some (.cells #[.bool true] 4 (0, 0)) ∧ Below w.heap.size w W ∧ ex ∈ pre)
    (fun s A A' h hb => ⟨(hb.block _ (by have := HCL.out; omega)).trans h.1, (hb.cell (by have := HCL.out; simp only; omega)).trans h.2.1, h.2.2.1.trans (hb.mono (by have := HCL.out; omega)), h.2.2.2⟩)
    (fun _ s A A' h hb => ⟨(hb.block _ (by have := HCL.out; omega)).trans h.1, h.2.1.trans (hb.mono (by have := HCL.out; omega)), h.2.2⟩) hI0
    (fun x => { tmps := #[.agg #[.string B, .slice A es.length cap], .pointer (some ⟨w.heap.size, 0, none⟩), .pointer (some ⟨w.heap.size + 1, 0, none⟩), .pointer (some ⟨w.heap.size + 1 + 1, 0, none⟩), .int .u8 x.toNat,
      .pointer (some ⟨w.heap.size, 0, none⟩), .string B, .pointer (some ⟨w.heap.size, 0, none⟩), .string B, .int .i64 B.size, .int .i64 n, .int .u8 ex.toNat,
      .agg #[.string B, .slice A es.length cap], .slice (some ⟨G, 0, none⟩) B.size B.size, .pointer (some ⟨G, 0, none⟩), .pointer (some ⟨G + 1, 0, none⟩), .func (.func 113) #[] #[.pointer (some ⟨w1.heap.size, 0, none⟩)], .int .u8 x.toNat, undef, undef, undef], defers := [] }) ?assign ?body ?done ?stop
  case assign =>
    intro l x W K hK
    gi_wp2
    simpa [encs8] using hK
  case body =>
    rintro l pre x W ⟨hc, hd, hb, hne⟩ hlen _
    have hcc : W.cell? ⟨w.heap.size + 1, 0, none⟩ = some (.bool false) := by simp [World.cell?, hc]
    have hcf : W.frozen? ⟨w.heap.size + 1, 0, none⟩ = false := by simp [World.frozen?, hc]
    have HC := Lib.hid hc; have HNE := Lib.hid hne; clear hc hne
    by_cases hxe : x = ex
    · subst hxe
      have hq : ((x.toNat : Int) == (x.toNat : Int)) = true := by simp
      gi_wp2
      exact ⟨KeepsOthers.setCell _ _ _, Nat.le_of_eq (by simp [World.setCell]), by simp [World.setCell, Array.getElem?_modify, HC.out], hb.setCell (by simp only; omega) _, by simp⟩
    · have hq : ((x.toNat : Int) == (ex.toNat : Int)) = false := by rw [beq_eq_false_iff_ne]; intro h; exact hxe (UInt8.toNat_inj.1 (by omega))
      gi_wp2
      exact ⟨KeepsOthers.refl _, KeepBut.refl _ _ _, HC.out, hd, hb, fun y hy => by
        rcases List.mem_append.1 hy with h | h
        · exact HNE.out y h
        · simp at h; subst h; exact hxe⟩
  case done =>
    rintro D xs W hD ⟨hcl, hsub⟩ ⟨hc, hd, hb, hne⟩ hK
    have hcc : W.cell? ⟨w.heap.size + 1, 0, none⟩ = some (.bool false) := by simp [World.cell?, hc]
    have hcf : W.frozen? ⟨w.heap.size + 1, 0, none⟩ = false := by simp [World.frozen?, hc]
    have HF : Hid (decB (Way (ebs es) (entry B.data.toList) ex) = false) := Lib.hid (decB_f fun h => hne ex (hcl.all h) rfl)
    have HC := Lib.hid hc; have HK := Lib.hid hK
    clear hcl hsub hc hd hne hK
    gi_wp2
    have hbS : Below w.heap.size w (W.setCell ⟨w.heap.size + 1, 0, none⟩ (.bool false)) := hb.setCell (by simp only; omega) _
    have hKS : (W.setCell ⟨w.heap.size + 1, 0, none⟩ (.bool false)).heap[D]? = some (.deferred (some [])) := (Below.heap_setCell _ _ _ _ (by have := HCL.out; simp only; omega)).trans HK.out
    have hcS : (W.setCell ⟨w.heap.size + 1, 0, none⟩ (.bool false)).cell? ⟨w.heap.size + 1, 0, none⟩ = some (.bool false) := World.cell?_setCell_same' _ _ _ (by rw [hcc]; rfl)
    refine ⟨by simp, .inl ⟨_, _, rfl, run_takeDeferred hKS, ?_⟩⟩
    have hcP : ∀ o, ((W.setCell ⟨w.heap.size + 1, 0, none⟩ (.bool false)).putObj D o).cell? ⟨w.heap.size + 1, 0, none⟩ = some (.bool false) := fun o => (World.cell?_of_block (World.putObj_heap_other (by have := HCL.out; simp only; omega))).trans hcS
    refine ⟨.bool false, by simp [results, Try.results68, go_sem, hcP], ?_⟩
    exact ⟨ret_bool HF.out.symm, hbS.trans (below_put hKS (by have := HCL.out; omega))⟩
  case stop =>
    rintro D pre W hD hw ⟨hc, hb, hm⟩ hK
    have HF : Hid (decB (Way (ebs es) (entry B.data.toList) ex) = true) := Lib.hid (decB_t (hw ex hm))
    have hcc : W.cell? ⟨w.heap.size + 1, 0, none⟩ = some (.bool true) := by simp [World.cell?, hc]
    have HC := Lib.hid hc; have HK := Lib.hid hK
    clear hw hm hc hK
    gi_wp2
    have hcP : ∀ o, (W.putObj D o).cell? ⟨w.heap.size + 1, 0, none⟩ = some (.bool true) := fun o => (World.cell?_of_block (World.putObj_heap_other (by have := HCL.out; simp only; omega))).trans hcc
    refine ⟨by simp, .inl ⟨_, _, rfl, run_takeDeferred HK.out, ?_⟩⟩
    refine ⟨.bool true, by simp [results, Try.results68, go_sem, hcP], ?_⟩
    exact ⟨ret_bool HF.out.symm, hb.trans (below_put HK.out (by have := HCL.out; omega))⟩

end Go.Proofs.Ythnpilkchfmfgaa
