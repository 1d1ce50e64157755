/- slices.Backward over edges: each with its place, the last one first. -/
import Derived.Test.YtpeafheljcjlhaaGreatRangeB
import Derived.Test.YtpeafheljcjlhaaGreatNet1
import Derived.Shelf.Abstract
import Derived.Shelf.RegionOpen
import Derived.OwnWalkIn
import Derived.TacticsInMore
import Derived.LoopNIn
import Derived.LoopIn
namespace Go.Proofs.YtpeafheljcjlhaaGreat
open Go.RowKit Go.Shelf
attribute [local go_sem] Oper.semAt_some

/-- a place and an edge handed to a round -/
def edgeAt (es : List (ByteArray × ByteArray)) (i : Nat) : ByteArray × ByteArray := es.getD i (⟨#[]⟩, ⟨#[]⟩)
def encsE (es : List (ByteArray × ByteArray)) (i : Nat) : Array Value := #[.int .i64 i, .agg #[.string (edgeAt es i).1, .string (edgeAt es i).2]]

/-- all blocks but three lie as they lay -/
def Kept3 (m o l : Nat) (A B : World) : Prop := A.heap.size ≤ B.heap.size ∧ ∀ b, b < A.heap.size → b ≠ m → b ≠ o → b ≠ l → B.heap[b]? = A.heap[b]?
theorem Kept3.refl (m o l : Nat) (A : World) : Kept3 m o l A A := ⟨Nat.le_refl _, fun _ _ _ _ _ => rfl⟩
theorem Kept3.trans {m o l : Nat} {A B C : World} (h : Kept3 m o l A B) (k : Kept3 m o l B C) : Kept3 m o l A C :=
  ⟨Nat.le_trans h.1 k.1, fun b hb h1 h2 h3 => (k.2 b (by have := h.1; omega) h1 h2 h3).trans (h.2 b hb h1 h2 h3)⟩
theorem Kept3.put {m o l : Nat} {W : World} {x x' : Obj} (h : W.heap[l]? = some x) : Kept3 m o l W (W.putObj l x') :=
  ⟨(below_put (B := 0) h (Nat.zero_le _)).size, fun _ _ _ _ hb => World.putObj_heap_other hb⟩
theorem Kept3.below {m o l B : Nat} {W W' : World} (h : Below B W W') (hB : W.heap.size ≤ B) : Kept3 m o l W W' := ⟨h.size, fun b hb _ _ _ => h.block b (by omega)⟩

/-- slices.Backward -/
theorem backward_any (A : Option Addr) (n cap : Nat) (w : World) :
    Calls Tryz.prog 120 #[.slice A n cap] w fun e w' => e = .returned (.func (.func 134) #[] #[.pointer (some ⟨w.heap.size, 0, none⟩)]) ∧ w.alloc (.cells #[.slice A n cap] 29) = w' := by
  go_enter Tryz.func120, Tryz.ntmps120
  go_wp2
  go_ret
  exact ⟨rfl, rfl⟩

set_option maxRecDepth 100000 in
set_option maxHeartbeats 4000000 in
/-- what it hands back -/
theorem backward_run (F : Fence) (n : Nat) (hF : F.fn 134) (hro : F.round = none) (hn : 1 ≤ n) (A : Option Addr) (cap : Nat) (es : List (ByteArray × ByteArray)) (Bx M m o L : Nat) (w : World)
    (hbx : w.cell? ⟨Bx, 0, none⟩ = some (.slice A es.length cap)) (hBx : Bx < w.heap.size) (hE : EdgesIn w M A es) (hM : M ≤ w.heap.size) (hMm : M ≤ m) (hMo : M ≤ o) (hm : Bx ≠ m) (ho : Bx ≠ o) (hL : w.heap.size ≤ L) (hl : es.length ≤ 100) :
    SeqRun F n Tryz.prog 134 #[.pointer (some ⟨Bx, 0, none⟩)] (encsE es) (Kept3 m o L) (fun xs => xs = (List.range es.length).reverse) (fun _ => True) es.length w L := by
  intro J Jx W hbW hlW hJ hJx hY h0
  refine callsIn_of_wp Tryz.func134 rfl hF ?_ hro
  simp only [Tryz.ntmps134, List.size_toArray, List.length_cons, List.length_nil, Nat.reduceAdd, Nat.reduceSub, Array.replicate_succ, Array.replicate_zero, List.push_toArray, List.append_toArray, List.nil_append, List.cons_append]
  have hcb : W.cell? ⟨Bx, 0, none⟩ = some (.slice A es.length cap) := (hbW.cell hBx).trans hbx
  have hzW := hbW.size
  have HEW : Hid (EdgesIn W M A es) := Lib.hid (hE.below (hbW.mono hM))
  gi_wp2
  gi_loopw [3] (fun i wr => ∃ k : Nat, k ≤ es.length ∧ i = .int .i64 ((k : Int) - 1) ∧ J ((List.range es.length).reverse.take (es.length - k)) wr ∧ Kept3 m o L W wr) (fun i _ => (intOf i + 1).toNat)
  case atStart => exact ⟨es.length, Nat.le_refl _, rfl, by simpa using h0, Kept3.refl _ _ _ _⟩
  case round =>
    obtain ⟨k, hk, rfl, hJw, hkw⟩ := hrel
    have HK := Lib.hid hkw
    clear hkw hcb
    obtain ⟨wo, rfl⟩ : ∃ wo : World, wo = wr := ⟨_, rfl⟩
    cases k with
    | zero =>
      gi_wp2
      go_end0
      exact ⟨⟨_, rfl⟩, .inl ⟨_, by rw [Nat.sub_zero, List.take_of_length_le (by simp)], hJw⟩⟩
    | succ k =>
      have hkl : k < es.length := by omega
      have e1 : ((k + 1 : Nat) : Int) - 1 = (k : Int) := by omega
      rw [e1]
      have hcw : wo.cell? ⟨Bx, 0, none⟩ = some (.slice A es.length cap) := (World.cell?_of_block (HK.out.2 Bx (by omega) hm ho (by omega))).trans ((hbW.cell hBx).trans hbx)
      obtain ⟨eb, eo, rfl, hlow, h1, h2⟩ := HEW.out k hkl
      have g1 : wo.cell? ⟨eb, eo + k * 2, none⟩ = some (.string es[k].1) := (World.cell?_of_block (HK.out.2 eb (by omega) (by omega) (by omega) (by omega))).trans h1
      have g2 : wo.cell? ⟨eb, eo + k * 2 + 1, none⟩ = some (.string es[k].2) := (World.cell?_of_block (HK.out.2 eb (by omega) (by omega) (by omega) (by omega))).trans h2
      have hed : edgeAt es k = es[k] := by simp [edgeAt, List.getD, hkl]
      have hlen : ((List.range es.length).reverse.take (es.length - (k + 1))).length < es.length := by simp; omega
      obtain ⟨fn, tmps, assign, body, hy, hR⟩ := hY _ k wo hJw hlen
      rw [encsE, hed] at hy
      have hki : (k : Int) < (es.length : Int) := by omega
      have hk0 : (0 : Int) ≤ (k : Int) := by omega
      clear h1 h2 hed e1
      gi_wp2
      refine hR.mono ?_
      rintro e W3 (⟨rfl, hJ3, hk3⟩ | ⟨rfl, hJx3, _⟩)
      · have HK3 := Lib.hid (HK.out.trans hk3)
        clear hk3 hy hR hcw g1 g2
        gi_wp2
        go_roundw
        case rel => exact ⟨k, by omega, by go_num, by
          have e : (List.range es.length).reverse.take (es.length - k) = (List.range es.length).reverse.take (es.length - (k + 1)) ++ [k] := by
            rw [show es.length - k = (es.length - (k + 1)) + 1 by omega, List.take_succ_eq_append_getElem (by simp; omega)]
            have : es.length - 1 - (es.length - (k + 1)) = k := by omega
            simp [this]
          rw [e]; exact hJ3, HK3.out⟩
        case measure => simp [intOf]
      · clear hy hR hcw g1 g2
        gi_wp2
        refine bodyPost_ret (results_none rfl _ _ _) rfl ?_
        exact ⟨⟨_, rfl⟩, .inr ⟨_, trivial, hJx3⟩⟩

end Go.Proofs.YtpeafheljcjlhaaGreat
