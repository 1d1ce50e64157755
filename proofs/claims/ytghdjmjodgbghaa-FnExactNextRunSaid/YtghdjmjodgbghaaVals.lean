/- The values of all edges, by the program: an array by edge. -/
import Derived.Test.YtghdjmjodgbghaaCountM
import Derived.Test.YtghdjmjodgbghaaAcy
namespace Go.Proofs.Ytghdjmjodgbghaa
open Go.RowKit

/-- sixteen numbers -/
def arr16 (F : Nat → Nat) : Value := .agg #[.int .i64 ((F 0 : Nat) : Int), .int .i64 ((F 1 : Nat) : Int), .int .i64 ((F 2 : Nat) : Int), .int .i64 ((F 3 : Nat) : Int), .int .i64 ((F 4 : Nat) : Int), .int .i64 ((F 5 : Nat) : Int), .int .i64 ((F 6 : Nat) : Int), .int .i64 ((F 7 : Nat) : Int), .int .i64 ((F 8 : Nat) : Int), .int .i64 ((F 9 : Nat) : Int), .int .i64 ((F 10 : Nat) : Int), .int .i64 ((F 11 : Nat) : Int), .int .i64 ((F 12 : Nat) : Int), .int .i64 ((F 13 : Nat) : Int), .int .i64 ((F 14 : Nat) : Int), .int .i64 ((F 15 : Nat) : Int)]

theorem arr16_row (W : World) (F : Nat → Nat) : (W.alloc (.cells #[.int .i64 ((F 0 : Nat) : Int), .int .i64 ((F 1 : Nat) : Int), .int .i64 ((F 2 : Nat) : Int), .int .i64 ((F 3 : Nat) : Int), .int .i64 ((F 4 : Nat) : Int), .int .i64 ((F 5 : Nat) : Int), .int .i64 ((F 6 : Nat) : Int), .int .i64 ((F 7 : Nat) : Int), .int .i64 ((F 8 : Nat) : Int), .int .i64 ((F 9 : Nat) : Int), .int .i64 ((F 10 : Nat) : Int), .int .i64 ((F 11 : Nat) : Int), .int .i64 ((F 12 : Nat) : Int), .int .i64 ((F 13 : Nat) : Int), .int .i64 ((F 14 : Nat) : Int), .int .i64 ((F 15 : Nat) : Int)] 53)).rowIs W.heap.size 53 16 (fun i => .int .i64 ((F i : Nat) : Int)) := by
  refine World.rowIs_alloc W _ _ _ fun i hi => ?_
  have hi2 : i < 16 := hi
  have h : i = 0 ∨ i = 1 ∨ i = 2 ∨ i = 3 ∨ i = 4 ∨ i = 5 ∨ i = 6 ∨ i = 7 ∨ i = 8 ∨ i = 9 ∨ i = 10 ∨ i = 11 ∨ i = 12 ∨ i = 13 ∨ i = 14 ∨ i = 15 := by omega
  rcases h with rfl | rfl | rfl | rfl | rfl | rfl | rfl | rfl | rfl | rfl | rfl | rfl | rfl | rfl | rfl | rfl <;> rfl

/-- what holds while values are reckoned -/
structure ValsAt (w W : World) (R X M S : Nat) (B : ByteArray) (A : Option Addr) (n cap : Nat) (F : Nat → Nat) (f g : UInt8 → Option Int) : Prop where
  below : Below w.heap.size w W
  net : Two W w.heap.size B A n cap
  arr : W.rowIs X 53 16 (fun i => .int .i64 ((F i : Nat) : Int))
  res : W.rowIs R 53 16 (fun _ => .int .i64 0)
  cnt : NumsIs W M f
  sums : NumsIs W S g
  n1 : w.heap.size < R
  n2 : R < X
  n3 : X < M
  n4 : M < S
  n5 : S < W.heap.size
section
variable {w W W' : World} {R X M S : Nat} {B : ByteArray} {A : Option Addr} {n cap : Nat} {F : Nat → Nat} {f g : UInt8 → Option Int}
theorem ValsAt.go (h : ValsAt w W R X M S B A n cap F f g) (k : Below W.heap.size W W') : ValsAt w W' R X M S B A n cap F f g := by
  have h1 := h.n1; have h2 := h.n2; have h3 := h.n3; have h4 := h.n4; have h5 := h.n5; have hz := k.size
  exact ⟨h.below.trans (k.mono h.below.size), h.net.below k (by omega), h.arr.of_block (k.block X (by omega)), h.res.of_block (k.block R (by omega)), h.cnt.below k (by omega), h.sums.below k (by omega), h1, h2, h3, h4, by omega⟩
theorem ValsAt.set (h : ValsAt w W R X M S B A n cap F f g) {i v : Nat} : ValsAt w (W.setCell ⟨X, i, none⟩ (.int .i64 (v : Int))) R X M S B A n cap (fun j => if j = i then v else F j) f g := by
  have h1 := h.n1; have h2 := h.n2; have h3 := h.n3; have h4 := h.n4; have h5 := h.n5
  have e : ∀ b, b ≠ X → (W.setCell ⟨X, i, none⟩ (.int .i64 (v : Int))).heap[b]? = W.heap[b]? := fun b hb => Below.heap_setCell _ _ _ _ hb
  refine ⟨h.below.setCell (by simp only; omega) _, ⟨(World.cell?_of_block (e w.heap.size (by omega))).trans h.net.1, (World.cell?_of_block (e w.heap.size (by omega))).trans h.net.2⟩, ?_, h.res.of_block (e R (by omega)), h.cnt.of_block (e M (by omega)), h.sums.of_block (e S (by omega)), h1, h2, h3, h4, by simp [World.setCell]; omega⟩
  refine (h.arr.set i (.int .i64 (v : Int))).congr fun j _ => ?_
  by_cases hj : j = i
  · simp [hj]
  · simp [hj]
theorem ValsAt.upd (h : ValsAt w W R X M S B A n cap F f g) {g' : UInt8 → Option Int} (k : W.grownBy W' (some S)) (hs : NumsIs W' S g') : ValsAt w W' R X M S B A n cap F f g' := by
  have h1 := h.n1; have h2 := h.n2; have h3 := h.n3; have h4 := h.n4; have h5 := h.n5; have hz := k.size
  have e : ∀ b, b < W.heap.size → b ≠ S → W'.heap[b]? = W.heap[b]? := fun b hb hm => k.block b hb (by intro e; injection e with e; exact hm e)
  exact ⟨h.below.grown k h.below.size (fun q e => by injection e with e; omega), ⟨(World.cell?_of_block (e w.heap.size (by omega) (by omega))).trans h.net.1, (World.cell?_of_block (e w.heap.size (by omega) (by omega))).trans h.net.2⟩, h.arr.of_block (e X (by omega) (by omega)), h.res.of_block (e R (by omega) (by omega)), h.cnt.of_block (e M (by omega) (by omega)), hs, h1, h2, h3, h4, by omega⟩
end

theorem valE_out {E : Eds} {t : UInt8} {i : Nat} (h : E.length ≤ i) : valE E t i = 0 := by
  unfold valE; rw [List.getElem?_eq_none h]

set_option maxRecDepth 100000 in
set_option maxHeartbeats 8000000 in
/-- impl.edgeValues -/
theorem edgeValues_any (B : ByteArray) (A : Option Addr) (cap : Nat) (es : List (ByteArray × ByteArray)) (O : List UInt8) (e0 t : UInt8) (w : World) (hE : EdgesIn w w.heap.size A es) (hL : Lead B es O e0 t) (hBm : B.size ≤ maxLen) (hW : ∀ b ∈ B.data.toList, Way (ebs es) e0 b) (hall : ∀ b ∈ B.data.toList, b ∈ O) :
    Calls Try.prog 48 #[.agg #[.string B, .slice A es.length cap]] w fun e w' => e = .returned (arr16 (valE (ebs es) t)) ∧ Below w.heap.size w w' := by
  have h16 := hL.few
  have hmm := @run_makeMap Try.prog
  have FM : Hid (∀ W : World, EdgesIn W W.heap.size A es → Calls Try.prog 40 #[.agg #[.string B, .slice A es.length cap]] W (MapPost (ebs es) e0 t W)) := Lib.hid fun W h => countsToExit_any B A cap es O e0 t W h hL hBm
  obtain ⟨W1, hW1⟩ : ∃ W1, W1 = ((w.alloc (.cells #[.string B, .slice A es.length cap] 29)).alloc (.cells #[.int .i64 0, .int .i64 0, .int .i64 0, .int .i64 0, .int .i64 0, .int .i64 0, .int .i64 0, .int .i64 0, .int .i64 0, .int .i64 0, .int .i64 0, .int .i64 0, .int .i64 0, .int .i64 0, .int .i64 0, .int .i64 0] 53)).alloc (.cells #[.int .i64 0, .int .i64 0, .int .i64 0, .int .i64 0, .int .i64 0, .int .i64 0, .int .i64 0, .int .i64 0, .int .i64 0, .int .i64 0, .int .i64 0, .int .i64 0, .int .i64 0, .int .i64 0, .int .i64 0, .int .i64 0] 53) := ⟨_, rfl⟩
  have hb1 : Below w.heap.size w W1 := by rw [hW1]; exact (((Below.refl _ _).alloc (Nat.le_refl _) _).alloc (by simp) _).alloc (by simp; omega) _
  have hz1 : W1.heap.size = w.heap.size + 3 := by rw [hW1]; simp
  have b0 : W1.heap[w.heap.size]? = some (.cells #[.string B, .slice A es.length cap] 29 (0, 0)) := by
    rw [hW1]; exact alloc_old _ _ (alloc_old _ _ (heap_alloc_new _ _))
  have b1 : W1.heap[w.heap.size + 1]? = some (.cells #[.int .i64 0, .int .i64 0, .int .i64 0, .int .i64 0, .int .i64 0, .int .i64 0, .int .i64 0, .int .i64 0, .int .i64 0, .int .i64 0, .int .i64 0, .int .i64 0, .int .i64 0, .int .i64 0, .int .i64 0, .int .i64 0] 53 (0, 0)) := by
    rw [hW1]; exact alloc_old _ _ (alloc_at _ _ (by simp))
  have b2 : W1.heap[w.heap.size + 2]? = some (.cells #[.int .i64 0, .int .i64 0, .int .i64 0, .int .i64 0, .int .i64 0, .int .i64 0, .int .i64 0, .int .i64 0, .int .i64 0, .int .i64 0, .int .i64 0, .int .i64 0, .int .i64 0, .int .i64 0, .int .i64 0, .int .i64 0] 53 (0, 0)) := by
    rw [hW1]; exact alloc_at _ _ (by simp)
  have z16 : ∀ X, W1.heap[X]? = some (.cells #[.int .i64 0, .int .i64 0, .int .i64 0, .int .i64 0, .int .i64 0, .int .i64 0, .int .i64 0, .int .i64 0, .int .i64 0, .int .i64 0, .int .i64 0, .int .i64 0, .int .i64 0, .int .i64 0, .int .i64 0, .int .i64 0] 53 (0, 0)) → W1.rowIs X 53 16 (fun _ => .int .i64 0) := fun X h =>
    ⟨_, h, rfl, fun i hi => by
      have e : (#[.int .i64 0, .int .i64 0, .int .i64 0, .int .i64 0, .int .i64 0, .int .i64 0, .int .i64 0, .int .i64 0, .int .i64 0, .int .i64 0, .int .i64 0, .int .i64 0, .int .i64 0, .int .i64 0, .int .i64 0, .int .i64 0] : Array Value) = (List.replicate 16 (.int .i64 0)).toArray := rfl
      rw [e]; simp only [List.getElem?_toArray, List.getElem?_replicate, hi, if_true]⟩
  have r1 := z16 _ b1
  have x1 := z16 _ b2
  have t1 : Two W1 w.heap.size B A es.length cap := ⟨by simp [World.cell?, b0], by simp [World.cell?, b0]⟩
  have HT1 := Lib.hid t1; have HR1 := Lib.hid r1; have HX1 := Lib.hid x1; have HB1 := Lib.hid hb1
  clear z16 b0 b1 b2 r1 x1 t1 hb1
  go_enter Try.func48, Try.ntmps48
  go_wp2_with fail
  rw [← hW1]
  clear hmm hW1
  refine (FM.out _ ((hE.below HB1.out).more HB1.out.size)).mono ?_
  rintro e w2 ⟨M, f, rfl, hM, hnm, hb2, hcf⟩
  have hb2' := HB1.out.trans (hb2.mono HB1.out.size)
  have hz2 := hb2.size
  have HT2 := Lib.hid (HT1.out.below hb2 (by omega)); have HR2 := Lib.hid (HR1.out.of_block (hb2.block _ (by omega))); have HX2 := Lib.hid (HX1.out.of_block (hb2.block _ (by omega)))
  have hml := hnm.lt
  obtain ⟨W3, hW3⟩ : ∃ W3, w2.alloc (.map #[] 0) = W3 := ⟨_, rfl⟩
  have hb3 : Below w2.heap.size w2 W3 := by rw [← hW3]; exact (Below.refl _ _).alloc (Nat.le_refl _) _
  have hz3 : W3.heap.size = w2.heap.size + 1 := by rw [← hW3]; simp
  have hns : NumsIs W3 w2.heap.size (fun _ => none) := by rw [← hW3]; exact NumsIs.new w2
  have hmm := @run_makeMap Try.prog
  have HV : Hid (ValsAt w W3 (w.heap.size + 1) (w.heap.size + 1 + 1) M w2.heap.size B A es.length cap (fun _ => 0) f (fun _ => none)) := Lib.hid
    ⟨hb2'.trans (hb3.mono (by omega)), HT2.out.below hb3 (by omega), HX2.out.of_block (hb3.block _ (by omega)), HR2.out.of_block (hb3.block _ (by omega)), hnm.below hb3 hml, hns, by omega, by omega, by omega, by omega, by omega⟩
  have HCF : Hid (∀ b ∈ B.data.toList, f b = some ((cntE (ebs es) t b : Nat) : Int)) := Lib.hid fun b hb => hcf b (hW b hb)
  have hd1 := HV.out.net.2
  clear hb2 hb2' hnm hcf hns hb3 HT1 HR1 HX1 HB1 HT2 HR2 HX2
  go_wp2_with fail
  clear hd1 hmm hW3
  obtain ⟨S, hS⟩ : ∃ S, w2.heap.size = S := ⟨_, rfl⟩
  obtain ⟨X, hX⟩ : ∃ X, w.heap.size + 1 + 1 = X := ⟨_, rfl⟩
  obtain ⟨R, hR⟩ : ∃ R, w.heap.size + 1 = R := ⟨_, rfl⟩
  rw [hS, hX, hR] at HV
  rw [hS, hX, hR]
  clear hM hz2 hml hz3 hS hX hR hz1
  go_loopw [14] (fun c wr => ∃ (k : Nat) (g : UInt8 → Option Int), k ≤ es.length ∧ c = .int .i64 k ∧ ValsAt w wr R X M S B A es.length cap (fun i => if i < k then valE (ebs es) t i else 0) f g ∧ ∀ x, (g x).getD 0 = ((sumC (ebs es) (cntE (ebs es) t) x (List.range k) : Nat) : Int)) (fun c _ => es.length - (intOf c).toNat)
  case atStart => exact ⟨0, fun _ => none, Nat.zero_le _, rfl, HV.out, fun x => rfl⟩
  case round =>
    clear HV
    obtain ⟨k, g, hk, rfl, hv, hg⟩ := hrel
    have HG := Lib.hid hg
    have HV := Lib.hid hv
    clear hv hg
    by_cases hlt : k < es.length
    case neg =>
      have hkn : k = es.length := by omega
      have hel : (ebs es).length = es.length := ebs_len es
      have HARR : Hid (wr.rowIs X 53 16 (fun i => .int .i64 ((valE (ebs es) t i : Nat) : Int))) := Lib.hid (HV.out.arr.congr (fun i _ => by
        by_cases hi : i < k
        · rw [if_pos hi]
        · rw [if_neg hi, valE_out (by omega)]))
      have q0 := HARR.out.cell (i := 0) (by omega); have s0 := HV.out.res.cell (i := 0) (by omega); have f0 := HV.out.res.frozen 0
      have q1 := HARR.out.cell (i := 1) (by omega); have s1 := HV.out.res.cell (i := 1) (by omega); have f1 := HV.out.res.frozen 1
      have q2 := HARR.out.cell (i := 2) (by omega); have s2 := HV.out.res.cell (i := 2) (by omega); have f2 := HV.out.res.frozen 2
      have q3 := HARR.out.cell (i := 3) (by omega); have s3 := HV.out.res.cell (i := 3) (by omega); have f3 := HV.out.res.frozen 3
      have q4 := HARR.out.cell (i := 4) (by omega); have s4 := HV.out.res.cell (i := 4) (by omega); have f4 := HV.out.res.frozen 4
      have q5 := HARR.out.cell (i := 5) (by omega); have s5 := HV.out.res.cell (i := 5) (by omega); have f5 := HV.out.res.frozen 5
      have q6 := HARR.out.cell (i := 6) (by omega); have s6 := HV.out.res.cell (i := 6) (by omega); have f6 := HV.out.res.frozen 6
      have q7 := HARR.out.cell (i := 7) (by omega); have s7 := HV.out.res.cell (i := 7) (by omega); have f7 := HV.out.res.frozen 7
      have q8 := HARR.out.cell (i := 8) (by omega); have s8 := HV.out.res.cell (i := 8) (by omega); have f8 := HV.out.res.frozen 8
      have q9 := HARR.out.cell (i := 9) (by omega); have s9 := HV.out.res.cell (i := 9) (by omega); have f9 := HV.out.res.frozen 9
      have q10 := HARR.out.cell (i := 10) (by omega); have s10 := HV.out.res.cell (i := 10) (by omega); have f10 := HV.out.res.frozen 10
      have q11 := HARR.out.cell (i := 11) (by omega); have s11 := HV.out.res.cell (i := 11) (by omega); have f11 := HV.out.res.frozen 11
      have q12 := HARR.out.cell (i := 12) (by omega); have s12 := HV.out.res.cell (i := 12) (by omega); have f12 := HV.out.res.frozen 12
      have q13 := HARR.out.cell (i := 13) (by omega); have s13 := HV.out.res.cell (i := 13) (by omega); have f13 := HV.out.res.frozen 13
      have q14 := HARR.out.cell (i := 14) (by omega); have s14 := HV.out.res.cell (i := 14) (by omega); have f14 := HV.out.res.frozen 14
      have q15 := HARR.out.cell (i := 15) (by omega); have s15 := HV.out.res.cell (i := 15) (by omega); have f15 := HV.out.res.frozen 15
      obtain ⟨v0, e0⟩ : ∃ v0 : Int, ((valE (ebs es) t 0 : Nat) : Int) = v0 := ⟨_, rfl⟩
      obtain ⟨v1, e1⟩ : ∃ v1 : Int, ((valE (ebs es) t 1 : Nat) : Int) = v1 := ⟨_, rfl⟩
      obtain ⟨v2, e2⟩ : ∃ v2 : Int, ((valE (ebs es) t 2 : Nat) : Int) = v2 := ⟨_, rfl⟩
      obtain ⟨v3, e3⟩ : ∃ v3 : Int, ((valE (ebs es) t 3 : Nat) : Int) = v3 := ⟨_, rfl⟩
      obtain ⟨v4, e4⟩ : ∃ v4 : Int, ((valE (ebs es) t 4 : Nat) : Int) = v4 := ⟨_, rfl⟩
      obtain ⟨v5, e5⟩ : ∃ v5 : Int, ((valE (ebs es) t 5 : Nat) : Int) = v5 := ⟨_, rfl⟩
      obtain ⟨v6, e6⟩ : ∃ v6 : Int, ((valE (ebs es) t 6 : Nat) : Int) = v6 := ⟨_, rfl⟩
      obtain ⟨v7, e7⟩ : ∃ v7 : Int, ((valE (ebs es) t 7 : Nat) : Int) = v7 := ⟨_, rfl⟩
      obtain ⟨v8, e8⟩ : ∃ v8 : Int, ((valE (ebs es) t 8 : Nat) : Int) = v8 := ⟨_, rfl⟩
      obtain ⟨v9, e9⟩ : ∃ v9 : Int, ((valE (ebs es) t 9 : Nat) : Int) = v9 := ⟨_, rfl⟩
      obtain ⟨v10, e10⟩ : ∃ v10 : Int, ((valE (ebs es) t 10 : Nat) : Int) = v10 := ⟨_, rfl⟩
      obtain ⟨v11, e11⟩ : ∃ v11 : Int, ((valE (ebs es) t 11 : Nat) : Int) = v11 := ⟨_, rfl⟩
      obtain ⟨v12, e12⟩ : ∃ v12 : Int, ((valE (ebs es) t 12 : Nat) : Int) = v12 := ⟨_, rfl⟩
      obtain ⟨v13, e13⟩ : ∃ v13 : Int, ((valE (ebs es) t 13 : Nat) : Int) = v13 := ⟨_, rfl⟩
      obtain ⟨v14, e14⟩ : ∃ v14 : Int, ((valE (ebs es) t 14 : Nat) : Int) = v14 := ⟨_, rfl⟩
      obtain ⟨v15, e15⟩ : ∃ v15 : Int, ((valE (ebs es) t 15 : Nat) : Int) = v15 := ⟨_, rfl⟩
      rw [e0] at q0; rw [e1] at q1; rw [e2] at q2; rw [e3] at q3; rw [e4] at q4; rw [e5] at q5; rw [e6] at q6; rw [e7] at q7; rw [e8] at q8; rw [e9] at q9; rw [e10] at q10; rw [e11] at q11; rw [e12] at q12; rw [e13] at q13; rw [e14] at q14; rw [e15] at q15
      have HRES : Hid (arr16 (valE (ebs es) t) = .agg #[.int .i64 v0, .int .i64 v1, .int .i64 v2, .int .i64 v3, .int .i64 v4, .int .i64 v5, .int .i64 v6, .int .i64 v7, .int .i64 v8, .int .i64 v9, .int .i64 v10, .int .i64 v11, .int .i64 v12, .int .i64 v13, .int .i64 v14, .int .i64 v15]) := Lib.hid (by unfold arr16; rw [e0, e1, e2, e3, e4, e5, e6, e7, e8, e9, e10, e11, e12, e13, e14, e15])
      clear e0 e1 e2 e3 e4 e5 e6 e7 e8 e9 e10 e11 e12 e13 e14 e15 hel hkn
      go_wp2_with fail
      have hbR : ∀ (W : World) (k : Nat) (u : Value), Below w.heap.size w W → Below w.heap.size w (W.setCell ⟨R, k, none⟩ u) := fun W k u h => h.setCell (by have := HV.out.n1; simp only; omega) _
      refine bodyPost_ret (v := .agg #[.int .i64 v0, .int .i64 v1, .int .i64 v2, .int .i64 v3, .int .i64 v4, .int .i64 v5, .int .i64 v6, .int .i64 v7, .int .i64 v8, .int .i64 v9, .int .i64 v10, .int .i64 v11, .int .i64 v12, .int .i64 v13, .int .i64 v14, .int .i64 v15]) (by simp [results, Try.results48, go_sem, s0, s1, s2, s3, s4, s5, s6, s7, s8, s9, s10, s11, s12, s13, s14, s15]) rfl ⟨by rw [HRES.out], ?_⟩
      exact hbR _ _ _ (hbR _ _ _ (hbR _ _ _ (hbR _ _ _ (hbR _ _ _ (hbR _ _ _ (hbR _ _ _ (hbR _ _ _ (hbR _ _ _ (hbR _ _ _ (hbR _ _ _ (hbR _ _ _ (hbR _ _ _ (hbR _ _ _ (hbR _ _ _ (hbR _ _ _ (HV.out.below))))))))))))))))
    obtain ⟨x, y, he, h1, h2, hxl, hyl⟩ := edge_letters hL.lets hlt
    obtain ⟨eb, eo, rfl, hlow, q1, q2⟩ := (hE.below HV.out.below) k hlt
    rw [h1] at q1
    rw [h2] at q2
    have HE1 := Lib.hid he
    obtain ⟨r, htr, hr7⟩ := topo_at hL.topo hL.eight (hall x hxl)
    obtain ⟨r2, htr2, hr72⟩ := topo_at hL.topo hL.eight (hall y hyl)
    obtain ⟨c1, hc1⟩ : ∃ c1 : Nat, sumC (ebs es) (cntE (ebs es) t) x (List.range k) = c1 := ⟨_, rfl⟩
    obtain ⟨c2, hc2⟩ : ∃ c2 : Nat, cntE (ebs es) t y = c2 := ⟨_, rfl⟩
    have hcb : c1 + c2 ≤ 8589934592 := by
      have h1 := sumC_few (t := t) (by rw [ebs_len]; exact h16) htr hr7 (show k ≤ 16 by omega)
      have h2 : cntE (ebs es) t y ≤ 268435456 := cntE_few (by rw [ebs_len]; exact h16) htr2 hr72
      omega
    have HVK : Hid (valE (ebs es) t k = c1) := Lib.hid (by rw [valE_eq he, hc1])
    have HRS : Hid (∀ z, sumC (ebs es) (cntE (ebs es) t) z (List.range (k + 1)) = if z = x then c1 + c2 else sumC (ebs es) (cntE (ebs es) t) z (List.range k)) := Lib.hid fun z => by
      rw [sumC_range]
      by_cases hz : z = x
      · subst hz; rw [if_pos rfl, stepC_yes he, hc1, hc2]
      · rw [if_neg hz, stepC_no he (fun e => hz e.symm), Nat.add_zero]
    have hgx : (g x).getD 0 = (c1 : Int) := by rw [HG.out x, hc1]
    have hfy : (f y).getD 0 = (c2 : Int) := by rw [HCF.out y hyl, Option.getD_some, hc2]
    -- the edge in its box, the value stored, the sum put
    have HVA : Hid (ValsAt w (wr.alloc (.cells #[.string ⟨#[x]⟩, .string ⟨#[y]⟩] 62)) R X M S B (some ⟨eb, eo, none⟩) es.length cap (fun i => if i < k then valE (ebs es) t i else 0) f g) := Lib.hid (HV.out.go ((Below.refl _ _).alloc (Nat.le_refl _) _))
    have HVB : Hid (ValsAt w ((wr.alloc (.cells #[.string ⟨#[x]⟩, .string ⟨#[y]⟩] 62)).setCell ⟨X, k, none⟩ (.int .i64 (c1 : Int))) R X M S B (some ⟨eb, eo, none⟩) es.length cap (fun j => if j = k then c1 else if j < k then valE (ebs es) t j else 0) f g) := Lib.hid HVA.out.set
    have hk16 : k < 16 := by omega
    have hlka := HVA.out.sums.lookup (P := Try.prog) (kt := 9) (t := 49) (e := 3) Try.underlying9 Try.underlying49 (by kernel_rfl) x
    rw [hgx] at hlka
    have hlkb := HVB.out.sums.lookup (P := Try.prog) (kt := 9) (t := 49) (e := 3) Try.underlying9 Try.underlying49 (by kernel_rfl) x
    rw [hgx] at hlkb
    have hlkc := HVB.out.cnt.lookup (P := Try.prog) (kt := 9) (t := 49) (e := 3) Try.underlying9 Try.underlying49 (by kernel_rfl) y
    rw [hfy] at hlkc
    have ca := HVA.out.arr.cell (i := k) hk16
    have fa := HVA.out.arr.frozen k
    have i1 : (0 : Int) ≤ (k : Int) := by omega
    have i2 : (k : Int) < 16 := by omega
    have z1 : IntKind.i64.wrap ((c1 : Int) + (c2 : Int)) = (c1 : Int) + (c2 : Int) := IntWalk.i64_in _ (by omega)
    obtain ⟨w4, hrun, hset4, hg4⟩ := HVB.out.sums.update (P := Try.prog) (kt := 9) (t := 49) (e := 3) Try.underlying9 Try.underlying49 x ((c1 : Int) + (c2 : Int))
    have HV4 : Hid (ValsAt w w4 R X M S B (some ⟨eb, eo, none⟩) es.length cap (fun i => if i < k + 1 then valE (ebs es) t i else 0) f (fun z => if z = x then some ((c1 : Int) + (c2 : Int)) else g z)) := Lib.hid (by
      have h := HVB.out.upd hg4 hset4
      refine ⟨h.below, h.net, h.arr.congr fun i _ => ?_, h.res, h.cnt, h.sums, h.n1, h.n2, h.n3, h.n4, h.n5⟩
      by_cases hik : i = k
      · subst hik; rw [if_pos rfl, if_pos (by omega), HVK.out]
      · by_cases hi : i < k
        · rw [if_neg hik, if_pos hi, if_pos (by omega)]
        · rw [if_neg hik, if_neg hi, if_neg (by omega)])
    have HG4 : Hid (∀ z, ((fun z => if z = x then some ((c1 : Int) + (c2 : Int)) else g z) z).getD 0 = ((sumC (ebs es) (cntE (ebs es) t) z (List.range (k + 1)) : Nat) : Int)) := Lib.hid fun z => by
      rw [HRS.out z]
      by_cases hz : z = x
      · simp only [hz, if_true, Option.getD_some]; rw [Int.natCast_add]
      · simp only [hz, if_false]; exact HG.out z
    have cf : (wr.alloc (.cells #[.string ⟨#[x]⟩, .string ⟨#[y]⟩] 62)).cell? ⟨wr.heap.size, 0, none⟩ = some (.string ⟨#[x]⟩) := by go_simp
    have ct : (wr.alloc (.cells #[.string ⟨#[x]⟩, .string ⟨#[y]⟩] 62)).cell? ⟨wr.heap.size, 1, none⟩ = some (.string ⟨#[y]⟩) := by go_simp
    have hXlt : X ≠ wr.heap.size := by have := HV.out.n3; have := HV.out.n4; have := HV.out.n5; omega
    clear he h1 h2 htr htr2 hc1 hc2 hcb hgx hfy hset4 hg4
    go_wp2_with fail
    exact ⟨⟨k + 1, _, by omega, by go_num, HV4.out, HG4.out⟩, by simp [intOf]; omega⟩

end Go.Proofs.Ytghdjmjodgbghaa
