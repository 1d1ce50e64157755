/- Steps by the program. -/
import Derived.Test.YtjfdkhaepmmlfaaZ6H
import Derived.Test.YtjfdkhaepmmlfaaZ6V
import Derived.Test.YtjfdkhaepmmlfaaZ6W
import Derived.BigQuiet
namespace Go.Proofs.Ytjfdkhaepmmlfaa
open Go.RowKit

/-- eight numbers, as cells -/
def vals8 (H : Nat → Int) : List Value := [.int .i64 (H 0), .int .i64 (H 1), .int .i64 (H 2), .int .i64 (H 3), .int .i64 (H 4), .int .i64 (H 5), .int .i64 (H 6), .int .i64 (H 7)]
/-- a net with a tree, as cells -/
def tnC (B : ByteArray) (A : Option Addr) (n cap : Nat) (F : Nat → Nat) (H : Nat → Int) : List Value := [.string B, .slice A n cap] ++ (vals16 F ++ vals8 H)
theorem tnC_len (B : ByteArray) (A : Option Addr) (n cap : Nat) (F : Nat → Nat) (H : Nat → Int) : (tnC B A n cap F H).length = 26 := rfl

/-- what is handed back: a net with its values and the heights of its blocks -/
def TnetPost (B : ByteArray) (A : Option Addr) (n cap : Nat) (F : Nat → Nat) (G : UInt8 → Int) (w : World) (e : Ending) (w' : World) : Prop :=
  ∃ H : Nat → Int, e = .returned (.agg (tnC B A n cap F H).toArray) ∧ (∀ x ∈ B.data.toList, H (idxL B.data.toList x) = G x) ∧ Below w.heap.size w w'

theorem valE_all {B : ByteArray} {es : List (ByteArray × ByteArray)} {O : List UInt8} (h : Acy B es O) (k : Nat) : valE (ebs es) (exit_ B.data.toList) k ≤ 4294967296 := by
  by_cases hk : k < es.length
  · exact valE_few' h hk
  · rw [valE_out (by rw [ebs_len]; omega)]; omega

section
variable {w : World} {P : Program}
/-- a store of a whole struct, where a region draws its order -/
theorem step_store_mid {ops : Array Oper} {o : Oper} {a : Act} {K : Act → World → Prop} {Q : Exit → Act → World → Prop} {E : Prop} (hgd : o.guard = none) (ty : TypeId) (x y : Operand) (ho : o.op = .store ty x y)
    (b off : Nat) (cells : Array Value) (hx : a.eval x = .pointer (some ⟨b, off, none⟩)) (hy : a.eval y = .agg cells) (ht : w.there b off cells.size) (hi : (P.info? ty).map (·.size) = some cells.size) (h1 : cells.all (·.oneCell') = true)
    (h : K (a.put o.dst undef) (w.setCells b off cells.toList)) :
    if Region.wanted o (yielded ops a.tmps) = true then Oper.wp P o a w K Q else E := by
  have hw : Region.wanted o (yielded ops a.tmps) = true := by simp [Region.wanted, hgd]
  rw [if_pos hw]
  exact wp_store_mid ty x y ho b off cells hx hy ht hi h1 h
end
theorem setCells_below {B : Nat} {a w : World} (_ : Below B a w) {b : Nat} (hb : B ≤ b) : ∀ (vs : List Value) (o : Nat) (w : World), Below B a w → Below B a (w.setCells b o vs)
  | [], _, _, h => h
  | v :: vs, o, w, h => by
    rw [World.setCells]
    exact setCells_below h hb vs (o + 1) _ (h.setCell hb v)

/-- a net with a tree, as it lies in a block of its own -/
structure TnAt (W : World) (p : Nat) (cs : List Value) : Prop where
  rg : W.rangeAt p 0 cs
  th : W.there p 0 26
theorem TnAt.below {W W' : World} {B p : Nat} {cs : List Value} (h : TnAt W p cs) (k : Below B W W') (hp : p < B) : TnAt W' p cs :=
  ⟨fun j v hv => (k.cell hp).trans (h.rg j v hv), fun j hj => ⟨by rw [k.cell hp]; exact (h.th j hj).1, by rw [k.frozen hp]; exact (h.th j hj).2⟩⟩
theorem TnAt.cell {W : World} {p : Nat} {cs : List Value} (h : TnAt W p cs) {j : Nat} {v : Value} (hv : cs[j]? = some v) : W.cell? ⟨p, j, none⟩ = some v := by
  have := h.rg j v hv
  rwa [Nat.zero_add] at this
theorem TnAt.frozen {W : World} {p : Nat} {cs : List Value} (h : TnAt W p cs) {j : Nat} (hj : j < 26) : W.frozen? ⟨p, j, none⟩ = false := by
  have := (h.th j hj).2
  rwa [Nat.zero_add] at this
theorem TnAt.new (W : World) (cs : List Value) (hl : cs.length = 26) : TnAt (W.alloc (.cells cs.toArray 71)) W.heap.size cs := by
  have hg : (W.alloc (.cells cs.toArray 71)).heap[W.heap.size]? = some (.cells cs.toArray 71 (0, 0)) := heap_alloc_new _ _
  have hc : ∀ j v, cs[j]? = some v → (W.alloc (.cells cs.toArray 71)).cell? ⟨W.heap.size, 0 + j, none⟩ = some v := fun j v hv => by
    rw [Nat.zero_add, cell_of_row _ _ _ _ _ _ hg]; simpa using hv
  refine ⟨hc, fun j hj => ⟨?_, ?_⟩⟩
  · rw [hc j _ (List.getElem?_eq_getElem (by omega))]; rfl
  · obtain ⟨W', hW'⟩ : ∃ W', W.alloc (.cells cs.toArray 71) = W' := ⟨_, rfl⟩
    rw [hW'] at hg ⊢
    simp [World.frozen?, hg]
theorem TnAt.put {W : World} {p : Nat} {cs vs : List Value} (h : TnAt W p cs) (hl : vs.length = 26) : TnAt (W.setCells p 0 vs) p vs :=
  ⟨World.rangeAt_setCells_same _ _ _ _ (by rw [hl]; exact h.th), World.there_setCells h.th _ _ _⟩

theorem results_cell_mid {P : Program} {fn : Func} {p : Tmp} {ty : TypeId} (h : fn.results = #[.cell p ty]) (tmps : Array Value) (w : World) (g : Nat) (cs : List Value) (d : TypeDesc)
    (hp : tmps.getD p undef = .pointer (some ⟨g, 0, none⟩)) (hc : w.rangeAt g 0 cs) (hu : P.underlying ty = some d) (hd : d.isRow = true) (hi : (P.info? ty).map (·.size) = some cs.length) :
    (results fn tmps).run P w = .ok (.agg cs.toArray) w := by
  have hp' : tmps[p]?.getD undef = .pointer (some ⟨g, 0, none⟩) := by simpa using hp
  simp [results, h, hp', asAddr, run_loadVar_mid w g 0 ty cs d hc hu hd hi]
theorem range_part {W : World} {p o : Nat} {a b c : List Value} (h : W.rangeAt p 0 (a ++ (b ++ c))) (ho : o = a.length) : W.rangeAt p o b := fun j v hv => by
  have hj : j < b.length := (List.getElem?_eq_some_iff.1 hv).1
  have := h (o + j) v (by rw [List.getElem?_append_right (by omega), List.getElem?_append_left (by omega), ho, Nat.add_sub_cancel_left]; exact hv)
  rwa [Nat.zero_add] at this
theorem there_part {W : World} {p o n m : Nat} (h : W.there p 0 n) (ho : o + m ≤ n) : W.there p o m := fun j hj => by
  have := h (o + j) (by omega)
  rwa [Nat.zero_add] at this
/-- the last part put anew -/
theorem TnAt.last {W : World} {p o : Nat} {a c c' : List Value} (h : TnAt W p (a ++ c)) (ho : o = a.length) (hl : c'.length = c.length) (h26 : a.length + c.length = 26) : TnAt (W.setCells p o c') p (a ++ c') := by
  have ht : W.there p o c'.length := there_part h.th (by omega)
  refine ⟨fun j v hv => ?_, World.there_setCells h.th _ _ _⟩
  rw [Nat.zero_add]
  by_cases hj : j < a.length
  · rw [List.getElem?_append_left hj] at hv
    have h0 := h.rg j v (by rw [List.getElem?_append_left hj]; exact hv)
    rw [Nat.zero_add] at h0
    rw [World.cell?_setCells_out p c' o W ⟨p, j, none⟩ (fun _ _ => by left; show j < o; omega)]
    exact h0
  · rw [List.getElem?_append_right (by omega)] at hv
    have h0 := World.rangeAt_setCells_same W p o c' ht (j - a.length) v hv
    rwa [show o + (j - a.length) = j by omega] at h0

theorem tnC_split (B : ByteArray) (A : Option Addr) (n cap : Nat) (F : Nat → Nat) (H : Nat → Int) : tnC B A n cap F H = ([.string B, .slice A n cap] ++ vals16 F) ++ vals8 H := by unfold tnC; rw [List.append_assoc]
theorem tnC_one (B : ByteArray) (A : Option Addr) (n cap : Nat) (F : Nat → Nat) (H : Nat → Int) : ∀ v ∈ tnC B A n cap F H, v.oneCell' = true := by
  intro v hv
  unfold tnC vals16 vals8 at hv
  simp only [List.cons_append, List.nil_append, List.mem_cons, List.not_mem_nil, or_false] at hv
  rcases hv with rfl | rfl | rfl | rfl | rfl | rfl | rfl | rfl | rfl | rfl | rfl | rfl | rfl | rfl | rfl | rfl | rfl | rfl | rfl | rfl | rfl | rfl | rfl | rfl | rfl | rfl <;> rfl
theorem tn_last {W : World} {p : Nat} {B : ByteArray} {A : Option Addr} {n cap : Nat} {F : Nat → Nat} {H0 H : Nat → Int} (h : TnAt W p (tnC B A n cap F H0)) : TnAt (W.setCells p 18 (vals8 H)) p (tnC B A n cap F H) := by
  rw [tnC_split] at h ⊢
  exact TnAt.last h rfl rfl rfl

set_option maxRecDepth 100000 in
set_option maxHeartbeats 4000000 in
/-- impl.treeNetOf -/
theorem treeNetOf_any (B : ByteArray) (A : Option Addr) (cap : Nat) (es : List (ByteArray × ByteArray)) (t : ByteArray) (w : World) (hs : B.size ≤ maxLen) (hE : EdgesIn w w.heap.size A es) (hl : es.length ≤ 1099511627776) (hv : treeV B es t = true) (ha : acycV B es = true) :
    Calls Try.prog 39 #[.agg #[.string B, .slice A es.length cap], .string t] w (TnetPost B A es.length cap (valE (ebs es) (exit_ B.data.toList)) (hgtB B es t (valE (ebs es) (exit_ B.data.toList))) w) := by
  have hF := valE_all (acy_v ha)
  have FV : Hid (∀ W : World, EdgesIn W W.heap.size A es → Calls Try.prog 75 #[.agg #[.string B, .slice A es.length cap]] W fun e w' => e = .returned (arr16 (valE (ebs es) (exit_ B.data.toList))) ∧ Below W.heap.size W w') := Lib.hid fun W h => values_acy ha hs W h
  obtain ⟨F, hFe⟩ : ∃ F, valE (ebs es) (exit_ B.data.toList) = F := ⟨_, rfl⟩
  rw [hFe] at FV hF ⊢
  have FH : Hid (∀ W : World, EdgesIn W W.heap.size A es → Calls Try.prog 76 #[.agg #[.string B, .slice A es.length cap], .string t, arr16 F] W (HgtsPost B.data.toList (hgtB B es t F) W)) := Lib.hid fun W h => heightsIn_any B A cap es t F W hs h hl hv hF
  have hb1 : Below w.heap.size w ((w.alloc (.cells #[.string B, .slice A es.length cap] 30)).alloc (.cells (tnC ⟨#[]⟩ none 0 0 (fun _ => 0) (fun _ => 0)).toArray 71)) := ((Below.refl _ _).alloc (Nat.le_refl _) _).alloc (by simp) _
  have t1 : Two ((w.alloc (.cells #[.string B, .slice A es.length cap] 30)).alloc (.cells (tnC ⟨#[]⟩ none 0 0 (fun _ => 0) (fun _ => 0)).toArray 71)) w.heap.size B A es.length cap := ⟨by go_simp, by go_simp⟩
  obtain ⟨W1, hW1⟩ : ∃ W1, (w.alloc (.cells #[.string B, .slice A es.length cap] 30)).alloc (.cells (tnC ⟨#[]⟩ none 0 0 (fun _ => 0) (fun _ => 0)).toArray 71) = W1 := ⟨_, rfl⟩
  have hz1 : W1.heap.size = w.heap.size + 2 := by rw [← hW1]; simp
  have r1 : W1.heap[w.heap.size + 1]? = some (.cells (tnC ⟨#[]⟩ none 0 0 (fun _ => 0) (fun _ => 0)).toArray 71 (0, 0)) := by rw [← hW1]; exact alloc_at _ _ (by simp)
  rw [hW1] at hb1 t1
  have hrt : TnAt W1 (w.heap.size + 1) (tnC ⟨#[]⟩ none 0 0 (fun _ => 0) (fun _ => 0)) := by
    have := TnAt.new (w.alloc (.cells #[.string B, .slice A es.length cap] 30)) (tnC ⟨#[]⟩ none 0 0 (fun _ => 0) (fun _ => 0)) rfl
    rw [World.size_alloc] at this
    rw [← hW1]; exact this
  have HRT := Lib.hid hrt
  clear hrt
  have HW1 := Lib.hid hW1; have HZ1 := Lib.hid hz1; have HR1 := Lib.hid r1; have HB1 := Lib.hid hb1; have HT1 := Lib.hid t1
  clear hs hl hv ha hF hFe hb1 t1 hW1 hz1 r1
  unfold arr16 at FV
  go_enter Try.func39, Try.ntmps39
  go_wp2_with fail
  have hw := HW1.out
  unfold tnC vals16 vals8 at hw
  simp only [List.cons_append, List.nil_append, Int.natCast_zero] at hw
  rw [hw]
  clear hw
  have HSS : Hid (∀ W, Below W1.heap.size W1 W → (W.cell? ⟨w.heap.size, 0, none⟩ = some (.string B) ∧ W.cell? ⟨w.heap.size, 1, none⟩ = some (.slice A es.length cap))) := Lib.hid fun W h =>
    ⟨(h.cell (by have := HZ1.out; simp only; omega)).trans HT1.out.1, (h.cell (by have := HZ1.out; simp only; omega)).trans HT1.out.2⟩
  have HEA : Hid (∀ W, Below W1.heap.size W1 W → EdgesIn W W.heap.size A es) := Lib.hid fun W h => (hE.below (HB1.out.trans (h.mono HB1.out.size))).more (HB1.out.trans (h.mono HB1.out.size)).size
  refine wp_region_noPanic ?_
  refine wp_region_held_drew (S := fun W => W.cell? ⟨w.heap.size, 0, none⟩ = some (.string B) ∧ W.cell? ⟨w.heap.size, 1, none⟩ = some (.slice A es.length cap)) (by kernel_rfl) (HSS.out _ (Below.refl _ _).drew) (fun hHeld => ?_)
  refine wpAnyH_take (i := 0) (v := .agg #[.string B, .slice A es.length cap]) rfl (by kernel_rfl) (by kernel_rfl) (by kernel_rfl) (fun _ _ _ h => h) (Or.inl ⟨by rfl, by intro w hSw; go_split_ands; go_simp⟩) (by assumption) ?_
  simp only [Act.put, List.setIfInBounds_toArray]
  refine wpAnyH_take (i := 1) (v := .agg #[.string B, .slice A es.length cap]) rfl (by kernel_rfl) (by kernel_rfl) (by kernel_rfl) (fun _ _ _ h => h) (Or.inl ⟨by rfl, by intro w hSw; go_split_ands; go_simp⟩) (by assumption) ?_
  simp only [Act.put]
  refine wpAnyH_ready (rs := [2, 4]) (by kernel_rfl) (by simp) ?_
  refine AllReadyH.cons rfl (fun K hK => ?_) (AllReadyH.cons rfl (fun K hK => ?_) AllReadyH.nil)
  · go_simp
    refine (FV.out _ (HEA.out _ (Below.drew (Below.refl _ _)))).mono ?_
    rintro e w2 ⟨rfl, hb2⟩
    have HB2 : Hid (Below W1.heap.size W1 w2) := Lib.hid ((Below.refl _ _).drew.trans hb2)
    clear hb2
    go_wp2_with fail
    refine hK.out _ _ (HSS.out _ HB2.out) (fun hHeld => ?_)
    clear hK K
    try simp only [Act.put, List.setIfInBounds_toArray, List.set_cons_zero, List.set_cons_succ]
    refine wpAnyH_take (i := 3) (v := .agg #[.string B, .slice A es.length cap, .int .i64 ((F 0 : Nat) : Int), .int .i64 ((F 1 : Nat) : Int), .int .i64 ((F 2 : Nat) : Int), .int .i64 ((F 3 : Nat) : Int), .int .i64 ((F 4 : Nat) : Int), .int .i64 ((F 5 : Nat) : Int), .int .i64 ((F 6 : Nat) : Int), .int .i64 ((F 7 : Nat) : Int), .int .i64 ((F 8 : Nat) : Int), .int .i64 ((F 9 : Nat) : Int), .int .i64 ((F 10 : Nat) : Int), .int .i64 ((F 11 : Nat) : Int), .int .i64 ((F 12 : Nat) : Int), .int .i64 ((F 13 : Nat) : Int), .int .i64 ((F 14 : Nat) : Int), .int .i64 ((F 15 : Nat) : Int), .int .i64 0, .int .i64 0, .int .i64 0, .int .i64 0, .int .i64 0, .int .i64 0, .int .i64 0, .int .i64 0]) rfl (by kernel_rfl) (by kernel_rfl) (by kernel_rfl) (fun _ _ _ h => h) (Or.inl ⟨by rfl, by intro w hSw; go_simp⟩) (by assumption) ?_
    try simp only [Act.put, List.setIfInBounds_toArray]
    refine wpAnyH_ready (rs := [4]) (by kernel_rfl) (by simp) ?_
    refine AllReadyH.cons rfl (fun K hK => ?_) AllReadyH.nil
    go_simp
    refine hK.out _ _ (HSS.out _ (HB2.out.alloc HB2.out.size _)) (fun hHeld => ?_)
    clear hK K
    try simp only [Act.put, List.setIfInBounds_toArray, List.set_cons_zero, List.set_cons_succ]
    have HBX : Hid (Below W1.heap.size W1 (w2.alloc (.cells (tnC ⟨#[]⟩ none 0 0 (fun _ => 0) (fun _ => 0)).toArray 71))) := Lib.hid (HB2.out.alloc HB2.out.size _)
    have HTX := Lib.hid (TnAt.new w2 (tnC ⟨#[]⟩ none 0 0 (fun _ => 0) (fun _ => 0)) rfl)
    have HPX : Hid (W1.heap.size ≤ w2.heap.size) := Lib.hid HB2.out.size
    refine wpAnyH_ready (rs := [5]) (by kernel_rfl) (by simp) ?_
    refine AllReadyH.cons rfl (fun K hK => ?_) AllReadyH.nil
    refine step_store_mid rfl 71 (.tmp 5) (.tmp 9) rfl w2.heap.size 0 #[.string B, .slice A es.length cap, .int .i64 ((F 0 : Nat) : Int), .int .i64 ((F 1 : Nat) : Int), .int .i64 ((F 2 : Nat) : Int), .int .i64 ((F 3 : Nat) : Int), .int .i64 ((F 4 : Nat) : Int), .int .i64 ((F 5 : Nat) : Int), .int .i64 ((F 6 : Nat) : Int), .int .i64 ((F 7 : Nat) : Int), .int .i64 ((F 8 : Nat) : Int), .int .i64 ((F 9 : Nat) : Int), .int .i64 ((F 10 : Nat) : Int), .int .i64 ((F 11 : Nat) : Int), .int .i64 ((F 12 : Nat) : Int), .int .i64 ((F 13 : Nat) : Int), .int .i64 ((F 14 : Nat) : Int), .int .i64 ((F 15 : Nat) : Int), .int .i64 0, .int .i64 0, .int .i64 0, .int .i64 0, .int .i64 0, .int .i64 0, .int .i64 0, .int .i64 0] rfl rfl HTX.out.th (by kernel_rfl) (by simp [Value.oneCell']) ?_
    refine hK.out _ _ (HSS.out _ (setCells_below HBX.out HPX.out _ _ _ HBX.out)) (fun hHeld => ?_)
    clear hK K
    have HTN := Lib.hid (HTX.out.put (vs := tnC B A es.length cap F (fun _ => 0)) rfl)
    have HB3 := Lib.hid (setCells_below HBX.out HPX.out (tnC B A es.length cap F (fun _ => 0)) 0 _ HBX.out)
    refine wpAnyH_done (by kernel_rfl) (NoPanic.normal ?_) _
    generalize hw3 : World.setCells _ _ _ #[.string B, .slice A es.length cap, .int .i64 ((F 0 : Nat) : Int), .int .i64 ((F 1 : Nat) : Int), .int .i64 ((F 2 : Nat) : Int), .int .i64 ((F 3 : Nat) : Int), .int .i64 ((F 4 : Nat) : Int), .int .i64 ((F 5 : Nat) : Int), .int .i64 ((F 6 : Nat) : Int), .int .i64 ((F 7 : Nat) : Int), .int .i64 ((F 8 : Nat) : Int), .int .i64 ((F 9 : Nat) : Int), .int .i64 ((F 10 : Nat) : Int), .int .i64 ((F 11 : Nat) : Int), .int .i64 ((F 12 : Nat) : Int), .int .i64 ((F 13 : Nat) : Int), .int .i64 ((F 14 : Nat) : Int), .int .i64 ((F 15 : Nat) : Int), .int .i64 0, .int .i64 0, .int .i64 0, .int .i64 0, .int .i64 0, .int .i64 0, .int .i64 0, .int .i64 0].toList = w3 at ⊢
    obtain ⟨p, hp⟩ : ∃ p, w2.heap.size = p := ⟨_, rfl⟩
    have HTN3 : Hid (TnAt w3 p (tnC B A es.length cap F (fun _ => 0))) := Lib.hid (by rw [← hw3, ← hp]; exact HTN.out)
    have HB3' : Hid (Below W1.heap.size W1 w3) := Lib.hid (by rw [← hw3]; exact HB3.out)
    have HP3 : Hid (W1.heap.size ≤ p) := Lib.hid (by rw [← hp]; exact HPX.out)
    rw [hp]
    clear hw3 hp HTN HB3 HPX HTX HBX
    clear hHeld
    have hp3 : p < w3.heap.size := World.block_lt_of_cell? w3 _ (HTN3.out.cell (j := 0) rfl)
    have hd0 := (HSS.out w3 HB3'.out).1; have hd1 := (HSS.out w3 HB3'.out).2
    have HV3 : Hid (w3.rangeAt p 2 (vals16 F)) := Lib.hid (range_part (a := [.string B, .slice A es.length cap]) HTN3.out.rg rfl)
    go_wp2_with (first
      | (refine wpList_load_mid (op := ⟨some 13, .load 69 (.tmp 12), _, _, _, _⟩) rfl 69 (.tmp 12) rfl p 2 rfl (vals16 F) _ HV3.out Try.underlying69 rfl (by kernel_rfl) ?_))
    refine (FH.out _ (HEA.out _ HB3'.out)).mono ?_
    rintro e w4 ⟨H, rfl, hH, hb4⟩
    have HTN4 := Lib.hid (HTN3.out.below hb4 hp3)
    have HB4 := Lib.hid (HB3'.out.trans (hb4.mono HB3'.out.size))
    have HR4 := Lib.hid (TnAt.below (W' := w4) (p := w.heap.size + 1) (HRT.out.below HB3'.out (by have := HZ1.out; omega)) hb4 (by have := HB3'.out.size; have := HZ1.out; omega))
    have HHH := Lib.hid hH
    rw [show arr8 H = .agg (vals8 H).toArray from rfl]
    have hone8 : ∀ v ∈ vals8 H, v.oneCell' = true := by intro v hv; simp only [vals8, List.mem_cons, List.not_mem_nil, or_false] at hv; rcases hv with rfl | rfl | rfl | rfl | rfl | rfl | rfl | rfl <;> rfl
    have hlen8 : (vals8 H).toArray.size = 8 := rfl
    have hone26 : ∀ v ∈ tnC B A es.length cap F H, v.oneCell' = true := tnC_one B A es.length cap F H
    have hlen26 : (tnC B A es.length cap F H).toArray.size = 26 := rfl
    have htn5 : TnAt (w4.setCells p 18 (vals8 H)) p (tnC B A es.length cap F H) := tn_last HTN4.out
    have HPST : Hid (∀ w', Below w.heap.size w w' → TnetPost B A es.length cap F (hgtB B es t F) w (.returned (.agg (tnC B A es.length cap F H).toArray)) w') := Lib.hid fun w' h => ⟨H, rfl, HHH.out, h⟩
    obtain ⟨v8, hv8⟩ : ∃ v8, vals8 H = v8 := ⟨_, rfl⟩
    obtain ⟨cs, hcs⟩ : ∃ cs, tnC B A es.length cap F H = cs := ⟨_, rfl⟩
    rw [hv8] at hone8 hlen8 htn5 ⊢
    rw [hcs] at hone26 hlen26 htn5 HPST
    clear hv8 hcs
    have ht8 : w4.there p 18 v8.toArray.size := by rw [hlen8]; exact there_part HTN4.out.th (by omega)
    have hi8 : (Try.prog.info? 57).map (·.size) = some v8.toArray.size := by rw [hlen8]; kernel_rfl
    have hi26 : (Try.prog.info? 71).map (·.size) = some cs.length := by rw [show cs.length = 26 by simpa using hlen26]; kernel_rfl
    have hi26a : (Try.prog.info? 71).map (·.size) = some cs.toArray.size := by rw [hlen26]; kernel_rfl
    have HR5 : Hid (TnAt (w4.setCells p 18 v8.toArray.toList) (w.heap.size + 1) (tnC ⟨#[]⟩ none 0 0 (fun _ => 0) (fun _ => 0))) := Lib.hid ⟨World.rangeAt_setCells_apart HR4.out.rg p 18 _ (.inl (by have := HP3.out; have := HZ1.out; omega)), World.there_setCells HR4.out.th _ _ _⟩
    have ht26 : (w4.setCells p 18 v8.toArray.toList).there (w.heap.size + 1) 0 cs.toArray.size := by rw [hlen26]; exact HR5.out.th
    have HR6 : Hid (((w4.setCells p 18 v8.toArray.toList).setCells (w.heap.size + 1) 0 cs.toArray.toList).rangeAt (w.heap.size + 1) 0 cs) := Lib.hid (by
      have := (HR5.out.put (vs := cs) (by simpa using hlen26)).rg
      simpa using this)
    have HB6 : Hid (Below w.heap.size w ((w4.setCells p 18 v8.toArray.toList).setCells (w.heap.size + 1) 0 cs.toArray.toList)) := Lib.hid (by
      have h4 : Below w.heap.size w w4 := HB1.out.trans (HB4.out.mono HB1.out.size)
      have h5 := setCells_below h4 (b := p) (by have := HP3.out; have := HB1.out.size; omega) v8.toArray.toList 18 _ h4
      exact setCells_below h5 (b := w.heap.size + 1) (by omega) _ 0 _ h5)
    have HRG5 : Hid ((w4.setCells p 18 v8.toArray.toList).rangeAt p 0 cs) := Lib.hid (by simpa using htn5.rg)
    have HO8 := Lib.hid (all_oneCell_toArray hone8); have HO26 := Lib.hid (all_oneCell_toArray hone26); have HT8 := Lib.hid ht8; have HT26 := Lib.hid ht26; have HI8 := Lib.hid hi8; have HI26 := Lib.hid hi26; have HI26A := Lib.hid hi26a
    clear hH hb4 hd0 hd1 hone8 hlen8 hone26 hlen26 htn5 ht8 ht26 hi8 hi26 hi26a
    go_wp2_with (first
      | (refine wpList_store_mid (op := ⟨none, .store 57 (.tmp 15) (.tmp 14), _, _, _, _⟩) rfl 57 (.tmp 15) (.tmp 14) rfl p 18 v8.toArray rfl rfl HT8.out HI8.out HO8.out ?_)
      | (refine wpList_load_mid (op := ⟨some 16, .load 71 (.tmp 5), _, _, _, _⟩) rfl 71 (.tmp 5) rfl p 0 rfl cs _ HRG5.out Try.underlying71 rfl HI26.out ?_)
      | (refine wpList_store_mid (op := ⟨none, .store 71 (.tmp 4) (.tmp 16), _, _, _, _⟩) rfl 71 (.tmp 4) (.tmp 16) rfl (w.heap.size + 1) 0 cs.toArray rfl rfl HT26.out HI26A.out HO26.out ?_))
    refine bodyPost_ret (v := .agg cs.toArray) ?_ rfl (HPST.out _ HB6.out)
    exact results_cell_mid rfl _ _ (w.heap.size + 1) cs _ rfl HR6.out Try.underlying71 rfl HI26.out
  · go_simp
    refine hK.out _ _ (HSS.out _ (Below.drew ((Below.refl _ _).alloc (Nat.le_refl _) _))) (fun hHeld => ?_)
    clear hK K
    try simp only [Act.put, List.setIfInBounds_toArray, List.set_cons_zero, List.set_cons_succ]
    refine wpAnyH_ready (rs := [2]) (by kernel_rfl) (by simp) ?_
    refine AllReadyH.cons rfl (fun K hK => ?_) AllReadyH.nil
    go_simp
    refine (FV.out _ (HEA.out _ (Below.drew ((Below.refl _ _).alloc (Nat.le_refl _) _)))).mono ?_
    rintro e w2 ⟨rfl, hb2⟩
    have HBX : Hid (Below W1.heap.size W1 w2) := Lib.hid (Below.trans (Below.drew ((Below.refl _ _).alloc (Nat.le_refl _) _)) (hb2.mono (by simp)))
    have HTX : Hid (TnAt w2 W1.heap.size (tnC ⟨#[]⟩ none 0 0 (fun _ => 0) (fun _ => 0))) := Lib.hid (TnAt.below (W := (W1.alloc (.cells (tnC ⟨#[]⟩ none 0 0 (fun _ => 0) (fun _ => 0)).toArray 71)).drew) (by exact ⟨(TnAt.new W1 _ rfl).rg, (TnAt.new W1 _ rfl).th⟩) hb2 (by simp))
    have HPX : Hid (W1.heap.size ≤ W1.heap.size) := Lib.hid (Nat.le_refl _)
    clear hb2
    go_wp2_with fail
    refine hK.out _ _ (HSS.out _ HBX.out) (fun hHeld => ?_)
    clear hK K
    try simp only [Act.put, List.setIfInBounds_toArray, List.set_cons_zero, List.set_cons_succ]
    refine wpAnyH_take (i := 3) (v := .agg #[.string B, .slice A es.length cap, .int .i64 ((F 0 : Nat) : Int), .int .i64 ((F 1 : Nat) : Int), .int .i64 ((F 2 : Nat) : Int), .int .i64 ((F 3 : Nat) : Int), .int .i64 ((F 4 : Nat) : Int), .int .i64 ((F 5 : Nat) : Int), .int .i64 ((F 6 : Nat) : Int), .int .i64 ((F 7 : Nat) : Int), .int .i64 ((F 8 : Nat) : Int), .int .i64 ((F 9 : Nat) : Int), .int .i64 ((F 10 : Nat) : Int), .int .i64 ((F 11 : Nat) : Int), .int .i64 ((F 12 : Nat) : Int), .int .i64 ((F 13 : Nat) : Int), .int .i64 ((F 14 : Nat) : Int), .int .i64 ((F 15 : Nat) : Int), .int .i64 0, .int .i64 0, .int .i64 0, .int .i64 0, .int .i64 0, .int .i64 0, .int .i64 0, .int .i64 0]) rfl (by kernel_rfl) (by kernel_rfl) (by kernel_rfl) (fun _ _ _ h => h) (Or.inl ⟨by rfl, by intro w hSw; go_simp⟩) (by assumption) ?_
    try simp only [Act.put, List.setIfInBounds_toArray]
    refine wpAnyH_ready (rs := [5]) (by kernel_rfl) (by simp) ?_
    refine AllReadyH.cons rfl (fun K hK => ?_) AllReadyH.nil
    refine step_store_mid rfl 71 (.tmp 5) (.tmp 9) rfl W1.heap.size 0 #[.string B, .slice A es.length cap, .int .i64 ((F 0 : Nat) : Int), .int .i64 ((F 1 : Nat) : Int), .int .i64 ((F 2 : Nat) : Int), .int .i64 ((F 3 : Nat) : Int), .int .i64 ((F 4 : Nat) : Int), .int .i64 ((F 5 : Nat) : Int), .int .i64 ((F 6 : Nat) : Int), .int .i64 ((F 7 : Nat) : Int), .int .i64 ((F 8 : Nat) : Int), .int .i64 ((F 9 : Nat) : Int), .int .i64 ((F 10 : Nat) : Int), .int .i64 ((F 11 : Nat) : Int), .int .i64 ((F 12 : Nat) : Int), .int .i64 ((F 13 : Nat) : Int), .int .i64 ((F 14 : Nat) : Int), .int .i64 ((F 15 : Nat) : Int), .int .i64 0, .int .i64 0, .int .i64 0, .int .i64 0, .int .i64 0, .int .i64 0, .int .i64 0, .int .i64 0] rfl rfl HTX.out.th (by kernel_rfl) (by simp [Value.oneCell']) ?_
    refine hK.out _ _ (HSS.out _ (setCells_below HBX.out HPX.out _ _ _ HBX.out)) (fun hHeld => ?_)
    clear hK K
    have HTN := Lib.hid (HTX.out.put (vs := tnC B A es.length cap F (fun _ => 0)) rfl)
    have HB3 := Lib.hid (setCells_below HBX.out HPX.out (tnC B A es.length cap F (fun _ => 0)) 0 _ HBX.out)
    refine wpAnyH_done (by kernel_rfl) (NoPanic.normal ?_) _
    generalize hw3 : World.setCells _ _ _ #[.string B, .slice A es.length cap, .int .i64 ((F 0 : Nat) : Int), .int .i64 ((F 1 : Nat) : Int), .int .i64 ((F 2 : Nat) : Int), .int .i64 ((F 3 : Nat) : Int), .int .i64 ((F 4 : Nat) : Int), .int .i64 ((F 5 : Nat) : Int), .int .i64 ((F 6 : Nat) : Int), .int .i64 ((F 7 : Nat) : Int), .int .i64 ((F 8 : Nat) : Int), .int .i64 ((F 9 : Nat) : Int), .int .i64 ((F 10 : Nat) : Int), .int .i64 ((F 11 : Nat) : Int), .int .i64 ((F 12 : Nat) : Int), .int .i64 ((F 13 : Nat) : Int), .int .i64 ((F 14 : Nat) : Int), .int .i64 ((F 15 : Nat) : Int), .int .i64 0, .int .i64 0, .int .i64 0, .int .i64 0, .int .i64 0, .int .i64 0, .int .i64 0, .int .i64 0].toList = w3 at ⊢
    obtain ⟨p, hp⟩ : ∃ p, W1.heap.size = p := ⟨_, rfl⟩
    have HTN3 : Hid (TnAt w3 p (tnC B A es.length cap F (fun _ => 0))) := Lib.hid (by rw [← hw3, ← hp]; exact HTN.out)
    have HB3' : Hid (Below W1.heap.size W1 w3) := Lib.hid (by rw [← hw3]; exact HB3.out)
    have HP3 : Hid (W1.heap.size ≤ p) := Lib.hid (by rw [← hp]; exact HPX.out)
    rw [hp]
    clear hw3 hp HTN HB3 HPX HTX HBX
    clear hHeld
    have hp3 : p < w3.heap.size := World.block_lt_of_cell? w3 _ (HTN3.out.cell (j := 0) rfl)
    have hd0 := (HSS.out w3 HB3'.out).1; have hd1 := (HSS.out w3 HB3'.out).2
    have HV3 : Hid (w3.rangeAt p 2 (vals16 F)) := Lib.hid (range_part (a := [.string B, .slice A es.length cap]) HTN3.out.rg rfl)
    go_wp2_with (first
      | (refine wpList_load_mid (op := ⟨some 13, .load 69 (.tmp 12), _, _, _, _⟩) rfl 69 (.tmp 12) rfl p 2 rfl (vals16 F) _ HV3.out Try.underlying69 rfl (by kernel_rfl) ?_))
    refine (FH.out _ (HEA.out _ HB3'.out)).mono ?_
    rintro e w4 ⟨H, rfl, hH, hb4⟩
    have HTN4 := Lib.hid (HTN3.out.below hb4 hp3)
    have HB4 := Lib.hid (HB3'.out.trans (hb4.mono HB3'.out.size))
    have HR4 := Lib.hid (TnAt.below (W' := w4) (p := w.heap.size + 1) (HRT.out.below HB3'.out (by have := HZ1.out; omega)) hb4 (by have := HB3'.out.size; have := HZ1.out; omega))
    have HHH := Lib.hid hH
    rw [show arr8 H = .agg (vals8 H).toArray from rfl]
    have hone8 : ∀ v ∈ vals8 H, v.oneCell' = true := by intro v hv; simp only [vals8, List.mem_cons, List.not_mem_nil, or_false] at hv; rcases hv with rfl | rfl | rfl | rfl | rfl | rfl | rfl | rfl <;> rfl
    have hlen8 : (vals8 H).toArray.size = 8 := rfl
    have hone26 : ∀ v ∈ tnC B A es.length cap F H, v.oneCell' = true := tnC_one B A es.length cap F H
    have hlen26 : (tnC B A es.length cap F H).toArray.size = 26 := rfl
    have htn5 : TnAt (w4.setCells p 18 (vals8 H)) p (tnC B A es.length cap F H) := tn_last HTN4.out
    have HPST : Hid (∀ w', Below w.heap.size w w' → TnetPost B A es.length cap F (hgtB B es t F) w (.returned (.agg (tnC B A es.length cap F H).toArray)) w') := Lib.hid fun w' h => ⟨H, rfl, HHH.out, h⟩
    obtain ⟨v8, hv8⟩ : ∃ v8, vals8 H = v8 := ⟨_, rfl⟩
    obtain ⟨cs, hcs⟩ : ∃ cs, tnC B A es.length cap F H = cs := ⟨_, rfl⟩
    rw [hv8] at hone8 hlen8 htn5 ⊢
    rw [hcs] at hone26 hlen26 htn5 HPST
    clear hv8 hcs
    have ht8 : w4.there p 18 v8.toArray.size := by rw [hlen8]; exact there_part HTN4.out.th (by omega)
    have hi8 : (Try.prog.info? 57).map (·.size) = some v8.toArray.size := by rw [hlen8]; kernel_rfl
    have hi26 : (Try.prog.info? 71).map (·.size) = some cs.length := by rw [show cs.length = 26 by simpa using hlen26]; kernel_rfl
    have hi26a : (Try.prog.info? 71).map (·.size) = some cs.toArray.size := by rw [hlen26]; kernel_rfl
    have HR5 : Hid (TnAt (w4.setCells p 18 v8.toArray.toList) (w.heap.size + 1) (tnC ⟨#[]⟩ none 0 0 (fun _ => 0) (fun _ => 0))) := Lib.hid ⟨World.rangeAt_setCells_apart HR4.out.rg p 18 _ (.inl (by have := HP3.out; have := HZ1.out; omega)), World.there_setCells HR4.out.th _ _ _⟩
    have ht26 : (w4.setCells p 18 v8.toArray.toList).there (w.heap.size + 1) 0 cs.toArray.size := by rw [hlen26]; exact HR5.out.th
    have HR6 : Hid (((w4.setCells p 18 v8.toArray.toList).setCells (w.heap.size + 1) 0 cs.toArray.toList).rangeAt (w.heap.size + 1) 0 cs) := Lib.hid (by
      have := (HR5.out.put (vs := cs) (by simpa using hlen26)).rg
      simpa using this)
    have HB6 : Hid (Below w.heap.size w ((w4.setCells p 18 v8.toArray.toList).setCells (w.heap.size + 1) 0 cs.toArray.toList)) := Lib.hid (by
      have h4 : Below w.heap.size w w4 := HB1.out.trans (HB4.out.mono HB1.out.size)
      have h5 := setCells_below h4 (b := p) (by have := HP3.out; have := HB1.out.size; omega) v8.toArray.toList 18 _ h4
      exact setCells_below h5 (b := w.heap.size + 1) (by omega) _ 0 _ h5)
    have HRG5 : Hid ((w4.setCells p 18 v8.toArray.toList).rangeAt p 0 cs) := Lib.hid (by simpa using htn5.rg)
    have HO8 := Lib.hid (all_oneCell_toArray hone8); have HO26 := Lib.hid (all_oneCell_toArray hone26); have HT8 := Lib.hid ht8; have HT26 := Lib.hid ht26; have HI8 := Lib.hid hi8; have HI26 := Lib.hid hi26; have HI26A := Lib.hid hi26a
    clear hH hb4 hd0 hd1 hone8 hlen8 hone26 hlen26 htn5 ht8 ht26 hi8 hi26 hi26a
    go_wp2_with (first
      | (refine wpList_store_mid (op := ⟨none, .store 57 (.tmp 15) (.tmp 14), _, _, _, _⟩) rfl 57 (.tmp 15) (.tmp 14) rfl p 18 v8.toArray rfl rfl HT8.out HI8.out HO8.out ?_)
      | (refine wpList_load_mid (op := ⟨some 16, .load 71 (.tmp 5), _, _, _, _⟩) rfl 71 (.tmp 5) rfl p 0 rfl cs _ HRG5.out Try.underlying71 rfl HI26.out ?_)
      | (refine wpList_store_mid (op := ⟨none, .store 71 (.tmp 4) (.tmp 16), _, _, _, _⟩) rfl 71 (.tmp 4) (.tmp 16) rfl (w.heap.size + 1) 0 cs.toArray rfl rfl HT26.out HI26A.out HO26.out ?_))
    refine bodyPost_ret (v := .agg cs.toArray) ?_ rfl (HPST.out _ HB6.out)
    exact results_cell_mid rfl _ _ (w.heap.size + 1) cs _ rfl HR6.out Try.underlying71 rfl HI26.out

end Go.Proofs.Ytjfdkhaepmmlfaa

namespace Go.Proofs.Ytjfdkhaepmmlfaa
open Go.RowKit

set_option maxRecDepth 100000 in
set_option maxHeartbeats 2000000 in
/-- impl.treeNet.step -/
theorem step_any (B : ByteArray) (A : Option Addr) (cap : Nat) (es : List (ByteArray × ByteArray)) (F : Nat → Nat) (G : UInt8 → Int) (H : Nat → Int) (k : Nat) (w : World) (hE : EdgesIn w w.heap.size A es) (hV : Valid B.data.toList (ebs es)) (hT : Tame B.data.toList F G) (hH : ∀ x ∈ B.data.toList, H (idxL B.data.toList x) = G x) (hk : k < es.length) :
    Calls Try.prog 77 #[.agg (tnC B A es.length cap F H).toArray, .int .i64 (k : Int)] w (IntPost (stpE F G es k) w) := by
  have h16 := (valid_sizes hV).2
  have h8 : B.data.toList.length ≤ 8 := hV.1.1.2.1
  obtain ⟨e1, e2, ha, hb, _⟩ := edK_at hV.1.2 hk
  have hga := hT.hgt _ ha; have hgb := hT.hgt _ hb; have hfk := hT.val k
  have hia := hH _ ha; have hib := hH _ hb
  have hla : idxL B.data.toList (edK es k).a < 8 := Nat.lt_of_lt_of_le (idxL_lt ha) h8
  have hlb : idxL B.data.toList (edK es k).b < 8 := Nat.lt_of_lt_of_le (idxL_lt hb) h8
  have FBI : ∀ (x : UInt8), x ∈ B.data.toList → ∀ W : World, Calls Try.prog 102 #[.agg #[.string B, .slice A es.length cap], .string ⟨#[x]⟩] W fun e w' => e = .returned (.int .i64 ((idxL B.data.toList x : Nat) : Int)) ∧ Below W.heap.size W w' := fun x hx W => by
    have := blockIndex_any B ⟨#[x]⟩ (.slice A es.length cap) W
    have e : bIdx B.data.toList (⟨#[x]⟩ : ByteArray).data.toList = ((idxL B.data.toList x : Nat) : Int) := by
      show Lib.indexByte B.data.toList x = _
      unfold idxL
      have := indexByte_nonneg.2 hx
      omega
    rwa [e] at this
  have FA := Lib.hid (FBI _ ha); have FB := Lib.hid (FBI _ hb)
  have HV : Hid (stpE F G es k = ((F k : Nat) : Int) + G (edK es k).a - G (edK es k).b) := Lib.hid rfl
  obtain ⟨eb, eo, rfl, hlow, q1, q2⟩ := hE k hk
  rw [e1] at q1
  rw [e2] at q2
  obtain ⟨ba, hba⟩ : ∃ ba : ByteArray, (⟨#[(edK es k).a]⟩ : ByteArray) = ba := ⟨_, rfl⟩
  obtain ⟨bb, hbb⟩ : ∃ bb : ByteArray, (⟨#[(edK es k).b]⟩ : ByteArray) = bb := ⟨_, rfl⟩
  rw [hba] at FA q1
  rw [hbb] at FB q2
  obtain ⟨ia, hea⟩ : ∃ ia, idxL B.data.toList (edK es k).a = ia := ⟨_, rfl⟩
  obtain ⟨ib, heb⟩ : ∃ ib, idxL B.data.toList (edK es k).b = ib := ⟨_, rfl⟩
  obtain ⟨ga, hga'⟩ : ∃ ga, G (edK es k).a = ga := ⟨_, rfl⟩
  obtain ⟨gb, hgb'⟩ : ∃ gb, G (edK es k).b = gb := ⟨_, rfl⟩
  obtain ⟨fk, hfk'⟩ : ∃ fk : Int, ((F k : Nat) : Int) = fk := ⟨_, rfl⟩
  rw [hea] at FA hla hia
  rw [heb] at FB hlb hib
  rw [hga'] at hga hia HV
  rw [hgb'] at hgb hib HV
  rw [hfk'] at HV
  have f0 : 0 ≤ fk := by omega
  have f1 : fk ≤ 4294967296 := by omega
  have htn := TnAt.new w (tnC B (some ⟨eb, eo, none⟩) es.length cap F H) rfl
  have hw0 : Below w.heap.size w (w.alloc (.cells (tnC B (some ⟨eb, eo, none⟩) es.length cap F H).toArray 71)) := (Below.refl _ _).alloc (Nat.le_refl _) _
  have c0 := htn.cell (j := 0) rfl
  have c1 := htn.cell (j := 1) rfl
  have hck : (tnC B (some ⟨eb, eo, none⟩) es.length cap F H)[2 + k]? = some (.int .i64 fk) := by
    have h := vals16_at F (j := k) (by omega)
    rw [hfk'] at h
    unfold tnC
    rw [List.getElem?_append_right (by show 2 ≤ 2 + k; omega), List.getElem?_append_left (by show 2 + k - 2 < 16; omega)]
    show (vals16 F)[2 + k - 2]? = _
    rw [Nat.add_sub_cancel_left]
    exact h
  have hc8 : ∀ i, i < 8 → (tnC B (some ⟨eb, eo, none⟩) es.length cap F H)[18 + i]? = some (.int .i64 (H i)) := fun i hi => by
    rw [tnC_split, List.getElem?_append_right (by show 18 ≤ 18 + i; omega)]
    show (vals8 H)[18 + i - 18]? = _
    rw [Nat.add_sub_cancel_left]
    have h : i = 0 ∨ i = 1 ∨ i = 2 ∨ i = 3 ∨ i = 4 ∨ i = 5 ∨ i = 6 ∨ i = 7 := by omega
    rcases h with rfl | rfl | rfl | rfl | rfl | rfl | rfl | rfl <;> rfl
  have ck := htn.cell hck
  have ca := htn.cell (hc8 ia hla)
  have cb := htn.cell (hc8 ib hlb)
  rw [hia] at ca
  rw [hib] at cb
  obtain ⟨cs, hcs⟩ : ∃ cs, tnC B (some ⟨eb, eo, none⟩) es.length cap F H = cs := ⟨_, rfl⟩
  rw [hcs] at c0 c1 ck ca cb hw0 ⊢
  have d1 := (hw0.cell (p := ⟨eb, eo + k * 2, none⟩) hlow).trans q1
  have d2 := (hw0.cell (p := ⟨eb, eo + k * 2 + 1, none⟩) hlow).trans q2
  have k0 : (0 : Int) ≤ (k : Int) := by omega
  have k1 : (k : Int) < (es.length : Int) := by omega
  have hk16 : (k : Int) < 16 := by omega
  clear hE hV hT hH h16 h8 e1 e2 ha hb hfk hia hib FBI hlow q1 q2 hba hbb hea heb hga' hgb' hfk' htn hck hc8 hcs
  go_enter Try.func77, Try.ntmps77
  go_wp2_with fail
  have b0 : ((w.alloc (.cells cs.toArray 71)).alloc (.cells #[.string ba, .string bb] 104)).cell? ⟨w.heap.size + 1, 0, none⟩ = some (.string ba) := by go_simp
  have b1 : ((w.alloc (.cells cs.toArray 71)).alloc (.cells #[.string ba, .string bb] 104)).cell? ⟨w.heap.size + 1, 1, none⟩ = some (.string bb) := by go_simp
  obtain ⟨w1, hw1⟩ : ∃ w1, (w.alloc (.cells cs.toArray 71)).alloc (.cells #[.string ba, .string bb] 104) = w1 := ⟨_, rfl⟩
  have hb1 : Below (w.heap.size + 1) (w.alloc (.cells cs.toArray 71)) w1 := by rw [← hw1]; exact (Below.refl _ _).alloc (by simp) _
  have hz1 : w1.heap.size = w.heap.size + 2 := by rw [← hw1]; simp
  have HBW := Lib.hid (hw0.trans (hb1.mono (by omega)))
  rw [hw1] at b0 b1 ⊢
  have y0 : ∀ x : After w1, x.W.cell? ⟨w.heap.size, 0, none⟩ = some (.string B) := fun x => x.cell (by simp only; omega) ((hb1.cell (by simp only; omega)).trans c0)
  have y1 : ∀ x : After w1, x.W.cell? ⟨w.heap.size, 1, none⟩ = some (.slice (some ⟨eb, eo, none⟩) es.length cap) := fun x => x.cell (by simp only; omega) ((hb1.cell (by simp only; omega)).trans c1)
  have y2 : ∀ x : After w1, x.W.cell? ⟨w.heap.size, 2 + k, none⟩ = some (.int .i64 fk) := fun x => x.cell (by simp only; omega) ((hb1.cell (by simp only; omega)).trans ck)
  have y3 : ∀ x : After w1, x.W.cell? ⟨w.heap.size, 18 + ia, none⟩ = some (.int .i64 ga) := fun x => x.cell (by simp only; omega) ((hb1.cell (by simp only; omega)).trans ca)
  have y4 : ∀ x : After w1, x.W.cell? ⟨w.heap.size, 18 + ib, none⟩ = some (.int .i64 gb) := fun x => x.cell (by simp only; omega) ((hb1.cell (by simp only; omega)).trans cb)
  have y5 : ∀ x : After w1, x.W.cell? ⟨w.heap.size + 1, 0, none⟩ = some (.string ba) := fun x => x.cell (by simp only; omega) b0
  have y6 : ∀ x : After w1, x.W.cell? ⟨w.heap.size + 1, 1, none⟩ = some (.string bb) := fun x => x.cell (by simp only; omega) b1
  have g0 : (0 : Int) ≤ (ia : Int) := by omega
  have g1 : (ia : Int) < 8 := by omega
  have g2 : (0 : Int) ≤ (ib : Int) := by omega
  have g3 : (ib : Int) < 8 := by omega
  have g4 : (k : Int) < 16 := hk16
  have z1 : IntKind.i64.wrap (fk + ga) = fk + ga := IntWalk.i64_in _ (by omega)
  have z2 : IntKind.i64.wrap (fk + ga - gb) = fk + ga - gb := IntWalk.i64_in _ (by omega)
  clear hw1 hb1 b0 b1 hw0 c0 c1 ck ca cb d1 d2 hz1 hla hlb hga hgb f0 f1
  refine wp_region_below (by kernel_rfl) (by kernel_rfl) ?_
  repeat (go_big_quiet_step ((first
    | (go_at_call 102; (with_reducible exact After.call (FA.out _)))
    | (go_at_call 102; (with_reducible exact After.call (FB.out _))))))
  refine wpQuiet_nil ?_
  rintro _ ⟨xw, rfl⟩
  have HFIN := Lib.hid (HBW.out.trans (xw.h.mono HBW.out.size))
  clear y0 y1 y2 y3 y4 y5 y6 z1 z2
  go_wp2_with fail
  go_ret
  exact ⟨ret_int HV.out.symm, HFIN.out⟩

end Go.Proofs.Ytjfdkhaepmmlfaa

namespace Go.Proofs.Ytjfdkhaepmmlfaa
open Go.RowKit

theorem ask_tnet {B : ByteArray} {es : List (ByteArray × ByteArray)} {t : ByteArray} (ha : acycV B es = true) (A : Option Addr) (cap : Nat) (ht : treeV B es t = true) (hs : B.size ≤ maxLen) (hl : es.length ≤ 1099511627776) (W : World) (h : EdgesIn W W.heap.size A es) :
    Calls Try.prog 39 #[.agg #[.string B, .slice A es.length cap], .string t] W (TnetPost B A es.length cap (valB B es) (hgtB B es t (valB B es)) W) := treeNetOf_any B A cap es t W hs h hl ht ha

end Go.Proofs.Ytjfdkhaepmmlfaa
