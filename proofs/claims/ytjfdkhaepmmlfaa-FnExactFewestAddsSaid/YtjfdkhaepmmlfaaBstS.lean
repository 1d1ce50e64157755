/- The first tree with as few adds as can be, by the model: spec.l6Best. -/
import Derived.Test.YtjfdkhaepmmlfaaFewS
import Derived.Test.YtjfdkhaepmmlfaaBstP
namespace Go.Proofs.Ytjfdkhaepmmlfaa
open Go.RowKit

/-- what a tree costs, by given values -/
noncomputable def cstF (B : ByteArray) (es : List (ByteArray × ByteArray)) (F : Nat → Nat) (x : List UInt8) : Nat := cntK ((List.range es.length).map (stpE F (hgtB B es ⟨x.toArray⟩ F) es))
/-- what is handed back: a text and how many -/
def BestPost (r : List UInt8 × Int) (w : World) (e : Ending) (w' : World) : Prop := e = .returned (.tuple #[.string ⟨r.1.toArray⟩, .int .i64 r.2]) ∧ Below w.heap.size w w'
theorem best_of {r s : List UInt8 × Int} {w w' : World} {e : Ending} (h : r = s) (k : BestPost s w e w') : BestPost r w e w' := by rw [h]; exact k

set_option maxRecDepth 100000 in
set_option maxHeartbeats 4000000 in
/-- a tree: it is looked at -/
theorem best_zero (B : ByteArray) (A : Option Addr) (cap : Nat) (es : List (ByteArray × ByteArray)) (hs : B.size ≤ maxLen) (hl : es.length ≤ 16) (h8 : B.size ≤ 8) (F : Nat → Nat) (hF : ∀ k, F k ≤ 4294967296) (AV : Option Addr) (cv : Nat) (i : Nat) (f : Nat → Nat) (t : List UInt8) (s : List UInt8 × Int) (w : World) (hsz : t.length + 2 = B.size) (hE : EdgesIn w w.heap.size A es) (hX : IntsIn w w.heap.size AV ((List.range es.length).map fun k => ((F k : Nat) : Int))) (ht : treeV B es ⟨t.toArray⟩ = true) :
    Calls Try.prog 31 #[.agg #[.string B, .slice A es.length cap], arrL f, .int .i64 i, .string ⟨t.toArray⟩, .slice AV es.length cv, .string ⟨s.1.toArray⟩, .int .i64 s.2] w (BestPost (keepT (cstF B es F) s t) w) := by
  obtain ⟨q, hq⟩ : ∃ q, cstF B es F t = q := ⟨_, rfl⟩
  have FW : Hid (∀ W : World, EdgesIn W W.heap.size A es → IntsIn W W.heap.size AV ((List.range es.length).map fun k => ((F k : Nat) : Int)) → Calls Try.prog 65 #[.agg #[.string B, .slice A es.length cap], .string ⟨t.toArray⟩, .slice AV es.length cv] W fun e w' => e = .returned (.int .i64 (q : Int)) ∧ Below W.heap.size W w') := Lib.hid fun W h h2 => by
    have := l6Few_any B A cap es ⟨t.toArray⟩ F AV cv W hs h (by omega) ht hF h2
    rw [← hq]; exact this
  obtain ⟨tt, htt⟩ : ∃ tt : ByteArray, (⟨t.toArray⟩ : ByteArray) = tt := ⟨_, rfl⟩
  obtain ⟨sb, hsb⟩ : ∃ sb : ByteArray, (⟨s.1.toArray⟩ : ByteArray) = sb := ⟨_, rfl⟩
  obtain ⟨sl, hsl⟩ : ∃ sl : Int, s.2 = sl := ⟨_, rfl⟩
  have htz : tt.size = t.length := by rw [← htt]; show t.toArray.size = _; simp
  have HK1 : Hid (sl < 0 ∨ (q : Int) < sl → BestPost (keepT (cstF B es F) s t) w = fun e w' => e = .returned (.tuple #[.string tt, .int .i64 (q : Int)]) ∧ Below w.heap.size w w') := Lib.hid fun h => by
    unfold keepT BestPost
    rw [hsl, hq, if_pos h, htt]
  have HK2 : Hid (¬ (sl < 0 ∨ (q : Int) < sl) → BestPost (keepT (cstF B es F) s t) w = fun e w' => e = .returned (.tuple #[.string sb, .int .i64 sl]) ∧ Below w.heap.size w w') := Lib.hid fun h => by
    unfold keepT BestPost
    rw [hsl, hq, if_neg h, hsb, hsl]
  rw [htt] at FW ⊢
  rw [hsb, hsl]
  obtain ⟨d, hd⟩ : ∃ d, B.size - 2 = d := ⟨_, rfl⟩
  have z1 : IntKind.i64.wrap ((B.size : Int) - 2) = (d : Int) := by rw [IntWalk.i64_in _ (by omega)]; omega
  have z2 : IntKind.i64.wrap ((d : Int) - (tt.size : Int)) = 0 := by rw [IntWalk.i64_in _ (by omega)]; omega
  obtain ⟨W0, hW0⟩ : ∃ W0, W0 = (w.alloc (.cells #[.string B, .slice A es.length cap] 30)).alloc (.cells #[.int .i64 ((f 0 : Nat) : Int), .int .i64 ((f 1 : Nat) : Int), .int .i64 ((f 2 : Nat) : Int), .int .i64 ((f 3 : Nat) : Int), .int .i64 ((f 4 : Nat) : Int), .int .i64 ((f 5 : Nat) : Int), .int .i64 ((f 6 : Nat) : Int), .int .i64 ((f 7 : Nat) : Int)] 59) := ⟨_, rfl⟩
  have hb0 : Below w.heap.size w W0 := by rw [hW0]; exact ((Below.refl _ _).alloc (Nat.le_refl _) _).alloc (by simp) _
  have t0 : Two W0 w.heap.size B A es.length cap := by rw [hW0]; exact ⟨by go_simp, by go_simp⟩
  have HX := Lib.hid hX; have HE := Lib.hid hE
  have d0 := t0.1; have d1 := t0.2
  rw [hW0] at d0 d1
  clear hs hl h8 hF hsz hE hX ht hq htt hsb hsl htz hd t0
  by_cases h0 : sl < 0
  · rw [HK1.out (.inl h0)]
    unfold arrL
    go_enter Try.func31, Try.ntmps31
    go_wp2_with fail
    rw [← hW0]
    refine (FW.out _ ((HE.out.below hb0).more hb0.size) ((HX.out.below hb0).more hb0.size)).mono ?_
    rintro e w2 ⟨rfl, hb2⟩
    have hb2' := hb0.trans (hb2.mono hb0.size)
    clear d0 d1 hb2
    go_wp2_with fail
    go_ret2
    exact ⟨rfl, hb2'⟩
  by_cases h1 : (q : Int) < sl
  · rw [HK1.out (.inr h1)]
    unfold arrL
    go_enter Try.func31, Try.ntmps31
    go_wp2_with fail
    rw [← hW0]
    refine (FW.out _ ((HE.out.below hb0).more hb0.size) ((HX.out.below hb0).more hb0.size)).mono ?_
    rintro e w2 ⟨rfl, hb2⟩
    have hb2' := hb0.trans (hb2.mono hb0.size)
    clear d0 d1 hb2
    go_wp2_with fail
    go_ret2
    exact ⟨rfl, hb2'⟩
  · rw [HK2.out (fun h => h.elim h0 h1)]
    unfold arrL
    go_enter Try.func31, Try.ntmps31
    go_wp2_with fail
    rw [← hW0]
    refine (FW.out _ ((HE.out.below hb0).more hb0.size) ((HX.out.below hb0).more hb0.size)).mono ?_
    rintro e w2 ⟨rfl, hb2⟩
    have hb2' := hb0.trans (hb2.mono hb0.size)
    clear d0 d1 hb2
    go_wp2_with fail
    go_ret2
    exact ⟨rfl, hb2'⟩

set_option maxRecDepth 100000 in
set_option maxHeartbeats 4000000 in
/-- too few edges are left -/
theorem best_short (B : ByteArray) (A : Option Addr) (cap : Nat) (es : List (ByteArray × ByteArray)) (hl : es.length ≤ 16) (h8 : B.size ≤ 8) (AV : Option Addr) (cv : Nat) (i m : Nat) (f : Nat → Nat) (t : List UInt8) (s : List UInt8 × Int) (w : World) (hsz : t.length + m + 2 = B.size) (hm : es.length - i < m) (hi : i ≤ es.length) :
    Calls Try.prog 31 #[.agg #[.string B, .slice A es.length cap], arrL f, .int .i64 i, .string ⟨t.toArray⟩, .slice AV es.length cv, .string ⟨s.1.toArray⟩, .int .i64 s.2] w (BestPost s w) := by
  obtain ⟨tt, htt⟩ : ∃ tt : ByteArray, (⟨t.toArray⟩ : ByteArray) = tt := ⟨_, rfl⟩
  unfold BestPost
  obtain ⟨sb, hsb⟩ : ∃ sb : ByteArray, (⟨s.1.toArray⟩ : ByteArray) = sb := ⟨_, rfl⟩
  obtain ⟨sl, hsl⟩ : ∃ sl : Int, s.2 = sl := ⟨_, rfl⟩
  have htz : tt.size = t.length := by rw [← htt]; show t.toArray.size = _; simp
  rw [htt, hsb, hsl]
  obtain ⟨d, hd⟩ : ∃ d, B.size - 2 = d := ⟨_, rfl⟩
  have z1 : IntKind.i64.wrap ((B.size : Int) - 2) = (d : Int) := by rw [IntWalk.i64_in _ (by omega)]; omega
  have z2 : IntKind.i64.wrap ((d : Int) - (tt.size : Int)) = (m : Int) := by rw [IntWalk.i64_in _ (by omega)]; omega
  obtain ⟨r, hr⟩ : ∃ r, es.length - i = r := ⟨_, rfl⟩
  have z3 : IntKind.i64.wrap ((es.length : Int) - (i : Int)) = (r : Int) := by rw [IntWalk.i64_in _ (by omega)]; omega
  have a1 : ((m : Int) == 0) = false := by rw [beq_eq_false_iff_ne]; omega
  have a2 : (r : Int) < (m : Int) := by omega
  clear hl h8 hsz hm hi htt hsb hsl htz hd hr
  unfold arrL
  go_enter Try.func31, Try.ntmps31
  go_wp2_with fail
  go_ret2
  exact ⟨rfl, ((Below.refl _ _).alloc (Nat.le_refl _) _).alloc (by simp) _⟩

set_option maxRecDepth 100000 in
set_option maxHeartbeats 8000000 in
/-- spec.l6Best -/
theorem l6Best_any (B : ByteArray) (A : Option Addr) (cap : Nat) (es : List (ByteArray × ByteArray)) (hs : B.size ≤ maxLen) (hV : Valid B.data.toList (ebs es)) (E : Nat → Nat × Nat) (hEE : endsN B.data.toList (ebs es) = E) (F : Nat → Nat) (hF : ∀ k, F k ≤ 4294967296) (AV : Option Addr) (cv : Nat) :
    ∀ (k i m : Nat) (f : Nat → Nat) (t : List UInt8) (s : List UInt8 × Int) (w : World), es.length - i ≤ k → i ≤ es.length → t.length + m + 2 = B.size → EdgesIn w w.heap.size A es → IntsIn w w.heap.size AV ((List.range es.length).map fun k => ((F k : Nat) : Int)) → (∀ x ∈ trs E f (fromK es.length i) m t, treeV B es ⟨x.toArray⟩ = true) →
    Calls Try.prog 31 #[.agg #[.string B, .slice A es.length cap], arrL f, .int .i64 i, .string ⟨t.toArray⟩, .slice AV es.length cv, .string ⟨s.1.toArray⟩, .int .i64 s.2] w (BestPost ((trs E f (fromK es.length i) m t).foldl (keepT (cstF B es F)) s) w) := by
  have h16 : es.length ≤ 16 := (valid_sizes hV).2
  have h8 : B.size ≤ 8 := (valid_sizes hV).1
  have HM := Lib.hid hs
  have HEO := Lib.hid hV.1.2
  have HBL : Hid (B.data.toList.length = B.size) := Lib.hid (by simp)
  have HFF := Lib.hid hF
  have FE : Hid (∀ (k : Nat), k < es.length → ∀ W : World, EdgesIn W W.heap.size A es → Calls Try.prog 66 #[.agg #[.string B, .slice A es.length cap], .string ⟨#[nameOf k]⟩] W fun e w' => e = .returned (.tuple #[.int .i64 (((E k).1 : Nat) : Int), .int .i64 (((E k).2 : Nat) : Int)]) ∧ Below W.heap.size W w') := Lib.hid fun k hk W h => by
    rw [← hEE]
    exact l5Ends_any B A cap es ⟨#[nameOf k]⟩ k W HM.out h (by omega) HEO.out hk (eIdx_name hk (by omega))
  have FN : Hid (∀ k, k < es.length → (E k).1 < 8 ∧ (E k).2 < 8) := Lib.hid fun k hk => by
    obtain ⟨x, y, i, j, _, _, e3, _, _, h1, h2⟩ := ends_at HEO.out hk
    rw [← hEE, e3]
    have := HBL.out
    simp only
    omega
  clear hs hV hEE
  intro k
  induction k with
  | zero =>
    intro i m f t s w hk hi hsz hE hX hT
    cases m with
    | zero =>
      rw [trs_zero] at hT ⊢
      exact best_zero B A cap es HM.out h16 h8 F hF AV cv i f t s w (by omega) hE hX (hT t (by simp))
    | succ m =>
      rw [trs_short (by omega)]
      exact best_short B A cap es h16 h8 AV cv i (m + 1) f t s w hsz (by omega) hi
  | succ k ih =>
    intro i m f t s w hk hi hsz hE hX hT
    cases m with
    | zero =>
      rw [trs_zero] at hT ⊢
      exact best_zero B A cap es HM.out h16 h8 F hF AV cv i f t s w (by omega) hE hX (hT t (by simp))
    | succ m =>
    by_cases hshort : es.length - i < m + 1
    · rw [trs_short hshort]
      exact best_short B A cap es h16 h8 AV cv i (m + 1) f t s w hsz hshort hi
    have hil : i < es.length := by omega
    obtain ⟨n1, n2⟩ := FN.out i hil
    rw [trs_go hil] at hT ⊢
    rw [List.foldl_append]
    obtain ⟨p1, hp1⟩ : ∃ p, (E i).1 = p := ⟨_, rfl⟩
    obtain ⟨p2, hp2⟩ : ∃ p, (E i).2 = p := ⟨_, rfl⟩
    have HFE := Lib.hid (FE.out i hil)
    rw [hp1, hp2] at HFE hT ⊢
    rw [hp1] at n1
    rw [hp2] at n2
    obtain ⟨T1, hT1⟩ : ∃ T1, trs E (joinL f p1 p2) (fromK es.length (i + 1)) m (t ++ [nameOf i]) = T1 := ⟨_, rfl⟩
    obtain ⟨T2, hT2⟩ : ∃ T2, trs E f (fromK es.length (i + 1)) (m + 1) t = T2 := ⟨_, rfl⟩
    have IH1 : Hid (f p1 ≠ f p2 → ∀ W : World, EdgesIn W W.heap.size A es → IntsIn W W.heap.size AV ((List.range es.length).map fun k => ((F k : Nat) : Int)) → Calls Try.prog 31 #[.agg #[.string B, .slice A es.length cap], arrL (joinL f p1 p2), .int .i64 ((i + 1 : Nat) : Int), .string ⟨(t ++ [nameOf i]).toArray⟩, .slice AV es.length cv, .string ⟨s.1.toArray⟩, .int .i64 s.2] W (BestPost (T1.foldl (keepT (cstF B es F)) s) W)) := Lib.hid fun hne W h h2 => by
      rw [← hT1]
      refine ih (i + 1) m (joinL f p1 p2) (t ++ [nameOf i]) s W (by omega) (by omega) (by simp; omega) h h2 fun x hx => hT x (List.mem_append_left _ ?_)
      rw [if_neg hne]; exact hx
    have IH2 : Hid (∀ (s' : List UInt8 × Int) (W : World), EdgesIn W W.heap.size A es → IntsIn W W.heap.size AV ((List.range es.length).map fun k => ((F k : Nat) : Int)) → Calls Try.prog 31 #[.agg #[.string B, .slice A es.length cap], arrL f, .int .i64 ((i + 1 : Nat) : Int), .string ⟨t.toArray⟩, .slice AV es.length cv, .string ⟨s'.1.toArray⟩, .int .i64 s'.2] W (BestPost (T2.foldl (keepT (cstF B es F)) s') W)) := Lib.hid fun s' W h h2 => by
      rw [← hT2]
      exact ih (i + 1) (m + 1) f t s' W (by omega) (by omega) (by omega) h h2 fun x hx => hT x (List.mem_append_right _ hx)
    have HFM : Hid (∀ W : World, Calls Try.prog 64 #[.int .i64 i] W fun e w' => e = .returned (.string ⟨#[nameOf i]⟩) ∧ Below W.heap.size W w') := Lib.hid fun W => l1Name_any i (by omega) W
    rw [hT1, hT2]
    obtain ⟨R, hR⟩ : ∃ R, List.foldl (keepT (cstF B es F)) (List.foldl (keepT (cstF B es F)) s (if f p1 = f p2 then [] else T1)) T2 = R := ⟨_, rfl⟩
    have HRS : Hid (f p1 = f p2 → R = T2.foldl (keepT (cstF B es F)) s) := Lib.hid fun h => by rw [← hR, if_pos h, List.foldl_nil]
    have HRD : Hid (f p1 ≠ f p2 → R = T2.foldl (keepT (cstF B es F)) (T1.foldl (keepT (cstF B es F)) s)) := Lib.hid fun h => by rw [← hR, if_neg h]
    rw [hR]
    clear hR
    obtain ⟨tt, htt⟩ : ∃ tt : ByteArray, (⟨t.toArray⟩ : ByteArray) = tt := ⟨_, rfl⟩
    have htz : tt.size = t.length := by rw [← htt]; show t.toArray.size = _; simp
    have htn : (⟨(t ++ [nameOf i]).toArray⟩ : ByteArray) = tt ++ ⟨#[nameOf i]⟩ := bytes_ext (by first | (rw [Go.Joins.data_append, ← htt]; done) | (rw [Go.Joins.data_append, ← htt]; simp))
    obtain ⟨sb, hsb⟩ : ∃ sb : ByteArray, (⟨s.1.toArray⟩ : ByteArray) = sb := ⟨_, rfl⟩
    obtain ⟨sl, hsl⟩ : ∃ sl : Int, s.2 = sl := ⟨_, rfl⟩
    rw [htn, hsb, hsl] at IH1
    rw [htt] at IH2 ⊢
    rw [hsb, hsl]
    obtain ⟨d, hd⟩ : ∃ d, B.size - 2 = d := ⟨_, rfl⟩
    have z1 : IntKind.i64.wrap ((B.size : Int) - 2) = (d : Int) := by rw [IntWalk.i64_in _ (by omega)]; omega
    obtain ⟨M, hMM⟩ : ∃ M : Nat, m + 1 = M := ⟨_, rfl⟩
    have z2 : IntKind.i64.wrap ((d : Int) - (tt.size : Int)) = (M : Int) := by rw [IntWalk.i64_in _ (by omega)]; omega
    obtain ⟨r, hr⟩ : ∃ r, es.length - i = r := ⟨_, rfl⟩
    have z3 : IntKind.i64.wrap ((es.length : Int) - (i : Int)) = (r : Int) := by rw [IntWalk.i64_in _ (by omega)]; omega
    have a1 : ((M : Int) == 0) = false := by rw [beq_eq_false_iff_ne]; omega
    have a2 : ¬ (r : Int) < (M : Int) := by omega
    have b1 : IntKind.i64.wrap ((i : Int) + 1) = ((i + 1 : Nat) : Int) := by rw [IntWalk.i64_in _ (by omega)]; omega
    obtain ⟨i1, hi1⟩ : ∃ i1, i + 1 = i1 := ⟨_, rfl⟩
    rw [hi1] at b1 IH1 IH2
    have HSB := Lib.hid hsb; have HSL := Lib.hid hsl
    have hadd : ¬ 9223372036854775807 < tt.size + (⟨#[nameOf i]⟩ : ByteArray).size := by
      have h1 : (⟨#[nameOf i]⟩ : ByteArray).size = 1 := rfl
      omega
    have hadd1 : ¬ 9223372036854775807 < tt.size + 1 := by omega
    obtain ⟨W0, hW0⟩ : ∃ W0, W0 = ((w.alloc (.cells #[.string B, .slice A es.length cap] 30)).alloc (.cells #[.int .i64 ((f 0 : Nat) : Int), .int .i64 ((f 1 : Nat) : Int), .int .i64 ((f 2 : Nat) : Int), .int .i64 ((f 3 : Nat) : Int), .int .i64 ((f 4 : Nat) : Int), .int .i64 ((f 5 : Nat) : Int), .int .i64 ((f 6 : Nat) : Int), .int .i64 ((f 7 : Nat) : Int)] 59)).alloc (.cells #[.int .i64 ((f 0 : Nat) : Int), .int .i64 ((f 1 : Nat) : Int), .int .i64 ((f 2 : Nat) : Int), .int .i64 ((f 3 : Nat) : Int), .int .i64 ((f 4 : Nat) : Int), .int .i64 ((f 5 : Nat) : Int), .int .i64 ((f 6 : Nat) : Int), .int .i64 ((f 7 : Nat) : Int)] 59) := ⟨_, rfl⟩
    have hb0 : Below w.heap.size w W0 := by rw [hW0]; exact (((Below.refl _ _).alloc (Nat.le_refl _) _).alloc (by simp) _).alloc (by first | omega | (simp; done) | (simp; omega)) _
    have t0 : Two W0 w.heap.size B A es.length cap := by rw [hW0]; exact ⟨by go_simp, by go_simp⟩
    have l0 : Labs W0 (w.heap.size + 1) f := by
      have := (arrL_row (w.alloc (.cells #[.string B, .slice A es.length cap] 30)) f 59).alloc (.cells #[.int .i64 ((f 0 : Nat) : Int), .int .i64 ((f 1 : Nat) : Int), .int .i64 ((f 2 : Nat) : Int), .int .i64 ((f 3 : Nat) : Int), .int .i64 ((f 4 : Nat) : Int), .int .i64 ((f 5 : Nat) : Int), .int .i64 ((f 6 : Nat) : Int), .int .i64 ((f 7 : Nat) : Int)] 59)
      rw [World.size_alloc] at this
      rw [hW0]; exact this
    have k0 : Labs W0 (w.heap.size + 2) f := by
      have := arrL_row ((w.alloc (.cells #[.string B, .slice A es.length cap] 30)).alloc (.cells #[.int .i64 ((f 0 : Nat) : Int), .int .i64 ((f 1 : Nat) : Int), .int .i64 ((f 2 : Nat) : Int), .int .i64 ((f 3 : Nat) : Int), .int .i64 ((f 4 : Nat) : Int), .int .i64 ((f 5 : Nat) : Int), .int .i64 ((f 6 : Nat) : Int), .int .i64 ((f 7 : Nat) : Int)] 59)) f 59
      rw [World.size_alloc, World.size_alloc] at this
      rw [hW0]; exact this
    have hz0 : W0.heap.size = w.heap.size + 3 := by rw [hW0]; simp
    have d0 := t0.1; have d1 := t0.2
    have HL0 := Lib.hid l0; have HK0 := Lib.hid k0; have HE := Lib.hid hE; have HX := Lib.hid hX; have HT0 := Lib.hid t0; have HW0 := Lib.hid hW0
    clear hp1 hp2 hT1 hT2 hi1 hd hr hk hi hsz hE hX hT ih l0 k0 hshort FE FN hF hMM htt hsb hsl htz htn t0 hil
    rw [hW0] at d0 d1
    unfold arrL
    unfold arrL at IH1 IH2
    go_enter Try.func31, Try.ntmps31
    go_wp2_with fail
    rw [← hW0]
    have x0 : ∀ x : After W0, x.W.cell? ⟨w.heap.size, 0, none⟩ = some (.string B) := fun x => x.cell (by simp only; omega) HT0.out.1
    have x1 : ∀ x : After W0, x.W.cell? ⟨w.heap.size, 1, none⟩ = some (.slice A es.length cap) := fun x => x.cell (by simp only; omega) HT0.out.2
    have xE : ∀ x : After W0, EdgesIn x.W x.W.heap.size A es := fun x => (HE.out.below (hb0.trans (x.h.mono hb0.size))).more (hb0.trans (x.h.mono hb0.size)).size
    have XE := Lib.hid xE
    clear xE d0 d1 hW0
    refine wp_region_below (by kernel_rfl) (by kernel_rfl) ?_
    repeat (go_big_quiet_step ((first
      | (go_at_call 64; exact After.call (HFM.out _))
      | (go_at_call 66; exact After.call (HFE.out _ (XE.out _))))))
    refine wpQuiet_nil ?_
    rintro _ ⟨xw, rfl⟩
    clear x0 x1
    have hLx : Labs xw.W (w.heap.size + 1) f := HL0.out.of_block (xw.h.block _ (by omega))
    have hKx : Labs xw.W (w.heap.size + 2) f := HK0.out.of_block (xw.h.block _ (by omega))
    have tx := HT0.out.below xw.h (by omega)
    have hbx := hb0.trans (xw.h.mono hb0.size)
    have hzx := xw.h.size
    have HKX := Lib.hid hKx; have HLX := Lib.hid hLx
    clear hLx hKx XE
    go_wp2_with fail
    refine (join5_any (w.heap.size + 2) f p1 p2 xw.W HKX.out n1 n2).mono ?_
    rintro e w4 ⟨rfl, hl4, hg4⟩
    have hb4 : Below w.heap.size w w4 := hbx.grown hg4 hbx.size (fun q e => by injection e with e; omega)
    have t4 := tx.grown hg4 (by omega) (by intro e; injection e with e; omega)
    have hL4 : Labs w4 (w.heap.size + 1) f := HLX.out.of_block (hg4.block _ (by omega) (by intro e; injection e with e; omega))
    have hz4 := hg4.size
    have q0 : w4.cell? ⟨w.heap.size + 1, 0, none⟩ = some (.int .i64 ((f 0 : Nat) : Int)) := hL4.cell (i := 0) (by omega)
    have q1 : w4.cell? ⟨w.heap.size + 1, 1, none⟩ = some (.int .i64 ((f 1 : Nat) : Int)) := hL4.cell (i := 1) (by omega)
    have q2 : w4.cell? ⟨w.heap.size + 1, 2, none⟩ = some (.int .i64 ((f 2 : Nat) : Int)) := hL4.cell (i := 2) (by omega)
    have q3 : w4.cell? ⟨w.heap.size + 1, 3, none⟩ = some (.int .i64 ((f 3 : Nat) : Int)) := hL4.cell (i := 3) (by omega)
    have q4 : w4.cell? ⟨w.heap.size + 1, 4, none⟩ = some (.int .i64 ((f 4 : Nat) : Int)) := hL4.cell (i := 4) (by omega)
    have q5 : w4.cell? ⟨w.heap.size + 1, 5, none⟩ = some (.int .i64 ((f 5 : Nat) : Int)) := hL4.cell (i := 5) (by omega)
    have q6 : w4.cell? ⟨w.heap.size + 1, 6, none⟩ = some (.int .i64 ((f 6 : Nat) : Int)) := hL4.cell (i := 6) (by omega)
    have q7 : w4.cell? ⟨w.heap.size + 1, 7, none⟩ = some (.int .i64 ((f 7 : Nat) : Int)) := hL4.cell (i := 7) (by omega)
    have d0 := t4.1; have d1 := t4.2
    clear hg4
    by_cases hsame : f p1 = f p2
    · have q : (f p1 != f p2) = false := bne_eq_false_iff_eq.2 hsame
      have hRW := HRS.out hsame
      have IHC0 := Lib.hid (IH2.out s)
      rw [HSB.out, HSL.out] at IHC0
      obtain ⟨RR, hRR⟩ : ∃ RR, List.foldl (keepT (cstF B es F)) s T2 = RR := ⟨_, rfl⟩
      obtain ⟨zb, hzb⟩ : ∃ zb : ByteArray, (⟨RR.1.toArray⟩ : ByteArray) = zb := ⟨_, rfl⟩
      obtain ⟨zl, hzl⟩ : ∃ zl : Int, RR.2 = zl := ⟨_, rfl⟩
      have HZB : Hid ((⟨R.1.toArray⟩ : ByteArray) = zb) := Lib.hid (by rw [hRW, hRR, hzb])
      have HZL : Hid (R.2 = zl) := Lib.hid (by rw [hRW, hRR, hzl])
      have IHC : Hid (∀ W : World, EdgesIn W W.heap.size A es → IntsIn W W.heap.size AV ((List.range es.length).map fun k => ((F k : Nat) : Int)) → Calls Try.prog 31 #[.agg #[.string B, .slice A es.length cap], .agg #[.int .i64 ((f 0 : Nat) : Int), .int .i64 ((f 1 : Nat) : Int), .int .i64 ((f 2 : Nat) : Int), .int .i64 ((f 3 : Nat) : Int), .int .i64 ((f 4 : Nat) : Int), .int .i64 ((f 5 : Nat) : Int), .int .i64 ((f 6 : Nat) : Int), .int .i64 ((f 7 : Nat) : Int)], .int .i64 (i1 : Int), .string tt, .slice AV es.length cv, .string sb, .int .i64 sl] W fun e w' => e = .returned (.tuple #[.string zb, .int .i64 zl]) ∧ Below W.heap.size W w') := Lib.hid fun W h h2 => by
        have := IHC0.out W h h2
        unfold BestPost at this
        rw [hRR, hzb, hzl] at this
        exact this
      clear hRR hzb hzl hRW IHC0
      have hE4 := (HE.out.below hb4).more hb4.size
      have hX4 := (HX.out.below hb4).more hb4.size
      clear hsame hl4
      go_wp2_with fail
      refine (IHC.out _ hE4 hX4).mono ?_
      rintro e w5 ⟨rfl, hb5⟩
      have hb5' := hb4.trans (hb5.mono hb4.size)
      clear hb5 t4 q0 q1 q2 q3 q4 q5 q6 q7 d0 d1
      go_wp2_with fail
      go_ret2
      exact ⟨by rw [HZB.out, HZL.out]; rfl, hb5'⟩
    · have q : (f p1 != f p2) = true := bne_iff_ne.2 hsame
      have hRW := HRD.out hsame
      have IHA := Lib.hid (IH1.out hsame)
      obtain ⟨R1, hR1⟩ : ∃ R1, List.foldl (keepT (cstF B es F)) s T1 = R1 := ⟨_, rfl⟩
      rw [hR1] at IHA hRW
      obtain ⟨f', hf'⟩ : ∃ f', joinL f p1 p2 = f' := ⟨_, rfl⟩
      rw [hf'] at hl4 IHA
      have IHC0 := Lib.hid (IH2.out R1)
      obtain ⟨rb, hrb⟩ : ∃ rb : ByteArray, (⟨R1.1.toArray⟩ : ByteArray) = rb := ⟨_, rfl⟩
      obtain ⟨rl, hrl⟩ : ∃ rl : Int, R1.2 = rl := ⟨_, rfl⟩
      have IHB : Hid (∀ W : World, EdgesIn W W.heap.size A es → IntsIn W W.heap.size AV ((List.range es.length).map fun k => ((F k : Nat) : Int)) → Calls Try.prog 31 #[.agg #[.string B, .slice A es.length cap], .agg #[.int .i64 ((f' 0 : Nat) : Int), .int .i64 ((f' 1 : Nat) : Int), .int .i64 ((f' 2 : Nat) : Int), .int .i64 ((f' 3 : Nat) : Int), .int .i64 ((f' 4 : Nat) : Int), .int .i64 ((f' 5 : Nat) : Int), .int .i64 ((f' 6 : Nat) : Int), .int .i64 ((f' 7 : Nat) : Int)], .int .i64 (i1 : Int), .string (tt ++ ⟨#[nameOf i]⟩), .slice AV es.length cv, .string sb, .int .i64 sl] W fun e w' => e = .returned (.tuple #[.string rb, .int .i64 rl]) ∧ Below W.heap.size W w') := Lib.hid fun W h h2 => by
        have := IHA.out W h h2
        unfold BestPost at this
        rw [hrb, hrl] at this
        exact this
      rw [hrb, hrl] at IHC0
      obtain ⟨RR, hRR⟩ : ∃ RR, List.foldl (keepT (cstF B es F)) R1 T2 = RR := ⟨_, rfl⟩
      obtain ⟨zb, hzb⟩ : ∃ zb : ByteArray, (⟨RR.1.toArray⟩ : ByteArray) = zb := ⟨_, rfl⟩
      obtain ⟨zl, hzl⟩ : ∃ zl : Int, RR.2 = zl := ⟨_, rfl⟩
      have HZB : Hid ((⟨R.1.toArray⟩ : ByteArray) = zb) := Lib.hid (by rw [hRW, hRR, hzb])
      have HZL : Hid (R.2 = zl) := Lib.hid (by rw [hRW, hRR, hzl])
      have IHC : Hid (∀ W : World, EdgesIn W W.heap.size A es → IntsIn W W.heap.size AV ((List.range es.length).map fun k => ((F k : Nat) : Int)) → Calls Try.prog 31 #[.agg #[.string B, .slice A es.length cap], .agg #[.int .i64 ((f 0 : Nat) : Int), .int .i64 ((f 1 : Nat) : Int), .int .i64 ((f 2 : Nat) : Int), .int .i64 ((f 3 : Nat) : Int), .int .i64 ((f 4 : Nat) : Int), .int .i64 ((f 5 : Nat) : Int), .int .i64 ((f 6 : Nat) : Int), .int .i64 ((f 7 : Nat) : Int)], .int .i64 (i1 : Int), .string tt, .slice AV es.length cv, .string rb, .int .i64 rl] W fun e w' => e = .returned (.tuple #[.string zb, .int .i64 zl]) ∧ Below W.heap.size W w') := Lib.hid fun W h h2 => by
        have := IHC0.out W h h2
        unfold BestPost at this
        rw [hRR, hzb, hzl] at this
        exact this
      clear hRR hzb hzl hRW IHC0
      clear hsame hf' hR1 hrb hrl IHA q0 q1 q2 q3 q4 q5 q6 q7
      have y0 : ∀ x : After w4, x.W.cell? ⟨w.heap.size, 0, none⟩ = some (.string B) := fun x => x.cell (by simp only; omega) t4.1
      have y1 : ∀ x : After w4, x.W.cell? ⟨w.heap.size, 1, none⟩ = some (.slice A es.length cap) := fun x => x.cell (by simp only; omega) t4.2
      have v0 : ∀ x : After w4, x.W.cell? ⟨w.heap.size + 2, 0, none⟩ = some (.int .i64 ((f' 0 : Nat) : Int)) := fun x => x.cell (by simp only; omega) (hl4.cell (i := 0) (by omega))
      have v1 : ∀ x : After w4, x.W.cell? ⟨w.heap.size + 2, 1, none⟩ = some (.int .i64 ((f' 1 : Nat) : Int)) := fun x => x.cell (by simp only; omega) (hl4.cell (i := 1) (by omega))
      have v2 : ∀ x : After w4, x.W.cell? ⟨w.heap.size + 2, 2, none⟩ = some (.int .i64 ((f' 2 : Nat) : Int)) := fun x => x.cell (by simp only; omega) (hl4.cell (i := 2) (by omega))
      have v3 : ∀ x : After w4, x.W.cell? ⟨w.heap.size + 2, 3, none⟩ = some (.int .i64 ((f' 3 : Nat) : Int)) := fun x => x.cell (by simp only; omega) (hl4.cell (i := 3) (by omega))
      have v4 : ∀ x : After w4, x.W.cell? ⟨w.heap.size + 2, 4, none⟩ = some (.int .i64 ((f' 4 : Nat) : Int)) := fun x => x.cell (by simp only; omega) (hl4.cell (i := 4) (by omega))
      have v5 : ∀ x : After w4, x.W.cell? ⟨w.heap.size + 2, 5, none⟩ = some (.int .i64 ((f' 5 : Nat) : Int)) := fun x => x.cell (by simp only; omega) (hl4.cell (i := 5) (by omega))
      have v6 : ∀ x : After w4, x.W.cell? ⟨w.heap.size + 2, 6, none⟩ = some (.int .i64 ((f' 6 : Nat) : Int)) := fun x => x.cell (by simp only; omega) (hl4.cell (i := 6) (by omega))
      have v7 : ∀ x : After w4, x.W.cell? ⟨w.heap.size + 2, 7, none⟩ = some (.int .i64 ((f' 7 : Nat) : Int)) := fun x => x.cell (by simp only; omega) (hl4.cell (i := 7) (by omega))
      have yE : ∀ x : After w4, EdgesIn x.W x.W.heap.size A es := fun x => (HE.out.below (hb4.trans (x.h.mono hb4.size))).more (hb4.trans (x.h.mono hb4.size)).size
      have yX : ∀ x : After w4, IntsIn x.W x.W.heap.size AV ((List.range es.length).map fun k => ((F k : Nat) : Int)) := fun x => (HX.out.below (hb4.trans (x.h.mono hb4.size))).more (hb4.trans (x.h.mono hb4.size)).size
      have XE := Lib.hid yE; have XI := Lib.hid yX
      have HL4 := Lib.hid hL4
      clear yE yX d0 d1 hl4 hL4
      go_wp2_with fail
      refine wp_region_below (by kernel_rfl) (by kernel_rfl) ?_
      repeat (go_big_quiet_step ((first
        | (go_at_call 64; exact After.call (HFM.out _))
        | (go_at_call 31; exact After.call (IHB.out _ (XE.out _) (XI.out _))))))
      refine wpQuiet_nil ?_
      rintro _ ⟨x5, rfl⟩
      clear y0 y1 v0 v1 v2 v3 v4 v5 v6 v7 IHB XE XI
      have hL5 : Labs x5.W (w.heap.size + 1) f := HL4.out.of_block (x5.h.block _ (by omega))
      have t5 := t4.below x5.h (by omega)
      have hb5 := hb4.trans (x5.h.mono hb4.size)
      have q0 : x5.W.cell? ⟨w.heap.size + 1, 0, none⟩ = some (.int .i64 ((f 0 : Nat) : Int)) := hL5.cell (i := 0) (by omega)
      have q1 : x5.W.cell? ⟨w.heap.size + 1, 1, none⟩ = some (.int .i64 ((f 1 : Nat) : Int)) := hL5.cell (i := 1) (by omega)
      have q2 : x5.W.cell? ⟨w.heap.size + 1, 2, none⟩ = some (.int .i64 ((f 2 : Nat) : Int)) := hL5.cell (i := 2) (by omega)
      have q3 : x5.W.cell? ⟨w.heap.size + 1, 3, none⟩ = some (.int .i64 ((f 3 : Nat) : Int)) := hL5.cell (i := 3) (by omega)
      have q4 : x5.W.cell? ⟨w.heap.size + 1, 4, none⟩ = some (.int .i64 ((f 4 : Nat) : Int)) := hL5.cell (i := 4) (by omega)
      have q5 : x5.W.cell? ⟨w.heap.size + 1, 5, none⟩ = some (.int .i64 ((f 5 : Nat) : Int)) := hL5.cell (i := 5) (by omega)
      have q6 : x5.W.cell? ⟨w.heap.size + 1, 6, none⟩ = some (.int .i64 ((f 6 : Nat) : Int)) := hL5.cell (i := 6) (by omega)
      have q7 : x5.W.cell? ⟨w.heap.size + 1, 7, none⟩ = some (.int .i64 ((f 7 : Nat) : Int)) := hL5.cell (i := 7) (by omega)
      have d0 := t5.1; have d1 := t5.2
      have hE5 := (HE.out.below hb5).more hb5.size
      have hX5 := (HX.out.below hb5).more hb5.size
      clear t4 t5 hL5
      go_wp2_with fail
      refine (IHC.out _ hE5 hX5).mono ?_
      rintro e w6 ⟨rfl, hb6⟩
      have hb6' := hb5.trans (hb6.mono hb5.size)
      clear hb6 q0 q1 q2 q3 q4 q5 q6 q7 d0 d1
      go_wp2_with fail
      go_ret2
      exact ⟨by rw [HZB.out, HZL.out]; rfl, hb6'⟩

end Go.Proofs.Ytjfdkhaepmmlfaa
