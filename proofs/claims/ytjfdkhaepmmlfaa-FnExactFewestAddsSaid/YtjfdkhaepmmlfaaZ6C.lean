/- Numbers of trees by both. -/
import Derived.Test.YtjfdkhaepmmlfaaZ6T
import Derived.Test.YtjfdkhaepmmlfaaZ6V
import Derived.Deep.DrawnRows
import Derived.Deep.RegionWith
import Derived.BigRegion
import Derived.Deep.RegionHeld3
namespace Go.Proofs.Ytjfdkhaepmmlfaa
open Go.RowKit

/-- how many sets of so many more edges make no way round with what is joined -/
def cntT (E : Nat → Nat × Nat) : (Nat → Nat) → List Nat → Nat → Nat
  | _, _, 0 => 1
  | _, [], _ + 1 => 0
  | f, k :: r, m + 1 => if r.length + 1 < m + 1 then 0 else cntT E f r (m + 1) + (if f (E k).1 = f (E k).2 then 0 else cntT E (joinL f (E k).1 (E k).2) r m)
theorem cntT_zero (E : Nat → Nat × Nat) (f : Nat → Nat) (ks : List Nat) : cntT E f ks 0 = 1 := by cases ks <;> rfl
theorem cntT_step (E : Nat → Nat × Nat) (f : Nat → Nat) (k : Nat) (r : List Nat) (m : Nat) : cntT E f (k :: r) (m + 1) = if r.length + 1 < m + 1 then 0 else cntT E f r (m + 1) + (if f (E k).1 = f (E k).2 then 0 else cntT E (joinL f (E k).1 (E k).2) r m) := rfl
theorem cntT_few (E : Nat → Nat × Nat) : ∀ (ks : List Nat) (f : Nat → Nat) (m : Nat), cntT E f ks m ≤ 2 ^ ks.length
  | [], f, m => by cases m <;> simp [cntT]
  | k :: r, f, 0 => by
    rw [cntT_zero]; exact Nat.one_le_two_pow
  | k :: r, f, m + 1 => by
    have h1 := cntT_few E r f (m + 1)
    have h2 := cntT_few E r (joinL f (E k).1 (E k).2) m
    have h3 : 2 ^ (k :: r).length = 2 ^ r.length + 2 ^ r.length := by rw [List.length_cons, Nat.pow_succ]; omega
    unfold cntT
    split
    · exact Nat.zero_le _
    · split <;> omega
theorem cntT_same (E : Nat → Nat × Nat) (n : Nat) : ∀ (ks : List Nat), (∀ k ∈ ks, (E k).1 < n ∧ (E k).2 < n) → ∀ (f g : Nat → Nat) (m : Nat), SameL n f g → cntT E f ks m = cntT E g ks m
  | [], _, f, g, m, _ => by cases m <;> rfl
  | k :: r, h, f, g, 0, _ => by rw [cntT_zero, cntT_zero]
  | k :: r, h, f, g, m + 1, hs => by
    obtain ⟨h1, h2⟩ := h k List.mem_cons_self
    have hr := fun x hx => h x (List.mem_cons_of_mem k hx)
    have e1 := cntT_same E n r hr f g (m + 1) hs
    have hj : SameL n (joinL f (E k).1 (E k).2) (joinL g (E k).1 (E k).2) := by
      intro i j hi hj
      have a := hs.join h1 h2 i j hi hj
      have b := (SameL.refl n g).join h1 h2 i j hi hj
      rw [a, b]
    have e2 := cntT_same E n r hr _ _ m hj
    have e3 := hs _ _ h1 h2
    unfold cntT
    rw [e1, e2]
    by_cases c : f (E k).1 = f (E k).2
    · rw [if_pos c, if_pos (e3.1 c)]
    · rw [if_neg c, if_neg (fun d => c (e3.2 d))]

/-- the places from one on -/
def fromK (n i : Nat) : List Nat := (List.range n).drop i
theorem fromK_len (n i : Nat) : (fromK n i).length = n - i := by simp [fromK]
theorem fromK_at {n i : Nat} (h : i < n) : fromK n i = i :: fromK n (i + 1) := by
  unfold fromK
  rw [List.drop_eq_getElem_cons (by simpa using h)]
  simp
theorem fromK_end {n i : Nat} (h : n ≤ i) : fromK n i = [] := List.drop_of_length_le (by simpa using h)
theorem fromK_mem {n i k : Nat} (h : k ∈ fromK n i) : k < n := by
  have := List.mem_of_mem_drop h
  simpa using this
theorem cntT_short {E : Nat → Nat × Nat} {f : Nat → Nat} {n i m : Nat} (hm : 0 < m) (h : n - i < m) : cntT E f (fromK n i) m = 0 := by
  obtain ⟨m, rfl⟩ : ∃ q, m = q + 1 := ⟨m - 1, by omega⟩
  by_cases hi : i < n
  · rw [fromK_at hi]
    unfold cntT
    rw [if_pos (by rw [fromK_len]; omega)]
  · rw [fromK_end (by omega)]; rfl
theorem cntT_go {E : Nat → Nat × Nat} {f : Nat → Nat} {n i m : Nat} (h : ¬ n - i < m + 1) : cntT E f (fromK n i) (m + 1) = cntT E f (fromK n (i + 1)) (m + 1) + (if f (E i).1 = f (E i).2 then 0 else cntT E (joinL f (E i).1 (E i).2) (fromK n (i + 1)) m) := by
  have hi : i < n := by omega
  rw [fromK_at hi, cntT_step, if_neg (by rw [fromK_len]; omega)]

/-- how many trees there are, or -1 -/
noncomputable def countTV (B : ByteArray) (es : List (ByteArray × ByteArray)) : Int := open Classical in if Valid B.data.toList (ebs es) then ((cntT (endsN B.data.toList (ebs es)) (fresh B.size) (fromK es.length 0) (B.size - 2) : Nat) : Int) else -1

/-- eight labels, as a value -/
def arrL (f : Nat → Nat) : Value := .agg #[.int .i64 ((f 0 : Nat) : Int), .int .i64 ((f 1 : Nat) : Int), .int .i64 ((f 2 : Nat) : Int), .int .i64 ((f 3 : Nat) : Int), .int .i64 ((f 4 : Nat) : Int), .int .i64 ((f 5 : Nat) : Int), .int .i64 ((f 6 : Nat) : Int), .int .i64 ((f 7 : Nat) : Int)]

theorem arrL_row (W : World) (f : Nat → Nat) (T : TypeId) : (W.alloc (.cells #[.int .i64 ((f 0 : Nat) : Int), .int .i64 ((f 1 : Nat) : Int), .int .i64 ((f 2 : Nat) : Int), .int .i64 ((f 3 : Nat) : Int), .int .i64 ((f 4 : Nat) : Int), .int .i64 ((f 5 : Nat) : Int), .int .i64 ((f 6 : Nat) : Int), .int .i64 ((f 7 : Nat) : Int)] T)).rowIs W.heap.size T 8 (fun i => .int .i64 ((f i : Nat) : Int)) := by
  refine World.rowIs_alloc W _ _ _ fun i hi => ?_
  have hi2 : i < 8 := hi
  have h : i = 0 ∨ i = 1 ∨ i = 2 ∨ i = 3 ∨ i = 4 ∨ i = 5 ∨ i = 6 ∨ i = 7 := by omega
  rcases h with rfl | rfl | rfl | rfl | rfl | rfl | rfl | rfl <;> rfl

set_option maxRecDepth 100000 in
set_option maxHeartbeats 8000000 in
/-- spec.l5Count -/
theorem l5Count_any (B : ByteArray) (A : Option Addr) (cap : Nat) (es : List (ByteArray × ByteArray)) (hs : B.size ≤ maxLen) (hV : Valid B.data.toList (ebs es)) (E : Nat → Nat × Nat) (hEE : endsN B.data.toList (ebs es) = E) : ∀ (k i m : Nat) (f : Nat → Nat) (w : World), es.length - i ≤ k → i ≤ es.length → m ≤ 8 → EdgesIn w w.heap.size A es →
    Calls Try.prog 62 #[.agg #[.string B, .slice A es.length cap], arrL f, .int .i64 i, .int .i64 m] w fun e w' => e = .returned (.int .i64 ((cntT E f (fromK es.length i) m : Nat) : Int)) ∧ Below w.heap.size w w' := by
  have h16 : es.length ≤ 16 := (valid_sizes hV).2
  have h8 : B.size ≤ 8 := (valid_sizes hV).1
  have HM := Lib.hid hs
  have HEO := Lib.hid hV.1.2
  have HBL : Hid (B.data.toList.length = B.size) := Lib.hid (by simp)
  have FE : Hid (∀ (k : Nat), k < es.length → ∀ W : World, EdgesIn W W.heap.size A es → Calls Try.prog 66 #[.agg #[.string B, .slice A es.length cap], .string ⟨#[nameOf k]⟩] W fun e w' => e = .returned (.tuple #[.int .i64 (((E k).1 : Nat) : Int), .int .i64 (((E k).2 : Nat) : Int)]) ∧ Below W.heap.size W w') := Lib.hid fun k hk W h => by
    rw [← hEE]
    exact l5Ends_any B A cap es ⟨#[nameOf k]⟩ k W HM.out h (by omega) HEO.out hk (eIdx_name hk (by omega))
  have FN : Hid (∀ k, k < es.length → (E k).1 < 8 ∧ (E k).2 < 8) := Lib.hid fun k hk => by
    obtain ⟨x, y, i, j, _, _, e3, _, _, h1, h2⟩ := ends_at HEO.out hk
    rw [← hEE, e3]
    have := HBL.out
    simp only
    omega
  clear hs hV hEE h8
  intro k
  induction k with
  | zero =>
    intro i m f w hk hi hm hE
    have hi' : i = es.length := by omega
    subst hi'
    cases m with
    | zero =>
      have HN := Lib.hid (cntT_zero E f (fromK es.length es.length))
      unfold arrL
      go_enter Try.func62, Try.ntmps62
      go_wp2_with fail
      go_ret
      exact ⟨by rw [HN.out]; rfl, ((Below.refl _ _).alloc (Nat.le_refl _) _).alloc (by simp) _⟩
    | succ m =>
      have HN := Lib.hid (cntT_short (E := E) (f := f) (n := es.length) (i := es.length) (m := m + 1) (by omega) (by omega))
      have a1 : ((m + 1 : Nat) : Int) ≠ 0 := by omega
      have a2 : IntKind.i64.wrap ((es.length : Int) - (es.length : Int)) = 0 := by rw [IntWalk.i64_in _ (by omega)]; omega
      have a3 : (0 : Int) < ((m + 1 : Nat) : Int) := by omega
      obtain ⟨M, hM⟩ : ∃ M : Nat, m + 1 = M := ⟨_, rfl⟩
      rw [hM] at a1 a3 HN ⊢
      have a4 : ((M : Int) == 0) = false := by rw [beq_eq_false_iff_ne]; exact a1
      clear hM
      unfold arrL
      go_enter Try.func62, Try.ntmps62
      go_wp2_with fail
      go_ret
      exact ⟨by rw [HN.out]; rfl, ((Below.refl _ _).alloc (Nat.le_refl _) _).alloc (by simp) _⟩
  | succ k ih =>
    intro i m f w hk hi hm hE
    have IH := Lib.hid ih
    clear ih
    cases m with
    | zero =>
      have HN := Lib.hid (cntT_zero E f (fromK es.length i))
      unfold arrL
      go_enter Try.func62, Try.ntmps62
      go_wp2_with fail
      go_ret
      exact ⟨by rw [HN.out]; rfl, ((Below.refl _ _).alloc (Nat.le_refl _) _).alloc (by simp) _⟩
    | succ m =>
    obtain ⟨d, hd⟩ : ∃ d, es.length - i = d := ⟨_, rfl⟩
    have a2 : IntKind.i64.wrap ((es.length : Int) - (i : Int)) = (d : Int) := by rw [IntWalk.i64_in _ (by omega)]; omega
    obtain ⟨M, hMM⟩ : ∃ M : Nat, m + 1 = M := ⟨_, rfl⟩
    have a1 : ((M : Int) == 0) = false := by rw [beq_eq_false_iff_ne]; omega
    by_cases hshort : d < m + 1
    · have HN := Lib.hid (cntT_short (E := E) (f := f) (n := es.length) (i := i) (m := m + 1) (by omega) (by omega))
      have a3 : (d : Int) < (M : Int) := by omega
      rw [hMM] at HN ⊢
      clear hMM hd hshort
      unfold arrL
      go_enter Try.func62, Try.ntmps62
      go_wp2_with fail
      go_ret
      exact ⟨by rw [HN.out]; rfl, ((Below.refl _ _).alloc (Nat.le_refl _) _).alloc (by simp) _⟩
    have hil : i < es.length := by omega
    have HGO := Lib.hid (cntT_go (E := E) (f := f) (n := es.length) (i := i) (m := m) (by omega))
    have HC1 : Hid (cntT E f (fromK es.length (i + 1)) (m + 1) ≤ 65536) := Lib.hid (by
      have h1 := cntT_few E (fromK es.length (i + 1)) f (m + 1)
      have h2 : 2 ^ (fromK es.length (i + 1)).length ≤ 2 ^ 16 := Nat.pow_le_pow_right (by omega) (by rw [fromK_len]; omega)
      omega)
    obtain ⟨n1, n2⟩ := FN.out i hil
    have HC2 : Hid (cntT E (joinL f (E i).1 (E i).2) (fromK es.length (i + 1)) m ≤ 65536) := Lib.hid (by
      have h1 := cntT_few E (fromK es.length (i + 1)) (joinL f (E i).1 (E i).2) m
      have h2 : 2 ^ (fromK es.length (i + 1)).length ≤ 2 ^ 16 := Nat.pow_le_pow_right (by omega) (by rw [fromK_len]; omega)
      omega)
    have IH1 := Lib.hid (fun W h => IH.out (i + 1) (m + 1) f W (by omega) (by omega) hm h)
    have IH2 := Lib.hid (fun W h => IH.out (i + 1) m (joinL f (E i).1 (E i).2) W (by omega) (by omega) (by omega) h)
    have HFE := Lib.hid (FE.out i hil)
    have HFM : Hid (∀ W : World, Calls Try.prog 64 #[.int .i64 i] W fun e w' => e = .returned (.string ⟨#[nameOf i]⟩) ∧ Below W.heap.size W w') := Lib.hid fun W => l1Name_any i (by omega) W
    obtain ⟨p1, hp1⟩ : ∃ p, (E i).1 = p := ⟨_, rfl⟩
    obtain ⟨p2, hp2⟩ : ∃ p, (E i).2 = p := ⟨_, rfl⟩
    obtain ⟨c1, hc1⟩ : ∃ c, cntT E f (fromK es.length (i + 1)) (m + 1) = c := ⟨_, rfl⟩
    rw [hp1, hp2] at HGO HC2 IH2 HFE
    rw [hp1] at n1
    rw [hp2] at n2
    obtain ⟨c2, hc2⟩ : ∃ c, cntT E (joinL f p1 p2) (fromK es.length (i + 1)) m = c := ⟨_, rfl⟩
    rw [hc1] at HGO HC1 IH1
    rw [hc2] at HGO HC2 IH2
    rw [hMM] at HGO IH1 ⊢
    have a3 : ¬ (d : Int) < (M : Int) := by omega
    have b1 : IntKind.i64.wrap ((i : Int) + 1) = ((i + 1 : Nat) : Int) := by rw [IntWalk.i64_in _ (by omega)]; omega
    have b2 : IntKind.i64.wrap ((M : Int) - 1) = (m : Int) := by rw [IntWalk.i64_in _ (by omega)]; omega
    obtain ⟨i1, hi1⟩ : ∃ i1, i + 1 = i1 := ⟨_, rfl⟩
    rw [hi1] at b1 IH1 IH2
    obtain ⟨W0, hW0⟩ : ∃ W0, W0 = (w.alloc (.cells #[.string B, .slice A es.length cap] 30)).alloc (.cells #[.int .i64 ((f 0 : Nat) : Int), .int .i64 ((f 1 : Nat) : Int), .int .i64 ((f 2 : Nat) : Int), .int .i64 ((f 3 : Nat) : Int), .int .i64 ((f 4 : Nat) : Int), .int .i64 ((f 5 : Nat) : Int), .int .i64 ((f 6 : Nat) : Int), .int .i64 ((f 7 : Nat) : Int)] 59) := ⟨_, rfl⟩
    have hb0 : Below w.heap.size w W0 := by rw [hW0]; exact ((Below.refl _ _).alloc (Nat.le_refl _) _).alloc (by simp) _
    have t0 : Two W0 w.heap.size B A es.length cap := by rw [hW0]; exact ⟨by go_simp, by go_simp⟩
    have l0 : Labs W0 (w.heap.size + 1) f := by
      have := arrL_row (w.alloc (.cells #[.string B, .slice A es.length cap] 30)) f 59
      rw [World.size_alloc] at this
      rw [hW0]; exact this
    have hz0 : W0.heap.size = w.heap.size + 2 := by rw [hW0]; simp
    have q0 : W0.cell? ⟨w.heap.size + 1, 0, none⟩ = some (.int .i64 ((f 0 : Nat) : Int)) := l0.cell (i := 0) (by omega)
    have q1 : W0.cell? ⟨w.heap.size + 1, 1, none⟩ = some (.int .i64 ((f 1 : Nat) : Int)) := l0.cell (i := 1) (by omega)
    have q2 : W0.cell? ⟨w.heap.size + 1, 2, none⟩ = some (.int .i64 ((f 2 : Nat) : Int)) := l0.cell (i := 2) (by omega)
    have q3 : W0.cell? ⟨w.heap.size + 1, 3, none⟩ = some (.int .i64 ((f 3 : Nat) : Int)) := l0.cell (i := 3) (by omega)
    have q4 : W0.cell? ⟨w.heap.size + 1, 4, none⟩ = some (.int .i64 ((f 4 : Nat) : Int)) := l0.cell (i := 4) (by omega)
    have q5 : W0.cell? ⟨w.heap.size + 1, 5, none⟩ = some (.int .i64 ((f 5 : Nat) : Int)) := l0.cell (i := 5) (by omega)
    have q6 : W0.cell? ⟨w.heap.size + 1, 6, none⟩ = some (.int .i64 ((f 6 : Nat) : Int)) := l0.cell (i := 6) (by omega)
    have q7 : W0.cell? ⟨w.heap.size + 1, 7, none⟩ = some (.int .i64 ((f 7 : Nat) : Int)) := l0.cell (i := 7) (by omega)
    have d0 := t0.1; have d1 := t0.2
    have HL0 := Lib.hid l0
    clear hp1 hp2 hc1 hc2 hi1 hd hk hi hm l0 hshort FE FN IH hMM
    rw [hW0] at q0 q1 q2 q3 q4 q5 q6 q7 d0 d1
    unfold arrL
    unfold arrL at IH1 IH2
    go_enter Try.func62, Try.ntmps62
    go_wp2_with fail
    rw [← hW0]
    clear q0 q1 q2 q3 q4 q5 q6 q7 d0 d1 hW0
    refine (IH1.out _ ((hE.below hb0).more hb0.size)).mono ?_
    rintro e w2 ⟨rfl, hb2⟩
    have hb2' := hb0.trans (hb2.mono hb0.size)
    have t2 := t0.below hb2 (by omega)
    have hl2 : Labs w2 (w.heap.size + 1) f := HL0.out.of_block (hb2.block _ (by omega))
    have hz2 := hb2.size
    rw [hz0] at hz2
    have x0 : ∀ x : After w2, x.W.cell? ⟨w.heap.size, 0, none⟩ = some (.string B) := fun x => x.cell (by simp only; omega) t2.1
    have x1 : ∀ x : After w2, x.W.cell? ⟨w.heap.size, 1, none⟩ = some (.slice A es.length cap) := fun x => x.cell (by simp only; omega) t2.2
    have xE : ∀ x : After w2, EdgesIn x.W x.W.heap.size A es := fun x => (hE.below (hb2'.trans (x.h.mono hb2'.size))).more (hb2'.trans (x.h.mono hb2'.size)).size
    have XE := Lib.hid xE; have HL2 := Lib.hid hl2
    clear hb2 t0 hb0 hz0 hl2 xE
    go_wp2_with fail
    refine wp_region_below (by kernel_rfl) (by kernel_rfl) ?_
    repeat (go_big_quiet_step ((first
      | (go_at_call 64; exact After.call (HFM.out _))
      | (go_at_call 66; exact After.call (HFE.out _ (XE.out _))))))
    refine wpQuiet_nil ?_
    rintro _ ⟨xw, rfl⟩
    clear x0 x1
    have hLx : Labs xw.W (w.heap.size + 1) f := HL2.out.of_block (xw.h.block _ (by omega))
    have tx := t2.below xw.h (by omega)
    have hbx := hb2'.trans (xw.h.mono hb2'.size)
    have hzx := xw.h.size
    have HLX := Lib.hid hLx
    clear hLx t2 hb2' XE
    go_wp2_with fail
    refine (join5_any (w.heap.size + 1) f p1 p2 xw.W HLX.out n1 n2).mono ?_
    rintro e w4 ⟨rfl, hl4, hg4⟩
    have hb4 : Below w.heap.size w w4 := hbx.grown hg4 hbx.size (fun q e => by injection e with e; omega)
    have t4 := tx.grown hg4 (by omega) (by intro e; injection e with e; omega)
    by_cases hsame : f p1 = f p2
    · have HD : Hid (cntT E f (fromK es.length i) M = c1) := Lib.hid (by rw [HGO.out, if_pos hsame]; omega)
      have q : (f p1 != f p2) = false := bne_eq_false_iff_eq.2 hsame
      clear hsame t4 hl4 hg4
      go_wp2_with fail
      go_ret
      exact ⟨by rw [HD.out]; rfl, hb4⟩
    · have HD : Hid (cntT E f (fromK es.length i) M = c1 + c2) := Lib.hid (by rw [HGO.out, if_neg hsame])
      have q : (f p1 != f p2) = true := bne_iff_ne.2 hsame
      have hsum : IntKind.i64.wrap ((c1 : Int) + (c2 : Int)) = ((c1 + c2 : Nat) : Int) := by
        have := HC1.out; have := HC2.out
        rw [IntWalk.i64_in _ (by omega)]; omega
      have HSUM := Lib.hid hsum
      clear hsame hg4 hsum
      obtain ⟨f', hf'⟩ : ∃ f', joinL f p1 p2 = f' := ⟨_, rfl⟩
      rw [hf'] at hl4 IH2
      have q0 : w4.cell? ⟨w.heap.size + 1, 0, none⟩ = some (.int .i64 ((f' 0 : Nat) : Int)) := hl4.cell (i := 0) (by omega)
      have q1 : w4.cell? ⟨w.heap.size + 1, 1, none⟩ = some (.int .i64 ((f' 1 : Nat) : Int)) := hl4.cell (i := 1) (by omega)
      have q2 : w4.cell? ⟨w.heap.size + 1, 2, none⟩ = some (.int .i64 ((f' 2 : Nat) : Int)) := hl4.cell (i := 2) (by omega)
      have q3 : w4.cell? ⟨w.heap.size + 1, 3, none⟩ = some (.int .i64 ((f' 3 : Nat) : Int)) := hl4.cell (i := 3) (by omega)
      have q4 : w4.cell? ⟨w.heap.size + 1, 4, none⟩ = some (.int .i64 ((f' 4 : Nat) : Int)) := hl4.cell (i := 4) (by omega)
      have q5 : w4.cell? ⟨w.heap.size + 1, 5, none⟩ = some (.int .i64 ((f' 5 : Nat) : Int)) := hl4.cell (i := 5) (by omega)
      have q6 : w4.cell? ⟨w.heap.size + 1, 6, none⟩ = some (.int .i64 ((f' 6 : Nat) : Int)) := hl4.cell (i := 6) (by omega)
      have q7 : w4.cell? ⟨w.heap.size + 1, 7, none⟩ = some (.int .i64 ((f' 7 : Nat) : Int)) := hl4.cell (i := 7) (by omega)
      have d0 := t4.1; have d1 := t4.2
      clear hf' hl4
      go_wp2_with fail
      clear q0 q1 q2 q3 q4 q5 q6 q7 d0 d1
      refine (IH2.out _ ((hE.below hb4).more hb4.size)).mono ?_
      rintro e w5 ⟨rfl, hb5⟩
      have hb5' := hb4.trans (hb5.mono hb4.size)
      have hsum := HSUM.out
      clear hb5 t4
      go_wp2_with fail
      go_ret
      exact ⟨by rw [HD.out]; rfl, hb5'⟩

set_option maxRecDepth 100000 in
set_option maxHeartbeats 4000000 in
/-- spec.CountTrees -/
theorem specCountTrees_any (B : ByteArray) (A : Option Addr) (cap : Nat) (es : List (ByteArray × ByteArray)) (w : World) (hs : B.size ≤ maxLen) (hE : EdgesIn w w.heap.size A es) (hl : es.length ≤ 1099511627776) (_ : ∀ e ∈ es, e.1.size ≤ 1099511627776 ∧ e.2.size ≤ 1099511627776) :
    Calls Try.prog 29 #[.agg #[.string B, .slice A es.length cap]] w (IntPost (countTV B es) w) := by
  have HL := Lib.hid hl; have HM := Lib.hid hs
  clear hl hs
  have hb1 : Below w.heap.size w (w.alloc (.cells #[.string B, .slice A es.length cap] 30)) := (Below.refl _ _).alloc (Nat.le_refl _) _
  have t1 := Two.made w B A es.length cap 30
  have hz1 : (w.alloc (.cells #[.string B, .slice A es.length cap] 30)).heap.size = w.heap.size + 1 := by simp
  by_cases hv : Valid B.data.toList (ebs es)
  case neg =>
    have HN : Hid (countTV B es = -1) := Lib.hid (if_neg hv)
    have FA : Hid (∀ W : World, EdgesIn W W.heap.size A es → Calls Try.prog 43 #[.agg #[.string B, .slice A es.length cap]] W fun e w' => e = .returned (.bool false) ∧ Below W.heap.size W w') := Lib.hid fun W h => by
      have := specValid_any B A cap es W HM.out h (by unfold maxLen; have := HL.out; omega)
      rwa [decB_f hv] at this
    clear hv
    go_enter Try.func29, Try.ntmps29
    go_wp2_with fail
    refine (FA.out _ ((hE.below hb1).more hb1.size)).mono ?_
    rintro e w2 ⟨rfl, hb2⟩
    have hb2' := hb1.trans (hb2.mono hb1.size)
    clear hb2 t1
    go_wp2_with fail
    go_ret
    exact ⟨ret_int HN.out.symm, hb2'⟩
  have HN : Hid (countTV B es = ((cntT (endsN B.data.toList (ebs es)) (fresh B.size) (fromK es.length 0) (B.size - 2) : Nat) : Int)) := Lib.hid (if_pos hv)
  have FA : Hid (∀ W : World, EdgesIn W W.heap.size A es → Calls Try.prog 43 #[.agg #[.string B, .slice A es.length cap]] W fun e w' => e = .returned (.bool true) ∧ Below W.heap.size W w') := Lib.hid fun W h => by
    have := specValid_any B A cap es W HM.out h (by unfold maxLen; have := HL.out; omega)
    rwa [decB_t hv] at this
  have h2 : 2 ≤ B.size := by have := hv.1.1.1; simpa using this
  have h8 : B.size ≤ 8 := (valid_sizes hv).1
  have h16 : es.length ≤ 16 := (valid_sizes hv).2
  obtain ⟨m, hm⟩ : ∃ m, B.size - 2 = m := ⟨_, rfl⟩
  have z1 : IntKind.i64.wrap ((B.size : Int) - 2) = (m : Int) := by rw [IntWalk.i64_in _ (by omega)]; omega
  have FC : Hid (∀ W : World, EdgesIn W W.heap.size A es → Calls Try.prog 62 #[.agg #[.string B, .slice A es.length cap], arrL (fresh B.size), .int .i64 ((0 : Nat) : Int), .int .i64 m] W fun e w' => e = .returned (.int .i64 (countTV B es)) ∧ Below W.heap.size W w') := Lib.hid fun W h => by
    rw [HN.out, hm]
    exact l5Count_any B A cap es HM.out hv _ rfl _ 0 m (fresh B.size) W (Nat.le_refl _) (Nat.zero_le _) (by omega) h
  obtain ⟨v, hv'⟩ : ∃ v, countTV B es = v := ⟨_, rfl⟩
  rw [hv'] at FC ⊢
  obtain ⟨f, hf⟩ : ∃ f, fresh B.size = f := ⟨_, rfl⟩
  have FM : Hid (∀ W : World, Calls Try.prog 32 #[.agg #[.string B, .slice A es.length cap]] W fun e w' => ∃ g, e = .returned (.pointer (some ⟨g, 0, none⟩)) ∧ W.heap.size ≤ g ∧ g < w'.heap.size ∧ Labs w' g f ∧ Below W.heap.size W w') := Lib.hid fun W => by
    rw [← hf]; exact l5Make_any B _ W h2 h8
  rw [hf] at FC
  unfold arrL at FC
  have HE := Lib.hid hE
  clear hv hv' hf hm h16 h2 h8 HN
  go_enter Try.func29, Try.ntmps29
  go_wp2_with fail
  refine (FA.out _ ((hE.below hb1).more hb1.size)).mono ?_
  rintro e w2 ⟨rfl, hb2⟩
  have hb2' := hb1.trans (hb2.mono hb1.size)
  have t2 := t1.below hb2 (by omega)
  have hz2 := hb2.size
  rw [hz1] at hz2
  clear hb2 t1 FA hb1 hz1 hE
  have HB2 := Lib.hid hb2'; have HT2 := Lib.hid t2
  have d0 := t2.1; have d1 := t2.2
  clear t2 hb2'
  go_wp2_with fail
  go_region_with (first
    | (go_at_call 62; refine (FC.out _ ((HE.out.below hbb).more hbb.size)).mono ?_; rintro e w4 ⟨rfl, hb4⟩
       have hfin : Below w.heap.size w w4 := hbb.trans ((show Below w3.heap.size w3 w4 from ⟨hb4.os, hb4.tape, hb4.output, hb4.size, hb4.block⟩).mono hbb.size)
       clear hb4)
    | (go_at_call 32; refine (FM.out _).mono ?_; rintro e w3 ⟨g, rfl, hg1, hg2, hlab, hb3⟩
       have hb3' : Below w2.heap.size w2 w3 := ⟨hb3.os, hb3.tape, hb3.output, hb3.size, hb3.block⟩
       have d2 := (hb3'.cell (p := ⟨w.heap.size, 0, none⟩) (by simp only; omega)).trans d0
       have d3 := (hb3'.cell (p := ⟨w.heap.size, 1, none⟩) (by simp only; omega)).trans d1
       have hbb : Below w.heap.size w w3 := HB2.out.trans (hb3'.mono HB2.out.size)
       have q0 := hlab.cell (i := 0) (by omega); have q1 := hlab.cell (i := 1) (by omega); have q2 := hlab.cell (i := 2) (by omega); have q3 := hlab.cell (i := 3) (by omega)
       have q4 := hlab.cell (i := 4) (by omega); have q5 := hlab.cell (i := 5) (by omega); have q6 := hlab.cell (i := 6) (by omega); have q7 := hlab.cell (i := 7) (by omega)
       clear hb3 hb3' hlab hg1 hg2))
  all_goals
    go_wp2_with fail
    go_ret
    exact ⟨rfl, hfin⟩

end Go.Proofs.Ytjfdkhaepmmlfaa

namespace Go.Proofs.Ytjfdkhaepmmlfaa
open Go.RowKit

set_option maxRecDepth 100000 in
set_option maxHeartbeats 4000000 in
/-- impl.labels.joined -/
theorem joined_any (f : Nat → Nat) (a b : Nat) (w : World) (ha : a < 8) (hb : b < 8) :
    Calls Try.prog 71 #[arrL f, .int .i64 a, .int .i64 b] w fun e w' => e = .returned (arrL (joinR f a b)) ∧ Below w.heap.size w w' := by
  obtain ⟨W1, hW1⟩ : ∃ W1, W1 = (w.alloc (.cells #[.int .i64 ((f 0 : Nat) : Int), .int .i64 ((f 1 : Nat) : Int), .int .i64 ((f 2 : Nat) : Int), .int .i64 ((f 3 : Nat) : Int), .int .i64 ((f 4 : Nat) : Int), .int .i64 ((f 5 : Nat) : Int), .int .i64 ((f 6 : Nat) : Int), .int .i64 ((f 7 : Nat) : Int)] 108)).alloc (.cells #[.int .i64 0, .int .i64 0, .int .i64 0, .int .i64 0, .int .i64 0, .int .i64 0, .int .i64 0, .int .i64 0] 108) := ⟨_, rfl⟩
  have hb1 : Below w.heap.size w W1 := by rw [hW1]; exact ((Below.refl _ _).alloc (Nat.le_refl _) _).alloc (by simp) _
  have hz1 : W1.heap.size = w.heap.size + 2 := by rw [hW1]; simp
  have l0 := arrL_row w f 108
  have hl1 : W1.rowIs w.heap.size 108 8 (fun i => .int .i64 ((f i : Nat) : Int)) := by rw [hW1]; exact l0.alloc _
  have hr1 : W1.rowIs (w.heap.size + 1) 108 8 (fun _ => .int .i64 0) := by
    have := arrL_row (w.alloc (.cells #[.int .i64 ((f 0 : Nat) : Int), .int .i64 ((f 1 : Nat) : Int), .int .i64 ((f 2 : Nat) : Int), .int .i64 ((f 3 : Nat) : Int), .int .i64 ((f 4 : Nat) : Int), .int .i64 ((f 5 : Nat) : Int), .int .i64 ((f 6 : Nat) : Int), .int .i64 ((f 7 : Nat) : Int)] 108)) (fun _ => 0) 108
    rw [World.size_alloc] at this
    rw [hW1]; exact this
  have ca := hl1.cell (i := a) ha
  have a1 : (0 : Int) ≤ (a : Int) := by omega
  have a2 : (a : Int) < 8 := by omega
  have HB1 := Lib.hid hb1; have HL1 := Lib.hid hl1; have HR1 := Lib.hid hr1; have HZ1 := Lib.hid hz1
  obtain ⟨x, hx⟩ : ∃ x, f a = x := ⟨_, rfl⟩
  have HJ : Hid (∀ m, joinR f a b m = if f m = x then f b else f m) := Lib.hid fun m => by unfold joinR; rw [hx]
  have HJB : Hid (joinR f a b b = f b) := Lib.hid (by unfold joinR; split <;> rfl)
  rw [hx] at ca
  clear l0 hl1 hr1 hb1 hz1 hx
  rw [hW1] at ca
  unfold arrL
  go_enter Try.func71, Try.ntmps71
  go_wp2_with fail
  rw [← hW1]
  clear ca hW1
  go_loopw [12] (fun c wr => ∃ m : Nat, m ≤ 8 ∧ c = .int .i64 m ∧ wr.rowIs w.heap.size 108 8 (fun i => .int .i64 ((if i < m then joinR f a b i else f i : Nat) : Int)) ∧ W1.grownBy wr (some w.heap.size)) (fun c _ => 8 - (intOf c).toNat)
  case atStart => exact ⟨0, Nat.zero_le _, rfl, HL1.out.congr (fun i _ => by simp), World.grownBy.refl _ _⟩
  case round =>
    obtain ⟨m, hm, rfl, hrow, hgr⟩ := hrel
    have HROW := Lib.hid hrow; have HGR := Lib.hid hgr
    have hres : wr.rowIs (w.heap.size + 1) 108 8 (fun _ => .int .i64 0) := HR1.out.of_block (hgr.block _ (by have := HZ1.out; omega) (by intro e; injection e with e; omega))
    have hbel : Below w.heap.size w wr := HB1.out.grown hgr (by have := HB1.out.size; omega) (fun q e => by injection e with e; omega)
    have HBEL := Lib.hid hbel
    clear hgr hbel
    by_cases hlt : m < 8
    · have cm := hrow.cell (i := m) hlt
      have cb := hrow.cell (i := b) hb
      have fm := hrow.frozen m
      rw [if_neg (Nat.lt_irrefl m)] at cm
      have hbv : (if b < m then joinR f a b b else f b) = f b := by rw [HJB.out]; split <;> rfl
      rw [hbv] at cb
      have HM := Lib.hid (HJ.out m)
      obtain ⟨v, hv⟩ : ∃ v, f m = v := ⟨_, rfl⟩
      obtain ⟨y, hy⟩ : ∃ y, f b = y := ⟨_, rfl⟩
      rw [hv] at cm HM
      rw [hy] at cb HM
      have HV := Lib.hid hv
      have m1 : (0 : Int) ≤ (m : Int) := by omega
      have m2 : (m : Int) < 8 := by omega
      have b1 : (0 : Int) ≤ (b : Int) := by omega
      have b2 : (b : Int) < 8 := by omega
      clear hrow hv hy hbv hres
      by_cases hvx : v = x
      · have q : ((v : Int) == (x : Int)) = true := by simp [hvx]
        rw [if_pos hvx] at HM
        clear hvx
        go_wp2_with fail
        go_roundw
        case rel =>
          refine ⟨m + 1, by omega, by go_num, (HROW.out.set m (.int .i64 (y : Int))).congr fun i hi => ?_, only_setCell_at HGR.out⟩
          by_cases him : i = m
          · subst him
            simp only [if_true]
            rw [if_pos (Nat.lt_succ_self _), HM.out]
          · simp only [if_neg him]
            by_cases hl : i < m
            · rw [if_pos hl, if_pos (by omega)]
            · rw [if_neg hl, if_neg (by omega)]
        case measure => simp [intOf]; omega
      · have q : ((v : Int) == (x : Int)) = false := by rw [beq_eq_false_iff_ne]; omega
        rw [if_neg hvx] at HM
        clear hvx
        go_wp2_with fail
        go_roundw
        case rel =>
          refine ⟨m + 1, by omega, by go_num, HROW.out.congr fun i hi => ?_, HGR.out⟩
          by_cases him : i = m
          · subst him
            rw [if_neg (Nat.lt_irrefl _), if_pos (Nat.lt_succ_self _), HM.out, HV.out]
          · by_cases hl : i < m
            · rw [if_pos hl, if_pos (by omega)]
            · rw [if_neg hl, if_neg (by omega)]
        case measure => simp [intOf]; omega
    · have h8 : m = 8 := by omega
      subst h8
      have HFIN : Hid (wr.rowIs w.heap.size 108 8 (fun i => .int .i64 ((joinR f a b i : Nat) : Int))) := Lib.hid (hrow.congr fun i hi => by rw [if_pos hi])
      have HRES0 := Lib.hid hres
      clear hrow hres
      have q0 := HFIN.out.cell (i := 0) (by omega); have s0 := HRES0.out.cell (i := 0) (by omega); have f0 := HRES0.out.frozen 0
      have q1 := HFIN.out.cell (i := 1) (by omega); have s1 := HRES0.out.cell (i := 1) (by omega); have f1 := HRES0.out.frozen 1
      have q2 := HFIN.out.cell (i := 2) (by omega); have s2 := HRES0.out.cell (i := 2) (by omega); have f2 := HRES0.out.frozen 2
      have q3 := HFIN.out.cell (i := 3) (by omega); have s3 := HRES0.out.cell (i := 3) (by omega); have f3 := HRES0.out.frozen 3
      have q4 := HFIN.out.cell (i := 4) (by omega); have s4 := HRES0.out.cell (i := 4) (by omega); have f4 := HRES0.out.frozen 4
      have q5 := HFIN.out.cell (i := 5) (by omega); have s5 := HRES0.out.cell (i := 5) (by omega); have f5 := HRES0.out.frozen 5
      have q6 := HFIN.out.cell (i := 6) (by omega); have s6 := HRES0.out.cell (i := 6) (by omega); have f6 := HRES0.out.frozen 6
      have q7 := HFIN.out.cell (i := 7) (by omega); have s7 := HRES0.out.cell (i := 7) (by omega); have f7 := HRES0.out.frozen 7
      obtain ⟨v0, e0⟩ : ∃ v0 : Int, ((joinR f a b 0 : Nat) : Int) = v0 := ⟨_, rfl⟩
      obtain ⟨v1, e1⟩ : ∃ v1 : Int, ((joinR f a b 1 : Nat) : Int) = v1 := ⟨_, rfl⟩
      obtain ⟨v2, e2⟩ : ∃ v2 : Int, ((joinR f a b 2 : Nat) : Int) = v2 := ⟨_, rfl⟩
      obtain ⟨v3, e3⟩ : ∃ v3 : Int, ((joinR f a b 3 : Nat) : Int) = v3 := ⟨_, rfl⟩
      obtain ⟨v4, e4⟩ : ∃ v4 : Int, ((joinR f a b 4 : Nat) : Int) = v4 := ⟨_, rfl⟩
      obtain ⟨v5, e5⟩ : ∃ v5 : Int, ((joinR f a b 5 : Nat) : Int) = v5 := ⟨_, rfl⟩
      obtain ⟨v6, e6⟩ : ∃ v6 : Int, ((joinR f a b 6 : Nat) : Int) = v6 := ⟨_, rfl⟩
      obtain ⟨v7, e7⟩ : ∃ v7 : Int, ((joinR f a b 7 : Nat) : Int) = v7 := ⟨_, rfl⟩
      rw [e0] at q0; rw [e1] at q1; rw [e2] at q2; rw [e3] at q3; rw [e4] at q4; rw [e5] at q5; rw [e6] at q6; rw [e7] at q7
      have HRES : Hid (arrL (joinR f a b) = .agg #[.int .i64 v0, .int .i64 v1, .int .i64 v2, .int .i64 v3, .int .i64 v4, .int .i64 v5, .int .i64 v6, .int .i64 v7]) := Lib.hid (by unfold arrL; rw [e0, e1, e2, e3, e4, e5, e6, e7])
      clear e0 e1 e2 e3 e4 e5 e6 e7
      go_wp2_with fail
      have hbR : ∀ (W : World) (k : Nat) (u : Value), Below w.heap.size w W → Below w.heap.size w (W.setCell ⟨w.heap.size + 1, k, none⟩ u) := fun W k u h => h.setCell (by simp only; omega) _
      refine bodyPost_ret (v := .agg #[.int .i64 v0, .int .i64 v1, .int .i64 v2, .int .i64 v3, .int .i64 v4, .int .i64 v5, .int .i64 v6, .int .i64 v7]) (by simp [results, Try.results71, go_sem, s0, s1, s2, s3, s4, s5, s6, s7]) rfl ⟨congrArg Ending.returned HRES.out.symm, ?_⟩
      exact hbR _ _ _ (hbR _ _ _ (hbR _ _ _ (hbR _ _ _ (hbR _ _ _ (hbR _ _ _ (hbR _ _ _ (hbR _ _ _ (HBEL.out))))))))

set_option maxRecDepth 100000 in
set_option maxHeartbeats 4000000 in
/-- impl.labelsOf -/
theorem labelsOf_any (B : ByteArray) (sl : Value) (w : World) (h8 : B.size ≤ 8) :
    Calls Try.prog 70 #[.agg #[.string B, sl]] w fun e w' => e = .returned (arrL (fun i => if i < B.size then i else 0)) ∧ Below w.heap.size w w' := by
  obtain ⟨F, hF⟩ : ∃ F : Nat → Nat, (fun i => if i < B.size then i else 0) = F := ⟨_, rfl⟩
  rw [hF]
  have HF := Lib.hid hF
  clear hF
  obtain ⟨W1, hW1⟩ : ∃ W1, W1 = ((w.alloc (.cells #[.string B, sl] 30)).alloc (.cells #[.int .i64 0, .int .i64 0, .int .i64 0, .int .i64 0, .int .i64 0, .int .i64 0, .int .i64 0, .int .i64 0] 108)).alloc (.cells #[.int .i64 0, .int .i64 0, .int .i64 0, .int .i64 0, .int .i64 0, .int .i64 0, .int .i64 0, .int .i64 0] 108) := ⟨_, rfl⟩
  have hb1 : Below w.heap.size w W1 := by rw [hW1]; exact (((Below.refl _ _).alloc (Nat.le_refl _) _).alloc (by simp) _).alloc (by simp; omega) _
  have hz1 : W1.heap.size = w.heap.size + 3 := by rw [hW1]; simp
  have hc0 : W1.cell? ⟨w.heap.size, 0, none⟩ = some (.string B) := by rw [hW1]; go_simp
  have hr1 : W1.rowIs (w.heap.size + 1) 108 8 (fun _ => .int .i64 0) := by
    have := arrL_row (w.alloc (.cells #[.string B, sl] 30)) (fun _ => 0) 108
    rw [World.size_alloc] at this
    rw [hW1]; exact World.rowIs.alloc this _
  have hl1 : W1.rowIs (w.heap.size + 2) 108 8 (fun _ => .int .i64 0) := by
    have := arrL_row ((w.alloc (.cells #[.string B, sl] 30)).alloc (.cells #[.int .i64 0, .int .i64 0, .int .i64 0, .int .i64 0, .int .i64 0, .int .i64 0, .int .i64 0, .int .i64 0] 108)) (fun _ => 0) 108
    simp only [World.size_alloc] at this
    rw [hW1]; exact this
  have HB1 := Lib.hid hb1; have HL1 := Lib.hid hl1; have HR1 := Lib.hid hr1; have HZ1 := Lib.hid hz1
  clear hl1 hr1 hb1 hz1
  rw [hW1] at hc0
  go_enter Try.func70, Try.ntmps70
  go_wp2_with fail
  simp only [Nat.add_assoc, Nat.reduceAdd]
  rw [← hW1]
  clear hc0 hW1
  go_loopw [8] (fun c wr => ∃ m : Nat, m ≤ B.size ∧ c = .int .i64 m ∧ wr.rowIs (w.heap.size + 2) 108 8 (fun i => .int .i64 ((if i < m then i else 0 : Nat) : Int)) ∧ W1.grownBy wr (some (w.heap.size + 2))) (fun c _ => B.size - (intOf c).toNat)
  case atStart => exact ⟨0, Nat.zero_le _, rfl, HL1.out.congr (fun i _ => by simp), World.grownBy.refl _ _⟩
  case round =>
    obtain ⟨m, hm, rfl, hrow, hgr⟩ := hrel
    have HROW := Lib.hid hrow; have HGR := Lib.hid hgr
    have hres : wr.rowIs (w.heap.size + 1) 108 8 (fun _ => .int .i64 0) := HR1.out.of_block (hgr.block _ (by have := HZ1.out; omega) (by intro e; injection e with e; omega))
    have hbel : Below w.heap.size w wr := HB1.out.grown hgr (by have := HB1.out.size; omega) (fun q e => by injection e with e; omega)
    have HBEL := Lib.hid hbel
    clear hgr hbel
    by_cases hlt : m < B.size
    · have cm := hrow.cell (i := m) (by omega)
      have fm := hrow.frozen m
      have m1 : (0 : Int) ≤ (m : Int) := by omega
      have m2 : (m : Int) < 8 := by omega
      clear hrow hres
      go_wp2_with fail
      go_roundw
      case rel =>
        refine ⟨m + 1, by omega, by go_num, (HROW.out.set m (.int .i64 (m : Int))).congr fun i hi => ?_, only_setCell_at HGR.out⟩
        by_cases him : i = m
        · subst him
          simp only [if_true]
          rw [if_pos (Nat.lt_succ_self _)]
        · simp only [if_neg him]
          by_cases hl : i < m
          · rw [if_pos hl, if_pos (by omega)]
          · rw [if_neg hl, if_neg (by omega)]
      case measure => simp [intOf]; omega
    · have h8' : m = B.size := by omega
      have HFIN : Hid (wr.rowIs (w.heap.size + 2) 108 8 (fun i => .int .i64 ((F i : Nat) : Int))) := Lib.hid (hrow.congr fun i hi => by rw [h8', ← HF.out])
      have HRES0 := Lib.hid hres
      clear hrow hres h8'
      have q0 := HFIN.out.cell (i := 0) (by omega); have s0 := HRES0.out.cell (i := 0) (by omega); have f0 := HRES0.out.frozen 0
      have q1 := HFIN.out.cell (i := 1) (by omega); have s1 := HRES0.out.cell (i := 1) (by omega); have f1 := HRES0.out.frozen 1
      have q2 := HFIN.out.cell (i := 2) (by omega); have s2 := HRES0.out.cell (i := 2) (by omega); have f2 := HRES0.out.frozen 2
      have q3 := HFIN.out.cell (i := 3) (by omega); have s3 := HRES0.out.cell (i := 3) (by omega); have f3 := HRES0.out.frozen 3
      have q4 := HFIN.out.cell (i := 4) (by omega); have s4 := HRES0.out.cell (i := 4) (by omega); have f4 := HRES0.out.frozen 4
      have q5 := HFIN.out.cell (i := 5) (by omega); have s5 := HRES0.out.cell (i := 5) (by omega); have f5 := HRES0.out.frozen 5
      have q6 := HFIN.out.cell (i := 6) (by omega); have s6 := HRES0.out.cell (i := 6) (by omega); have f6 := HRES0.out.frozen 6
      have q7 := HFIN.out.cell (i := 7) (by omega); have s7 := HRES0.out.cell (i := 7) (by omega); have f7 := HRES0.out.frozen 7
      obtain ⟨v0, e0⟩ : ∃ v0 : Int, ((F 0 : Nat) : Int) = v0 := ⟨_, rfl⟩
      obtain ⟨v1, e1⟩ : ∃ v1 : Int, ((F 1 : Nat) : Int) = v1 := ⟨_, rfl⟩
      obtain ⟨v2, e2⟩ : ∃ v2 : Int, ((F 2 : Nat) : Int) = v2 := ⟨_, rfl⟩
      obtain ⟨v3, e3⟩ : ∃ v3 : Int, ((F 3 : Nat) : Int) = v3 := ⟨_, rfl⟩
      obtain ⟨v4, e4⟩ : ∃ v4 : Int, ((F 4 : Nat) : Int) = v4 := ⟨_, rfl⟩
      obtain ⟨v5, e5⟩ : ∃ v5 : Int, ((F 5 : Nat) : Int) = v5 := ⟨_, rfl⟩
      obtain ⟨v6, e6⟩ : ∃ v6 : Int, ((F 6 : Nat) : Int) = v6 := ⟨_, rfl⟩
      obtain ⟨v7, e7⟩ : ∃ v7 : Int, ((F 7 : Nat) : Int) = v7 := ⟨_, rfl⟩
      rw [e0] at q0; rw [e1] at q1; rw [e2] at q2; rw [e3] at q3; rw [e4] at q4; rw [e5] at q5; rw [e6] at q6; rw [e7] at q7
      have HRES : Hid (arrL (F) = .agg #[.int .i64 v0, .int .i64 v1, .int .i64 v2, .int .i64 v3, .int .i64 v4, .int .i64 v5, .int .i64 v6, .int .i64 v7]) := Lib.hid (by unfold arrL; rw [e0, e1, e2, e3, e4, e5, e6, e7])
      clear e0 e1 e2 e3 e4 e5 e6 e7
      go_wp2_with fail
      have hbR : ∀ (W : World) (k : Nat) (u : Value), Below w.heap.size w W → Below w.heap.size w (W.setCell ⟨w.heap.size + 1, k, none⟩ u) := fun W k u h => h.setCell (by simp only; omega) _
      refine bodyPost_ret (v := .agg #[.int .i64 v0, .int .i64 v1, .int .i64 v2, .int .i64 v3, .int .i64 v4, .int .i64 v5, .int .i64 v6, .int .i64 v7]) (by simp [results, Try.results70, go_sem, s0, s1, s2, s3, s4, s5, s6, s7]) rfl ⟨congrArg Ending.returned HRES.out.symm, ?_⟩
      exact hbR _ _ _ (hbR _ _ _ (hbR _ _ _ (hbR _ _ _ (hbR _ _ _ (hbR _ _ _ (hbR _ _ _ (hbR _ _ _ (HBEL.out))))))))

theorem cntT_joinR (E : Nat → Nat × Nat) (f : Nat → Nat) (p1 p2 n : Nat) (ks : List Nat) (m : Nat) (h1 : p1 < n) (h2 : p2 < n) (h : ∀ k ∈ ks, (E k).1 < n ∧ (E k).2 < n) : cntT E (joinL f p1 p2) ks m = cntT E (joinR f p1 p2) ks m :=
  cntT_same E n ks h _ _ m ((SameL.refl n f).join h1 h2)

set_option maxRecDepth 100000 in
set_option maxHeartbeats 8000000 in
/-- impl.labels.countTrees -/
theorem countTrees_any (B : ByteArray) (A : Option Addr) (cap : Nat) (es : List (ByteArray × ByteArray)) (hV : Valid B.data.toList (ebs es)) (E : Nat → Nat × Nat) (hEE : endsN B.data.toList (ebs es) = E) : ∀ (k i m : Nat) (f : Nat → Nat) (w : World), es.length - i ≤ k → i ≤ es.length → m ≤ 8 → EdgesIn w w.heap.size A es →
    Calls Try.prog 72 #[arrL f, .agg #[.string B, .slice A es.length cap], .int .i64 i, .int .i64 m] w fun e w' => e = .returned (.int .i64 ((cntT E f (fromK es.length i) m : Nat) : Int)) ∧ Below w.heap.size w w' := by
  have h16 : es.length ≤ 16 := (valid_sizes hV).2
  have HEO := Lib.hid hV.1.2
  have HBL : Hid (B.data.toList.length ≤ 8) := Lib.hid hV.1.1.2.1
  have FB : Hid (∀ (c : UInt8) (W : World), Calls Try.prog 102 #[.agg #[.string B, .slice A es.length cap], .string ⟨#[c]⟩] W fun e w' => e = .returned (.int .i64 (Lib.indexByte B.data.toList c)) ∧ Below W.heap.size W w') := Lib.hid fun c W => by
    have := blockIndex_any B ⟨#[c]⟩ (.slice A es.length cap) W
    simpa [bIdx] using this
  have FN : Hid (∀ k, k < es.length → (E k).1 < 8 ∧ (E k).2 < 8) := Lib.hid fun k hk => by
    obtain ⟨x, y, i, j, _, _, e3, _, _, h1, h2⟩ := ends_at HEO.out hk
    rw [← hEE, e3]
    have := HBL.out
    simp only
    omega
  have HEE := Lib.hid hEE
  clear hV hEE
  intro k
  induction k with
  | zero =>
    intro i m f w hk hi hm hE
    have hi' : i = es.length := by omega
    subst hi'
    cases m with
    | zero =>
      have HN := Lib.hid (cntT_zero E f (fromK es.length es.length))
      unfold arrL
      go_enter Try.func72, Try.ntmps72
      go_wp2_with fail
      go_ret
      exact ⟨by rw [HN.out]; rfl, ((Below.refl _ _).alloc (Nat.le_refl _) _).alloc (by simp) _⟩
    | succ m =>
      have HN := Lib.hid (cntT_short (E := E) (f := f) (n := es.length) (i := es.length) (m := m + 1) (by omega) (by omega))
      have a2 : IntKind.i64.wrap ((es.length : Int) - (es.length : Int)) = 0 := by rw [IntWalk.i64_in _ (by omega)]; omega
      obtain ⟨M, hM⟩ : ∃ M : Nat, m + 1 = M := ⟨_, rfl⟩
      have a3 : (0 : Int) < (M : Int) := by omega
      have a4 : ((M : Int) == 0) = false := by rw [beq_eq_false_iff_ne]; omega
      rw [hM] at HN ⊢
      clear hM
      unfold arrL
      go_enter Try.func72, Try.ntmps72
      go_wp2_with fail
      go_ret
      exact ⟨by rw [HN.out]; rfl, ((Below.refl _ _).alloc (Nat.le_refl _) _).alloc (by simp) _⟩
  | succ k ih =>
    intro i m f w hk hi hm hE
    have IH := Lib.hid ih
    clear ih
    cases m with
    | zero =>
      have HN := Lib.hid (cntT_zero E f (fromK es.length i))
      unfold arrL
      go_enter Try.func72, Try.ntmps72
      go_wp2_with fail
      go_ret
      exact ⟨by rw [HN.out]; rfl, ((Below.refl _ _).alloc (Nat.le_refl _) _).alloc (by simp) _⟩
    | succ m =>
    obtain ⟨d, hd⟩ : ∃ d, es.length - i = d := ⟨_, rfl⟩
    have a2 : IntKind.i64.wrap ((es.length : Int) - (i : Int)) = (d : Int) := by rw [IntWalk.i64_in _ (by omega)]; omega
    obtain ⟨M, hMM⟩ : ∃ M : Nat, m + 1 = M := ⟨_, rfl⟩
    have a1 : ((M : Int) == 0) = false := by rw [beq_eq_false_iff_ne]; omega
    by_cases hshort : d < m + 1
    · have HN := Lib.hid (cntT_short (E := E) (f := f) (n := es.length) (i := i) (m := m + 1) (by omega) (by omega))
      have a3 : (d : Int) < (M : Int) := by omega
      rw [hMM] at HN ⊢
      clear hMM hd hshort
      unfold arrL
      go_enter Try.func72, Try.ntmps72
      go_wp2_with fail
      go_ret
      exact ⟨by rw [HN.out]; rfl, ((Below.refl _ _).alloc (Nat.le_refl _) _).alloc (by simp) _⟩
    have hil : i < es.length := by omega
    have HGO := Lib.hid (cntT_go (E := E) (f := f) (n := es.length) (i := i) (m := m) (by omega))
    have HC1 : Hid (cntT E f (fromK es.length (i + 1)) (m + 1) ≤ 65536) := Lib.hid (by
      have h1 := cntT_few E (fromK es.length (i + 1)) f (m + 1)
      have h2 : 2 ^ (fromK es.length (i + 1)).length ≤ 2 ^ 16 := Nat.pow_le_pow_right (by omega) (by rw [fromK_len]; omega)
      omega)
    obtain ⟨n1, n2⟩ := FN.out i hil
    have hcj := cntT_joinR E f (E i).1 (E i).2 8 (fromK es.length (i + 1)) m n1 n2 (fun k hk => FN.out k (fromK_mem hk))
    rw [hcj] at HGO
    have HC2 : Hid (cntT E (joinR f (E i).1 (E i).2) (fromK es.length (i + 1)) m ≤ 65536) := Lib.hid (by
      have h1 := cntT_few E (fromK es.length (i + 1)) (joinR f (E i).1 (E i).2) m
      have h2 : 2 ^ (fromK es.length (i + 1)).length ≤ 2 ^ 16 := Nat.pow_le_pow_right (by omega) (by rw [fromK_len]; omega)
      omega)
    have IH1 := Lib.hid (fun W h => IH.out (i + 1) (m + 1) f W (by omega) (by omega) hm h)
    have IH2 := Lib.hid (fun W h => IH.out (i + 1) m (joinR f (E i).1 (E i).2) W (by omega) (by omega) (by omega) h)
    have HJ := Lib.hid (fun W => joined_any f (E i).1 (E i).2 W n1 n2)
    obtain ⟨x, y, p1, p2, e1, e2, e3, e4, e5, _, _⟩ := ends_at HEO.out hil
    rw [HEE.out] at e3
    have hp1 : (E i).1 = p1 := by rw [e3]
    have hp2 : (E i).2 = p2 := by rw [e3]
    obtain ⟨c1, hc1⟩ : ∃ c, cntT E f (fromK es.length (i + 1)) (m + 1) = c := ⟨_, rfl⟩
    rw [hp1, hp2] at HGO HC2 IH2 HJ
    rw [hp1] at n1
    rw [hp2] at n2
    obtain ⟨c2, hc2⟩ : ∃ c, cntT E (joinR f p1 p2) (fromK es.length (i + 1)) m = c := ⟨_, rfl⟩
    rw [hc1] at HGO HC1 IH1
    rw [hc2] at HGO HC2 IH2
    rw [hMM] at HGO IH1 ⊢
    have a3 : ¬ (d : Int) < (M : Int) := by omega
    have b1 : IntKind.i64.wrap ((i : Int) + 1) = ((i + 1 : Nat) : Int) := by rw [IntWalk.i64_in _ (by omega)]; omega
    have b2 : IntKind.i64.wrap ((M : Int) - 1) = (m : Int) := by rw [IntWalk.i64_in _ (by omega)]; omega
    have b3 : (0 : Int) ≤ (i : Int) := by omega
    have b4 : (i : Int) < (es.length : Int) := by omega
    obtain ⟨i1, hi1⟩ : ∃ i1, i + 1 = i1 := ⟨_, rfl⟩
    rw [hi1] at b1 IH1 IH2
    obtain ⟨eb, eo, rfl, hlow, g1, g2⟩ := hE i hil
    rw [e1] at g1
    rw [e2] at g2
    obtain ⟨W0, hW0⟩ : ∃ W0, W0 = ((w.alloc (.cells #[.int .i64 ((f 0 : Nat) : Int), .int .i64 ((f 1 : Nat) : Int), .int .i64 ((f 2 : Nat) : Int), .int .i64 ((f 3 : Nat) : Int), .int .i64 ((f 4 : Nat) : Int), .int .i64 ((f 5 : Nat) : Int), .int .i64 ((f 6 : Nat) : Int), .int .i64 ((f 7 : Nat) : Int)] 108)).alloc (.cells #[.string B, .slice (some ⟨eb, eo, none⟩) es.length cap] 30)).alloc (.cells #[.string ⟨#[x]⟩, .string ⟨#[y]⟩] 104) := ⟨_, rfl⟩
    have hb0 : Below w.heap.size w W0 := by rw [hW0]; exact (((Below.refl _ _).alloc (Nat.le_refl _) _).alloc (by simp) _).alloc (by simp; omega) _
    have l0 : W0.rowIs w.heap.size 108 8 (fun i => .int .i64 ((f i : Nat) : Int)) := by rw [hW0]; exact ((arrL_row w f _).alloc _).alloc _
    have hc0 : W0.cell? ⟨w.heap.size + 1, 0, none⟩ = some (.string B) := by rw [hW0]; go_simp
    have hcn1 : W0.cell? ⟨w.heap.size + 1, 1, none⟩ = some (.slice (some ⟨eb, eo, none⟩) es.length cap) := by rw [hW0]; go_simp
    have hce0 : W0.cell? ⟨w.heap.size + 2, 0, none⟩ = some (.string ⟨#[x]⟩) := by rw [hW0]; go_simp
    have hce1 : W0.cell? ⟨w.heap.size + 2, 1, none⟩ = some (.string ⟨#[y]⟩) := by rw [hW0]; go_simp
    have hz0 : W0.heap.size = w.heap.size + 3 := by rw [hW0]; simp
    have x0 : ∀ x : After W0, x.W.cell? ⟨w.heap.size + 1, 0, none⟩ = some (.string B) := fun x => x.cell (by simp only; omega) hc0
    have x1 : ∀ x : After W0, x.W.cell? ⟨w.heap.size + 1, 1, none⟩ = some (.slice (some ⟨eb, eo, none⟩) es.length cap) := fun x => x.cell (by simp only; omega) hcn1
    have x2 : ∀ z : After W0, z.W.cell? ⟨w.heap.size + 2, 0, none⟩ = some (.string ⟨#[x]⟩) := fun z => z.cell (by simp only; omega) hce0
    have x3 : ∀ z : After W0, z.W.cell? ⟨w.heap.size + 2, 1, none⟩ = some (.string ⟨#[y]⟩) := fun z => z.cell (by simp only; omega) hce1
    have xE : ∀ x : After W0, EdgesIn x.W x.W.heap.size (some ⟨eb, eo, none⟩) es := fun x => (hE.below (hb0.trans (x.h.mono hb0.size))).more (hb0.trans (x.h.mono hb0.size)).size
    have XE := Lib.hid xE; have HL0 := Lib.hid l0; have HI := Lib.hid e4; have HJJ := Lib.hid e5
    have HC0 := Lib.hid hc0; have HCN1 := Lib.hid hcn1
    clear xE hp1 hp2 hc1 hc2 hi1 hd hk hi hm l0 hshort FN IH hMM e1 e2 e3 hcj hc0 hcn1 hce0 hce1 hE
    unfold arrL
    unfold arrL at IH1 IH2 HJ
    go_enter Try.func72, Try.ntmps72
    clear x0 x1 x2 x3
    go_wp2_with fail
    simp only [Nat.add_assoc, Nat.reduceAdd]
    rw [← hW0]
    have x0 : ∀ x : After W0, x.W.cell? ⟨w.heap.size + 1, 0, none⟩ = some (.string B) := fun x => x.cell (by simp only; omega) HC0.out
    have x1 : ∀ x : After W0, x.W.cell? ⟨w.heap.size + 1, 1, none⟩ = some (.slice (some ⟨eb, eo, none⟩) es.length cap) := fun x => x.cell (by simp only; omega) HCN1.out
    have x2 : ∀ z : After W0, z.W.cell? ⟨w.heap.size + 2, 0, none⟩ = some (.string ⟨#[x]⟩) := fun z => z.cell (by simp only; omega) (by rw [hW0]; go_simp)
    have x3 : ∀ z : After W0, z.W.cell? ⟨w.heap.size + 2, 1, none⟩ = some (.string ⟨#[y]⟩) := fun z => z.cell (by simp only; omega) (by rw [hW0]; go_simp)
    clear hW0 g1 g2
    refine wp_region_below (by kernel_rfl) (by kernel_rfl) ?_
    repeat (go_big_quiet_step ((go_at_call 102; exact After.call (FB.out _ _))))
    refine wpQuiet_nil ?_
    rintro _ ⟨xa, rfl⟩
    clear x0 x1 x2 x3
    rw [HI.out, HJJ.out]
    obtain ⟨W1, hW1⟩ : ∃ W1, xa.W = W1 := ⟨_, rfl⟩
    have hba : Below W0.heap.size W0 W1 := by rw [← hW1]; exact xa.h
    rw [hW1]
    clear hW1 xa
    have hb1 : Below w.heap.size w W1 := hb0.trans (hba.mono hb0.size)
    have l1 := HL0.out.of_block (hba.block w.heap.size (by omega))
    have hd0 := (hba.cell (p := ⟨w.heap.size + 1, 0, none⟩) (by simp only; omega)).trans HC0.out
    have hd1 := (hba.cell (p := ⟨w.heap.size + 1, 1, none⟩) (by simp only; omega)).trans HCN1.out
    have hz1 : w.heap.size + 3 ≤ W1.heap.size := by have := hba.size; omega
    have hE1 : EdgesIn W1 W1.heap.size (some ⟨eb, eo, none⟩) es := XE.out ⟨W1, hba⟩
    have q0 : W1.cell? ⟨w.heap.size, 0, none⟩ = some (.int .i64 ((f 0 : Nat) : Int)) := l1.cell (i := 0) (by omega)
    have q1 : W1.cell? ⟨w.heap.size, 1, none⟩ = some (.int .i64 ((f 1 : Nat) : Int)) := l1.cell (i := 1) (by omega)
    have q2 : W1.cell? ⟨w.heap.size, 2, none⟩ = some (.int .i64 ((f 2 : Nat) : Int)) := l1.cell (i := 2) (by omega)
    have q3 : W1.cell? ⟨w.heap.size, 3, none⟩ = some (.int .i64 ((f 3 : Nat) : Int)) := l1.cell (i := 3) (by omega)
    have q4 : W1.cell? ⟨w.heap.size, 4, none⟩ = some (.int .i64 ((f 4 : Nat) : Int)) := l1.cell (i := 4) (by omega)
    have q5 : W1.cell? ⟨w.heap.size, 5, none⟩ = some (.int .i64 ((f 5 : Nat) : Int)) := l1.cell (i := 5) (by omega)
    have q6 : W1.cell? ⟨w.heap.size, 6, none⟩ = some (.int .i64 ((f 6 : Nat) : Int)) := l1.cell (i := 6) (by omega)
    have q7 : W1.cell? ⟨w.heap.size, 7, none⟩ = some (.int .i64 ((f 7 : Nat) : Int)) := l1.cell (i := 7) (by omega)
    clear hba hb0 hz0
    go_wp2_with fail
    refine (IH1.out _ hE1).mono ?_
    rintro e w2 ⟨rfl, hb2⟩
    have hb2' := hb1.trans (hb2.mono hb1.size)
    have l2 := l1.of_block (hb2.block w.heap.size (by omega))
    have hf0 := (hb2.cell (p := ⟨w.heap.size + 1, 0, none⟩) (by simp only; omega)).trans hd0
    have hf1 := (hb2.cell (p := ⟨w.heap.size + 1, 1, none⟩) (by simp only; omega)).trans hd1
    have hz2 : w.heap.size + 3 ≤ w2.heap.size := by have := hb2.size; omega
    have hE2 := (hE1.below hb2).more hb2.size
    have k1 := l2.cell (i := p1) n1
    have k2 := l2.cell (i := p2) n2
    clear q0 q1 q2 q3 q4 q5 q6 q7 hd0 hd1 hb2 l1 hE1 hb1 hz1
    have n3 : (0 : Int) ≤ (p1 : Int) := by omega
    have n4 : (p1 : Int) < 8 := by omega
    have n5 : (0 : Int) ≤ (p2 : Int) := by omega
    have n6 : (p2 : Int) < 8 := by omega
    have HL2 := Lib.hid l2
    clear l2
    by_cases hsame : f p1 = f p2
    · have HD : Hid (cntT E f (fromK es.length i) M = c1) := Lib.hid (by rw [HGO.out, if_pos hsame]; omega)
      have q : (((f p1 : Nat) : Int) != ((f p2 : Nat) : Int)) = false := by rw [hsame]; simp
      clear hsame
      go_wp2_with fail
      go_quiet (fail)
      go_wp2_with fail
      go_ret
      exact ⟨by rw [HD.out]; rfl, below_drewN hb2' _⟩
    · have HD : Hid (cntT E f (fromK es.length i) M = c1 + c2) := Lib.hid (by rw [HGO.out, if_neg hsame])
      have q : (((f p1 : Nat) : Int) != ((f p2 : Nat) : Int)) = true := by rw [bne_iff_ne]; omega
      have hsum : IntKind.i64.wrap ((c1 : Int) + (c2 : Int)) = ((c1 + c2 : Nat) : Int) := by
        have := HC1.out; have := HC2.out
        rw [IntWalk.i64_in _ (by omega)]; omega
      have HSUM := Lib.hid hsum
      clear hsame hsum
      go_wp2_with fail
      go_quiet (fail)
      go_wp2_with fail
      have hbd : Below w2.heap.size w2 (w2.drewN nq) := below_drewN (Below.refl _ _) _
      have lD := HL2.out.of_block (drewN_block w2 nq w.heap.size)
      obtain ⟨w3, hw3⟩ : ∃ w3, w2.drewN nq = w3 := ⟨_, rfl⟩
      rw [hw3] at hbd lD
      rw [hw3]
      have hb3' := hb2'.trans (hbd.mono hb2'.size)
      have hz3 : w.heap.size + 3 ≤ w3.heap.size := by have := hbd.size; omega
      have x0 : ∀ x : After w3, x.W.cell? ⟨w.heap.size + 1, 0, none⟩ = some (.string B) := fun x => x.cell (by simp only; omega) ((hbd.cell (by simp only; omega)).trans hf0)
      have x1 : ∀ x : After w3, x.W.cell? ⟨w.heap.size + 1, 1, none⟩ = some (.slice (some ⟨eb, eo, none⟩) es.length cap) := fun x => x.cell (by simp only; omega) ((hbd.cell (by simp only; omega)).trans hf1)
      have y0 : ∀ x : After w3, x.W.cell? ⟨w.heap.size, 0, none⟩ = some (.int .i64 ((f 0 : Nat) : Int)) := fun x => x.cell (by simp only; omega) (lD.cell (i := 0) (by omega))
      have y1 : ∀ x : After w3, x.W.cell? ⟨w.heap.size, 1, none⟩ = some (.int .i64 ((f 1 : Nat) : Int)) := fun x => x.cell (by simp only; omega) (lD.cell (i := 1) (by omega))
      have y2 : ∀ x : After w3, x.W.cell? ⟨w.heap.size, 2, none⟩ = some (.int .i64 ((f 2 : Nat) : Int)) := fun x => x.cell (by simp only; omega) (lD.cell (i := 2) (by omega))
      have y3 : ∀ x : After w3, x.W.cell? ⟨w.heap.size, 3, none⟩ = some (.int .i64 ((f 3 : Nat) : Int)) := fun x => x.cell (by simp only; omega) (lD.cell (i := 3) (by omega))
      have y4 : ∀ x : After w3, x.W.cell? ⟨w.heap.size, 4, none⟩ = some (.int .i64 ((f 4 : Nat) : Int)) := fun x => x.cell (by simp only; omega) (lD.cell (i := 4) (by omega))
      have y5 : ∀ x : After w3, x.W.cell? ⟨w.heap.size, 5, none⟩ = some (.int .i64 ((f 5 : Nat) : Int)) := fun x => x.cell (by simp only; omega) (lD.cell (i := 5) (by omega))
      have y6 : ∀ x : After w3, x.W.cell? ⟨w.heap.size, 6, none⟩ = some (.int .i64 ((f 6 : Nat) : Int)) := fun x => x.cell (by simp only; omega) (lD.cell (i := 6) (by omega))
      have y7 : ∀ x : After w3, x.W.cell? ⟨w.heap.size, 7, none⟩ = some (.int .i64 ((f 7 : Nat) : Int)) := fun x => x.cell (by simp only; omega) (lD.cell (i := 7) (by omega))
      have XE2 : Hid (∀ x : After w3, EdgesIn x.W x.W.heap.size (some ⟨eb, eo, none⟩) es) := Lib.hid fun x => (hE2.below (hbd.trans (x.h.mono hbd.size))).more (hbd.trans (x.h.mono hbd.size)).size
      have HLR := Lib.hid lD
      have hsum := HSUM.out
      clear lD hw3 hbd hf0 hf1 k1 k2
      refine wp_region_below (by kernel_rfl) (by kernel_rfl) ?_
      repeat (go_big_quiet_step ((first
        | (go_at_call 71; exact After.call (HJ.out _))
        | (go_at_call 72; exact After.call (IH2.out _ (XE2.out _))))))
      refine wpQuiet_nil ?_
      rintro _ ⟨xb, rfl⟩
      clear x0 x1 y0 y1 y2 y3 y4 y5 y6 y7
      go_wp2_with fail
      go_ret
      exact ⟨by rw [HD.out]; rfl, hb3'.trans (xb.h.mono hb3'.size)⟩

set_option maxRecDepth 100000 in
set_option maxHeartbeats 4000000 in
/-- impl.CountTrees -/
theorem implCountTrees_any (B : ByteArray) (A : Option Addr) (cap : Nat) (es : List (ByteArray × ByteArray)) (w : World) (hs : B.size ≤ maxLen) (hE : EdgesIn w w.heap.size A es) (hl : es.length ≤ 1099511627776) (_ : ∀ e ∈ es, e.1.size ≤ 1099511627776 ∧ e.2.size ≤ 1099511627776) :
    Calls Try.prog 35 #[.agg #[.string B, .slice A es.length cap]] w (IntPost (countTV B es) w) := by
  have HL := Lib.hid hl; have HM := Lib.hid hs
  clear hl hs
  have hb1 : Below w.heap.size w (w.alloc (.cells #[.string B, .slice A es.length cap] 30)) := (Below.refl _ _).alloc (Nat.le_refl _) _
  have t1 := Two.made w B A es.length cap 30
  have hz1 : (w.alloc (.cells #[.string B, .slice A es.length cap] 30)).heap.size = w.heap.size + 1 := by simp
  by_cases hv : Valid B.data.toList (ebs es)
  case neg =>
    have HN : Hid (countTV B es = -1) := Lib.hid (if_neg hv)
    have FA : Hid (∀ W : World, EdgesIn W W.heap.size A es → Calls Try.prog 46 #[.agg #[.string B, .slice A es.length cap]] W fun e w' => e = .returned (.bool false) ∧ Below W.heap.size W w') := Lib.hid fun W h => by
      have := valid_any B A cap es W HM.out h (by unfold maxLen; have := HL.out; omega)
      rwa [decB_f hv] at this
    clear hv
    go_enter Try.func35, Try.ntmps35
    go_wp2_with fail
    refine (FA.out _ ((hE.below hb1).more hb1.size)).mono ?_
    rintro e w2 ⟨rfl, hb2⟩
    have hb2' := hb1.trans (hb2.mono hb1.size)
    clear hb2 t1
    go_wp2_with fail
    go_ret
    exact ⟨ret_int HN.out.symm, hb2'⟩
  have HN : Hid (countTV B es = ((cntT (endsN B.data.toList (ebs es)) (fresh B.size) (fromK es.length 0) (B.size - 2) : Nat) : Int)) := Lib.hid (if_pos hv)
  have FA : Hid (∀ W : World, EdgesIn W W.heap.size A es → Calls Try.prog 46 #[.agg #[.string B, .slice A es.length cap]] W fun e w' => e = .returned (.bool true) ∧ Below W.heap.size W w') := Lib.hid fun W h => by
    have := valid_any B A cap es W HM.out h (by unfold maxLen; have := HL.out; omega)
    rwa [decB_t hv] at this
  have h2 : 2 ≤ B.size := by have := hv.1.1.1; simpa using this
  have h8 : B.size ≤ 8 := (valid_sizes hv).1
  have h16 : es.length ≤ 16 := (valid_sizes hv).2
  have hBL : B.data.toList.length = B.size := by simp
  obtain ⟨m, hm⟩ : ∃ m, B.size - 2 = m := ⟨_, rfl⟩
  obtain ⟨x, hx⟩ : ∃ x, B.size - 1 = x := ⟨_, rfl⟩
  have z1 : IntKind.i64.wrap ((B.size : Int) - 2) = (m : Int) := by rw [IntWalk.i64_in _ (by omega)]; omega
  have z2 : IntKind.i64.wrap ((B.size : Int) - 1) = (x : Int) := by rw [IntWalk.i64_in _ (by omega)]; omega
  obtain ⟨f, hf⟩ : ∃ f : Nat → Nat, (fun i => if i < B.size then i else 0) = f := ⟨_, rfl⟩
  have FL : Hid (∀ W : World, Calls Try.prog 70 #[.agg #[.string B, .slice A es.length cap]] W fun e w' => e = .returned (arrL f) ∧ Below W.heap.size W w') := Lib.hid fun W => by
    rw [← hf]; exact labelsOf_any B _ W h8
  have FJ : Hid (∀ W : World, Calls Try.prog 71 #[arrL f, .int .i64 x, .int .i64 ((0 : Nat) : Int)] W fun e w' => e = .returned (arrL (joinR f x 0)) ∧ Below W.heap.size W w') := Lib.hid fun W => joined_any f x 0 W (by omega) (by omega)
  have hsame : SameL B.size (fresh B.size) (joinR f x 0) := by
    intro i j hi hj
    have hp : ∀ i, i < B.size → fresh B.size i = joinR f x 0 i := fun i hi => by
      rw [← hf]
      unfold fresh joinL joinR
      simp only
      rw [if_pos hi, hx, if_pos (show x < B.size by omega), if_pos (show 0 < B.size by omega)]
    rw [hp i hi, hp j hj]
  have hcs := cntT_same (endsN B.data.toList (ebs es)) B.size (fromK es.length 0) (fun k hk => by
    obtain ⟨_, _, i, j, _, _, e3, _, _, h1, h2⟩ := ends_at hv.1.2 (fromK_mem hk)
    rw [e3]
    simp only
    omega) _ _ m hsame
  have FC : Hid (∀ W : World, EdgesIn W W.heap.size A es → Calls Try.prog 72 #[arrL (joinR f x 0), .agg #[.string B, .slice A es.length cap], .int .i64 ((0 : Nat) : Int), .int .i64 m] W fun e w' => e = .returned (.int .i64 (countTV B es)) ∧ Below W.heap.size W w') := Lib.hid fun W h => by
    rw [HN.out, hm, hcs]
    exact countTrees_any B A cap es hv _ rfl _ 0 m (joinR f x 0) W (Nat.le_refl _) (Nat.zero_le _) (by omega) h
  obtain ⟨v, hv'⟩ : ∃ v, countTV B es = v := ⟨_, rfl⟩
  rw [hv'] at FC ⊢
  obtain ⟨f', hf'⟩ : ∃ f', joinR f x 0 = f' := ⟨_, rfl⟩
  rw [hf'] at FJ FC
  unfold arrL at FL FJ FC
  clear hv hv' hf hf' hm h16 h2 h8 HN hsame hcs hBL hx
  go_enter Try.func35, Try.ntmps35
  go_wp2_with fail
  refine (FA.out _ ((hE.below hb1).more hb1.size)).mono ?_
  rintro e w2 ⟨rfl, hb2⟩
  have hb2' := hb1.trans (hb2.mono hb1.size)
  have t2 := t1.below hb2 (by omega)
  have hz2 := hb2.size
  rw [hz1] at hz2
  have hd0 := t2.1; have hd1 := t2.2
  clear hb2 t1 FA hb1 hz1
  go_wp2_with fail
  go_quiet (fail)
  go_wp2_with fail
  have hbd : Below w2.heap.size w2 (w2.drewN nq) := below_drewN (Below.refl _ _) _
  obtain ⟨w3, hw3⟩ : ∃ w3, w2.drewN nq = w3 := ⟨_, rfl⟩
  rw [hw3] at hbd
  rw [hw3]
  have hb3' := hb2'.trans (hbd.mono hb2'.size)
  have hz3 := hbd.size
  have x0 : ∀ x : After w3, x.W.cell? ⟨w.heap.size, 0, none⟩ = some (.string B) := fun x => x.cell (by simp only; omega) ((hbd.cell (by simp only; omega)).trans hd0)
  have x1 : ∀ x : After w3, x.W.cell? ⟨w.heap.size, 1, none⟩ = some (.slice A es.length cap) := fun x => x.cell (by simp only; omega) ((hbd.cell (by simp only; omega)).trans hd1)
  have XE2 : Hid (∀ x : After w3, EdgesIn x.W x.W.heap.size A es) := Lib.hid fun x => (hE.below (hb3'.trans (x.h.mono hb3'.size))).more (hb3'.trans (x.h.mono hb3'.size)).size
  clear hw3 hbd hd0 hd1 t2
  refine wp_region_below (by kernel_rfl) (by kernel_rfl) ?_
  repeat (go_big_quiet_step ((first
    | (go_at_call 70; exact After.call (FL.out _))
    | (go_at_call 71; exact After.call (FJ.out _))
    | (go_at_call 72; exact After.call (FC.out _ (XE2.out _))))))
  refine wpQuiet_nil ?_
  rintro _ ⟨xb, rfl⟩
  clear x0 x1
  go_wp2_with fail
  go_ret
  exact ⟨rfl, hb3'.trans (xb.h.mono hb3'.size)⟩

end Go.Proofs.Ytjfdkhaepmmlfaa
