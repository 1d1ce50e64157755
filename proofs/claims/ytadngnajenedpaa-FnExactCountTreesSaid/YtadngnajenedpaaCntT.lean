/- How many trees there are: as a function; by the model. -/
import Derived.Test.YtadngnajenedpaaTreeS
import Derived.Test.YtadngnajenedpaaNameS
import Derived.Test.YtadngnajenedpaaOneInt
import Derived.Deep.DrawnRows
import Derived.Deep.RegionWith
import Derived.BigRegion
namespace Go.Proofs.Ytadngnajenedpaa
open Go.RowKit

/-- how many sets of so many more edges make no way round with what is joined -/
def cntT (E : Nat → Nat × Nat) : (Nat → Nat) → List Nat → Nat → Nat
  | _, _, 0 => 1
  | _, [], _ + 1 => 0
  | f, k :: r, m + 1 => if r.length + 1 < m + 1 then 0 else cntT E f r (m + 1) + (if f (E k).1 = f (E k).2 then 0 else cntT E (joinL f (E k).1 (E k).2) r m)
theorem cntT_zero (E : Nat → Nat × Nat) (f : Nat → Nat) (ks : List Nat) : cntT E f ks 0 = 1 := by cases ks <;> rfl
theorem cntT_step (E : Nat → Nat × Nat) (f : Nat → Nat) (k : Nat) (r : List Nat) (m : Nat) : cntT E f (k :: r) (m + 1) = if r.length + 1 < m + 1 then 0 else cntT E f r (m + 1) + (if f (E k).1 = f (E k).2 then 0 else cntT E (joinL f (E k).1 (E k).2) r m) := rfl
theorem cntT_few (E : Nat → Nat × Nat) : ∀ (ks : List Nat) (f : Nat → Nat) (m : Nat), cntT E f ks m ≤ 2 ^ ks.length
  | [], f, m => by cases m <;> simp [cntT]
  | k :: r, f, 0 => by
    rw [cntT_zero]; exact Nat.one_le_two_pow
  | k :: r, f, m + 1 => by
    have h1 := cntT_few E r f (m + 1)
    have h2 := cntT_few E r (joinL f (E k).1 (E k).2) m
    have h3 : 2 ^ (k :: r).length = 2 ^ r.length + 2 ^ r.length := by rw [List.length_cons, Nat.pow_succ]; omega
    unfold cntT
    split
    · exact Nat.zero_le _
    · split <;> omega
theorem cntT_same (E : Nat → Nat × Nat) (n : Nat) : ∀ (ks : List Nat), (∀ k ∈ ks, (E k).1 < n ∧ (E k).2 < n) → ∀ (f g : Nat → Nat) (m : Nat), SameL n f g → cntT E f ks m = cntT E g ks m
  | [], _, f, g, m, _ => by cases m <;> rfl
  | k :: r, h, f, g, 0, _ => by rw [cntT_zero, cntT_zero]
  | k :: r, h, f, g, m + 1, hs => by
    obtain ⟨h1, h2⟩ := h k List.mem_cons_self
    have hr := fun x hx => h x (List.mem_cons_of_mem k hx)
    have e1 := cntT_same E n r hr f g (m + 1) hs
    have hj : SameL n (joinL f (E k).1 (E k).2) (joinL g (E k).1 (E k).2) := by
      intro i j hi hj
      have a := hs.join h1 h2 i j hi hj
      have b := (SameL.refl n g).join h1 h2 i j hi hj
      rw [a, b]
    have e2 := cntT_same E n r hr _ _ m hj
    have e3 := hs _ _ h1 h2
    unfold cntT
    rw [e1, e2]
    by_cases c : f (E k).1 = f (E k).2
    · rw [if_pos c, if_pos (e3.1 c)]
    · rw [if_neg c, if_neg (fun d => c (e3.2 d))]

/-- the places from one on -/
def fromK (n i : Nat) : List Nat := (List.range n).drop i
theorem fromK_len (n i : Nat) : (fromK n i).length = n - i := by simp [fromK]
theorem fromK_at {n i : Nat} (h : i < n) : fromK n i = i :: fromK n (i + 1) := by
  unfold fromK
  rw [List.drop_eq_getElem_cons (by simpa using h)]
  simp
theorem fromK_end {n i : Nat} (h : n ≤ i) : fromK n i = [] := List.drop_of_length_le (by simpa using h)
theorem fromK_mem {n i k : Nat} (h : k ∈ fromK n i) : k < n := by
  have := List.mem_of_mem_drop h
  simpa using this
theorem cntT_short {E : Nat → Nat × Nat} {f : Nat → Nat} {n i m : Nat} (hm : 0 < m) (h : n - i < m) : cntT E f (fromK n i) m = 0 := by
  obtain ⟨m, rfl⟩ : ∃ q, m = q + 1 := ⟨m - 1, by omega⟩
  by_cases hi : i < n
  · rw [fromK_at hi]
    unfold cntT
    rw [if_pos (by rw [fromK_len]; omega)]
  · rw [fromK_end (by omega)]; rfl
theorem cntT_go {E : Nat → Nat × Nat} {f : Nat → Nat} {n i m : Nat} (h : ¬ n - i < m + 1) : cntT E f (fromK n i) (m + 1) = cntT E f (fromK n (i + 1)) (m + 1) + (if f (E i).1 = f (E i).2 then 0 else cntT E (joinL f (E i).1 (E i).2) (fromK n (i + 1)) m) := by
  have hi : i < n := by omega
  rw [fromK_at hi, cntT_step, if_neg (by rw [fromK_len]; omega)]

/-- how many trees there are, or -1 -/
noncomputable def countTV (B : ByteArray) (es : List (ByteArray × ByteArray)) : Int := open Classical in if Valid B.data.toList (ebs es) then ((cntT (endsN B.data.toList (ebs es)) (fresh B.size) (fromK es.length 0) (B.size - 2) : Nat) : Int) else -1

/-- eight labels, as a value -/
def arr8 (f : Nat → Nat) : Value := .agg #[.int .i64 ((f 0 : Nat) : Int), .int .i64 ((f 1 : Nat) : Int), .int .i64 ((f 2 : Nat) : Int), .int .i64 ((f 3 : Nat) : Int), .int .i64 ((f 4 : Nat) : Int), .int .i64 ((f 5 : Nat) : Int), .int .i64 ((f 6 : Nat) : Int), .int .i64 ((f 7 : Nat) : Int)]

theorem arr8_row (W : World) (f : Nat → Nat) (T : TypeId) : (W.alloc (.cells #[.int .i64 ((f 0 : Nat) : Int), .int .i64 ((f 1 : Nat) : Int), .int .i64 ((f 2 : Nat) : Int), .int .i64 ((f 3 : Nat) : Int), .int .i64 ((f 4 : Nat) : Int), .int .i64 ((f 5 : Nat) : Int), .int .i64 ((f 6 : Nat) : Int), .int .i64 ((f 7 : Nat) : Int)] T)).rowIs W.heap.size T 8 (fun i => .int .i64 ((f i : Nat) : Int)) := by
  refine World.rowIs_alloc W _ _ _ fun i hi => ?_
  have hi2 : i < 8 := hi
  have h : i = 0 ∨ i = 1 ∨ i = 2 ∨ i = 3 ∨ i = 4 ∨ i = 5 ∨ i = 6 ∨ i = 7 := by omega
  rcases h with rfl | rfl | rfl | rfl | rfl | rfl | rfl | rfl <;> rfl

set_option maxRecDepth 100000 in
set_option maxHeartbeats 8000000 in
/-- spec.l5Count -/
theorem l5Count_any (B : ByteArray) (A : Option Addr) (cap : Nat) (es : List (ByteArray × ByteArray)) (hs : B.size ≤ maxLen) (hV : Valid B.data.toList (ebs es)) (E : Nat → Nat × Nat) (hEE : endsN B.data.toList (ebs es) = E) : ∀ (k i m : Nat) (f : Nat → Nat) (w : World), es.length - i ≤ k → i ≤ es.length → m ≤ 8 → EdgesIn w w.heap.size A es →
    Calls Try.prog 63 #[.agg #[.string B, .slice A es.length cap], arr8 f, .int .i64 i, .int .i64 m] w fun e w' => e = .returned (.int .i64 ((cntT E f (fromK es.length i) m : Nat) : Int)) ∧ Below w.heap.size w w' := by
  have h16 : es.length ≤ 16 := (valid_sizes hV).2
  have h8 : B.size ≤ 8 := (valid_sizes hV).1
  have HM := Lib.hid hs
  have HEO := Lib.hid hV.1.2
  have HBL : Hid (B.data.toList.length = B.size) := Lib.hid (by simp)
  have FE : Hid (∀ (k : Nat), k < es.length → ∀ W : World, EdgesIn W W.heap.size A es → Calls Try.prog 80 #[.agg #[.string B, .slice A es.length cap], .string ⟨#[nameOf k]⟩] W fun e w' => e = .returned (.tuple #[.int .i64 (((E k).1 : Nat) : Int), .int .i64 (((E k).2 : Nat) : Int)]) ∧ Below W.heap.size W w') := Lib.hid fun k hk W h => by
    rw [← hEE]
    exact l5Ends_any B A cap es ⟨#[nameOf k]⟩ k W HM.out h (by omega) HEO.out hk (eIdx_name hk (by omega))
  have FN : Hid (∀ k, k < es.length → (E k).1 < 8 ∧ (E k).2 < 8) := Lib.hid fun k hk => by
    obtain ⟨x, y, i, j, _, _, e3, _, _, h1, h2⟩ := ends_at HEO.out hk
    rw [← hEE, e3]
    have := HBL.out
    simp only
    omega
  clear hs hV hEE h8
  intro k
  induction k with
  | zero =>
    intro i m f w hk hi hm hE
    have hi' : i = es.length := by omega
    subst hi'
    cases m with
    | zero =>
      have HN := Lib.hid (cntT_zero E f (fromK es.length es.length))
      unfold arr8
      go_enter Try.func63, Try.ntmps63
      go_wp2_with fail
      go_ret
      exact ⟨by rw [HN.out]; rfl, ((Below.refl _ _).alloc (Nat.le_refl _) _).alloc (by simp) _⟩
    | succ m =>
      have HN := Lib.hid (cntT_short (E := E) (f := f) (n := es.length) (i := es.length) (m := m + 1) (by omega) (by omega))
      have a1 : ((m + 1 : Nat) : Int) ≠ 0 := by omega
      have a2 : IntKind.i64.wrap ((es.length : Int) - (es.length : Int)) = 0 := by rw [IntWalk.i64_in _ (by omega)]; omega
      have a3 : (0 : Int) < ((m + 1 : Nat) : Int) := by omega
      obtain ⟨M, hM⟩ : ∃ M : Nat, m + 1 = M := ⟨_, rfl⟩
      rw [hM] at a1 a3 HN ⊢
      have a4 : ((M : Int) == 0) = false := by rw [beq_eq_false_iff_ne]; exact a1
      clear hM
      unfold arr8
      go_enter Try.func63, Try.ntmps63
      go_wp2_with fail
      go_ret
      exact ⟨by rw [HN.out]; rfl, ((Below.refl _ _).alloc (Nat.le_refl _) _).alloc (by simp) _⟩
  | succ k ih =>
    intro i m f w hk hi hm hE
    have IH := Lib.hid ih
    clear ih
    cases m with
    | zero =>
      have HN := Lib.hid (cntT_zero E f (fromK es.length i))
      unfold arr8
      go_enter Try.func63, Try.ntmps63
      go_wp2_with fail
      go_ret
      exact ⟨by rw [HN.out]; rfl, ((Below.refl _ _).alloc (Nat.le_refl _) _).alloc (by simp) _⟩
    | succ m =>
    obtain ⟨d, hd⟩ : ∃ d, es.length - i = d := ⟨_, rfl⟩
    have a2 : IntKind.i64.wrap ((es.length : Int) - (i : Int)) = (d : Int) := by rw [IntWalk.i64_in _ (by omega)]; omega
    obtain ⟨M, hMM⟩ : ∃ M : Nat, m + 1 = M := ⟨_, rfl⟩
    have a1 : ((M : Int) == 0) = false := by rw [beq_eq_false_iff_ne]; omega
    by_cases hshort : d < m + 1
    · have HN := Lib.hid (cntT_short (E := E) (f := f) (n := es.length) (i := i) (m := m + 1) (by omega) (by omega))
      have a3 : (d : Int) < (M : Int) := by omega
      rw [hMM] at HN ⊢
      clear hMM hd hshort
      unfold arr8
      go_enter Try.func63, Try.ntmps63
      go_wp2_with fail
      go_ret
      exact ⟨by rw [HN.out]; rfl, ((Below.refl _ _).alloc (Nat.le_refl _) _).alloc (by simp) _⟩
    have hil : i < es.length := by omega
    have HGO := Lib.hid (cntT_go (E := E) (f := f) (n := es.length) (i := i) (m := m) (by omega))
    have HC1 : Hid (cntT E f (fromK es.length (i + 1)) (m + 1) ≤ 65536) := Lib.hid (by
      have h1 := cntT_few E (fromK es.length (i + 1)) f (m + 1)
      have h2 : 2 ^ (fromK es.length (i + 1)).length ≤ 2 ^ 16 := Nat.pow_le_pow_right (by omega) (by rw [fromK_len]; omega)
      omega)
    obtain ⟨n1, n2⟩ := FN.out i hil
    have HC2 : Hid (cntT E (joinL f (E i).1 (E i).2) (fromK es.length (i + 1)) m ≤ 65536) := Lib.hid (by
      have h1 := cntT_few E (fromK es.length (i + 1)) (joinL f (E i).1 (E i).2) m
      have h2 : 2 ^ (fromK es.length (i + 1)).length ≤ 2 ^ 16 := Nat.pow_le_pow_right (by omega) (by rw [fromK_len]; omega)
      omega)
    have IH1 := Lib.hid (fun W h => IH.out (i + 1) (m + 1) f W (by omega) (by omega) hm h)
    have IH2 := Lib.hid (fun W h => IH.out (i + 1) m (joinL f (E i).1 (E i).2) W (by omega) (by omega) (by omega) h)
    have HFE := Lib.hid (FE.out i hil)
    have HFM : Hid (∀ W : World, Calls Try.prog 97 #[.int .i64 i] W fun e w' => e = .returned (.string ⟨#[nameOf i]⟩) ∧ Below W.heap.size W w') := Lib.hid fun W => l1Name_any i (by omega) W
    obtain ⟨p1, hp1⟩ : ∃ p, (E i).1 = p := ⟨_, rfl⟩
    obtain ⟨p2, hp2⟩ : ∃ p, (E i).2 = p := ⟨_, rfl⟩
    obtain ⟨c1, hc1⟩ : ∃ c, cntT E f (fromK es.length (i + 1)) (m + 1) = c := ⟨_, rfl⟩
    rw [hp1, hp2] at HGO HC2 IH2 HFE
    rw [hp1] at n1
    rw [hp2] at n2
    obtain ⟨c2, hc2⟩ : ∃ c, cntT E (joinL f p1 p2) (fromK es.length (i + 1)) m = c := ⟨_, rfl⟩
    rw [hc1] at HGO HC1 IH1
    rw [hc2] at HGO HC2 IH2
    rw [hMM] at HGO IH1 ⊢
    have a3 : ¬ (d : Int) < (M : Int) := by omega
    have b1 : IntKind.i64.wrap ((i : Int) + 1) = ((i + 1 : Nat) : Int) := by rw [IntWalk.i64_in _ (by omega)]; omega
    have b2 : IntKind.i64.wrap ((M : Int) - 1) = (m : Int) := by rw [IntWalk.i64_in _ (by omega)]; omega
    obtain ⟨i1, hi1⟩ : ∃ i1, i + 1 = i1 := ⟨_, rfl⟩
    rw [hi1] at b1 IH1 IH2
    obtain ⟨W0, hW0⟩ : ∃ W0, W0 = (w.alloc (.cells #[.string B, .slice A es.length cap] 30)).alloc (.cells #[.int .i64 ((f 0 : Nat) : Int), .int .i64 ((f 1 : Nat) : Int), .int .i64 ((f 2 : Nat) : Int), .int .i64 ((f 3 : Nat) : Int), .int .i64 ((f 4 : Nat) : Int), .int .i64 ((f 5 : Nat) : Int), .int .i64 ((f 6 : Nat) : Int), .int .i64 ((f 7 : Nat) : Int)] 77) := ⟨_, rfl⟩
    have hb0 : Below w.heap.size w W0 := by rw [hW0]; exact ((Below.refl _ _).alloc (Nat.le_refl _) _).alloc (by simp) _
    have t0 : Two W0 w.heap.size B A es.length cap := by rw [hW0]; exact ⟨by go_simp, by go_simp⟩
    have l0 : Labs W0 (w.heap.size + 1) f := by
      have := arr8_row (w.alloc (.cells #[.string B, .slice A es.length cap] 30)) f 77
      rw [World.size_alloc] at this
      rw [hW0]; exact this
    have hz0 : W0.heap.size = w.heap.size + 2 := by rw [hW0]; simp
    have q0 : W0.cell? ⟨w.heap.size + 1, 0, none⟩ = some (.int .i64 ((f 0 : Nat) : Int)) := l0.cell (i := 0) (by omega)
    have q1 : W0.cell? ⟨w.heap.size + 1, 1, none⟩ = some (.int .i64 ((f 1 : Nat) : Int)) := l0.cell (i := 1) (by omega)
    have q2 : W0.cell? ⟨w.heap.size + 1, 2, none⟩ = some (.int .i64 ((f 2 : Nat) : Int)) := l0.cell (i := 2) (by omega)
    have q3 : W0.cell? ⟨w.heap.size + 1, 3, none⟩ = some (.int .i64 ((f 3 : Nat) : Int)) := l0.cell (i := 3) (by omega)
    have q4 : W0.cell? ⟨w.heap.size + 1, 4, none⟩ = some (.int .i64 ((f 4 : Nat) : Int)) := l0.cell (i := 4) (by omega)
    have q5 : W0.cell? ⟨w.heap.size + 1, 5, none⟩ = some (.int .i64 ((f 5 : Nat) : Int)) := l0.cell (i := 5) (by omega)
    have q6 : W0.cell? ⟨w.heap.size + 1, 6, none⟩ = some (.int .i64 ((f 6 : Nat) : Int)) := l0.cell (i := 6) (by omega)
    have q7 : W0.cell? ⟨w.heap.size + 1, 7, none⟩ = some (.int .i64 ((f 7 : Nat) : Int)) := l0.cell (i := 7) (by omega)
    have d0 := t0.1; have d1 := t0.2
    have HL0 := Lib.hid l0
    clear hp1 hp2 hc1 hc2 hi1 hd hk hi hm l0 hshort FE FN IH hMM
    rw [hW0] at q0 q1 q2 q3 q4 q5 q6 q7 d0 d1
    unfold arr8
    unfold arr8 at IH1 IH2
    go_enter Try.func63, Try.ntmps63
    go_wp2_with fail
    rw [← hW0]
    clear q0 q1 q2 q3 q4 q5 q6 q7 d0 d1 hW0
    refine (IH1.out _ ((hE.below hb0).more hb0.size)).mono ?_
    rintro e w2 ⟨rfl, hb2⟩
    have hb2' := hb0.trans (hb2.mono hb0.size)
    have t2 := t0.below hb2 (by omega)
    have hl2 : Labs w2 (w.heap.size + 1) f := HL0.out.of_block (hb2.block _ (by omega))
    have hz2 := hb2.size
    rw [hz0] at hz2
    have x0 : ∀ x : After w2, x.W.cell? ⟨w.heap.size, 0, none⟩ = some (.string B) := fun x => x.cell (by simp only; omega) t2.1
    have x1 : ∀ x : After w2, x.W.cell? ⟨w.heap.size, 1, none⟩ = some (.slice A es.length cap) := fun x => x.cell (by simp only; omega) t2.2
    have xE : ∀ x : After w2, EdgesIn x.W x.W.heap.size A es := fun x => (hE.below (hb2'.trans (x.h.mono hb2'.size))).more (hb2'.trans (x.h.mono hb2'.size)).size
    have XE := Lib.hid xE; have HL2 := Lib.hid hl2
    clear hb2 t0 hb0 hz0 hl2 xE
    go_wp2_with fail
    refine wp_region_below (by kernel_rfl) (by kernel_rfl) ?_
    repeat (go_big_quiet_step ((first
      | (go_at_call 97; exact After.call (HFM.out _))
      | (go_at_call 80; exact After.call (HFE.out _ (XE.out _))))))
    refine wpQuiet_nil ?_
    rintro _ ⟨xw, rfl⟩
    clear x0 x1
    have hLx : Labs xw.W (w.heap.size + 1) f := HL2.out.of_block (xw.h.block _ (by omega))
    have tx := t2.below xw.h (by omega)
    have hbx := hb2'.trans (xw.h.mono hb2'.size)
    have hzx := xw.h.size
    have HLX := Lib.hid hLx
    clear hLx t2 hb2' XE
    go_wp2_with fail
    refine (join5_any (w.heap.size + 1) f p1 p2 xw.W HLX.out n1 n2).mono ?_
    rintro e w4 ⟨rfl, hl4, hg4⟩
    have hb4 : Below w.heap.size w w4 := hbx.grown hg4 hbx.size (fun q e => by injection e with e; omega)
    have t4 := tx.grown hg4 (by omega) (by intro e; injection e with e; omega)
    by_cases hsame : f p1 = f p2
    · have HD : Hid (cntT E f (fromK es.length i) M = c1) := Lib.hid (by rw [HGO.out, if_pos hsame]; omega)
      have q : (f p1 != f p2) = false := bne_eq_false_iff_eq.2 hsame
      clear hsame t4 hl4 hg4
      go_wp2_with fail
      go_ret
      exact ⟨by rw [HD.out]; rfl, hb4⟩
    · have HD : Hid (cntT E f (fromK es.length i) M = c1 + c2) := Lib.hid (by rw [HGO.out, if_neg hsame])
      have q : (f p1 != f p2) = true := bne_iff_ne.2 hsame
      have hsum : IntKind.i64.wrap ((c1 : Int) + (c2 : Int)) = ((c1 + c2 : Nat) : Int) := by
        have := HC1.out; have := HC2.out
        rw [IntWalk.i64_in _ (by omega)]; omega
      have HSUM := Lib.hid hsum
      clear hsame hg4 hsum
      obtain ⟨f', hf'⟩ : ∃ f', joinL f p1 p2 = f' := ⟨_, rfl⟩
      rw [hf'] at hl4 IH2
      have q0 : w4.cell? ⟨w.heap.size + 1, 0, none⟩ = some (.int .i64 ((f' 0 : Nat) : Int)) := hl4.cell (i := 0) (by omega)
      have q1 : w4.cell? ⟨w.heap.size + 1, 1, none⟩ = some (.int .i64 ((f' 1 : Nat) : Int)) := hl4.cell (i := 1) (by omega)
      have q2 : w4.cell? ⟨w.heap.size + 1, 2, none⟩ = some (.int .i64 ((f' 2 : Nat) : Int)) := hl4.cell (i := 2) (by omega)
      have q3 : w4.cell? ⟨w.heap.size + 1, 3, none⟩ = some (.int .i64 ((f' 3 : Nat) : Int)) := hl4.cell (i := 3) (by omega)
      have q4 : w4.cell? ⟨w.heap.size + 1, 4, none⟩ = some (.int .i64 ((f' 4 : Nat) : Int)) := hl4.cell (i := 4) (by omega)
      have q5 : w4.cell? ⟨w.heap.size + 1, 5, none⟩ = some (.int .i64 ((f' 5 : Nat) : Int)) := hl4.cell (i := 5) (by omega)
      have q6 : w4.cell? ⟨w.heap.size + 1, 6, none⟩ = some (.int .i64 ((f' 6 : Nat) : Int)) := hl4.cell (i := 6) (by omega)
      have q7 : w4.cell? ⟨w.heap.size + 1, 7, none⟩ = some (.int .i64 ((f' 7 : Nat) : Int)) := hl4.cell (i := 7) (by omega)
      have d0 := t4.1; have d1 := t4.2
      clear hf' hl4
      go_wp2_with fail
      clear q0 q1 q2 q3 q4 q5 q6 q7 d0 d1
      refine (IH2.out _ ((hE.below hb4).more hb4.size)).mono ?_
      rintro e w5 ⟨rfl, hb5⟩
      have hb5' := hb4.trans (hb5.mono hb4.size)
      have hsum := HSUM.out
      clear hb5 t4
      go_wp2_with fail
      go_ret
      exact ⟨by rw [HD.out]; rfl, hb5'⟩

set_option maxRecDepth 100000 in
set_option maxHeartbeats 4000000 in
/-- spec.CountTrees -/
theorem specCountTrees_any (B : ByteArray) (A : Option Addr) (cap : Nat) (es : List (ByteArray × ByteArray)) (w : World) (hs : B.size ≤ maxLen) (hE : EdgesIn w w.heap.size A es) (hl : es.length ≤ 1099511627776) (_ : ∀ e ∈ es, e.1.size ≤ 1099511627776 ∧ e.2.size ≤ 1099511627776) :
    Calls Try.prog 30 #[.agg #[.string B, .slice A es.length cap]] w (IntPost (countTV B es) w) := by
  have HL := Lib.hid hl; have HM := Lib.hid hs
  clear hl hs
  have hb1 : Below w.heap.size w (w.alloc (.cells #[.string B, .slice A es.length cap] 30)) := (Below.refl _ _).alloc (Nat.le_refl _) _
  have t1 := Two.made w B A es.length cap 30
  have hz1 : (w.alloc (.cells #[.string B, .slice A es.length cap] 30)).heap.size = w.heap.size + 1 := by simp
  by_cases hv : Valid B.data.toList (ebs es)
  case neg =>
    have HN : Hid (countTV B es = -1) := Lib.hid (if_neg hv)
    have FA : Hid (∀ W : World, EdgesIn W W.heap.size A es → Calls Try.prog 33 #[.agg #[.string B, .slice A es.length cap]] W fun e w' => e = .returned (.bool false) ∧ Below W.heap.size W w') := Lib.hid fun W h => by
      have := specValid_any B A cap es W HM.out h (by unfold maxLen; have := HL.out; omega)
      rwa [decB_f hv] at this
    clear hv
    go_enter Try.func30, Try.ntmps30
    go_wp2_with fail
    refine (FA.out _ ((hE.below hb1).more hb1.size)).mono ?_
    rintro e w2 ⟨rfl, hb2⟩
    have hb2' := hb1.trans (hb2.mono hb1.size)
    clear hb2 t1
    go_wp2_with fail
    go_ret
    exact ⟨ret_int HN.out.symm, hb2'⟩
  have HN : Hid (countTV B es = ((cntT (endsN B.data.toList (ebs es)) (fresh B.size) (fromK es.length 0) (B.size - 2) : Nat) : Int)) := Lib.hid (if_pos hv)
  have FA : Hid (∀ W : World, EdgesIn W W.heap.size A es → Calls Try.prog 33 #[.agg #[.string B, .slice A es.length cap]] W fun e w' => e = .returned (.bool true) ∧ Below W.heap.size W w') := Lib.hid fun W h => by
    have := specValid_any B A cap es W HM.out h (by unfold maxLen; have := HL.out; omega)
    rwa [decB_t hv] at this
  have h2 : 2 ≤ B.size := by have := hv.1.1.1; simpa using this
  have h8 : B.size ≤ 8 := (valid_sizes hv).1
  have h16 : es.length ≤ 16 := (valid_sizes hv).2
  obtain ⟨m, hm⟩ : ∃ m, B.size - 2 = m := ⟨_, rfl⟩
  have z1 : IntKind.i64.wrap ((B.size : Int) - 2) = (m : Int) := by rw [IntWalk.i64_in _ (by omega)]; omega
  have FC : Hid (∀ W : World, EdgesIn W W.heap.size A es → Calls Try.prog 63 #[.agg #[.string B, .slice A es.length cap], arr8 (fresh B.size), .int .i64 ((0 : Nat) : Int), .int .i64 m] W fun e w' => e = .returned (.int .i64 (countTV B es)) ∧ Below W.heap.size W w') := Lib.hid fun W h => by
    rw [HN.out, hm]
    exact l5Count_any B A cap es HM.out hv _ rfl _ 0 m (fresh B.size) W (Nat.le_refl _) (Nat.zero_le _) (by omega) h
  obtain ⟨v, hv'⟩ : ∃ v, countTV B es = v := ⟨_, rfl⟩
  rw [hv'] at FC ⊢
  obtain ⟨f, hf⟩ : ∃ f, fresh B.size = f := ⟨_, rfl⟩
  have FM : Hid (∀ W : World, Calls Try.prog 64 #[.agg #[.string B, .slice A es.length cap]] W fun e w' => ∃ g, e = .returned (.pointer (some ⟨g, 0, none⟩)) ∧ W.heap.size ≤ g ∧ g < w'.heap.size ∧ Labs w' g f ∧ Below W.heap.size W w') := Lib.hid fun W => by
    rw [← hf]; exact l5Make_any B _ W h2 h8
  rw [hf] at FC
  unfold arr8 at FC
  have HE := Lib.hid hE
  clear hv hv' hf hm h16 h2 h8 HN
  go_enter Try.func30, Try.ntmps30
  go_wp2_with fail
  refine (FA.out _ ((hE.below hb1).more hb1.size)).mono ?_
  rintro e w2 ⟨rfl, hb2⟩
  have hb2' := hb1.trans (hb2.mono hb1.size)
  have t2 := t1.below hb2 (by omega)
  have hz2 := hb2.size
  rw [hz1] at hz2
  clear hb2 t1 FA hb1 hz1 hE
  have HB2 := Lib.hid hb2'; have HT2 := Lib.hid t2
  have d0 := t2.1; have d1 := t2.2
  clear t2 hb2'
  go_wp2_with fail
  go_region_with (first
    | (go_at_call 63; refine (FC.out _ ((HE.out.below hbb).more hbb.size)).mono ?_; rintro e w4 ⟨rfl, hb4⟩
       have hfin : Below w.heap.size w w4 := hbb.trans ((show Below w3.heap.size w3 w4 from ⟨hb4.os, hb4.tape, hb4.output, hb4.size, hb4.block⟩).mono hbb.size)
       clear hb4)
    | (go_at_call 64; refine (FM.out _).mono ?_; rintro e w3 ⟨g, rfl, hg1, hg2, hlab, hb3⟩
       have hb3' : Below w2.heap.size w2 w3 := ⟨hb3.os, hb3.tape, hb3.output, hb3.size, hb3.block⟩
       have d2 := (hb3'.cell (p := ⟨w.heap.size, 0, none⟩) (by simp only; omega)).trans d0
       have d3 := (hb3'.cell (p := ⟨w.heap.size, 1, none⟩) (by simp only; omega)).trans d1
       have hbb : Below w.heap.size w w3 := HB2.out.trans (hb3'.mono HB2.out.size)
       have q0 := hlab.cell (i := 0) (by omega); have q1 := hlab.cell (i := 1) (by omega); have q2 := hlab.cell (i := 2) (by omega); have q3 := hlab.cell (i := 3) (by omega)
       have q4 := hlab.cell (i := 4) (by omega); have q5 := hlab.cell (i := 5) (by omega); have q6 := hlab.cell (i := 6) (by omega); have q7 := hlab.cell (i := 7) (by omega)
       clear hb3 hb3' hlab hg1 hg2))
  all_goals
    go_wp2_with fail
    go_ret
    exact ⟨rfl, hfin⟩

end Go.Proofs.Ytadngnajenedpaa
