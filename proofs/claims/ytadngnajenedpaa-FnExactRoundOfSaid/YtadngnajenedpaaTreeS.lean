/- Trees by the model: groups of blocks, edges that make no way round. -/
import Derived.Test.YtadngnajenedpaaPart
import Derived.BigRegion
namespace Go.Proofs.Ytadngnajenedpaa
open Go.RowKit

/-- a row of eight labels -/
def Labs (w : World) (g : Nat) (f : Nat → Nat) : Prop := w.rowIs g 77 8 (fun i => .int .i64 ((f i : Nat) : Int))

theorem drewN_block (w : World) (n b : Nat) : (w.drewN n).heap[b]? = w.heap[b]? := rfl
theorem grown_drewN {w : World} {n : Nat} {row : Option Nat} : w.grownBy (w.drewN n) row := ⟨rfl, rfl, rfl, Nat.le_refl _, fun _ _ _ => rfl⟩

set_option maxRecDepth 100000 in
set_option maxHeartbeats 2000000 in
/-- (*spec.l5Groups).join -/
theorem join5_any (g : Nat) (f : Nat → Nat) (a b : Nat) (w : World) (hr : Labs w g f) (ha : a < 8) (hb : b < 8) :
    Calls Try.prog 81 #[.pointer (some ⟨g, 0, none⟩), .int .i64 a, .int .i64 b] w fun e w' => e = .returned (.bool (f a != f b)) ∧ Labs w' g (joinL f a b) ∧ w.grownBy w' (some g) := by
  unfold Labs at hr ⊢
  have ca := hr.cell (i := a) ha
  have cb := hr.cell (i := b) hb
  have a1 : (0 : Int) ≤ (a : Int) := by omega
  have a2 : (a : Int) < 8 := by omega
  have b1 : (0 : Int) ≤ (b : Int) := by omega
  have b2 : (b : Int) < 8 := by omega
  have HJ : Hid (joinL f a b = fun m => if f m = f b then f a else f m) := Lib.hid rfl
  obtain ⟨x, hx⟩ : ∃ x, f a = x := ⟨_, rfl⟩
  obtain ⟨y, hy⟩ : ∃ y, f b = y := ⟨_, rfl⟩
  rw [hx, hy] at HJ
  rw [hx] at ca ⊢
  rw [hy] at cb ⊢
  have HR := Lib.hid hr
  clear hr hx hy
  go_enter Try.func81, Try.ntmps81
  go_wp2_with fail
  go_quiet (fail)
  go_wp2_with fail
  clear ca cb
  go_loopw [22] (fun c wr => ∃ m : Nat, m ≤ 8 ∧ c = .int .i64 m ∧ wr.rowIs g 77 8 (fun i => .int .i64 ((if i < m then joinL f a b i else f i : Nat) : Int)) ∧ w.grownBy wr (some g)) (fun c _ => 8 - (intOf c).toNat)
  case atStart => exact ⟨0, Nat.zero_le _, rfl, (HR.out.of_block (drewN_block _ _ _)).congr (fun i _ => by simp), grown_drewN⟩
  case round =>
    obtain ⟨m, hm, rfl, hrow, hgr⟩ := hrel
    have HROW := Lib.hid hrow; have HGR := Lib.hid hgr
    clear hgr
    by_cases hlt : m < 8
    · have cm := hrow.cell (i := m) hlt
      have fm := hrow.frozen m
      rw [if_neg (Nat.lt_irrefl m)] at cm
      have HM : Hid (joinL f a b m = if f m = y then x else f m) := Lib.hid (by rw [HJ.out])
      obtain ⟨v, hv⟩ : ∃ v, f m = v := ⟨_, rfl⟩
      rw [hv] at cm HM
      have HV := Lib.hid hv
      have m1 : (0 : Int) ≤ (m : Int) := by omega
      have m2 : (m : Int) < 8 := by omega
      clear hrow hv
      by_cases hvy : v = y
      · have q : ((v : Int) == (y : Int)) = true := by simp [hvy]
        rw [if_pos hvy] at HM
        clear hvy
        go_wp2_with fail
        go_roundw
        case rel =>
          refine ⟨m + 1, by omega, by go_num, (HROW.out.set m (.int .i64 (x : Int))).congr fun i hi => ?_, only_setCell_at HGR.out⟩
          by_cases him : i = m
          · subst him
            simp only [if_true]
            rw [if_pos (Nat.lt_succ_self _), HM.out]
          · simp only [if_neg him]
            by_cases hl : i < m
            · rw [if_pos hl, if_pos (by omega)]
            · rw [if_neg hl, if_neg (by omega)]
        case measure => simp [intOf]; omega
      · have q : ((v : Int) == (y : Int)) = false := by rw [beq_eq_false_iff_ne]; omega
        rw [if_neg hvy] at HM
        clear hvy
        go_wp2_with fail
        go_roundw
        case rel =>
          refine ⟨m + 1, by omega, by go_num, HROW.out.congr fun i hi => ?_, HGR.out⟩
          by_cases him : i = m
          · subst him
            rw [if_neg (Nat.lt_irrefl _), if_pos (Nat.lt_succ_self _), HM.out, HV.out]
          · by_cases hl : i < m
            · rw [if_pos hl, if_pos (by omega)]
            · rw [if_neg hl, if_neg (by omega)]
        case measure => simp [intOf]; omega
    · have h8 : m = 8 := by omega
      subst h8
      clear hrow
      go_wp2_with fail
      go_ret
      refine ⟨ret_bool ?_, HROW.out.congr fun i hi => by rw [if_pos hi], HGR.out⟩
      by_cases hxy : x = y
      · subst hxy; simp
      · rw [bne_iff_ne.2 hxy, bne_iff_ne]; omega

set_option maxRecDepth 100000 in
set_option maxHeartbeats 2000000 in
/-- spec.l5Make -/
theorem l5Make_any (B : ByteArray) (sl : Value) (w : World) (h2 : 2 ≤ B.size) (h8 : B.size ≤ 8) :
    Calls Try.prog 64 #[.agg #[.string B, sl]] w fun e w' => ∃ g, e = .returned (.pointer (some ⟨g, 0, none⟩)) ∧ w.heap.size ≤ g ∧ g < w'.heap.size ∧ Labs w' g (fresh B.size) ∧ Below w.heap.size w w' := by
  have hb1 : Below w.heap.size w (w.alloc (.cells #[.string B, sl] 30)) := (Below.refl _ _).alloc (Nat.le_refl _) _
  have hc0 : (w.alloc (.cells #[.string B, sl] 30)).cell? ⟨w.heap.size, 0, none⟩ = some (.string B) := by go_simp
  have hz1 : (w.alloc (.cells #[.string B, sl] 30)).heap.size = w.heap.size + 1 := by simp
  go_enter Try.func64, Try.ntmps64
  go_wp2_with fail
  generalize hW1 : w.alloc (.cells #[.string B, sl] 30) = w1 at hb1 hc0 hz1 ⊢
  clear hW1
  have hrow := World.rowIs_alloc w1 #[.int .i64 0, .int .i64 0, .int .i64 0, .int .i64 0, .int .i64 0, .int .i64 0, .int .i64 0, .int .i64 0] 77 (fun _ => .int .i64 0) (fun i hi => by
    match i, hi with
    | 0, _ => rfl
    | 1, _ => rfl
    | 2, _ => rfl
    | 3, _ => rfl
    | 4, _ => rfl
    | 5, _ => rfl
    | 6, _ => rfl
    | 7, _ => rfl)
  have hb2 : Below w1.heap.size w1 (w1.alloc (.cells #[.int .i64 0, .int .i64 0, .int .i64 0, .int .i64 0, .int .i64 0, .int .i64 0, .int .i64 0, .int .i64 0] 77)) := (Below.refl _ _).alloc (Nat.le_refl _) _
  have hz2 : (w1.alloc (.cells #[.int .i64 0, .int .i64 0, .int .i64 0, .int .i64 0, .int .i64 0, .int .i64 0, .int .i64 0, .int .i64 0] 77)).heap.size = w1.heap.size + 1 := by simp
  generalize hW2 : w1.alloc (.cells #[.int .i64 0, .int .i64 0, .int .i64 0, .int .i64 0, .int .i64 0, .int .i64 0, .int .i64 0, .int .i64 0] 77) = w2 at hrow hb2 hz2 ⊢
  clear hW2
  rw [hz1] at hrow hb2 hz2
  obtain ⟨g, hg⟩ : ∃ g, w.heap.size + 1 = g := ⟨_, rfl⟩
  rw [hg] at hrow hb2 hz2 ⊢
  have HG : Hid (w.heap.size < g ∧ w2.heap.size = g + 1) := Lib.hid ⟨by omega, by omega⟩
  have hb2' : Below w.heap.size w w2 := hb1.trans (hb2.mono (by omega))
  have HC : Hid (∀ W : World, w2.grownBy W (some g) → W.cell? ⟨w.heap.size, 0, none⟩ = some (.string B)) := Lib.hid fun W h => by
    have h1 := (hb2.cell (p := ⟨w.heap.size, 0, none⟩) (by simp only; omega)).trans hc0
    rw [h.cell_far _ (by simp only; omega) (by simp only; intro e; injection e with e; omega)]
    exact h1
  have HB2 := Lib.hid hb2'
  have HROW : Hid (w2.rowIs g 77 8 (fun _ => .int .i64 0)) := Lib.hid hrow
  clear hb1 hc0 hz1 hb2 hz2 hb2' hrow hg
  go_loopw [7] (fun c wr => ∃ m : Nat, m ≤ 8 ∧ c = .int .i64 m ∧ wr.rowIs g 77 8 (fun i => .int .i64 ((if i < m then i else 0 : Nat) : Int)) ∧ w2.grownBy wr (some g)) (fun c _ => 8 - (intOf c).toNat)
  case atStart => exact ⟨0, Nat.zero_le _, rfl, HROW.out.congr (fun i _ => by simp), World.grownBy.refl _ _⟩
  case round =>
    obtain ⟨m, hm, rfl, hrow, hgr⟩ := hrel
    have HRO := Lib.hid hrow; have HGR := Lib.hid hgr
    clear hgr
    by_cases hlt : m < 8
    · have cm := hrow.cell (i := m) hlt
      have fm := hrow.frozen m
      have m1 : (0 : Int) ≤ (m : Int) := by omega
      have m2 : (m : Int) < 8 := by omega
      clear hrow
      go_wp2_with fail
      go_roundw
      case rel =>
        refine ⟨m + 1, by omega, by go_num, (HRO.out.set m (.int .i64 (m : Int))).congr fun i hi => ?_, only_setCell_at HGR.out⟩
        by_cases him : i = m
        · subst him
          simp only [if_true]
          rw [if_pos (Nat.lt_succ_self _)]
        · simp only [if_neg him]
          by_cases hl : i < m
          · rw [if_pos hl, if_pos (by omega)]
          · rw [if_neg hl, if_neg (by omega)]
      case measure => simp [intOf]; omega
    · have h8' : m = 8 := by omega
      subst h8'
      clear hrow
      have hc := HC.out _ HGR.out
      have hlab : Labs wr g (fun i => i) := HRO.out.congr fun i hi => by rw [if_pos hi]
      obtain ⟨d, hd⟩ : ∃ d, B.size = d + 1 := ⟨B.size - 1, by omega⟩
      have z1 : IntKind.i64.wrap ((B.size : Int) - 1) = (d : Int) := by rw [IntWalk.i64_in _ (by omega)]; omega
      have HD := Lib.hid hd
      have d8 : d < 8 := by omega
      have HL := Lib.hid hlab
      clear hd hlab
      go_wp2_with fail
      refine (join5_any g (fun i => i) 0 d wr HL.out (by omega) d8).mono ?_
      rintro e w4 ⟨rfl, hl4, hg4⟩
      have HL4 := Lib.hid hl4; have HG4 := Lib.hid hg4
      clear hl4 hg4 hc
      go_wp2_with fail
      go_ret
      have hgg := grown_on HGR.out HG4.out
      refine ⟨g, rfl, Nat.le_of_lt HG.out.1, ?_, ?_, HB2.out.grown hgg (by have := HB2.out.size; omega) (fun k e => by injection e with e; have := HG.out.1; omega)⟩
      · have := HG4.out.size; have := HGR.out.size; have := HG.out.2; omega
      · show Labs w4 g (joinL (fun i => i) 0 (B.size - 1))
        rw [HD.out]
        exact HL4.out

set_option maxRecDepth 100000 in
set_option maxHeartbeats 2000000 in
/-- spec.l5Ends -/
theorem l5Ends_any (B : ByteArray) (A : Option Addr) (cap : Nat) (es : List (ByteArray × ByteArray)) (b : ByteArray) (k : Nat) (w : World) (hs : B.size ≤ maxLen) (hE : EdgesIn w w.heap.size A es) (hl : es.length ≤ 1099511627776) (hV : EdgesOk B.data.toList (ebs es)) (hk : k < es.length) (hi : eIdx es.length b.data.toList = k) :
    Calls Try.prog 80 #[.agg #[.string B, .slice A es.length cap], .string b] w fun e w' => e = .returned (.tuple #[.int .i64 (((endsN B.data.toList (ebs es) k).1 : Nat) : Int), .int .i64 (((endsN B.data.toList (ebs es) k).2 : Nat) : Int)]) ∧ Below w.heap.size w w' := by
  have HL := Lib.hid hl; have HM := Lib.hid hs; have HI := Lib.hid hi
  clear hl hs hi
  obtain ⟨x, y, i, j, e1, e2, e3, e4, e5, _, _⟩ := ends_at hV hk
  rw [e3]
  have FL : Hid (∀ W : World, EdgesIn W W.heap.size A es → Calls Try.prog 61 #[.agg #[.string B, .slice A es.length cap], .string b] W fun e w' => e = .returned (.agg #[.string ⟨#[x]⟩, .string ⟨#[y]⟩]) ∧ Below W.heap.size W w') := Lib.hid fun W h => by
    have := l2Edge_any B A cap es b k W h HL.out hk HI.out
    rwa [e1, e2] at this
  have HQ : Hid (Ending.returned (.tuple #[.int .i64 (Lib.indexByte B.data.toList x), .int .i64 (Lib.indexByte B.data.toList y)]) = .returned (.tuple #[.int .i64 ((i : Nat) : Int), .int .i64 ((j : Nat) : Int)])) := Lib.hid (by rw [e4, e5])
  have hb1 : Below w.heap.size w (w.alloc (.cells #[.string B, .slice A es.length cap] 30)) := (Below.refl _ _).alloc (Nat.le_refl _) _
  have t1 := Two.made w B A es.length cap 30
  have hz1 : (w.alloc (.cells #[.string B, .slice A es.length cap] 30)).heap.size = w.heap.size + 1 := by simp
  clear e1 e2 e3 e4 e5 hV hk
  go_enter Try.func80, Try.ntmps80
  go_wp2_with fail
  refine (FL.out _ ((hE.below hb1).more hb1.size)).mono ?_
  rintro e w2 ⟨rfl, hb2⟩
  have hb2' := hb1.trans (hb2.mono hb1.size)
  have t2 := t1.below hb2 (by omega)
  have hz2 := hb2.size
  have hba : Below w2.heap.size w2 (w2.alloc (.cells #[.string ⟨#[x]⟩, .string ⟨#[y]⟩] 72)) := (Below.refl _ _).alloc (Nat.le_refl _) _
  have hn0 := (hba.cell (p := ⟨w.heap.size, 0, none⟩) (by simp only; omega)).trans t2.1
  have hn2 : (w2.alloc (.cells #[.string ⟨#[x]⟩, .string ⟨#[y]⟩] 72)).cell? ⟨w2.heap.size, 0, none⟩ = some (.string ⟨#[x]⟩) := by go_simp
  have hn3 : (w2.alloc (.cells #[.string ⟨#[x]⟩, .string ⟨#[y]⟩] 72)).cell? ⟨w2.heap.size, 1, none⟩ = some (.string ⟨#[y]⟩) := by go_simp
  have hbw := hb2'.trans (hba.mono hb2'.size)
  clear hb1 hb2 t1 FL hba hz1 hz2
  go_wp2_with fail
  generalize hW0 : w2.alloc (.cells #[.string ⟨#[x]⟩, .string ⟨#[y]⟩] 72) = W0 at hn0 hn2 hn3 hbw ⊢
  clear hW0
  go_quiet ((go_at_call 60; exact Calls.quiet_of_same ((find_any _ _ _ HM.out).mono fun _ _ ⟨h, h'⟩ => ⟨h, h'.symm⟩)))
  go_wp2_with fail
  go_ret2
  exact ⟨HQ.out, below_drewN hbw _⟩

end Go.Proofs.Ytadngnajenedpaa
