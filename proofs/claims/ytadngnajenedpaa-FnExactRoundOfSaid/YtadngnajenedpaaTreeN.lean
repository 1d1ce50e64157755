/- Trees by the program: names in order; IsTree. -/
import Derived.Test.YtadngnajenedpaaTreeJ
namespace Go.Proofs.Ytadngnajenedpaa
open Go.RowKit

theorem eIdx_one {n : Nat} {c : UInt8} (h : 0 ≤ eIdx n [c]) : eIdx n [c] = (c.toNat : Int) - 97 := by
  unfold eIdx at h ⊢
  simp only at h ⊢
  split at h
  · rename_i q; rw [if_pos q]
  · omega

set_option maxRecDepth 100000 in
set_option maxHeartbeats 4000000 in
/-- impl.inOrder -/
theorem inOrder_any (B : ByteArray) (A : Option Addr) (n cap : Nat) (b : ByteArray) (w : World) (hn : n ≤ 1099511627776) (hbz : b.size ≤ 1099511627776) :
    Calls Try.prog 42 #[.agg #[.string B, .slice A n cap], .string b] w (BoolPost (decB (Known n b.data.toList)) w) := by
  have hlen : b.data.toList.length = b.size := by simp
  have HLEN := Lib.hid hlen; have HN := Lib.hid hn
  clear hlen hn
  have hb1 : Below w.heap.size w (w.alloc (.cells #[.string B, .slice A n cap] 30)) := (Below.refl _ _).alloc (Nat.le_refl _) _
  have t1 := Two.made w B A n cap 30
  have hz1 : (w.alloc (.cells #[.string B, .slice A n cap] 30)).heap.size = w.heap.size + 1 := by simp
  go_enter Try.func42, Try.ntmps42
  go_wp2_with fail
  generalize hW1 : w.alloc (.cells #[.string B, .slice A n cap] 30) = w1 at hb1 t1 hz1 ⊢
  clear hW1
  go_loopw [5, 10] (fun last c wr => ∃ (i : Nat) (L : Int), i ≤ b.size ∧ c = .int .i64 i ∧ last = .int .i64 L ∧ Below w1.heap.size w1 wr ∧ Hid ((i = 0 → L = -1) ∧ (0 < i → L = ((b.data.toList.getD (i - 1) 0).toNat : Int) - 97 ∧ 0 ≤ L) ∧ ∀ j, j < i → 0 ≤ eIdx n [b.data.toList.getD j 0] ∧ (0 < j → (b.data.toList.getD (j - 1) 0).toNat < (b.data.toList.getD j 0).toNat))) (fun _ c _ => b.size - (intOf c).toNat)
  case atStart => exact ⟨0, -1, Nat.zero_le _, rfl, rfl, Below.refl _ _, Lib.hid ⟨fun _ => rfl, fun h => absurd h (by omega), fun j h => absurd h (by omega)⟩⟩
  case round =>
    obtain ⟨i, L, hi, rfl, rfl, hb, HR⟩ := hrel
    have hbw := hb1.trans (hb.mono hb1.size)
    by_cases hlt : i < b.size
    case neg =>
      have HD : Hid (true = decB (Known n b.data.toList)) := Lib.hid (by
        symm; refine decB_t fun j hj => HR.out.2.2 j (by have := HLEN.out; omega))
      go_wp2_with fail
      go_ret
      exact ⟨ret_bool HD.out, hbw⟩
    have hex := letter_at (p := b) hlt
    have FX : Hid (∀ W : World, Calls Try.prog 62 #[.agg #[.string B, .slice A n cap], .string (b.extract i (i + 1))] W fun e w' => e = .returned (.int .i64 (eIdx n [b.data.toList.getD i 0])) ∧ Below W.heap.size W w') := Lib.hid fun W => by
      have := edgeIndex_any (.string B) A n cap (b.extract i (i + 1)) W HN.out
      rwa [hex] at this
    obtain ⟨c, hc⟩ : ∃ c, b.data.toList.getD i 0 = c := ⟨_, rfl⟩
    have HCC := Lib.hid hc
    obtain ⟨r, hr⟩ : ∃ r, eIdx n [c] = r := ⟨_, rfl⟩
    rw [hc] at FX
    rw [hr] at FX
    have HRR := Lib.hid hr
    have a1 : (0 : Int) ≤ (i : Int) := by omega
    have a4 : (0 : Int) ≤ (i : Int) + 1 := by omega
    have a5 : ((i : Int) + 1).toNat = i + 1 := by omega
    have a6 : (i : Int) + 1 ≤ (b.size : Int) := by omega
    have a7 : i + 1 ≤ b.size := by omega
    have a8 : (i : Int) ≤ (i : Int) + 1 := by omega
    have a9 : IntKind.i64.wrap ((i : Int) + 1) = (i : Int) + 1 := IntWalk.i64_in _ (by omega)
    have x0 : ∀ x : After wr, x.W.cell? ⟨w.heap.size, 0, none⟩ = some (.string B) := fun x => x.cell (by have := hb.size; simp only; omega) ((hb.cell (by simp only; omega)).trans t1.1)
    have x1 : ∀ x : After wr, x.W.cell? ⟨w.heap.size, 1, none⟩ = some (.slice A n cap) := fun x => x.cell (by have := hb.size; simp only; omega) ((hb.cell (by simp only; omega)).trans t1.2)
    clear hex hc hr t1
    by_cases hrl : r ≤ L
    · have HD : Hid (false = decB (Known n b.data.toList)) := Lib.hid (by
        symm; refine decB_f fun h => ?_
        obtain ⟨k1, k2⟩ := h i (by have := HLEN.out; omega)
        have e1 := eIdx_one k1
        obtain ⟨g1, g2, _⟩ := HR.out
        rw [HCC.out] at k1 k2 e1
        rw [HRR.out] at k1 e1
        by_cases hi0 : 0 < i
        · have := k2 hi0
          have := g2 hi0
          omega
        · have := g1 (by omega)
          omega)
      go_wp2_with fail
      refine wp_region_below (by kernel_rfl) (by kernel_rfl) ?_
      repeat (go_big_quiet_step ((go_at_call 62; exact After.call (FX.out _))))
      refine wpQuiet_nil ?_
      rintro _ ⟨xw, rfl⟩
      clear x0 x1
      go_wp2_with fail
      go_ret
      exact ⟨ret_bool HD.out, hbw.trans (xw.h.mono hbw.size)⟩
    · have HNX : Hid ((i + 1 = 0 → r = -1) ∧ (0 < i + 1 → r = ((b.data.toList.getD (i + 1 - 1) 0).toNat : Int) - 97 ∧ 0 ≤ r) ∧ ∀ j, j < i + 1 → 0 ≤ eIdx n [b.data.toList.getD j 0] ∧ (0 < j → (b.data.toList.getD (j - 1) 0).toNat < (b.data.toList.getD j 0).toNat)) := Lib.hid (by
        obtain ⟨g1, g2, g3⟩ := HR.out
        have h0 : 0 ≤ r := by
          by_cases hi0 : 0 < i
          · have := g2 hi0; omega
          · have := g1 (by omega); omega
        have e1 : r = (c.toNat : Int) - 97 := by
          have := eIdx_one (n := n) (c := c) (by rw [HRR.out]; exact h0)
          rw [HRR.out] at this; exact this
        refine ⟨fun h => absurd h (by omega), fun _ => ⟨by rw [Nat.add_sub_cancel, HCC.out]; exact e1, h0⟩, fun j hj => ?_⟩
        by_cases hji : j < i
        · exact g3 j hji
        · obtain rfl : j = i := by omega
          rw [HCC.out, HRR.out]
          refine ⟨h0, fun hj0 => ?_⟩
          have := g2 hj0
          omega)
      go_wp2_with fail
      refine wp_region_below (by kernel_rfl) (by kernel_rfl) ?_
      repeat (go_big_quiet_step ((go_at_call 62; exact After.call (FX.out _))))
      refine wpQuiet_nil ?_
      rintro _ ⟨xw, rfl⟩
      clear x0 x1
      go_wp2_with fail
      go_roundw
      case rel => exact ⟨i + 1, r, by omega, by go_num, rfl, hb.trans (xw.h.mono hb.size), HNX⟩
      case measure => simp [intOf]; omega

set_option maxRecDepth 100000 in
set_option maxHeartbeats 4000000 in
/-- impl.IsTree -/
theorem implIsTree_any (B : ByteArray) (A : Option Addr) (cap : Nat) (es : List (ByteArray × ByteArray)) (b : ByteArray) (w : World) (hs : B.size ≤ maxLen) (hE : EdgesIn w w.heap.size A es) (hl : es.length ≤ 1099511627776) (_ : ∀ e ∈ es, e.1.size ≤ 1099511627776 ∧ e.2.size ≤ 1099511627776) (hbz : b.size ≤ 1099511627776) :
    Calls Try.prog 19 #[.agg #[.string B, .slice A es.length cap], .string b] w (BoolPost (treeV B es b) w) := by
  have HL := Lib.hid hl; have HM := Lib.hid hs
  clear hl hs
  have hb1 : Below w.heap.size w (w.alloc (.cells #[.string B, .slice A es.length cap] 30)) := (Below.refl _ _).alloc (Nat.le_refl _) _
  have t1 := Two.made w B A es.length cap 30
  have hz1 : (w.alloc (.cells #[.string B, .slice A es.length cap] 30)).heap.size = w.heap.size + 1 := by simp
  obtain ⟨v, hv⟩ : ∃ v, decB (Valid B.data.toList (ebs es)) = v := ⟨_, rfl⟩
  have FA : Hid (∀ W : World, EdgesIn W W.heap.size A es → Calls Try.prog 37 #[.agg #[.string B, .slice A es.length cap]] W fun e w' => e = .returned (.bool v) ∧ Below W.heap.size W w') := Lib.hid fun W h => by
    have := valid_any B A cap es W HM.out h (by unfold maxLen; have := HL.out; omega)
    rwa [hv] at this
  cases v with
  | false =>
    have HN : Hid (treeV B es b = false) := Lib.hid (decB_f fun h => decB_not.1 hv h.1)
    clear hv
    go_enter Try.func19, Try.ntmps19
    go_wp2_with fail
    refine (FA.out _ ((hE.below hb1).more hb1.size)).mono ?_
    rintro e w2 ⟨rfl, hb2⟩
    have hb2' := hb1.trans (hb2.mono hb1.size)
    clear hb2 t1
    go_wp2_with fail
    go_ret
    exact ⟨ret_bool HN.out.symm, hb2'⟩
  | true =>
  have HVAL := Lib.hid (decB_iff.1 hv)
  have hB2 : 2 ≤ B.size := by have := HVAL.out.1.1.1; simpa using this
  have hB8 : B.size ≤ 8 := by have := HVAL.out.1.1.2.1; simpa using this
  clear hv
  have z1 : IntKind.i64.wrap ((B.size : Int) - 2) = (B.size : Int) - 2 := IntWalk.i64_in _ (by omega)
  by_cases hsz : b.size + 2 = B.size
  case neg =>
    have HN : Hid (treeV B es b = false) := Lib.hid (decB_f fun h => hsz h.2.2.1)
    have z2 : ((b.size : Int) == (B.size : Int) - 2) = false := by rw [beq_eq_false_iff_ne]; omega
    clear hsz hB2 hB8
    go_enter Try.func19, Try.ntmps19
    go_wp2_with fail
    refine (FA.out _ ((hE.below hb1).more hb1.size)).mono ?_
    rintro e w2 ⟨rfl, hb2⟩
    have hb2' := hb1.trans (hb2.mono hb1.size)
    have t2 := t1.below hb2 (by omega)
    have hd0 := t2.1
    clear hb2 t1
    go_wp2_with fail
    go_ret
    exact ⟨ret_bool HN.out.symm, hb2'⟩
  have z2 : ((b.size : Int) == (B.size : Int) - 2) = true := by rw [beq_iff_eq]; omega
  obtain ⟨u, hu⟩ : ∃ u, decB (Known es.length b.data.toList) = u := ⟨_, rfl⟩
  have FK : Hid (∀ W : World, Calls Try.prog 42 #[.agg #[.string B, .slice A es.length cap], .string b] W fun e w' => e = .returned (.bool u) ∧ Below W.heap.size W w') := Lib.hid fun W => by
    have := inOrder_any B A es.length cap b W HL.out hbz
    rwa [hu] at this
  have HSZ := Lib.hid hsz
  clear hsz hB2 hB8
  cases u with
  | false =>
    have HN : Hid (treeV B es b = false) := Lib.hid (decB_f fun h => decB_not.1 hu h.2.1)
    clear hu
    go_enter Try.func19, Try.ntmps19
    go_wp2_with fail
    refine (FA.out _ ((hE.below hb1).more hb1.size)).mono ?_
    rintro e w2 ⟨rfl, hb2⟩
    have hb2' := hb1.trans (hb2.mono hb1.size)
    have t2 := t1.below hb2 (by omega)
    have hd0 := t2.1; have hd1 := t2.2
    clear hb2 t1
    go_wp2_with fail
    refine (FK.out _).mono ?_
    rintro e w3 ⟨rfl, hb3⟩
    have hb3' := hb2'.trans (hb3.mono hb2'.size)
    clear hb3 hd0 hd1 t2
    go_wp2_with fail
    go_ret
    exact ⟨ret_bool HN.out.symm, hb3'⟩
  | true =>
  have HKN := Lib.hid (decB_iff.1 hu)
  clear hu
  obtain ⟨fo, hfo⟩ : ∃ fo, forest (endsN B.data.toList (ebs es)) (fresh B.size) (ksOf b.data.toList) = fo := ⟨_, rfl⟩
  have HN : Hid (treeV B es b = fo) := Lib.hid (by
    rw [← hfo]
    cases h : forest (endsN B.data.toList (ebs es)) (fresh B.size) (ksOf b.data.toList) with
    | false => exact decB_f fun g => by rw [h] at g; exact absurd g.2.2.2 (by simp)
    | true => exact decB_t ⟨HVAL.out, HKN.out, HSZ.out, h⟩)
  have FF : Hid (∀ W : World, EdgesIn W W.heap.size A es → Calls Try.prog 43 #[.agg #[.string B, .slice A es.length cap], .string b] W fun e w' => e = .returned (.bool (!fo)) ∧ Below W.heap.size W w') := Lib.hid fun W h => by
    have := makesRound_any B A cap es b W h HL.out HVAL.out HKN.out hbz
    rwa [hfo] at this
  have HQ : Hid ((!!fo) = fo) := Lib.hid (by simp)
  clear hfo
  go_enter Try.func19, Try.ntmps19
  go_wp2_with fail
  refine (FA.out _ ((hE.below hb1).more hb1.size)).mono ?_
  rintro e w2 ⟨rfl, hb2⟩
  have hb2' := hb1.trans (hb2.mono hb1.size)
  have t2 := t1.below hb2 (by omega)
  have hz2 := hb2.size
  have hd0 := t2.1; have hd1 := t2.2
  clear hb2 t1 FA
  go_wp2_with fail
  refine (FK.out _).mono ?_
  rintro e w3 ⟨rfl, hb3⟩
  have hb3' := hb2'.trans (hb3.mono hb2'.size)
  have t3 := t2.below hb3 (by omega)
  have hf0 := t3.1; have hf1 := t3.2
  clear hb3 hd0 hd1 t2 FK
  go_wp2_with fail
  refine (FF.out _ ((hE.below hb3').more hb3'.size)).mono ?_
  rintro e w4 ⟨rfl, hb4⟩
  have hb4' := hb3'.trans (hb4.mono hb3'.size)
  clear hb4 hf0 hf1 t3 FF
  go_wp2_with fail
  go_ret
  exact ⟨ret_bool (by first | exact HN.out.symm | exact HQ.out.trans HN.out.symm), hb4'⟩

end Go.Proofs.Ytadngnajenedpaa
