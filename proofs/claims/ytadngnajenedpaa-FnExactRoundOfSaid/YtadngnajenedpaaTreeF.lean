/- Trees by the model: no way round; IsTree. -/
import Derived.Test.YtadngnajenedpaaTreeK
namespace Go.Proofs.Ytadngnajenedpaa
open Go.RowKit

set_option maxRecDepth 100000 in
set_option maxHeartbeats 4000000 in
/-- spec.l5Forest -/
theorem l5Forest_any (B : ByteArray) (A : Option Addr) (cap : Nat) (es : List (ByteArray × ByteArray)) (b : ByteArray) (w : World) (hs : B.size ≤ maxLen) (hE : EdgesIn w w.heap.size A es) (hl : es.length ≤ 1099511627776) (hV : Valid B.data.toList (ebs es)) (hK : Known es.length b.data.toList) (hbz : b.size ≤ 1099511627776) :
    Calls Try.prog 41 #[.agg #[.string B, .slice A es.length cap], .string b] w (BoolPost (forest (endsN B.data.toList (ebs es)) (fresh B.size) (ksOf b.data.toList)) w) := by
  have HL := Lib.hid hl; have HM := Lib.hid hs
  have h2 : 2 ≤ B.size := by have := hV.1.1.1; simpa using this
  have h8 : B.size ≤ 8 := by have := hV.1.1.2.1; simpa using this
  have HLEN : Hid (b.data.toList.length = b.size) := Lib.hid (by simp)
  have HBL : Hid (B.data.toList.length = B.size) := Lib.hid (by simp)
  have HEO := Lib.hid hV.1.2; have HK := Lib.hid hK
  obtain ⟨E, hEE⟩ : ∃ E, endsN B.data.toList (ebs es) = E := ⟨_, rfl⟩
  have FE : Hid (∀ (k : Nat) (c : UInt8) (s : ByteArray), k < es.length → s.data.toList = [c] → eIdx es.length [c] = k → ∀ W : World, EdgesIn W W.heap.size A es → Calls Try.prog 80 #[.agg #[.string B, .slice A es.length cap], .string s] W fun e w' => e = .returned (.tuple #[.int .i64 (((E k).1 : Nat) : Int), .int .i64 (((E k).2 : Nat) : Int)]) ∧ Below W.heap.size W w') := Lib.hid fun k c s hk hs hi W h => by
    rw [← hEE]
    exact l5Ends_any B A cap es s k W HM.out h HL.out HEO.out hk (by rw [hs, hi])
  have FN : Hid (∀ k, k < es.length → (E k).1 < 8 ∧ (E k).2 < 8) := Lib.hid fun k hk => by
    obtain ⟨x, y, i, j, _, _, e3, _, _, h1, h2⟩ := ends_at HEO.out hk
    rw [← hEE, e3]
    have := HBL.out
    simp only
    omega
  rw [hEE]
  have hb1 : Below w.heap.size w (w.alloc (.cells #[.string B, .slice A es.length cap] 30)) := (Below.refl _ _).alloc (Nat.le_refl _) _
  have t1 := Two.made w B A es.length cap 30
  have hz1 : (w.alloc (.cells #[.string B, .slice A es.length cap] 30)).heap.size = w.heap.size + 1 := by simp
  clear hl hs hV hK hEE
  go_enter Try.func41, Try.ntmps41
  go_wp2_with fail
  generalize hW1 : w.alloc (.cells #[.string B, .slice A es.length cap] 30) = w1 at hb1 t1 hz1 ⊢
  clear hW1
  refine (l5Make_any B _ _ h2 h8).mono ?_
  rintro e w2 ⟨g, rfl, hg1, hg2, hlab, hb2⟩
  have t2 := t1.below hb2 (by omega)
  have hb2' := hb1.trans (hb2.mono hb1.size)
  have HG : Hid (w.heap.size < g) := Lib.hid (by omega)
  have HLAB := Lib.hid hlab; have HT2 := Lib.hid t2; have HB2 := Lib.hid hb2'; have HG2 := Lib.hid hg2
  clear hlab t2 hb2' hb1 hb2 t1 hz1 hg1 hg2
  go_wp2_with fail
  go_loopw [13] (fun c wr => ∃ (i : Nat) (f : Nat → Nat), i ≤ b.size ∧ c = .int .i64 i ∧ Hid (Labs wr g f) ∧ Two wr w.heap.size B A es.length cap ∧ Below w.heap.size w wr ∧ g < wr.heap.size ∧ Hid (forest E (fresh B.size) (ksOf b.data.toList) = forest E f ((ksOf b.data.toList).drop i))) (fun c _ => b.size - (intOf c).toNat)
  case atStart => exact ⟨0, fresh B.size, Nat.zero_le _, rfl, HLAB, HT2.out, HB2.out, HG2.out, Lib.hid (by rw [List.drop_zero])⟩
  case round =>
    obtain ⟨i, f, hi, rfl, HR, tr, hb, hgr, HF⟩ := hrel
    have hgw := HG.out
    by_cases hlt : i < b.size
    case neg =>
      have HD : Hid (true = forest E (fresh B.size) (ksOf b.data.toList)) := Lib.hid (by rw [HF.out, ks_end (by have := HLEN.out; omega)]; rfl)
      clear tr
      go_wp2_with fail
      go_ret
      exact ⟨ret_bool HD.out, hb⟩
    have hex := letter_at (p := b) hlt
    have hka := HK.out.at (i := i) (by have := HLEN.out; omega)
    have hkd := ks_drop (l := b.data.toList) (i := i) (by have := HLEN.out; omega)
    obtain ⟨c, hc⟩ : ∃ c, b.data.toList.getD i 0 = c := ⟨_, rfl⟩
    rw [hc] at hex hka hkd
    obtain ⟨k, hk⟩ : ∃ k, c.toNat - 97 = k := ⟨_, rfl⟩
    rw [hk] at hka hkd
    have FX := FE.out k c (b.extract i (i + 1)) hka.2 hex hka.1
    obtain ⟨n1, n2⟩ := FN.out k hka.2
    have HKD := Lib.hid hkd
    obtain ⟨p1, hp1⟩ : ∃ p, (E k).1 = p := ⟨_, rfl⟩
    obtain ⟨p2, hp2⟩ : ∃ p, (E k).2 = p := ⟨_, rfl⟩
    rw [hp1, hp2] at FX
    rw [hp1] at n1
    rw [hp2] at n2
    have HFX := Lib.hid FX
    have HP1 := Lib.hid hp1; have HP2 := Lib.hid hp2
    have a1 : (0 : Int) ≤ (i : Int) := by omega
    have a4 : (0 : Int) ≤ (i : Int) + 1 := by omega
    have a5 : ((i : Int) + 1).toNat = i + 1 := by omega
    have a6 : (i : Int) + 1 ≤ (b.size : Int) := by omega
    have a7 : i + 1 ≤ b.size := by omega
    have a8 : (i : Int) ≤ (i : Int) + 1 := by omega
    have a9 : IntKind.i64.wrap ((i : Int) + 1) = (i : Int) + 1 := IntWalk.i64_in _ (by omega)
    have x0 : ∀ x : After wr, x.W.cell? ⟨w.heap.size, 0, none⟩ = some (.string B) := fun x => x.cell (by simp only; omega) tr.1
    have x1 : ∀ x : After wr, x.W.cell? ⟨w.heap.size, 1, none⟩ = some (.slice A es.length cap) := fun x => x.cell (by simp only; omega) tr.2
    have xE : ∀ x : After wr, EdgesIn x.W x.W.heap.size A es := fun x => (hE.below (hb.trans (x.h.mono hb.size))).more (hb.trans (x.h.mono hb.size)).size
    have XE := Lib.hid xE
    clear xE hex hka hkd hc hk hp1 hp2 FX
    go_wp2_with fail
    refine wp_region_below (by kernel_rfl) (by kernel_rfl) ?_
    repeat (go_big_quiet_step ((go_at_call 80; exact After.call (HFX.out _ (XE.out _)))))
    refine wpQuiet_nil ?_
    rintro _ ⟨xw, rfl⟩
    clear x0 x1 a1 a4 a5 a6 a7 a8 a9
    have hLx : Labs xw.W g f := HR.out.of_block (xw.h.block g hgr)
    have tx := tr.below xw.h (by omega)
    have hbx := hb.trans (xw.h.mono hb.size)
    have hgx : g < xw.W.heap.size := Nat.lt_of_lt_of_le hgr xw.h.size
    have HLX := Lib.hid hLx; have HTX := Lib.hid tx
    clear hLx tx tr hb XE
    go_wp2_with fail
    refine (join5_any g f p1 p2 xw.W HLX.out n1 n2).mono ?_
    rintro e w4 ⟨rfl, hl4, hg4⟩
    have HL4 := Lib.hid hl4; have HG4 := Lib.hid hg4
    have hb4 : Below w.heap.size w w4 := hbx.grown hg4 hbx.size (fun q e => by injection e with e; omega)
    have t4 := HTX.out.grown hg4 (by have := hbx.size; omega) (by intro e; injection e with e; omega)
    have hg4' : g < w4.heap.size := Nat.lt_of_lt_of_le hgx hg4.size
    clear hl4 hg4 hbx hgx
    by_cases hsame : f p1 = f p2
    · have HD : Hid (false = forest E (fresh B.size) (ksOf b.data.toList)) := Lib.hid (by
        rw [HF.out, HKD.out, forest_no (by rw [HP1.out, HP2.out]; exact hsame)])
      have q : (f p1 != f p2) = false := bne_eq_false_iff_eq.2 hsame
      clear hsame t4
      go_wp2_with fail
      go_ret
      exact ⟨ret_bool HD.out, hb4⟩
    · have HD : Hid (forest E (fresh B.size) (ksOf b.data.toList) = forest E (joinL f p1 p2) ((ksOf b.data.toList).drop (i + 1))) := Lib.hid (by
        rw [HF.out, HKD.out, forest_yes (by rw [HP1.out, HP2.out]; exact hsame), HP1.out, HP2.out])
      have q : (f p1 != f p2) = true := bne_iff_ne.2 hsame
      clear hsame
      go_wp2_with fail
      go_roundw
      case rel => exact ⟨i + 1, _, by omega, by go_num, HL4, t4, hb4, hg4', HD⟩
      case measure => simp [intOf]; omega

set_option maxRecDepth 100000 in
set_option maxHeartbeats 4000000 in
/-- spec.IsTree -/
theorem specIsTree_any (B : ByteArray) (A : Option Addr) (cap : Nat) (es : List (ByteArray × ByteArray)) (b : ByteArray) (w : World) (hs : B.size ≤ maxLen) (hE : EdgesIn w w.heap.size A es) (hl : es.length ≤ 1099511627776) (_ : ∀ e ∈ es, e.1.size ≤ 1099511627776 ∧ e.2.size ≤ 1099511627776) (hbz : b.size ≤ 1099511627776) :
    Calls Try.prog 18 #[.agg #[.string B, .slice A es.length cap], .string b] w (BoolPost (treeV B es b) w) := by
  have HL := Lib.hid hl; have HM := Lib.hid hs
  clear hl hs
  have hb1 : Below w.heap.size w (w.alloc (.cells #[.string B, .slice A es.length cap] 30)) := (Below.refl _ _).alloc (Nat.le_refl _) _
  have t1 := Two.made w B A es.length cap 30
  have hz1 : (w.alloc (.cells #[.string B, .slice A es.length cap] 30)).heap.size = w.heap.size + 1 := by simp
  obtain ⟨v, hv⟩ : ∃ v, decB (Valid B.data.toList (ebs es)) = v := ⟨_, rfl⟩
  have FA : Hid (∀ W : World, EdgesIn W W.heap.size A es → Calls Try.prog 33 #[.agg #[.string B, .slice A es.length cap]] W fun e w' => e = .returned (.bool v) ∧ Below W.heap.size W w') := Lib.hid fun W h => by
    have := specValid_any B A cap es W HM.out h (by unfold maxLen; have := HL.out; omega)
    rwa [hv] at this
  cases v with
  | false =>
    have HN : Hid (treeV B es b = false) := Lib.hid (decB_f fun h => decB_not.1 hv h.1)
    clear hv
    go_enter Try.func18, Try.ntmps18
    go_wp2_with fail
    refine (FA.out _ ((hE.below hb1).more hb1.size)).mono ?_
    rintro e w2 ⟨rfl, hb2⟩
    have hb2' := hb1.trans (hb2.mono hb1.size)
    clear hb2 t1
    go_wp2_with fail
    go_ret
    exact ⟨ret_bool HN.out.symm, hb2'⟩
  | true =>
  have HVAL := Lib.hid (decB_iff.1 hv)
  have hB2 : 2 ≤ B.size := by have := HVAL.out.1.1.1; simpa using this
  have hB8 : B.size ≤ 8 := by have := HVAL.out.1.1.2.1; simpa using this
  obtain ⟨u, hu⟩ : ∃ u, decB (Known es.length b.data.toList) = u := ⟨_, rfl⟩
  have FK : Hid (∀ W : World, Calls Try.prog 40 #[.agg #[.string B, .slice A es.length cap], .string b] W fun e w' => e = .returned (.bool u) ∧ Below W.heap.size W w') := Lib.hid fun W => by
    have := l5Known_any B A es.length cap b W HL.out hbz
    rwa [hu] at this
  clear hv
  cases u with
  | false =>
    have HN : Hid (treeV B es b = false) := Lib.hid (decB_f fun h => decB_not.1 hu h.2.1)
    clear hu
    go_enter Try.func18, Try.ntmps18
    go_wp2_with fail
    refine (FA.out _ ((hE.below hb1).more hb1.size)).mono ?_
    rintro e w2 ⟨rfl, hb2⟩
    have hb2' := hb1.trans (hb2.mono hb1.size)
    have t2 := t1.below hb2 (by omega)
    have hd0 := t2.1; have hd1 := t2.2
    clear hb2 t1
    go_wp2_with fail
    refine (FK.out _).mono ?_
    rintro e w3 ⟨rfl, hb3⟩
    have hb3' := hb2'.trans (hb3.mono hb2'.size)
    clear hb3 hd0 hd1 t2
    go_wp2_with fail
    go_ret
    exact ⟨ret_bool HN.out.symm, hb3'⟩
  | true =>
  have HKN := Lib.hid (decB_iff.1 hu)
  clear hu
  by_cases hsz : b.size + 2 = B.size
  case neg =>
    have HN : Hid (treeV B es b = false) := Lib.hid (decB_f fun h => hsz h.2.2.1)
    have z1 : IntKind.i64.wrap ((B.size : Int) - 2) = (B.size : Int) - 2 := IntWalk.i64_in _ (by omega)
    have z2 : ((b.size : Int) == (B.size : Int) - 2) = false := by rw [beq_eq_false_iff_ne]; omega
    clear hsz hB2 hB8
    go_enter Try.func18, Try.ntmps18
    go_wp2_with fail
    refine (FA.out _ ((hE.below hb1).more hb1.size)).mono ?_
    rintro e w2 ⟨rfl, hb2⟩
    have hb2' := hb1.trans (hb2.mono hb1.size)
    have t2 := t1.below hb2 (by omega)
    have hz2 := hb2.size
    have hd0 := t2.1; have hd1 := t2.2
    clear hb2 t1
    go_wp2_with fail
    refine (FK.out _).mono ?_
    rintro e w3 ⟨rfl, hb3⟩
    have hb3' := hb2'.trans (hb3.mono hb2'.size)
    have t3 := t2.below hb3 (by omega)
    have hf0 := t3.1
    clear hb3 hd0 hd1 t2
    go_wp2_with fail
    go_ret
    exact ⟨ret_bool HN.out.symm, hb3'⟩
  obtain ⟨fo, hfo⟩ : ∃ fo, forest (endsN B.data.toList (ebs es)) (fresh B.size) (ksOf b.data.toList) = fo := ⟨_, rfl⟩
  have HN : Hid (treeV B es b = fo) := Lib.hid (by
    rw [← hfo]
    cases h : forest (endsN B.data.toList (ebs es)) (fresh B.size) (ksOf b.data.toList) with
    | false => exact decB_f fun g => by rw [h] at g; exact absurd g.2.2.2 (by simp)
    | true => exact decB_t ⟨HVAL.out, HKN.out, hsz, h⟩)
  have FF : Hid (∀ W : World, EdgesIn W W.heap.size A es → Calls Try.prog 41 #[.agg #[.string B, .slice A es.length cap], .string b] W fun e w' => e = .returned (.bool fo) ∧ Below W.heap.size W w') := Lib.hid fun W h => by
    have := l5Forest_any B A cap es b W HM.out h HL.out HVAL.out HKN.out hbz
    rwa [hfo] at this
  have z1 : IntKind.i64.wrap ((B.size : Int) - 2) = (B.size : Int) - 2 := IntWalk.i64_in _ (by omega)
  have z2 : ((b.size : Int) == (B.size : Int) - 2) = true := by rw [beq_iff_eq]; omega
  clear hsz hB2 hB8 hfo
  go_enter Try.func18, Try.ntmps18
  go_wp2_with fail
  refine (FA.out _ ((hE.below hb1).more hb1.size)).mono ?_
  rintro e w2 ⟨rfl, hb2⟩
  have hb2' := hb1.trans (hb2.mono hb1.size)
  have t2 := t1.below hb2 (by omega)
  have hz2 := hb2.size
  have hd0 := t2.1; have hd1 := t2.2
  clear hb2 t1 FA
  go_wp2_with fail
  refine (FK.out _).mono ?_
  rintro e w3 ⟨rfl, hb3⟩
  have hb3' := hb2'.trans (hb3.mono hb2'.size)
  have t3 := t2.below hb3 (by omega)
  have hf0 := t3.1; have hf1 := t3.2
  clear hb3 hd0 hd1 t2 FK
  go_wp2_with fail
  refine (FF.out _ ((hE.below hb3').more hb3'.size)).mono ?_
  rintro e w4 ⟨rfl, hb4⟩
  have hb4' := hb3'.trans (hb4.mono hb3'.size)
  clear hb4 hf0 hf1 t3 FF
  go_wp2_with fail
  go_ret
  exact ⟨ret_bool HN.out.symm, hb4'⟩

end Go.Proofs.Ytadngnajenedpaa
