/- Trees by the program: no way round, in order, IsTree. -/
import Derived.Test.YtadngnajenedpaaTreeI
namespace Go.Proofs.Ytadngnajenedpaa
open Go.RowKit

set_option maxRecDepth 100000 in
set_option maxHeartbeats 4000000 in
/-- impl.makesRound -/
theorem makesRound_any (B : ByteArray) (A : Option Addr) (cap : Nat) (es : List (ByteArray × ByteArray)) (b : ByteArray) (w : World) (hE : EdgesIn w w.heap.size A es) (hl : es.length ≤ 1099511627776) (hV : Valid B.data.toList (ebs es)) (hK : Known es.length b.data.toList) (hbz : b.size ≤ 1099511627776) :
    Calls Try.prog 43 #[.agg #[.string B, .slice A es.length cap], .string b] w (BoolPost (!forest (endsN B.data.toList (ebs es)) (fresh B.size) (ksOf b.data.toList)) w) := by
  have HL := Lib.hid hl
  have h2 : 2 ≤ B.size := by have := hV.1.1.1; simpa using this
  have h8 : B.size ≤ 8 := by have := hV.1.1.2.1; simpa using this
  have HLEN : Hid (b.data.toList.length = b.size) := Lib.hid (by simp)
  have HBL : Hid (B.data.toList.length = B.size) := Lib.hid (by simp)
  have HEO := Lib.hid hV.1.2; have HK := Lib.hid hK
  obtain ⟨E, hEE⟩ : ∃ E, endsN B.data.toList (ebs es) = E := ⟨_, rfl⟩
  have FJ : Hid (∀ (base R gcap : Nat) (G : Nat → Nat) (par : Nat → Option Nat) (f d : Nat → Nat) (k : Nat) (W : World), EdgesIn W base A es → Uni W base R B.size G par f d → base ≤ W.heap.size → k < es.length → Calls Try.prog 47 #[.agg #[.string B, .slice A es.length cap], .slice (some ⟨R, 0, none⟩) B.size gcap, .int .i64 k] W fun e w' => e = .returned (.bool (f (E k).1 != f (E k).2)) ∧ (∃ par' d', Uni w' base R B.size G par' (joinR f (E k).1 (E k).2) d') ∧ KeepG B.size G W w') := Lib.hid fun base R gcap G par f d k W h hU hb hk => by
    rw [← hEE]
    exact joinEnds_any B A cap gcap es base R G par f d k W h HL.out HEO.out h8 hU hb hk
  have FN : Hid (∀ k, k < es.length → (E k).1 < B.size ∧ (E k).2 < B.size) := Lib.hid fun k hk => by
    obtain ⟨x, y, i, j, _, _, e3, _, _, h1, h2⟩ := ends_at HEO.out hk
    rw [← hEE, e3]
    have := HBL.out
    simp only
    omega
  have FI : Hid (∀ (k : Nat) (c : UInt8) (s : ByteArray), s.data.toList = [c] → eIdx es.length [c] = k → ∀ W : World, Calls Try.prog 62 #[.agg #[.string B, .slice A es.length cap], .string s] W fun e w' => e = .returned (.int .i64 (k : Int)) ∧ Below W.heap.size W w') := Lib.hid fun k c s hs hi W => by
    have := edgeIndex_any (.string B) A es.length cap s W HL.out
    rwa [hs, hi] at this
  rw [hEE]
  have hb1 : Below w.heap.size w (w.alloc (.cells #[.string B, .slice A es.length cap] 30)) := (Below.refl _ _).alloc (Nat.le_refl _) _
  have t1 := Two.made w B A es.length cap 30
  have hz1 : (w.alloc (.cells #[.string B, .slice A es.length cap] 30)).heap.size = w.heap.size + 1 := by simp
  clear hl hV hK hEE
  go_enter Try.func43, Try.ntmps43
  go_wp2_with fail
  generalize hW1 : w.alloc (.cells #[.string B, .slice A es.length cap] 30) = w1 at hb1 t1 hz1 ⊢
  clear hW1
  refine (groupsOf_any B _ _ h2 h8).mono ?_
  rintro e w2 ⟨R, G, par0, d0, rfl, hU2, hb2⟩
  have t2 := t1.below hb2 (by omega)
  have hb2' := hb1.trans (hb2.mono hb1.size)
  have hE2 := (hE.below hb2').more (show w.heap.size ≤ w1.heap.size by omega)
  have hz2 := hb2.size
  obtain ⟨base, hbs⟩ : ∃ base, w1.heap.size = base := ⟨_, rfl⟩
  rw [hbs] at hU2 hE2 hz1 hz2
  have HU2 := Lib.hid hU2; have HT2 := Lib.hid t2; have HB2 := Lib.hid hb2'; have HZ := Lib.hid hz1; have HE2 := Lib.hid hE2
  have HZ2 := Lib.hid hz2
  clear hU2 t2 hb2' hb1 hb2 t1 hz1 hbs hE2 hz2
  go_wp2_with fail
  go_loopw [11] (fun c wr => ∃ (i : Nat) (f g d : Nat → Nat) (par : Nat → Option Nat), i ≤ b.size ∧ c = .int .i64 i ∧ Hid (Uni wr base R B.size G par g d) ∧ Hid (SameL B.size f g) ∧ Two wr w.heap.size B A es.length cap ∧ Below w.heap.size w wr ∧ base ≤ wr.heap.size ∧ Hid (forest E (fresh B.size) (ksOf b.data.toList) = forest E f ((ksOf b.data.toList).drop i))) (fun c _ => b.size - (intOf c).toNat)
  case atStart => exact ⟨0, fresh B.size, fresh B.size, d0, par0, Nat.zero_le _, rfl, HU2, Lib.hid (SameL.refl _ _), HT2.out, HB2.out, HZ2.out, Lib.hid (by rw [List.drop_zero])⟩
  case round =>
    obtain ⟨i, f, g, d, par, hi, rfl, HU, HS, tr, hb, hgr, HF⟩ := hrel
    by_cases hlt : i < b.size
    case neg =>
      have HD : Hid (false = !forest E (fresh B.size) (ksOf b.data.toList)) := Lib.hid (by rw [HF.out, ks_end (by have := HLEN.out; omega)]; rfl)
      clear tr
      go_wp2_with fail
      go_ret
      exact ⟨ret_bool HD.out, hb⟩
    have hex := letter_at (p := b) hlt
    have hka := HK.out.at (i := i) (by have := HLEN.out; omega)
    have hkd := ks_drop (l := b.data.toList) (i := i) (by have := HLEN.out; omega)
    obtain ⟨c, hc⟩ : ∃ c, b.data.toList.getD i 0 = c := ⟨_, rfl⟩
    rw [hc] at hex hka hkd
    obtain ⟨k, hk⟩ : ∃ k, c.toNat - 97 = k := ⟨_, rfl⟩
    rw [hk] at hka hkd
    have HFX := Lib.hid (FI.out k c (b.extract i (i + 1)) hex hka.1)
    obtain ⟨n1, n2⟩ := FN.out k hka.2
    have HKD := Lib.hid hkd
    have HJN : Hid (∀ W : World, Below wr.heap.size wr W → Calls Try.prog 47 #[.agg #[.string B, .slice A es.length cap], .slice (some ⟨R, 0, none⟩) B.size B.size, .int .i64 k] W fun e w' => e = .returned (.bool (g (E k).1 != g (E k).2)) ∧ (∃ par' d', Uni w' base R B.size G par' (joinR g (E k).1 (E k).2) d') ∧ KeepG B.size G W w') := Lib.hid fun W h => by
      have hbw := hb.trans (h.mono hb.size)
      exact FJ.out base R B.size G par g d k W (by have := hE.below hbw; exact this.more (by have := HZ.out; omega)) (HU.out.below_all h) (Nat.le_trans hgr h.size) hka.2
    have hsame := HS.out.same n1 n2
    have hnew := HS.out.join n1 n2
    have hfo1 : forest E (fresh B.size) (ksOf b.data.toList) = forest E f (k :: (ksOf b.data.toList).drop (i + 1)) := by rw [HF.out, HKD.out]
    obtain ⟨p1, hp1⟩ : ∃ p, (E k).1 = p := ⟨_, rfl⟩
    obtain ⟨p2, hp2⟩ : ∃ p, (E k).2 = p := ⟨_, rfl⟩
    have HFO : Hid (forest E (fresh B.size) (ksOf b.data.toList) = if f p1 = f p2 then false else forest E (joinL f p1 p2) ((ksOf b.data.toList).drop (i + 1))) := Lib.hid (by
      rw [hfo1]
      show (if f (E k).1 = f (E k).2 then false else forest E (joinL f (E k).1 (E k).2) ((ksOf b.data.toList).drop (i + 1))) = _
      rw [hp1, hp2])
    rw [hp1, hp2] at HJN hsame hnew
    obtain ⟨q, hq⟩ : ∃ q, (g p1 != g p2) = q := ⟨_, rfl⟩
    rw [hq] at HJN hsame
    have HSAME := Lib.hid hsame; have HNEW := Lib.hid hnew
    have a1 : (0 : Int) ≤ (i : Int) := by omega
    have a4 : (0 : Int) ≤ (i : Int) + 1 := by omega
    have a5 : ((i : Int) + 1).toNat = i + 1 := by omega
    have a6 : (i : Int) + 1 ≤ (b.size : Int) := by omega
    have a7 : i + 1 ≤ b.size := by omega
    have a8 : (i : Int) ≤ (i : Int) + 1 := by omega
    have a9 : IntKind.i64.wrap ((i : Int) + 1) = (i : Int) + 1 := IntWalk.i64_in _ (by omega)
    have hwz : w.heap.size < wr.heap.size := by have := HZ.out; omega
    have hC : ∀ W, Below wr.heap.size wr W → (W.cell? ⟨w.heap.size, 0, none⟩ = some (.string B) ∧ W.cell? ⟨w.heap.size, 1, none⟩ = some (.slice A es.length cap)) := fun W h => ⟨(h.cell (by simp only; omega)).trans tr.1, (h.cell (by simp only; omega)).trans tr.2⟩
    have hLO := HU.out.lo.2
    have hGl : ∀ m, m < B.size → w.heap.size ≠ G m := fun m hm => by have := hLO m hm; have := HZ.out; omega
    have hC5 : ∀ W W', Below wr.heap.size wr W → KeepG B.size G W W' → (W'.cell? ⟨w.heap.size, 0, none⟩ = some (.string B) ∧ W'.cell? ⟨w.heap.size, 1, none⟩ = some (.slice A es.length cap)) := fun W W' h k => by
      obtain ⟨g0, g1⟩ := hC W h
      have hs := h.size
      exact ⟨k.cell (by simp only; omega) (fun m hm => hGl m hm) g0, k.cell (by simp only; omega) (fun m hm => hGl m hm) g1⟩
    have HSS := Lib.hid hC; have HS5 := Lib.hid hC5; have HLO := Lib.hid hLO
    have HBW := Lib.hid hb
    clear hC hC5 hGl hLO hex hka hkd hc hk hp1 hp2 hfo1 hsame hnew tr hwz n1 n2 hq hb
    go_wp2_with fail
    go_region_held3 (fun W => W.cell? ⟨w.heap.size, 0, none⟩ = some (.string B) ∧ W.cell? ⟨w.heap.size, 1, none⟩ = some (.slice A es.length cap))
      (first
        | exact hs5
        | exact HSS.out _ (Below.refl _ _).drew
        | exact HSS.out _ ((Below.refl _ _).drew.trans hb3))
      (first
        | (go_at_call 47
           have hbb := (Below.refl wr.heap.size wr).drew.trans hb3
           refine (HJN.out _ hbb).mono ?_; rintro e w5 ⟨rfl, hU5, hk5⟩
           have hs5 := HS5.out _ _ hbb hk5
           have HU5 := Lib.hid hU5; have HK5 := Lib.hid hk5; have HBB := Lib.hid hbb
           clear hU5 hk5 hbb)
        | (go_at_call 62; refine (HFX.out _).mono ?_; rintro e w3 ⟨rfl, hb3⟩))
    rename_i hHeld
    have hwz : w.heap.size ≤ wr.heap.size := HBW.out.size
    have hfin : Below w.heap.size w w5 := HK5.out.below (HBW.out.trans (HBB.out.mono hwz)) (Nat.le_trans hwz HBB.out.size) (fun m hm => by have := HLO.out m hm; have := HZ.out; omega)
    have hsz5 : base ≤ w5.heap.size := Nat.le_trans hgr (Nat.le_trans HBB.out.size HK5.out.size)
    have HH := Lib.hid hHeld; have HSZ := Lib.hid hsz5
    clear hHeld a1 a4 a5 a6 a7 a8 a9 hwz hsz5
    cases q with
    | false =>
      have HD : Hid (true = !forest E (fresh B.size) (ksOf b.data.toList)) := Lib.hid (by
        rw [HFO.out, if_pos (bne_eq_false_iff_eq.1 HSAME.out)]; rfl)
      go_wp2_with fail
      go_ret
      exact ⟨ret_bool HD.out, hfin⟩
    | true =>
      have HD : Hid (forest E (fresh B.size) (ksOf b.data.toList) = forest E (joinL f p1 p2) ((ksOf b.data.toList).drop (i + 1))) := Lib.hid (by
        rw [HFO.out, if_neg (bne_iff_ne.1 HSAME.out)])
      go_wp2_with fail
      go_roundw
      case rel =>
        obtain ⟨par5, d5, hU5⟩ := HU5.out
        exact ⟨i + 1, _, _, d5, par5, by omega, by go_num, Lib.hid hU5, HNEW, HH.out, hfin, HSZ.out, HD⟩
      case measure => simp [intOf]; omega

end Go.Proofs.Ytadngnajenedpaa
