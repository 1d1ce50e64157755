/- The heaviest tree, by the program. -/
import Derived.Test.YtadngnajenedpaaSortW
import Derived.Test.YtadngnajenedpaaTreeO
import Derived.Test.YtadngnajenedpaaTreeI
import Derived.Test.YtadngnajenedpaaNames
namespace Go.Proofs.Ytadngnajenedpaa
open Go.RowKit

set_option maxRecDepth 100000 in
set_option maxHeartbeats 2000000 in
/-- slices.SortStableFunc, of places by their numbers -/
theorem sortStable_any (D n : Nat) (f : FuncId) (caps : Array Value) (ws : Nat → Int) (g : Nat → Nat) (w : World) (hn : n ≤ 16) (h1 : SortedTo ws n 1 g) (hr : PlacesAt w D n g)
    (he : ∀ args w, (callFunc f args).run Try.prog w = .ok (.enter f args) w)
    (hk : ∀ (a b : Nat) (W : World), a < n → b < n → w.grownBy W (some D) → Calls Try.prog f (#[.int .i64 a, .int .i64 b] ++ caps) W fun e W' => e = .returned (.int .i64 (cmpI (ws b) (ws a))) ∧ Below W.heap.size W W') :
    Calls Try.prog 85 #[.slice (some ⟨D, 0, none⟩) n n, .func (.func f) #[] caps] w fun e w' => e = .returned (.tuple #[]) ∧ (∃ g', SortedTo ws n n g' ∧ PlacesAt w' D n g') ∧ w.grownBy w' (some D) := by
  have HI := Lib.hid (insSort_any D n n f caps ws g w hn h1 hr he hk)
  clear h1 hr hk
  have a1 : ¬ (20 : Int) ≤ (n : Int) := by omega
  have a2 : ¬ (20 : Int) < (n : Int) := by omega
  have hst : Calls Try.prog 102 #[.slice (some ⟨D, 0, none⟩) n n, .int .i64 n, .func (.func f) #[] caps] w fun e w' => e = .returned (.tuple #[]) ∧ (∃ g', SortedTo ws n n g' ∧ PlacesAt w' D n g') ∧ w.grownBy w' (some D) := by
    go_enter Try.func102, Try.ntmps102
    go_wp2_with fail
    go_loopw [7, 8] (fun a b wr => a = .int .i64 0 ∧ b = .int .i64 20 ∧ wr = w) (fun _ _ _ => 0)
    case atStart => exact ⟨rfl, rfl, rfl⟩
    case round =>
      obtain ⟨rfl, rfl, rfl⟩ := hrel
      go_wp2_with fail
      refine HI.out.mono ?_
      rintro e w2 ⟨rfl, ⟨g2, hs2, hr2⟩, hg2⟩
      have HS2 := Lib.hid hs2; have HR2 := Lib.hid hr2; have HG2 := Lib.hid hg2
      clear hs2 hr2 hg2
      go_wp2_with fail
      go_loopw [6] (fun a wr => a = .int .i64 20 ∧ wr = w2) (fun _ _ => 0)
      case atStart => exact ⟨rfl, rfl⟩
      case round =>
        obtain ⟨rfl, rfl⟩ := hrel
        go_wp2_with fail
        go_end0
        exact ⟨rfl, ⟨g2, HS2.out, HR2.out⟩, HG2.out⟩
  have HST := Lib.hid hst
  clear hst HI a1 a2
  go_enter Try.func85, Try.ntmps85
  go_wp2_with fail
  refine HST.out.mono ?_
  rintro e w2 ⟨rfl, h⟩
  have HH := Lib.hid h
  clear h
  go_wp2_with fail
  go_end0
  exact ⟨rfl, HH.out⟩

set_option maxRecDepth 100000 in
set_option maxHeartbeats 4000000 in
/-- impl.heaviestFirst -/
theorem heaviestFirst_any (P : Option Addr) (pcap : Nat) (xs : List Int) (w : World) (hX : IntsIn w w.heap.size P xs) (hn : xs.length ≤ 16) (hws : ∀ x ∈ xs, 0 ≤ x ∧ x ≤ 99) :
    Calls Try.prog 46 #[.slice P xs.length pcap] w fun e w' => ∃ (D : Nat) (g : Nat → Nat), e = .returned (.slice (some ⟨D, 0, none⟩) xs.length xs.length) ∧ w.heap.size ≤ D ∧ D < w'.heap.size ∧ PlacesAt w' D xs.length g ∧ (List.range xs.length).map g = lowO (wsOf xs) xs.length 100 ∧ Below w.heap.size w w' := by
  obtain ⟨n, hnn⟩ : ∃ n, xs.length = n := ⟨_, rfl⟩
  have HXX : Hid (∀ W : World, Below w.heap.size w W → ∀ k, k < n → ∃ pb po, P = some ⟨pb, po, none⟩ ∧ W.cell? ⟨pb, po + k, none⟩ = some (.int .i64 (wsOf xs k))) := Lib.hid fun W hb k hk => by
    obtain ⟨pb, po, e, hlow, hc⟩ := hX k (by omega)
    refine ⟨pb, po, e, ?_⟩
    rw [hb.cell hlow, hc]
    unfold wsOf
    rw [List.getD_eq_getElem?_getD, List.getElem?_eq_getElem (by omega)]
    rfl
  have HLOW : Hid (∀ k, k < n → ∃ u : Nat, u < 100 ∧ wsOf xs k = u) := Lib.hid fun k hk => by
    have hkl : k < xs.length := by omega
    have h := hws xs[k] (List.getElem_mem hkl)
    have e : wsOf xs k = xs[k] := by
      unfold wsOf
      rw [List.getD_eq_getElem?_getD, List.getElem?_eq_getElem hkl]
      rfl
    exact ⟨xs[k].toNat, by omega, by rw [e]; omega⟩
  rw [hnn] at hn ⊢
  obtain ⟨ws, hw⟩ : ∃ ws, wsOf xs = ws := ⟨_, rfl⟩
  rw [hw] at HXX HLOW ⊢
  have HEN : Hid (∀ args w, (callFunc 86 args).run Try.prog w = .ok (.enter 86 args) w) := Lib.hid (enters_of Try.func86 (by kernel_rfl) rfl)
  obtain ⟨W1, hW1⟩ : ∃ W1, W1 = (w.alloc (.cells #[.slice P n pcap] 25)).alloc (.cells (madeCells #[.int .i64 0] n) 3) := ⟨_, rfl⟩
  have hb1 : Below w.heap.size w W1 := by rw [hW1]; exact ((Below.refl _ _).alloc (Nat.le_refl _) _).alloc (by simp) _
  have hc1 : W1.cell? ⟨w.heap.size, 0, none⟩ = some (.slice P n pcap) := by rw [hW1]; go_simp
  have hz1 : W1.heap.size = w.heap.size + 2 := by rw [hW1]; simp
  have hr1 : W1.rowIs (w.heap.size + 1) 3 n (fun _ => .int .i64 0) := by
    have := World.rowIs_made (w.alloc (.cells #[.slice P n pcap] 25)) (.int .i64 0) n 3
    rw [World.size_alloc] at this
    rw [hW1]; exact this
  have HB1 := Lib.hid hb1; have HC1 := Lib.hid hc1; have HZ1 := Lib.hid hz1; have HR1 := Lib.hid hr1
  have hmk := fun W => make_ints n (by omega) W
  clear hX hws hnn hw hb1 hc1 hz1 hr1
  go_enter Try.func46, Try.ntmps46
  go_wp2_with fail
  rw [← hW1]
  clear hmk hW1
  go_loopw [10] (fun c wr => ∃ m : Nat, m ≤ n ∧ c = .int .i64 m ∧ Hid (wr.rowIs (w.heap.size + 1) 3 n (fun i => .int .i64 ((if i < m then i else 0 : Nat) : Int))) ∧ W1.grownBy wr (some (w.heap.size + 1))) (fun c _ => n - (intOf c).toNat)
  case atStart => exact ⟨0, Nat.zero_le _, rfl, Lib.hid (HR1.out.congr fun i _ => by simp), World.grownBy.refl _ _⟩
  case round =>
    obtain ⟨m, hm, rfl, HRO, hgr⟩ := hrel
    have HGR := Lib.hid hgr
    clear hgr
    by_cases hlt : m < n
    · have cm := HRO.out.cell (i := m) hlt
      have fm := HRO.out.frozen m
      have m1 : (0 : Int) ≤ (m : Int) := by omega
      have m2 : (m : Int) < (n : Int) := by omega
      go_wp2_with fail
      go_roundw
      case rel =>
        refine ⟨m + 1, by omega, by go_num, Lib.hid ((HRO.out.set m (.int .i64 (m : Int))).congr fun i hi => ?_), only_setCell_at HGR.out⟩
        by_cases him : i = m
        · subst him
          simp only [if_true]
          rw [if_pos (Nat.lt_succ_self _)]
        · simp only [if_neg him]
          by_cases hl : i < m
          · rw [if_pos hl, if_pos (by omega)]
          · rw [if_neg hl, if_neg (by omega)]
      case measure => simp [intOf]; omega
    · have hmn : m = n := by omega
      subst hmn
      have hpl : PlacesAt wr (w.heap.size + 1) m (fun i => i) := HRO.out.congr fun i hi => by rw [if_pos hi]
      have hst : SortedTo ws m 1 (fun i => i) := by
        refine ⟨fun p hp => hp, fun p q _ _ => by omega, fun p _ _ => rfl⟩
      have hbw : Below w.heap.size w wr := HB1.out.grown HGR.out (by have := HB1.out.size; omega) (fun q e => by injection e with e; omega)
      have hzr := HGR.out.size
      have hkk : ∀ (a b : Nat) (W : World), a < m → b < m → wr.grownBy W (some (w.heap.size + 1)) → Calls Try.prog 86 (#[.int .i64 a, .int .i64 b] ++ #[.pointer (some ⟨w.heap.size, 0, none⟩)]) W fun e W' => e = .returned (.int .i64 (cmpI (ws b) (ws a))) ∧ Below W.heap.size W W' := fun a b W ha hb hg => by
        have hbW : Below w.heap.size w W := hbw.grown hg (by have := HZ1.out; omega) (fun q e => by injection e with e; omega)
        obtain ⟨pb, po, e1, c1⟩ := HXX.out W hbW a ha
        obtain ⟨pb2, po2, e2, c2⟩ := HXX.out W hbW b hb
        rw [e1] at e2
        injection e2 with e2
        injection e2 with e3 e4
        subst e3
        subst e4
        have hcW : W.cell? ⟨w.heap.size, 0, none⟩ = some (.slice P m pcap) := by
          rw [hg.cell_far _ (by have := HZ1.out; simp only; omega) (by simp only; intro e; injection e with e; omega), HGR.out.cell_far _ (by have := HZ1.out; simp only; omega) (by simp only; intro e; injection e with e; omega)]
          exact HC1.out
        rw [e1] at hcW
        exact heavier_any w.heap.size pb po m pcap a b (ws a) (ws b) W hcW ha hb c1 c2
      have HSS := Lib.hid (sortStable_any (w.heap.size + 1) m _ #[.pointer (some ⟨w.heap.size, 0, none⟩)] ws (fun i => i) wr hn hst hpl HEN.out hkk)
      have HBW := Lib.hid hbw
      clear hpl hst hkk hbw hzr HRO
      go_wp2_with fail
      refine HSS.out.mono ?_
      rintro e w3 ⟨rfl, ⟨g, hs3, hr3⟩, hg3⟩
      have hfin : Below w.heap.size w w3 := HBW.out.grown hg3 (by have := HBW.out.size; omega) (fun q e => by injection e with e; omega)
      have HL3 := Lib.hid (sorted_low hs3 HLOW.out)
      have HR3 := Lib.hid hr3
      clear hs3 hr3 hg3
      go_wp2_with fail
      go_ret
      exact ⟨w.heap.size + 1, g, rfl, by omega, HR3.out.lt, HR3.out, HL3.out, hfin⟩

set_option maxRecDepth 100000 in
/-- impl.TreeOf$1 -/
theorem takenAt_any (X k : Nat) (q : Bool) (w : World) (hk : k < 16) (hc : w.cell? ⟨X, k, none⟩ = some (.bool q)) :
    Calls Try.prog 49 #[.int .i64 k, .pointer (some ⟨X, 0, none⟩)] w fun e w' => e = .returned (.bool q) ∧ Below w.heap.size w w' := by
  have a1 : (0 : Int) ≤ (k : Int) := by omega
  have a2 : (k : Int) < 16 := by omega
  go_enter Try.func49, Try.ntmps49
  go_wp2_with fail
  go_ret
  exact ⟨rfl, Below.refl _ _⟩

end Go.Proofs.Ytadngnajenedpaa
