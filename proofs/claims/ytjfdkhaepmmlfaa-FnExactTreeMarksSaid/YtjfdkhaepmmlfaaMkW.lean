/- Marks that add amounts: impl.marksWith. -/
import Derived.Test.YtjfdkhaepmmlfaaMkC
import Derived.Test.YtjfdkhaepmmlfaaZ6V
import Derived.Test.YtjfdkhaepmmlfaaNetQ
import Derived.Deep.RegionHeld3
namespace Go.Proofs.Ytjfdkhaepmmlfaa
open Go.RowKit

/-- the mark of an edge: what begins a count there, an amount, whether it comes to the exit -/
def mkAtV (bg : Nat → ByteArray) (am : List Int) (x : ByteArray) (es : List (ByteArray × ByteArray)) (i : Nat) : Mk :=
  (if ((bg i).toList == []) && (am.getD i 0 != 0) then ⟨#[97, 100, 100]⟩ else bg i, am.getD i 0, (es.getD i (⟨#[]⟩, ⟨#[]⟩)).2.toList == x.toList)
def mksV (bg : Nat → ByteArray) (am : List Int) (x : ByteArray) (es : List (ByteArray × ByteArray)) : List Mk := (List.range es.length).map (mkAtV bg am x es)
theorem mksV_len (bg : Nat → ByteArray) (am : List Int) (x : ByteArray) (es : List (ByteArray × ByteArray)) : (mksV bg am x es).length = es.length := by simp [mksV]
theorem mksV_at (bg : Nat → ByteArray) (am : List Int) (x : ByteArray) (es : List (ByteArray × ByteArray)) {i : Nat} (h : i < (mksV bg am x es).length) : (mksV bg am x es)[i] = mkAtV bg am x es i := by simp [mksV]

theorem below_gb {W W' : World} (h : Below W.heap.size W W') (row : Option Nat) : W.grownBy W' row := ⟨h.os, h.tape, h.output, h.size, fun i hi _ => h.block i hi⟩
theorem gb_cell {W W' : World} {g b o : Nat} {v : Value} (h : W.grownBy W' (some g)) (hb : b < W.heap.size) (hg : b ≠ g) (hv : W.cell? ⟨b, o, none⟩ = some v) : W'.cell? ⟨b, o, none⟩ = some v :=
  (World.cell?_of_block (h.block b hb (fun e => by injection e with e; exact hg e))).trans hv

/-- marks as they are made, up to a place -/
structure MkMade (w W : World) (g n k : Nat) (m : Nat → Mk) : Prop where
  row : ∃ f, W.rowIs g 78 (n * 3) f
  lt : g < W.heap.size
  done : ∀ i, i < k → W.cell? ⟨g, i * 3, none⟩ = some (.string (m i).1) ∧ W.cell? ⟨g, i * 3 + 1, none⟩ = some (.int .i64 (m i).2.1) ∧ W.cell? ⟨g, i * 3 + 2, none⟩ = some (.bool (m i).2.2)
  grown : w.grownBy W (some g)
theorem MkMade.go {w W W' : World} {g n k : Nat} {m : Nat → Mk} (h : MkMade w W g n k m) (hb : Below W.heap.size W W') : MkMade w W' g n k m := by
  obtain ⟨f, hf⟩ := h.row
  have hlt := h.lt
  exact ⟨⟨f, hf.of_block (hb.block g hlt)⟩, Nat.lt_of_lt_of_le hlt hb.size, fun i hi => by
    obtain ⟨h1, h2, h3⟩ := h.done i hi
    exact ⟨(hb.cell (by simp only; omega)).trans h1, (hb.cell (by simp only; omega)).trans h2, (hb.cell (by simp only; omega)).trans h3⟩, grown_below h.grown hb⟩
theorem MkMade.put {w W : World} {g n k : Nat} {m : Nat → Mk} (h : MkMade w W g n k m) (hk : k < n) {a : ByteArray} {x : Int} {c : Bool} (hm : m k = (a, x, c)) : MkMade w (((W.setCell ⟨g, k * 3, none⟩ (.string a)).setCell ⟨g, k * 3 + 1, none⟩ (.int .i64 x)).setCell ⟨g, k * 3 + 2, none⟩ (.bool c)) g n (k + 1) m := by
  obtain ⟨f, hf⟩ := h.row
  have hlt := h.lt
  have oth : ∀ (a b : Nat) (u : Value) (V : World), a ≠ b → (V.setCell ⟨g, a, none⟩ u).cell? ⟨g, b, none⟩ = V.cell? ⟨g, b, none⟩ := fun a b u V hab => World.cell?_setCell_other _ _ _ _ (by intro e; injection e with _ e; omega)
  have hst1 := hf.cell (i := k * 3) (by omega)
  have hst2 := hf.cell (i := k * 3 + 1) (by omega)
  have hst3 := hf.cell (i := k * 3 + 2) (by omega)
  refine ⟨⟨_, ((hf.set _ _).set _ _).set _ _⟩, by simp [World.setCell]; exact hlt, fun i hi => ?_, only_setCell_at (only_setCell_at (only_setCell_at h.grown))⟩
  by_cases hik : i = k
  · subst hik
    rw [hm]
    exact ⟨(oth _ _ _ _ (by omega)).trans ((oth _ _ _ _ (by omega)).trans (World.cell?_setCell_same' _ _ _ (by rw [hst1]; rfl))), (oth _ _ _ _ (by omega)).trans (World.cell?_setCell_same' _ _ _ (by rw [oth _ _ _ _ (by omega), hst2]; rfl)), World.cell?_setCell_same' _ _ _ (by rw [oth _ _ _ _ (by omega), oth _ _ _ _ (by omega), hst3]; rfl)⟩
  · obtain ⟨q1, q2, q3⟩ := h.done i (by omega)
    have go3 : ∀ c', c' < 3 → (((W.setCell ⟨g, k * 3, none⟩ (.string a)).setCell ⟨g, k * 3 + 1, none⟩ (.int .i64 x)).setCell ⟨g, k * 3 + 2, none⟩ (.bool c)).cell? ⟨g, i * 3 + c', none⟩ = W.cell? ⟨g, i * 3 + c', none⟩ := fun c' hc =>
      (oth _ _ _ _ (by omega)).trans ((oth _ _ _ _ (by omega)).trans (oth _ _ _ _ (by omega)))
    exact ⟨(go3 0 (by omega)).trans q1, (go3 1 (by omega)).trans q2, (go3 2 (by omega)).trans q3⟩

set_option maxRecDepth 100000 in
set_option maxHeartbeats 8000000 in
/-- impl.marksWith -/
theorem marksWith_any (B : ByteArray) (A : Option Addr) (cap : Nat) (es : List (ByteArray × ByteArray)) (am : List Int) (P : Option Addr) (pcap : Nat) (f : FuncId) (lb : Array Value) (bg : Nat → ByteArray) (x : ByteArray) (w : World)
    (hE : EdgesIn w w.heap.size A es) (h16 : es.length ≤ 100) (hX : IntsIn w w.heap.size P am) (hal : am.length = es.length)
    (he : ∀ args w, (callFunc f args).run Try.prog w = .ok (.enter f args) w)
    (hk : ∀ (i : Nat) (h : i < es.length) (W : World), Below w.heap.size w W → Calls Try.prog f (#[.agg #[.string es[i].1, .string es[i].2]] ++ lb) W fun e W' => e = .returned (.string (bg i)) ∧ Below W.heap.size W W')
    (hx : ∀ W, Calls Try.prog 90 #[.agg #[.string B, .slice A es.length cap]] W fun e W' => e = .returned (.string x) ∧ Below W.heap.size W W') :
    Calls Try.prog 52 #[.agg #[.string B, .slice A es.length cap], .slice P es.length pcap, .func (.func f) #[] lb] w (MkRow (mksV bg am x es) w) := by
  have HK := Lib.hid hk; have FX := Lib.hid hx; have HE := Lib.hid hE; have HX := Lib.hid hX; have HAL := Lib.hid hal
  clear hk hx hE hX hal
  have hmk := fun W => make_marks es.length (by omega) W
  obtain ⟨n0, hn0⟩ : ∃ n0, w.heap.size = n0 := ⟨_, rfl⟩
  have hb1 : Below n0 w (w.alloc (.cells #[.string B, .slice A es.length cap] 30)) := (Below.refl _ _).alloc (by omega) _
  have t1 := Two.made w B A es.length cap 30
  have hz1 : (w.alloc (.cells #[.string B, .slice A es.length cap] 30)).heap.size = n0 + 1 := by simp [hn0]
  go_enter Try.func52, Try.ntmps52
  rw [hn0] at t1
  have hd0 := t1.1; have hd1 := t1.2
  go_wp2_with fail
  obtain ⟨w1, hw1⟩ : ∃ w1, w.alloc (.cells #[.string B, .slice A es.length cap] 30) = w1 := ⟨_, rfl⟩
  rw [hw1] at hb1 t1 hz1 hd0 hd1 ⊢
  obtain ⟨cs, hcs⟩ : ∃ cs, madeCells #[.string ⟨#[]⟩, .int .i64 0, .bool false] (es.length * 3) = cs := ⟨_, rfl⟩
  have hcz : cs.size = es.length * 3 := by rw [← hcs, size_madeCells]
  rw [hcs]
  have hb2 : Below w1.heap.size w1 (w1.alloc (.cells cs 78)) := (Below.refl _ _).alloc (Nat.le_refl _) _
  have HM0 : Hid (MkMade w1 (w1.alloc (.cells cs 78)) (n0 + 1) es.length 0 (mkAtV bg am x es)) := Lib.hid (by
    have h := World.rowIs_alloc w1 cs 78 (fun i => cs.getD i undef) (fun i hi => by simp [hi])
    rw [hcz, hz1] at h
    exact ⟨⟨_, h⟩, by simp; omega, fun i hi => absurd hi (by omega), below_gb hb2 _⟩)
  have HT := Lib.hid t1; have HB1 := Lib.hid hb1; have HZ1 := Lib.hid hz1; have HN0 := Lib.hid hn0
  clear hmk hw1 hcs hcz hb2 t1 hb1 hz1 hn0 hd0 hd1
  go_loopw [18] (fun c wr => ∃ k : Nat, k ≤ es.length ∧ c = .int .i64 k ∧ Hid (MkMade w1 wr (n0 + 1) es.length k (mkAtV bg am x es))) (fun c _ => es.length - (intOf c).toNat)
  case atStart => exact ⟨0, Nat.zero_le _, rfl, HM0⟩
  case round =>
    clear HM0
    obtain ⟨k, hk, rfl, HM⟩ := hrel
    by_cases hlt : k < es.length
    case neg =>
      go_wp2_with fail
      go_ret
      have hke : k = es.length := by omega
      have hlen := mksV_len bg am x es
      refine ⟨n0 + 1, by rw [hlen]; rfl, by rw [HN0.out]; omega, fun i hi => ⟨n0 + 1, 0, rfl, HM.out.lt, ?_⟩, ?_, HM.out.lt, by rw [hlen]; exact HM.out.row⟩
      · rw [mksV_at, Nat.zero_add]
        exact HM.out.done i (by rw [hlen] at hi; omega)
      · have hg := HM.out.grown
        rw [HN0.out]
        exact HB1.out.grown hg (by have := HZ1.out; omega) (fun q e => by injection e with e; omega)
    have HBW : Hid (Below w.heap.size w wr) := Lib.hid (by rw [HN0.out]; exact HB1.out.grown HM.out.grown (by have := HZ1.out; omega) (fun q e => by injection e with e; omega))
    have hzr : n0 + 1 < wr.heap.size := HM.out.lt
    obtain ⟨eb, eo, rfl, hlow, q1, q2⟩ := (HE.out.below HBW.out) k hlt
    obtain ⟨pb, po, rfl, hlp, q3⟩ := (HX.out.below HBW.out) k (by rw [HAL.out]; exact hlt)
    obtain ⟨a, ha⟩ : ∃ a, am.getD k 0 = a := ⟨_, rfl⟩
    have hak : am[k]'(by rw [HAL.out]; exact hlt) = a := by rw [← ha, List.getD_eq_getElem?_getD, List.getElem?_eq_getElem (by rw [HAL.out]; exact hlt)]; rfl
    rw [hak] at q3
    obtain ⟨⟨e1, e2⟩, he12⟩ : ∃ e, es[k] = e := ⟨_, rfl⟩
    rw [he12] at q1 q2
    simp only at q1 q2
    obtain ⟨b, hb⟩ : ∃ b, bg k = b := ⟨_, rfl⟩
    have HKK : Hid (∀ W : World, Below w.heap.size w W → Calls Try.prog f (#[.agg #[.string e1, .string e2]] ++ lb) W fun e W' => e = .returned (.string b) ∧ Below W.heap.size W W') := Lib.hid fun W h => by
      have := HK.out k hlt W h
      rwa [he12, hb] at this
    have HMK : Hid (mkAtV bg am x es k = (if (b.toList == []) && (a != 0) then ⟨#[97, 100, 100]⟩ else b, a, e2.toList == x.toList)) := Lib.hid (by
      unfold mkAtV
      rw [hb, ha, List.getD_eq_getElem?_getD, List.getElem?_eq_getElem hlt, he12]; rfl)
    have hlow' : eb < n0 := by rw [← HN0.out]; exact hlow
    have hlp' : pb < n0 := by rw [← HN0.out]; exact hlp
    have hba : Below wr.heap.size wr (wr.alloc (.cells #[.string e1, .string e2] 104)) := (Below.refl _ _).alloc (Nat.le_refl _) _
    have HMA := Lib.hid (HM.out.go hba)
    have HBWA : Hid (Below w.heap.size w (wr.alloc (.cells #[.string e1, .string e2] 104))) := Lib.hid (HBW.out.trans (hba.mono HBW.out.size))
    have hza : (wr.alloc (.cells #[.string e1, .string e2] 104)).heap.size = wr.heap.size + 1 := by simp
    have hea : (wr.alloc (.cells #[.string e1, .string e2] 104)).cell? ⟨wr.heap.size, 1, none⟩ = some (.string e2) := by go_simp
    have q3a := (hba.cell (p := ⟨pb, po + k, none⟩) (by simp only; omega)).trans q3
    have HEA := Lib.hid hea; have HQ3 := Lib.hid q3a
    clear hak he12 hb ha hba hea q3a
    go_wp2_with fail
    refine (HKK.out _ HBWA.out).mono ?_
    rintro e w3 ⟨rfl, hb3⟩
    have HM3 := Lib.hid (HMA.out.go hb3)
    have q33 := (hb3.cell (p := ⟨pb, po + k, none⟩) (by simp only; omega)).trans HQ3.out
    have e23 := (hb3.cell (p := ⟨wr.heap.size, 1, none⟩) (by simp only; omega)).trans HEA.out
    have hz3 : wr.heap.size + 1 ≤ w3.heap.size := by rw [← hza]; exact hb3.size
    have t30 := gb_cell HM3.out.grown (b := n0) (o := 0) (by have := HZ1.out; omega) (by omega) HT.out.1
    have t31 := gb_cell HM3.out.grown (b := n0) (o := 1) (by have := HZ1.out; omega) (by omega) HT.out.2
    have hS : ∀ W, w3.grownBy W (some (n0 + 1)) → (W.cell? ⟨pb, po + k, none⟩ = some (.int .i64 a) ∧ W.cell? ⟨wr.heap.size, 1, none⟩ = some (.string e2) ∧ W.cell? ⟨n0, 0, none⟩ = some (.string B) ∧ W.cell? ⟨n0, 1, none⟩ = some (.slice (some ⟨eb, eo, none⟩) es.length cap)) :=
      fun W h => ⟨gb_cell h (by omega) (by omega) q33, gb_cell h (by omega) (by omega) e23, gb_cell h (by omega) (by omega) t30, gb_cell h (by omega) (by omega) t31⟩
    have HSS := Lib.hid hS
    clear hb3 HMA HBWA HEA HQ3 HKK q1 q2 q3 hS t30 t31 e23
    have hcases : ∃ op, mkAtV bg am x es k = (op, a, e2.toList == x.toList) ∧ (((b.toList == []) = false ∧ op = b) ∨ ((b.toList == []) = true ∧ (a != 0) = true ∧ op = ⟨#[97, 100, 100]⟩) ∨ ((b.toList == []) = true ∧ (a != 0) = false ∧ op = b)) := by
      cases h1 : (b.toList == []) with
      | false => exact ⟨b, by rw [HMK.out, h1]; rfl, .inl ⟨rfl, rfl⟩⟩
      | true =>
        cases h2 : (a != 0) with
        | false => exact ⟨b, by rw [HMK.out, h1, h2]; rfl, .inr (.inr ⟨rfl, rfl, rfl⟩)⟩
        | true => exact ⟨_, by rw [HMK.out, h1, h2]; rfl, .inr (.inl ⟨rfl, rfl, rfl⟩)⟩
    obtain ⟨op, hop, hc⟩ := hcases
    have HOP := Lib.hid hop
    clear hop HMK
    obtain ⟨ct, hct⟩ : ∃ ct, (e2.toList == x.toList) = ct := ⟨_, rfl⟩
    rw [hct] at HOP
    rcases hc with ⟨c1, rfl⟩ | ⟨c1, c2, rfl⟩ | ⟨c1, c2, rfl⟩
    all_goals
      go_wp2_with fail
      go_region_held3 (fun W => W.cell? ⟨pb, po + k, none⟩ = some (.int .i64 a) ∧ W.cell? ⟨wr.heap.size, 1, none⟩ = some (.string e2) ∧ W.cell? ⟨n0, 0, none⟩ = some (.string B) ∧ W.cell? ⟨n0, 1, none⟩ = some (.slice (some ⟨eb, eo, none⟩) es.length cap))
        (first
          | exact HSS.out _ (below_gb (Below.refl _ _).drew _)
          | exact HSS.out _ (below_gb HB5.out _)
          | exact HSS.out _ (only_setCell_at (only_setCell_at (only_setCell_at (below_gb HB5.out _)))))
        (first
          | (go_at_call 90
             go_must (
             (refine (FX.out _).mono ?_)
             rintro e w5 ⟨rfl, hb5⟩
             have HB5 : Hid (Below w3.heap.size w3 w5) := Lib.hid ((Below.refl _ _).drew.trans hb5)
             have HM5 := Lib.hid (HM3.out.go HB5.out)
             obtain ⟨f5, hf5⟩ := HM5.out.row
             have hst1 := hf5.cell (i := k * 3) (by omega)
             have hst2 := hf5.cell (i := k * 3 + 1) (by omega)
             have hst3 := hf5.cell (i := k * 3 + 2) (by omega)
             have hsf1 := hf5.frozen (k * 3)
             have hsf2 := hf5.frozen (k * 3 + 1)
             have hsf3 := hf5.frozen (k * 3 + 2)
             clear hb5 hf5)))
    all_goals
      rename_i hHeld
      clear hHeld
      have HM6 := Lib.hid (HM5.out.put hlt HOP.out)
      go_wp2_with fail
      go_roundw
      case rel => exact ⟨k + 1, by omega, by go_num, HM6⟩
      case measure => simp [intOf]; omega

end Go.Proofs.Ytjfdkhaepmmlfaa
