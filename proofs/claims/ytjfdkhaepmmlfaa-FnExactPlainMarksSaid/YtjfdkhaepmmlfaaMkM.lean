/- Marks that add steps, by the model: spec.l7Make. -/
import Derived.Test.YtjfdkhaepmmlfaaMkE
import Derived.Test.YtjfdkhaepmmlfaaZ6W
import Derived.Deep.RegionHeld3
namespace Go.Proofs.Ytjfdkhaepmmlfaa
open Go.RowKit

/-- marks, as cells -/
def cellsK (ms : List Mk) : List Value := ms.flatMap fun m => [.string m.1, .int .i64 m.2.1, .bool m.2.2]
theorem cellsK_len (ms : List Mk) : (cellsK ms).length = ms.length * 3 := by
  unfold cellsK
  induction ms with
  | nil => rfl
  | cons a l ih => rw [List.flatMap_cons, List.length_append, ih, List.length_cons]; simp only [List.length_cons, List.length_nil]; omega
theorem cellsK_append (a b : List Mk) : cellsK (a ++ b) = cellsK a ++ cellsK b := by unfold cellsK; rw [List.flatMap_append]
theorem cellsK_at (ms : List Mk) {k : Nat} (h : k < ms.length) : (cellsK ms)[k * 3]? = some (.string ms[k].1) ∧ (cellsK ms)[k * 3 + 1]? = some (.int .i64 ms[k].2.1) ∧ (cellsK ms)[k * 3 + 2]? = some (.bool ms[k].2.2) := by
  induction ms generalizing k with
  | nil => exact absurd h (by simp)
  | cons a l ih =>
    have e : cellsK (a :: l) = [.string a.1, .int .i64 a.2.1, .bool a.2.2] ++ cellsK l := by unfold cellsK; rw [List.flatMap_cons]
    rw [e]
    cases k with
    | zero => exact ⟨rfl, rfl, rfl⟩
    | succ k =>
      have hk : k < l.length := by simpa using h
      obtain ⟨h1, h2, h3⟩ := ih hk
      refine ⟨?_, ?_, ?_⟩
      · rw [List.getElem?_append_right (by simp only [List.length_cons, List.length_nil]; omega)]
        simpa [show (k + 1) * 3 - 3 = k * 3 by omega] using h1
      · rw [List.getElem?_append_right (by simp only [List.length_cons, List.length_nil]; omega)]
        simpa [show (k + 1) * 3 + 1 - 3 = k * 3 + 1 by omega] using h2
      · rw [List.getElem?_append_right (by simp only [List.length_cons, List.length_nil]; omega)]
        simpa [show (k + 1) * 3 + 2 - 3 = k * 3 + 2 by omega] using h3
/-- a row of the call's own, as marks -/
theorem own_marks {w : World} {base : Nat} {v : Value} {ms : List Mk} (h : w.ownsRow base 78 3 v ms.length (cellsK ms)) : ∃ A cap, v = .slice A ms.length cap ∧ MarksIn w w.heap.size A ms := by
  rcases h.2 with ⟨rfl, h0⟩ | ⟨g, cap, cur, rfl, hb, hg, hn, hc, hs, htake⟩
  · exact ⟨none, 0, by rw [h0], fun k hk => absurd hk (by omega)⟩
  · have hlt : g < w.heap.size := (Array.getElem?_eq_some_iff.1 hg).1
    refine ⟨_, cap, rfl, fun k hk => ⟨g, 0, rfl, hlt, ?_⟩⟩
    obtain ⟨h1, h2, h3⟩ := cellsK_at ms hk
    have e : ∀ j, ((⟨g, 0, none⟩ : Addr).add j) = ⟨g, j, none⟩ := fun j => by unfold Addr.add; split <;> simp_all
    have q1 := h.cells (g := g) rfl _ _ h1
    have q2 := h.cells (g := g) rfl _ _ h2
    have q3 := h.cells (g := g) rfl _ _ h3
    rw [e] at q1 q2 q3
    rw [Nat.zero_add]
    exact ⟨q1, q2, q3⟩

/-- a mark's cells -/
def mkC (q : Mk) (i : Nat) : Value := if i = 0 then .string q.1 else if i = 1 then .int .i64 q.2.1 else .bool q.2.2
/-- a mark in a variable -/
def MkAt (W : World) (m : Nat) (q : Mk) : Prop := W.rowIs m 78 3 (mkC q)
theorem MkAt.c0 {W : World} {m : Nat} {q : Mk} (h : MkAt W m q) : W.cell? ⟨m, 0, none⟩ = some (.string q.1) := h.cell (i := 0) (by omega)
theorem MkAt.c1 {W : World} {m : Nat} {q : Mk} (h : MkAt W m q) : W.cell? ⟨m, 1, none⟩ = some (.int .i64 q.2.1) := h.cell (i := 1) (by omega)
theorem MkAt.c2 {W : World} {m : Nat} {q : Mk} (h : MkAt W m q) : W.cell? ⟨m, 2, none⟩ = some (.bool q.2.2) := h.cell (i := 2) (by omega)
theorem MkAt.fr {W : World} {m : Nat} {q : Mk} (h : MkAt W m q) (i : Nat) : W.frozen? ⟨m, i, none⟩ = false := h.frozen i
theorem MkAt.below {W W' : World} {m : Nat} {q : Mk} (h : MkAt W m q) (k : Below W.heap.size W W') (hm : m < W.heap.size) : MkAt W' m q := h.of_block (k.block m hm)
theorem MkAt.drew {W : World} {m : Nat} {q : Mk} (h : MkAt W m q) : MkAt W.drew m q := h.of_block rfl
theorem MkAt.set0 {W : World} {m : Nat} {q : Mk} (h : MkAt W m q) (b : ByteArray) : MkAt (W.setCell ⟨m, 0, none⟩ (.string b)) m (b, q.2) :=
  (h.set 0 _).congr fun j hj => by
    match j, hj with
    | 0, _ => rfl
    | 1, _ => rfl
    | 2, _ => rfl
theorem MkAt.set1 {W : World} {m : Nat} {q : Mk} (h : MkAt W m q) (x : Int) : MkAt (W.setCell ⟨m, 1, none⟩ (.int .i64 x)) m (q.1, x, q.2.2) :=
  (h.set 1 _).congr fun j hj => by
    match j, hj with
    | 0, _ => rfl
    | 1, _ => rfl
    | 2, _ => rfl
theorem MkAt.set2 {W : World} {m : Nat} {q : Mk} (h : MkAt W m q) (c : Bool) : MkAt (W.setCell ⟨m, 2, none⟩ (.bool c)) m (q.1, q.2.1, c) :=
  (h.set 2 _).congr fun j hj => by
    match j, hj with
    | 0, _ => rfl
    | 1, _ => rfl
    | 2, _ => rfl
theorem MkAt.made (W : World) (a : ByteArray) (n : Int) (c : Bool) : MkAt (W.alloc (.cells #[.string a, .int .i64 n, .bool c] 78)) W.heap.size (a, n, c) :=
  World.rowIs_alloc W #[.string a, .int .i64 n, .bool c] 78 (mkC (a, n, c)) fun i hi => by
    match i, hi with
    | 0, _ => rfl
    | 1, _ => rfl
    | 2, _ => rfl
theorem new_cellsK (W : World) (q : Mk) (T : TypeId) : ∀ j u, (cellsK [q])[j]? = some u → (W.alloc (.cells #[.string q.1, .int .i64 q.2.1, .bool q.2.2] T)).cell? ((⟨W.heap.size, 0, none⟩ : Addr).add j) = some u := by
  intro j u hu
  rw [add_none, Nat.zero_add]
  simp only [World.cell?, World.alloc_heap_new]
  simpa [cellsK] using hu
/-- what lies in the variable behind a call that came after it was made -/
theorem mark_made (w : World) : ∀ w4, Below (w.alloc (.cells #[.string ⟨#[]⟩, .int .i64 0, .bool false] 78)).drew.heap.size (w.alloc (.cells #[.string ⟨#[]⟩, .int .i64 0, .bool false] 78)).drew w4 → MkAt w4 w.heap.size (⟨#[]⟩, 0, false) :=
  fun w4 h => (MkAt.made w ⟨#[]⟩ 0 false).drew.below h (by simp)

set_option maxRecDepth 100000 in
set_option maxHeartbeats 8000000 in
/-- spec.l7Make -/
theorem l7Make_any (B : ByteArray) (A : Option Addr) (cap : Nat) (es : List (ByteArray × ByteArray)) (am : List Int) (P : Option Addr) (pcap : Nat) (w : World)
    (hE : EdgesIn w w.heap.size A es) (h16 : es.length ≤ 100) (hX : IntsIn w w.heap.size P am) (hal : am.length = es.length) (hB1 : 1 ≤ B.size) (hBm : B.size ≤ maxLen) :
    Calls Try.prog 50 #[.agg #[.string B, .slice A es.length cap], .slice P es.length pcap] w fun e w' => ∃ A' cap', e = .returned (.slice A' es.length cap') ∧ MarksIn w' w'.heap.size A' (mksV (earlyV (B.extract 0 1) es) am (B.extract (B.size - 1) B.size) es) ∧ Below w.heap.size w w' := by
  have FE : Hid (∀ W : World, Calls Try.prog 81 #[.agg #[.string B, .slice A es.length cap]] W fun e W' => e = .returned (.string (B.extract 0 1)) ∧ Below W.heap.size W W') := Lib.hid fun W => l1Entry_any B _ W hB1 hBm
  have FX : Hid (∀ W : World, Calls Try.prog 82 #[.agg #[.string B, .slice A es.length cap]] W fun e W' => e = .returned (.string (B.extract (B.size - 1) B.size)) ∧ Below W.heap.size W W') := Lib.hid fun W => l1Exit_any B _ W hB1 hBm
  obtain ⟨en, hen⟩ : ∃ en, B.extract 0 1 = en := ⟨_, rfl⟩
  obtain ⟨ex, hex⟩ : ∃ ex, B.extract (B.size - 1) B.size = ex := ⟨_, rfl⟩
  rw [hen] at FE ⊢
  rw [hex] at FX ⊢
  have HE := Lib.hid hE; have HX := Lib.hid hX; have HAL := Lib.hid hal
  clear hen hex hE hX hal hB1 hBm
  obtain ⟨n0, hn0⟩ : ∃ n0, w.heap.size = n0 := ⟨_, rfl⟩
  have hb1 : Below n0 w (w.alloc (.cells #[.string B, .slice A es.length cap] 30)) := (Below.refl _ _).alloc (by omega) _
  have t1 := Two.made w B A es.length cap 30
  have hz1 : (w.alloc (.cells #[.string B, .slice A es.length cap] 30)).heap.size = n0 + 1 := by simp [hn0]
  rw [hn0] at t1
  have hd0 := t1.1; have hd1 := t1.2
  obtain ⟨i0, hi, hi0, hi1, hi2⟩ := info_parts markInfo
  have HI := Lib.hid hi; have HI0 := Lib.hid hi0; have HI1 := Lib.hid hi1; have HI2 := Lib.hid hi2
  clear hi hi0 hi1 hi2
  go_enter Try.func50, Try.ntmps50
  go_wp2_with fail
  obtain ⟨w1, hw1⟩ : ∃ w1, w.alloc (.cells #[.string B, .slice A es.length cap] 30) = w1 := ⟨_, rfl⟩
  rw [hw1] at hb1 t1 hz1 hd0 hd1 ⊢
  have hb2 : Below w1.heap.size w1 (w1.alloc (.cells #[] 78)) := (Below.refl _ _).alloc (Nat.le_refl _) _
  have HOWN0 : Hid ((w1.alloc (.cells #[] 78)).ownsRow (n0 + 1) 78 3 (.slice (some ⟨n0 + 1, 0, none⟩) 0 0) 0 (cellsK ((List.range 0).map (mkAtV (earlyV en es) am ex es)))) := Lib.hid
    ⟨rfl, .inr ⟨n0 + 1, 0, #[], rfl, Nat.le_refl _, alloc_at _ _ hz1, by simp, by simp, by simp, by simp [cellsK]⟩⟩
  have HT0 := Lib.hid (t1.below hb2 (by omega)); have HB0 : Hid (Below w.heap.size w (w1.alloc (.cells #[] 78))) := Lib.hid (by rw [hn0]; exact hb1.trans (hb2.mono (by omega))); have HN0 := Lib.hid hn0
  have hz0 : n0 + 2 ≤ (w1.alloc (.cells #[] 78)).heap.size := by simp; omega
  clear hw1 hb2 t1 hb1 hz1 hn0 hd0 hd1
  go_loopw [5, 13] (fun v c wr => ∃ k : Nat, k ≤ es.length ∧ c = .int .i64 k ∧ Hid (wr.ownsRow (n0 + 1) 78 3 v k (cellsK ((List.range k).map (mkAtV (earlyV en es) am ex es)))) ∧ Hid (Two wr n0 B A es.length cap) ∧ Hid (Below w.heap.size w wr) ∧ n0 + 2 ≤ wr.heap.size) (fun _ c _ => es.length - (intOf c).toNat)
  case atStart => exact ⟨0, Nat.zero_le _, rfl, HOWN0, HT0, HB0, hz0⟩
  case round =>
    clear HOWN0 HT0 HB0 hz0
    obtain ⟨k, hk, rfl, HOWN, HT, HB, hz⟩ := hrel
    by_cases hlt : k < es.length
    case neg =>
      have hke : k = es.length := by omega
      have hown := HOWN.out
      rw [hke, show (List.range es.length).map (mkAtV (earlyV en es) am ex es) = mksV (earlyV en es) am ex es from rfl] at hown
      have hlen := mksV_len (earlyV en es) am ex es
      obtain ⟨A2, c2, rfl, hm2⟩ := own_marks (ms := mksV (earlyV en es) am ex es) (by rw [hlen]; exact hown)
      have HM2 := Lib.hid hm2
      clear hown hm2
      go_wp2_with fail
      go_ret
      exact ⟨A2, c2, by rw [hlen]; rfl, HM2.out, HB.out⟩
    obtain ⟨eb, eo, rfl, hlow, q1, q2⟩ := (HE.out.below HB.out) k hlt
    obtain ⟨pb, po, rfl, hlp, q3⟩ := (HX.out.below HB.out) k (by rw [HAL.out]; exact hlt)
    obtain ⟨a, ha⟩ : ∃ a, am.getD k 0 = a := ⟨_, rfl⟩
    have hak : am[k]'(by rw [HAL.out]; exact hlt) = a := by rw [← ha, List.getD_eq_getElem?_getD, List.getElem?_eq_getElem (by rw [HAL.out]; exact hlt)]; rfl
    rw [hak] at q3
    obtain ⟨⟨e1, e2⟩, he12⟩ : ∃ e, es[k] = e := ⟨_, rfl⟩
    rw [he12] at q1 q2
    simp only at q1 q2
    have hed : es.getD k (⟨#[]⟩, ⟨#[]⟩) = (e1, e2) := by rw [List.getD_eq_getElem?_getD, List.getElem?_eq_getElem hlt, he12]; rfl
    obtain ⟨xt, hxt⟩ : ∃ xt, (e2.toList == ex.toList) = xt := ⟨_, rfl⟩
    obtain ⟨et, het⟩ : ∃ et, (e1.toList == en.toList) = et := ⟨_, rfl⟩
    have HMK : Hid (mkAtV (earlyV en es) am ex es k = (if et then ⟨#[115, 101, 116]⟩ else if a != 0 then ⟨#[97, 100, 100]⟩ else ⟨#[]⟩, a, xt)) := Lib.hid (by
      unfold mkAtV earlyV
      rw [ha, hed]
      simp only [hxt, het]
      cases et with
      | true => simp
      | false => cases a != 0 <;> simp)
    have hlow' : eb < n0 := by rw [← HN0.out]; exact hlow
    have hlp' : pb < n0 := by rw [← HN0.out]; exact hlp
    have hba : Below wr.heap.size wr (wr.alloc (.cells #[.string e1, .string e2] 104)) := (Below.refl _ _).alloc (Nat.le_refl _) _
    have hza : (wr.alloc (.cells #[.string e1, .string e2] 104)).heap.size = wr.heap.size + 1 := by simp
    have hea : (wr.alloc (.cells #[.string e1, .string e2] 104)).cell? ⟨wr.heap.size, 1, none⟩ = some (.string e2) := by go_simp
    have hea0 : (wr.alloc (.cells #[.string e1, .string e2] 104)).cell? ⟨wr.heap.size, 0, none⟩ = some (.string e1) := by go_simp
    have q3a := (hba.cell (p := ⟨pb, po + k, none⟩) (by simp only; omega)).trans q3
    have t3 := HT.out.below hba (by omega)
    obtain ⟨wa, hwa⟩ : ∃ wa, wr.alloc (.cells #[.string e1, .string e2] 104) = wa := ⟨_, rfl⟩
    rw [hwa] at hba hza hea hea0 q3a t3
    have HWA := Lib.hid hwa
    have HOWNA := Lib.hid (ownsRow_of_block HOWN.out fun b hb => hba.block b (ownBlock_lt HOWN.out hb).2)
    have HBA := Lib.hid (HB.out.trans (hba.mono HB.out.size))
    have HSS : Hid (∀ W, Below wa.heap.size wa W → (W.cell? ⟨wr.heap.size, 0, none⟩ = some (.string e1) ∧ W.cell? ⟨wr.heap.size, 1, none⟩ = some (.string e2) ∧ W.cell? ⟨n0, 0, none⟩ = some (.string B) ∧ W.cell? ⟨n0, 1, none⟩ = some (.slice (some ⟨eb, eo, none⟩) es.length cap) ∧ W.cell? ⟨pb, po + k, none⟩ = some (.int .i64 a))) :=
      Lib.hid fun W h => ⟨(h.cell (by simp only; omega)).trans hea0, (h.cell (by simp only; omega)).trans hea, (h.cell (by simp only; omega)).trans t3.1, (h.cell (by simp only; omega)).trans t3.2, (h.cell (by simp only; omega)).trans q3a⟩
    have HZA := Lib.hid hza
    have HBA0 := Lib.hid hba
    clear hak he12 hed ha hea hea0 q3a t3 hwa hza
    go_wp2_with fail
    rw [HWA.out]
    have HF := Lib.hid (mark_made wa)
    go_region_held3 (fun W => W.cell? ⟨wr.heap.size, 0, none⟩ = some (.string e1) ∧ W.cell? ⟨wr.heap.size, 1, none⟩ = some (.string e2) ∧ W.cell? ⟨n0, 0, none⟩ = some (.string B) ∧ W.cell? ⟨n0, 1, none⟩ = some (.slice (some ⟨eb, eo, none⟩) es.length cap) ∧ W.cell? ⟨pb, po + k, none⟩ = some (.int .i64 a))
      (first
        | exact HSS.out _ (Below.refl _ _).drew
        | exact HSS.out _ ((Below.refl _ _).alloc (Nat.le_refl _) _).drew
        | exact HSS.out _ ((Below.refl _ _).drew.alloc (by simp) _)
        | exact HSS.out _ HB5.out
        | exact HSS.out _ (HB5.out.alloc HB5.out.size _)
        | exact HSS.out _ (((HB5.out.setCell (by simp) _).setCell (by simp) _).setCell (by simp) _))
      (first
        | (go_at_call 82
           go_must (
           (refine (FX.out _).mono ?_)
           rintro e w5 ⟨rfl, hb5⟩
           first
             | (have hp := HF.out w5 hb5
                have HP := Lib.hid hp
                have hst0 := hp.c0; have hst1 := hp.c1; have hst2 := hp.c2
                have hsf0 := hp.fr 0; have hsf1 := hp.fr 1; have hsf2 := hp.fr 2
                have HB5 : Hid (Below wa.heap.size wa w5) := Lib.hid (((Below.refl _ _).alloc (Nat.le_refl _) _).drew.trans (hb5.mono (by simp)))
                have HZ5 : Hid (wa.heap.size < w5.heap.size) := Lib.hid (by have := hb5.size; simp at this; omega)
                clear hp)
             | (clear HF
                have HB5 : Hid (Below wa.heap.size wa w5) := Lib.hid ((Below.refl _ _).drew.trans hb5))
           clear hb5)))
    all_goals
      rename_i hHeld
      clear hHeld
      first
        | (have hm5 : MkAt (((w5.setCell ⟨wa.heap.size, 0, none⟩ (.string ⟨#[]⟩)).setCell ⟨wa.heap.size, 1, none⟩ (.int .i64 0)).setCell ⟨wa.heap.size, 2, none⟩ (.bool xt)) wa.heap.size (⟨#[]⟩, 0, xt) := ((HP.out.set0 _).set1 _).set2 _
           have hb5 : Below wa.heap.size wa (((w5.setCell ⟨wa.heap.size, 0, none⟩ (.string ⟨#[]⟩)).setCell ⟨wa.heap.size, 1, none⟩ (.int .i64 0)).setCell ⟨wa.heap.size, 2, none⟩ (.bool xt)) := ((HB5.out.setCell (by simp) _).setCell (by simp) _).setCell (by simp) _
           have hl5 : wa.heap.size < (((w5.setCell ⟨wa.heap.size, 0, none⟩ (.string ⟨#[]⟩)).setCell ⟨wa.heap.size, 1, none⟩ (.int .i64 0)).setCell ⟨wa.heap.size, 2, none⟩ (.bool xt)).heap.size := by have := HZ5.out; simpa [World.setCell] using this
           clear hst0 hst1 hst2 hsf0 hsf1 hsf2
           generalize (((w5.setCell ⟨wa.heap.size, 0, none⟩ (.string ⟨#[]⟩)).setCell ⟨wa.heap.size, 1, none⟩ (.int .i64 0)).setCell ⟨wa.heap.size, 2, none⟩ (.bool xt)) = W5 at hm5 hb5 hl5 ⊢
           obtain ⟨m, hme⟩ : ∃ m, wa.heap.size = m := ⟨_, rfl⟩
           have hmg : wa.heap.size ≤ m := by omega
           rw [hme] at hm5 hl5 ⊢
           clear hme)
        | (have hm5 : MkAt (w5.alloc (.cells #[.string ⟨#[]⟩, .int .i64 0, .bool xt] 78)) w5.heap.size (⟨#[]⟩, 0, xt) := MkAt.made _ _ _ _
           have hb5 : Below wa.heap.size wa (w5.alloc (.cells #[.string ⟨#[]⟩, .int .i64 0, .bool xt] 78)) := HB5.out.alloc HB5.out.size _
           have hl5 : w5.heap.size < (w5.alloc (.cells #[.string ⟨#[]⟩, .int .i64 0, .bool xt] 78)).heap.size := by simp
           have hmg : wa.heap.size ≤ w5.heap.size := HB5.out.size
           generalize (w5.alloc (.cells #[.string ⟨#[]⟩, .int .i64 0, .bool xt] 78)) = W5 at hm5 hb5 hl5 ⊢
           obtain ⟨m, hme⟩ : ∃ m, w5.heap.size = m := ⟨_, rfl⟩
           rw [hme] at hm5 hl5 hmg ⊢
           clear hme)
      have hq5 := (HSS.out _ hb5).2.2.2.2
      have hc0 := hm5.c0; have hc1 := hm5.c1
      have hf0 := hm5.fr 0; have hf1 := hm5.fr 1
      have hpm : pb ≠ m := by have := HZA.out; omega
      have hmp : m ≠ pb := by have := HZA.out; omega
      simp only at hc0 hc1
      have HM5 := Lib.hid hm5; have HB5' := Lib.hid hb5; have HL5 := Lib.hid hl5; have HMG := Lib.hid hmg
      clear HB5 hm5 hb5 hl5 hmg
      obtain ⟨an, han⟩ : ∃ an, (a != 0) = an := ⟨_, rfl⟩
      rw [han] at HMK
      cases an
    all_goals
      go_wp2_with fail
      first
        | (have hm6 := (HM5.out.set0 ⟨#[97, 100, 100]⟩).set1 a
           have hb6 : Below wa.heap.size wa ((W5.setCell ⟨m, 0, none⟩ (.string ⟨#[97, 100, 100]⟩)).setCell ⟨m, 1, none⟩ (.int .i64 a)) := (HB5'.out.setCell (by have := HMG.out; simpa using this) _).setCell (by have := HMG.out; simpa using this) _
           have hl6 : m < ((W5.setCell ⟨m, 0, none⟩ (.string ⟨#[97, 100, 100]⟩)).setCell ⟨m, 1, none⟩ (.int .i64 a)).heap.size := by have := HL5.out; simpa [World.setCell] using this
           obtain ⟨op6, hop6⟩ : ∃ b : ByteArray, (⟨#[97, 100, 100]⟩ : ByteArray) = b := ⟨_, rfl⟩
           have HMK6 : Hid (mkAtV (earlyV en es) am ex es k = (if et then ⟨#[115, 101, 116]⟩ else op6, a, xt)) := Lib.hid (by rw [HMK.out, ← hop6]; rfl)
           generalize ((W5.setCell ⟨m, 0, none⟩ (.string ⟨#[97, 100, 100]⟩)).setCell ⟨m, 1, none⟩ (.int .i64 a)) = W6 at hm6 hb6 hl6 ⊢
           simp only at hm6
           rw [hop6] at hm6
           clear hop6)
        | (have ha0 : a = 0 := by simpa using han
           have hm6 : MkAt W5 m (⟨#[]⟩, a, xt) := by rw [ha0]; exact HM5.out
           have hb6 := HB5'.out
           have hl6 := HL5.out
           obtain ⟨op6, hop6⟩ : ∃ b : ByteArray, (⟨#[]⟩ : ByteArray) = b := ⟨_, rfl⟩
           have HMK6 : Hid (mkAtV (earlyV en es) am ex es k = (if et then ⟨#[115, 101, 116]⟩ else op6, a, xt)) := Lib.hid (by rw [HMK.out, ← hop6]; rfl)
           rw [hop6] at hm6
           clear hop6 ha0 hq5 hc0 hc1 hf0 hf1 HM5 HB5' HL5
           generalize W5 = W6 at hm6 hb6 hl6 ⊢)
      have HM6 := Lib.hid hm6; have HB6 := Lib.hid hb6; have HL6 := Lib.hid hl6
      have HS6 : Hid (∀ W, Below W6.heap.size W6 W → (W.cell? ⟨wr.heap.size, 0, none⟩ = some (.string e1) ∧ W.cell? ⟨n0, 0, none⟩ = some (.string B) ∧ W.cell? ⟨n0, 1, none⟩ = some (.slice (some ⟨eb, eo, none⟩) es.length cap) ∧ W.cell? ⟨pb, po + k, none⟩ = some (.int .i64 a))) :=
        Lib.hid fun W h => by
          have := HSS.out W (HB6.out.trans (h.mono HB6.out.size))
          exact ⟨this.1, this.2.2.1, this.2.2.2.1, this.2.2.2.2⟩
      clear hm6 hb6 hl6 HMK
      go_region_held3 (fun W => W.cell? ⟨wr.heap.size, 0, none⟩ = some (.string e1) ∧ W.cell? ⟨n0, 0, none⟩ = some (.string B) ∧ W.cell? ⟨n0, 1, none⟩ = some (.slice (some ⟨eb, eo, none⟩) es.length cap) ∧ W.cell? ⟨pb, po + k, none⟩ = some (.int .i64 a))
        (first
          | exact HS6.out _ (Below.refl _ _).drew
          | exact HS6.out _ HB7.out)
        (first
          | (go_at_call 81
             go_must (
             (refine (FE.out _).mono ?_)
             rintro e w7 ⟨rfl, hb7⟩
             have HB7 : Hid (Below W6.heap.size W6 w7) := Lib.hid ((Below.refl _ _).drew.trans hb7)
             clear hb7)))
    all_goals
      rename_i hHeld
      clear hHeld
      have hm7 := HM6.out.below HB7.out HL6.out
      have hq5 := (HS6.out _ HB7.out).2.2.2
      have hc0 := hm7.c0; have hc1 := hm7.c1; have hc2 := hm7.c2
      have hf0 := hm7.fr 0; have hf1 := hm7.fr 1
      simp only at hc0 hc1 hc2
      have HM7 := Lib.hid hm7
      have HL7 : Hid (m < w7.heap.size) := Lib.hid (Nat.lt_of_lt_of_le HL6.out HB7.out.size)
      have HBA7 : Hid (Below wa.heap.size wa w7) := Lib.hid (HB6.out.trans (HB7.out.mono HB6.out.size))
      clear hm7 HM6 HL6 HB6 HS6 HSS HB7
      cases et
    all_goals
      have HOA : Hid (∀ (U : World) (q : Mk), Below wa.heap.size wa U → (U.alloc (.cells #[.string q.1, .int .i64 q.2.1, .bool q.2.2] 78)).ownsRow (n0 + 1) 78 3 u5 k (cellsK ((List.range k).map (mkAtV (earlyV en es) am ex es)))) := Lib.hid fun U q h => ownsRow_of_block HOWNA.out fun b hb => (h.alloc h.size _).block b (ownBlock_lt HOWNA.out hb).2
      first
        | (have HU : Hid (Below wa.heap.size wa w7 ∧ mkAtV (earlyV en es) am ex es k = (op6, a, xt)) := Lib.hid ⟨HBA7.out, by rw [HMK6.out]; rfl⟩
           have HOU : Hid ((w7.alloc (.cells #[.string op6, .int .i64 a, .bool xt] 78)).ownsRow (n0 + 1) 78 3 u5 k (cellsK ((List.range k).map (mkAtV (earlyV en es) am ex es)))) := Lib.hid (HOA.out _ (op6, a, xt) HU.out.1)
           have HNU : Hid (∀ j u, (cellsK [((op6, a, xt) : Mk)])[j]? = some u → (w7.alloc (.cells #[.string op6, .int .i64 a, .bool xt] 78)).cell? ((⟨w7.heap.size, 0, none⟩ : Addr).add j) = some u) := Lib.hid (new_cellsK w7 (op6, a, xt) _)
           have HZU : Hid (n0 + 1 ≤ (w7.alloc (.cells #[.string op6, .int .i64 a, .bool xt] 78)).heap.size) := Lib.hid (by have := HU.out.1.size; have := HZA.out; rw [World.size_alloc]; omega)
           go_wp2_with (first
             | (at_builtin
                refine wpList_append_own _ rfl (.tmp 46) (.tmp 48) 37 rfl (n0 + 1) 78 i0 (.agg #[.string ⟨#[]⟩, .int .i64 0, .bool false]) 3 32 Try.underlying37 HI.out HI0.out HI1.out HI2.out rfl (by decide) _ k _ rfl HOU.out ⟨w7.heap.size, 0, none⟩ 1 1 (cellsK [((op6, a, xt) : Mk)]) rfl rfl HNU.out (by intro u hu; simp [cellsK] at hu; rcases hu with rfl | rfl | rfl <;> rfl) (by unfold maxLen; omega) (by omega) HZU.out ?_
                intro v9 w9 hown9 hgr9 _
                go_must (
                have HOWN9 : Hid (w9.ownsRow (n0 + 1) 78 3 v9 (k + 1) (cellsK ((List.range (k + 1)).map (mkAtV (earlyV en es) am ex es)))) := Lib.hid (by
                  rw [List.range_succ, List.map_append, cellsK_append, List.map_singleton, HU.out.2]; exact hown9)
                have HB9 : Hid (Below (n0 + 1) wa w9) := Lib.hid (((HU.out.1.alloc HU.out.1.size _).mono (by have := HZA.out; omega)).grown hgr9 HZU.out (fun _ e => Nat.le_of_not_lt fun hq => own_block HOU.out hq e.symm))
                clear hown9 hgr9)))
           clear HOU HNU HZU HU)
        | (have HU : Hid (Below wa.heap.size wa ((w7.setCell ⟨m, 0, none⟩ (.string ⟨#[115, 101, 116]⟩)).setCell ⟨m, 1, none⟩ (.int .i64 a)) ∧ mkAtV (earlyV en es) am ex es k = (⟨#[115, 101, 116]⟩, a, xt)) := Lib.hid ⟨(HBA7.out.setCell (by have := HMG.out; simpa using this) _).setCell (by have := HMG.out; simpa using this) _, by rw [HMK6.out]; rfl⟩
           have HOU : Hid ((((w7.setCell ⟨m, 0, none⟩ (.string ⟨#[115, 101, 116]⟩)).setCell ⟨m, 1, none⟩ (.int .i64 a)).alloc (.cells #[.string ⟨#[115, 101, 116]⟩, .int .i64 a, .bool xt] 78)).ownsRow (n0 + 1) 78 3 u5 k (cellsK ((List.range k).map (mkAtV (earlyV en es) am ex es)))) := Lib.hid (HOA.out _ (⟨#[115, 101, 116]⟩, a, xt) HU.out.1)
           have HNU : Hid (∀ j u, (cellsK [((⟨#[115, 101, 116]⟩, a, xt) : Mk)])[j]? = some u → (((w7.setCell ⟨m, 0, none⟩ (.string ⟨#[115, 101, 116]⟩)).setCell ⟨m, 1, none⟩ (.int .i64 a)).alloc (.cells #[.string ⟨#[115, 101, 116]⟩, .int .i64 a, .bool xt] 78)).cell? ((⟨w7.heap.size, 0, none⟩ : Addr).add j) = some u) := Lib.hid (by have h := new_cellsK ((w7.setCell ⟨m, 0, none⟩ (.string ⟨#[115, 101, 116]⟩)).setCell ⟨m, 1, none⟩ (.int .i64 a)) (⟨#[115, 101, 116]⟩, a, xt) 78; rw [show ((w7.setCell ⟨m, 0, none⟩ (.string ⟨#[115, 101, 116]⟩)).setCell ⟨m, 1, none⟩ (.int .i64 a)).heap.size = w7.heap.size by simp [World.setCell]] at h; exact h)
           have HZU : Hid (n0 + 1 ≤ (((w7.setCell ⟨m, 0, none⟩ (.string ⟨#[115, 101, 116]⟩)).setCell ⟨m, 1, none⟩ (.int .i64 a)).alloc (.cells #[.string ⟨#[115, 101, 116]⟩, .int .i64 a, .bool xt] 78)).heap.size) := Lib.hid (by have := HU.out.1.size; have := HZA.out; rw [World.size_alloc]; omega)
           go_wp2_with (first
             | (at_builtin
                refine wpList_append_own _ rfl (.tmp 46) (.tmp 48) 37 rfl (n0 + 1) 78 i0 (.agg #[.string ⟨#[]⟩, .int .i64 0, .bool false]) 3 32 Try.underlying37 HI.out HI0.out HI1.out HI2.out rfl (by decide) _ k _ rfl HOU.out ⟨w7.heap.size, 0, none⟩ 1 1 (cellsK [((⟨#[115, 101, 116]⟩, a, xt) : Mk)]) rfl rfl HNU.out (by intro u hu; simp [cellsK] at hu; rcases hu with rfl | rfl | rfl <;> rfl) (by unfold maxLen; omega) (by omega) HZU.out ?_
                intro v9 w9 hown9 hgr9 _
                go_must (
                have HOWN9 : Hid (w9.ownsRow (n0 + 1) 78 3 v9 (k + 1) (cellsK ((List.range (k + 1)).map (mkAtV (earlyV en es) am ex es)))) := Lib.hid (by
                  rw [List.range_succ, List.map_append, cellsK_append, List.map_singleton, HU.out.2]; exact hown9)
                have HB9 : Hid (Below (n0 + 1) wa w9) := Lib.hid (((HU.out.1.alloc HU.out.1.size _).mono (by have := HZA.out; omega)).grown hgr9 HZU.out (fun _ e => Nat.le_of_not_lt fun hq => own_block HOU.out hq e.symm))
                clear hown9 hgr9)))
           clear HOU HNU HZU HU)
    all_goals
      have HB9w : Hid (Below w.heap.size w w9) := Lib.hid (HBA.out.trans (HB9.out.mono (by rw [HN0.out]; omega)))
      have HT9 : Hid (Two w9 n0 B (some ⟨eb, eo, none⟩) es.length cap) := Lib.hid (HT.out.below ((HBA0.out.mono (by omega)).trans HB9.out) (by omega))
      have hz9 : n0 + 2 ≤ w9.heap.size := by have := HB9.out.size; have := HZA.out; omega
      go_roundw
      case rel => exact ⟨k + 1, by omega, by go_num, HOWN9, HT9, HB9w, hz9⟩
      case measure => simp [intOf]; omega

end Go.Proofs.Ytjfdkhaepmmlfaa
