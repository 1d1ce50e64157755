/- Cut nets: by the program. -/
import Derived.Test.YtpeafheljcjlhaaGreatZ8M
import Derived.Test.YtpeafheljcjlhaaGreatBackE
import Derived.BigQuiet
import Derived.Deep.QuietTactic
import Derived.Deep.RegionHeld3
import Derived.Deep.DeepCutAuto
namespace Go.Proofs.YtpeafheljcjlhaaGreat
open Go.RowKit
set_option linter.unusedVariables false
set_option linter.unusedSimpArgs false

/-- an edge of a cut net, as a value -/
abbrev cutV (x : CutEd) : Value := .agg #[.string x.1.1, .string x.1.2, .int .i64 (x.2.1 : Int), .int .i64 (x.2.2 : Int)]

set_option maxRecDepth 100000 in
/-- impl.keptEdge -/
theorem keptEdge_any (B : ByteArray) (A : Option Addr) (cap : Nat) (es : List (ByteArray × ByteArray)) (k : Nat) (w : World) (hE : EdgesIn w w.heap.size A es) (hk : k < es.length) (h16 : es.length ≤ 16) :
    Calls Tryz.prog 68 #[.agg #[.string B, .slice A es.length cap], .int .i64 k] w fun e w' => e = .returned (cutV (eAt es k, 0, k)) ∧ Below w.heap.size w w' := by
  obtain ⟨p1, hp1⟩ : ∃ p1, es[k].1 = p1 := ⟨_, rfl⟩
  obtain ⟨p2, hp2⟩ : ∃ p2, es[k].2 = p2 := ⟨_, rfl⟩
  obtain ⟨eb, eo, rfl, hlow, q1, q2⟩ := hE k hk
  rw [hp1] at q1
  rw [hp2] at q2
  have HEA : Hid (eAt es k = (p1, p2)) := Lib.hid (by rw [eAt_at hk, ← hp1, ← hp2])
  clear hp1 hp2
  go_enter Tryz.func68, Tryz.ntmps68
  go_wp2_with fail
  refine bodyPost_ret (v := cutV ((p1, p2), 0, k)) (by simp [results, Tryz.results68, go_sem]) rfl ⟨by rw [HEA.out], ((Below.refl _ _).alloc (Nat.le_refl _) _).alloc (by simp) _⟩

/-- a net's variable and a result's of four cells, as a call begins -/
structure Begun4 (w : World) (B : ByteArray) (A : Option Addr) (n cap : Nat) (w1 : World) : Prop where
  below : Below w.heap.size w w1
  two : Two w1 w.heap.size B A n cap
  row : w1.rowIs (w.heap.size + 1) 73 4 (fun i => if i < 2 then .string ⟨#[]⟩ else .int .i64 0)
  size : w.heap.size + 2 ≤ w1.heap.size
theorem begun4 (w : World) (B : ByteArray) (A : Option Addr) (n cap : Nat) : Begun4 w B A n cap ((w.alloc (.cells #[.string B, .slice A n cap] 31)).alloc (.cells #[.string ⟨#[]⟩, .string ⟨#[]⟩, .int .i64 0, .int .i64 0] 73)) := by
  refine ⟨((Below.refl _ _).alloc (Nat.le_refl _) _).alloc (by simp) _, ⟨by go_simp, by go_simp⟩, ?_, by simp⟩
  have h := World.rowIs_alloc (w.alloc (.cells #[.string B, .slice A n cap] 31)) #[.string ⟨#[]⟩, .string ⟨#[]⟩, .int .i64 0, .int .i64 0] 73 (fun i => if i < 2 then .string ⟨#[]⟩ else .int .i64 0) (fun i hi => by
    match i, hi with
    | 0, _ => rfl
    | 1, _ => rfl
    | 2, _ => rfl
    | 3, _ => rfl)
  rwa [World.size_alloc] at h
theorem Begun4.go {w w1 w2 : World} {B : ByteArray} {A : Option Addr} {n cap : Nat} (h : Begun4 w B A n cap w1) (k : Below w1.heap.size w1 w2) : Begun4 w B A n cap w2 :=
  ⟨h.below.trans (k.mono h.below.size), h.two.below k (by have := h.size; omega), h.row.of_block (k.block _ (by have := h.size; omega)), Nat.le_trans h.size k.size⟩
theorem Begun4.cells {w w1 : World} {B : ByteArray} {A : Option Addr} {n cap : Nat} (h : Begun4 w B A n cap w1) :
    w1.cell? ⟨w.heap.size + 1, 0, none⟩ = some (.string ⟨#[]⟩) ∧ w1.cell? ⟨w.heap.size + 1, 1, none⟩ = some (.string ⟨#[]⟩) ∧ w1.cell? ⟨w.heap.size + 1, 2, none⟩ = some (.int .i64 0) ∧ w1.cell? ⟨w.heap.size + 1, 3, none⟩ = some (.int .i64 0) ∧
      w1.frozen? ⟨w.heap.size + 1, 0, none⟩ = false ∧ w1.frozen? ⟨w.heap.size + 1, 1, none⟩ = false ∧ w1.frozen? ⟨w.heap.size + 1, 2, none⟩ = false ∧ w1.frozen? ⟨w.heap.size + 1, 3, none⟩ = false :=
  ⟨h.row.cell (i := 0) (by omega), h.row.cell (i := 1) (by omega), h.row.cell (i := 2) (by omega), h.row.cell (i := 3) (by omega), h.row.frozen 0, h.row.frozen 1, h.row.frozen 2, h.row.frozen 3⟩

set_option maxRecDepth 100000 in
/-- impl.headEdge -/
theorem headEdge_any (B h : ByteArray) (A : Option Addr) (n cap : Nat) (w : World) (hs : 1 ≤ B.size) (hl : B.size ≤ maxLen) :
    Calls Tryz.prog 70 #[.agg #[.string B, .slice A n cap], .string h] w fun e w' => e = .returned (cutV ((enT B, h), 1, 0)) ∧ Below w.heap.size w w' := by
  have FE : Hid (∀ W : World, Calls Tryz.prog 61 #[.agg #[.string B, .slice A n cap]] W fun e W' => e = .returned (.string (enT B)) ∧ Below W.heap.size W W') := Lib.hid fun W => entryOf_any B _ W hs hl
  obtain ⟨en, hen⟩ : ∃ en, enT B = en := ⟨_, rfl⟩
  rw [hen] at FE ⊢
  have HB := Lib.hid (begun4 w B A n cap)
  clear hen hs hl
  go_enter Tryz.func70, Tryz.ntmps70
  go_wp2_with fail
  generalize hW1 : (w.alloc (.cells #[.string B, .slice A n cap] 31)).alloc (.cells #[.string ⟨#[]⟩, .string ⟨#[]⟩, .int .i64 0, .int .i64 0] 73) = w1 at HB ⊢
  clear hW1
  refine (FE.out _).mono ?_
  rintro e w2 ⟨rfl, hb2⟩
  have HB2 := Lib.hid (HB.out.go hb2)
  clear hb2 HB
  obtain ⟨c0, c1, c2, c3, f0, f1, f2, f3⟩ := HB2.out.cells
  go_wp2_with fail
  refine bodyPost_ret (v := cutV ((en, h), 1, 0)) (by simp [results, Tryz.results70, go_sem, c0, c1, c2, c3]) rfl ⟨rfl, ?_⟩
  exact (((HB2.out.below.setCell (by simp only; omega) _).setCell (by simp only; omega) _).setCell (by simp only; omega) _).setCell (by simp only; omega) _

set_option maxRecDepth 100000 in
/-- impl.tailEdge -/
theorem tailEdge_any (B h : ByteArray) (A : Option Addr) (n cap : Nat) (w : World) (hs : 1 ≤ B.size) (hl : B.size ≤ maxLen) :
    Calls Tryz.prog 69 #[.agg #[.string B, .slice A n cap], .string h] w fun e w' => e = .returned (cutV ((h, exT B), 2, 0)) ∧ Below w.heap.size w w' := by
  have FE : Hid (∀ W : World, Calls Tryz.prog 63 #[.agg #[.string B, .slice A n cap]] W fun e W' => e = .returned (.string (exT B)) ∧ Below W.heap.size W W') := Lib.hid fun W => exitOf_any B _ W hs hl
  obtain ⟨en, hen⟩ : ∃ en, exT B = en := ⟨_, rfl⟩
  rw [hen] at FE ⊢
  have HB := Lib.hid (begun4 w B A n cap)
  clear hen hs hl
  go_enter Tryz.func69, Tryz.ntmps69
  go_wp2_with fail
  generalize hW1 : (w.alloc (.cells #[.string B, .slice A n cap] 31)).alloc (.cells #[.string ⟨#[]⟩, .string ⟨#[]⟩, .int .i64 0, .int .i64 0] 73) = w1 at HB ⊢
  clear hW1
  refine (FE.out _).mono ?_
  rintro e w2 ⟨rfl, hb2⟩
  have HB2 := Lib.hid (HB.out.go hb2)
  clear hb2 HB
  obtain ⟨c0, c1, c2, c3, f0, f1, f2, f3⟩ := HB2.out.cells
  go_wp2_with fail
  refine bodyPost_ret (v := cutV ((h, en), 2, 0)) (by simp [results, Tryz.results69, go_sem, c0, c1, c2, c3]) rfl ⟨rfl, ?_⟩
  exact (((HB2.out.below.setCell (by simp only; omega) _).setCell (by simp only; omega) _).setCell (by simp only; omega) _).setCell (by simp only; omega) _

end Go.Proofs.YtpeafheljcjlhaaGreat

namespace Go.Proofs.YtpeafheljcjlhaaGreat
open Go.RowKit
set_option linter.unusedVariables false
set_option linter.unusedSimpArgs false

/-- edges of a cut net, as cells -/
def cellsX (xs : List CutEd) : List Value := xs.flatMap fun x => [.string x.1.1, .string x.1.2, .int .i64 (x.2.1 : Int), .int .i64 (x.2.2 : Int)]
theorem cellsX_snoc (xs : List CutEd) (x : CutEd) : cellsX (xs ++ [x]) = cellsX xs ++ [.string x.1.1, .string x.1.2, .int .i64 (x.2.1 : Int), .int .i64 (x.2.2 : Int)] := by simp [cellsX]
theorem cellsX_cons (x : CutEd) (xs : List CutEd) : cellsX (x :: xs) = .string x.1.1 :: .string x.1.2 :: .int .i64 (x.2.1 : Int) :: .int .i64 (x.2.2 : Int) :: cellsX xs := by simp [cellsX]
theorem cellsX_at : ∀ {xs : List CutEd} {i : Nat}, (h : i < xs.length) → (cellsX xs)[i * 4]? = some (.string xs[i].1.1) ∧ (cellsX xs)[i * 4 + 1]? = some (.string xs[i].1.2) ∧ (cellsX xs)[i * 4 + 2]? = some (.int .i64 (xs[i].2.1 : Int)) ∧ (cellsX xs)[i * 4 + 3]? = some (.int .i64 (xs[i].2.2 : Int))
  | x :: xs, 0, _ => by rw [cellsX_cons]; simp
  | x :: xs, i + 1, h => by
    rw [cellsX_cons, show (i + 1) * 4 = i * 4 + 4 by omega]
    simp only [List.getElem?_cons_succ, show i * 4 + 4 + 1 = (i * 4 + 1) + 4 by omega, show i * 4 + 4 + 2 = (i * 4 + 2) + 4 by omega, show i * 4 + 4 + 3 = (i * 4 + 3) + 4 by omega]
    exact cellsX_at (by simpa using h)

/-- edges of a cut net as they lie -/
def CutIn (w : World) (D : Nat) (A : Option Addr) (xs : List CutEd) : Prop :=
  ∀ k, (h : k < xs.length) → ∃ b o, A = some ⟨b, o, none⟩ ∧ b < D ∧ w.cell? ⟨b, o + k * 4, none⟩ = some (.string xs[k].1.1) ∧ w.cell? ⟨b, o + k * 4 + 1, none⟩ = some (.string xs[k].1.2) ∧ w.cell? ⟨b, o + k * 4 + 2, none⟩ = some (.int .i64 (xs[k].2.1 : Int)) ∧ w.cell? ⟨b, o + k * 4 + 3, none⟩ = some (.int .i64 (xs[k].2.2 : Int))
theorem CutIn.below {w w' : World} {D : Nat} {A : Option Addr} {xs : List CutEd} (h : CutIn w D A xs) (hb : Below D w w') : CutIn w' D A xs := by
  intro k hk
  obtain ⟨b, o, e, hl, h1, h2, h3, h4⟩ := h k hk
  exact ⟨b, o, e, hl, (hb.cell hl).trans h1, (hb.cell hl).trans h2, (hb.cell hl).trans h3, (hb.cell hl).trans h4⟩
theorem CutIn.more {w : World} {D D' : Nat} {A : Option Addr} {xs : List CutEd} (h : CutIn w D A xs) (hb : D ≤ D') : CutIn w D' A xs := by
  intro k hk
  obtain ⟨b, o, e, hl, rest⟩ := h k hk
  exact ⟨b, o, e, by omega, rest⟩
/-- a row of the call's own, as edges of a cut net -/
theorem own_cuts {w : World} {base : Nat} {v : Value} {xs : List CutEd} (h : w.ownsRow base 73 4 v xs.length (cellsX xs)) : ∃ A cap, v = .slice A xs.length cap ∧ CutIn w w.heap.size A xs ∧ (∀ a, A = some a → base ≤ a.block) := by
  rcases h.2 with ⟨rfl, h0⟩ | ⟨g, cap, cur, rfl, hb, hg, hn, hc, hs, htake⟩
  · exact ⟨none, 0, by rw [h0], fun k hk => absurd hk (by omega), fun a ha => by cases ha⟩
  · have hlt : g < w.heap.size := (Array.getElem?_eq_some_iff.1 hg).1
    refine ⟨_, cap, rfl, fun k hk => ⟨g, 0, rfl, hlt, ?_⟩, fun a ha => by injection ha with ha; subst ha; exact hb⟩
    obtain ⟨h1, h2, h3, h4⟩ := cellsX_at hk
    have q1 := h.cells (g := g) rfl _ _ h1
    have q2 := h.cells (g := g) rfl _ _ h2
    have q3 := h.cells (g := g) rfl _ _ h3
    have q4 := h.cells (g := g) rfl _ _ h4
    have e : ∀ j, ((⟨g, 0, none⟩ : Addr).add j) = ⟨g, j, none⟩ := fun j => by rw [add_none, Nat.zero_add]
    rw [e] at q1 q2 q3 q4
    rw [Nat.zero_add]
    exact ⟨q1, q2, q3, q4⟩
theorem own_below {w w' : World} {base z n : Nat} {T : TypeId} {v : Value} {xs : List Value} (h : w.ownsRow base T z v n xs) (hb : Below w.heap.size w w') : w'.ownsRow base T z v n xs := by
  refine ⟨h.1, ?_⟩
  rcases h.2 with h | ⟨g, cap, cur, hv, hb', hblk, rest⟩
  · exact .inl h
  · exact .inr ⟨g, cap, cur, hv, hb', (hb.block g (Array.getElem?_eq_some_iff.1 hblk).1).trans hblk, rest⟩
theorem own_above {W : World} {base n : Nat} {T : TypeId} {z : Nat} {v : Value} {xs : List Value} (h : W.ownsRow base T z v n xs) : ∀ q, v.ownBlock = some q → base ≤ q := fun q e => Nat.le_of_not_lt fun hq => own_block h hq e.symm
theorem new4 (W : World) (p1 p2 : ByteArray) (a b : Int) : ∀ j u, [Value.string p1, .string p2, .int .i64 a, .int .i64 b][j]? = some u → (W.alloc (.cells #[.string p1, .string p2, .int .i64 a, .int .i64 b] 73)).cell? ((⟨W.heap.size, 0, none⟩ : Addr).add j) = some u := fun j u hu => by
  match j, hu with
  | 0, hu => simp at hu; subst hu; simp [Addr.add]
  | 1, hu => simp at hu; subst hu; simp [Addr.add]
  | 2, hu => simp at hu; subst hu; simp [Addr.add]
  | 3, hu => simp at hu; subst hu; simp [Addr.add]
  | j + 4, hu => simp at hu
theorem one4 (p1 p2 : ByteArray) (a b : Int) : ∀ u ∈ [Value.string p1, .string p2, .int .i64 a, .int .i64 b], u.oneCell' = true := fun u hu => by
  simp at hu
  rcases hu with rfl | rfl | rfl | rfl <;> rfl
theorem cutInfo : (Tryz.prog.info? 73).map (fun i => (i.zero, i.size, i.bytes)) = some (some (.agg #[.string ⟨#[]⟩, .string ⟨#[]⟩, .int .i64 0, .int .i64 0]), 4, 48) := by kernel_rfl

/-- what is handed back -/
def CutsPost (B : ByteArray) (es : List (ByteArray × ByteArray)) (w : World) (e : Ending) (w' : World) : Prop :=
  ∃ A2 c2, e = .returned (.slice A2 (cutX B es).length c2) ∧ CutIn w' w'.heap.size A2 (cutX B es) ∧ Below w.heap.size w w' ∧ ∀ a, A2 = some a → w.heap.size ≤ a.block

set_option maxRecDepth 100000 in
set_option maxHeartbeats 8000000 in
/-- impl.cutEdges -/
theorem cutEdges_any (B : ByteArray) (A : Option Addr) (cap : Nat) (es : List (ByteArray × ByteArray)) (m : Nat) (w : World) (hs : B.size ≤ maxLen) (hE : EdgesIn w w.heap.size A es) (hv : Valid B.data.toList (ebs es)) (hm : SetAt w m ((names (backP B es) es.length).map encB)) :
    Calls Tryz.prog 57 #[.agg #[.string B, .slice A es.length cap], .map (some m)] w (CutsPost B es w) := by
  have hF := facts_of hv
  have h16 := hF.few
  have h8 := hF.eight
  obtain ⟨i0, hi, hi0, hi1, hi2⟩ := info_parts cutInfo
  have HI := Lib.hid hi; have HI0 := Lib.hid hi0; have HI1 := Lib.hid hi1; have HI2 := Lib.hid hi2
  have HMP := Lib.hid hm
  obtain ⟨ht, hht⟩ : ∃ ht : ByteArray, (⟨(headT B es).toArray⟩ : ByteArray) = ht := ⟨_, rfl⟩
  have HHD : Hid (ht.data.toList = headT B es) := Lib.hid (by rw [← hht])
  have HHZ : Hid (ht.size = (headT B es).length) := Lib.hid (by rw [← hht, size_mk])
  have HHS : Hid (ht.size ≤ 8) := Lib.hid (by rw [← hht, size_mk]; have := headT_len B es; omega)
  obtain ⟨tt, htt⟩ : ∃ tt : ByteArray, (⟨(tailT B es).toArray⟩ : ByteArray) = tt := ⟨_, rfl⟩
  have HTD : Hid (tt.data.toList = tailT B es) := Lib.hid (by rw [← htt])
  have HTZ : Hid (tt.size = (tailT B es).length) := Lib.hid (by rw [← htt, size_mk])
  have HTS : Hid (tt.size ≤ 8) := Lib.hid (by rw [← htt, size_mk]; have := tailT_len B es; omega)
  have FH : Hid (∀ W : World, EdgesIn W W.heap.size A es → Calls Tryz.prog 96 #[.agg #[.string B, .slice A es.length cap]] W fun e w' => e = .returned (.tuple #[.string ht, .bool true]) ∧ Below W.heap.size W w') := Lib.hid fun W h => by
    have h' := implHeadsOf_any B A cap es W hs h (by omega) (small_of hF)
    have hq : headsV B es = (ht, true) := by rw [← hht]; exact textV_yes hv
    rwa [hq] at h'
  have FT : Hid (∀ W : World, EdgesIn W W.heap.size A es → Calls Tryz.prog 97 #[.agg #[.string B, .slice A es.length cap]] W fun e w' => e = .returned (.tuple #[.string tt, .bool true]) ∧ Below W.heap.size W w') := Lib.hid fun W h => by
    have h' := implTailsOf_any B A cap es W hs h (by omega) (small_of hF)
    have hq : tailsV B es = (tt, true) := by rw [← htt]; exact textV_yes hv
    rwa [hq] at h'
  have FE : Hid (∀ (h : ByteArray) (W : World), Calls Tryz.prog 70 #[.agg #[.string B, .slice A es.length cap], .string h] W fun e w' => e = .returned (cutV ((enT B, h), 1, 0)) ∧ Below W.heap.size W w') := Lib.hid fun h W => headEdge_any B h A es.length cap W hF.one hs
  have FX : Hid (∀ (h : ByteArray) (W : World), Calls Tryz.prog 69 #[.agg #[.string B, .slice A es.length cap], .string h] W fun e w' => e = .returned (cutV ((h, exT B), 2, 0)) ∧ Below W.heap.size W w') := Lib.hid fun h W => tailEdge_any B h A es.length cap W hF.one hs
  obtain ⟨en, hen⟩ : ∃ en, enT B = en := ⟨_, rfl⟩
  obtain ⟨ex, hex⟩ : ∃ ex, exT B = ex := ⟨_, rfl⟩
  rw [hen] at FE; rw [hex] at FX
  have HEN := Lib.hid hen; have HEX := Lib.hid hex
  have HE := Lib.hid hE
  obtain ⟨n0, hn0⟩ : ∃ n0, w.heap.size = n0 := ⟨_, rfl⟩
  have hb1 : Below w.heap.size w (w.alloc (.cells #[.string B, .slice A es.length cap] 31)) := (Below.refl _ _).alloc (Nat.le_refl _) _
  have t1 := Two.made w B A es.length cap 31
  have hz1 : (w.alloc (.cells #[.string B, .slice A es.length cap] 31)).heap.size = n0 + 1 := by simp [hn0]
  rw [hn0] at t1
  have hd0 := t1.1; have hd1 := t1.2
  have hmz : m < n0 := by rw [← hn0]; exact hm.lt
  have HN0 := Lib.hid hn0
  clear hi hi0 hi1 hi2 hht htt hen hex hF hv hs hE hm
  go_enter Tryz.func57, Tryz.ntmps57
  go_wp2_with fail
  generalize hW1 : w.alloc (.cells #[.string B, .slice A es.length cap] 31) = w1 at hb1 t1 hz1 hd0 hd1 ⊢
  clear hW1 hn0
  have HB1 := Lib.hid hb1; have HT1 := Lib.hid t1
  have hown0 : w1.ownsRow (n0 + 1) 73 4 (.slice none 0 0) 0 (cellsX (keptX es (keptI B es 0))) := World.ownsRow_nil w1 _ _ _
  have HOWN0 := Lib.hid hown0
  clear hb1 t1 hd0 hd1 hown0
  go_loopw [5, 16] (fun a c wr => ∃ (k : Nat) (v : Value), k ≤ es.length ∧ c = .int .i64 k ∧ v = a ∧ Hid (wr.ownsRow (n0 + 1) 73 4 v (keptX es (keptI B es k)).length (cellsX (keptX es (keptI B es k)))) ∧ Hid (Below (n0 + 1) w1 wr)) (fun _ c _ => es.length - (intOf c).toNat)
  case atStart => exact ⟨0, _, Nat.zero_le _, rfl, rfl, HOWN0, Lib.hid (Below.refl _ _)⟩
  case round =>
    clear HOWN0
    obtain ⟨k, v, hk, rfl, rfl, HOWN, HB⟩ := hrel
    have hzr := HB.out.size
    by_cases hlt : k < es.length
    case neg =>
      obtain rfl : k = es.length := by omega
      obtain ⟨X1, hX1⟩ : ∃ X1, keptX es (keptI B es es.length) = X1 := ⟨_, rfl⟩
      have HXL : Hid (X1.length ≤ 16) := Lib.hid (by rw [← hX1]; have := keptI_len B es es.length; simp only [keptX, List.length_map]; omega)
      have HX1 := Lib.hid hX1
      rw [hX1] at HOWN
      have t2 := HT1.out.below HB.out (by omega)
      have hd0 := t2.1; have hd1 := t2.2
      have hbw : Below w.heap.size w wr := HB1.out.trans (HB.out.mono (by rw [HN0.out]; omega))
      clear hX1 t2
      go_wp2_with fail
      refine (FH.out _ ((HE.out.below hbw).more hbw.size)).mono ?_
      rintro e w3 ⟨rfl, hb3⟩
      have HOWN3 := Lib.hid (own_below HOWN.out hb3)
      have HB3 := Lib.hid (HB.out.trans (hb3.mono (show n0 + 1 ≤ wr.heap.size by omega)))
      clear hd0 hd1 hb3 HOWN HB hbw
      go_wp2_with fail
      go_loopw [5, 39] (fun a c wr => ∃ (i : Nat) (v : Value), i ≤ ht.size ∧ c = .int .i64 i ∧ v = a ∧ Hid (wr.ownsRow (n0 + 1) 73 4 v (X1 ++ headX en ((headT B es).take i)).length (cellsX (X1 ++ headX en ((headT B es).take i)))) ∧ Hid (Below (n0 + 1) w1 wr)) (fun _ c _ => ht.size - (intOf c).toNat)
      case atStart => exact ⟨0, v, Nat.zero_le _, rfl, rfl, by simpa [headX] using HOWN3, HB3⟩
      case round =>
        clear HOWN3 HB3 hlt hk hzr
        obtain ⟨i, v, hi, rfl, rfl, HOWN, HB⟩ := hrel
        have hzr := HB.out.size
        have hh8 := HHS.out
        by_cases hlt : i < ht.size
        case neg =>
          have hie : (headT B es).take i = headT B es := List.take_of_length_le (by have := HHZ.out; omega)
          rw [hie] at HOWN
          obtain ⟨X2, hX2⟩ : ∃ X2, X1 ++ headX en (headT B es) = X2 := ⟨_, rfl⟩
          have HX2L : Hid (X2.length ≤ 24) := Lib.hid (by
            rw [← hX2]
            have := HXL.out; have := HHZ.out
            simp only [headX, List.length_map, List.length_append]; omega)
          have HX2 := Lib.hid hX2
          rw [hX2] at HOWN
          have t2 := HT1.out.below HB.out (by omega)
          have hd0 := t2.1; have hd1 := t2.2
          have hbw : Below w.heap.size w wr := HB1.out.trans (HB.out.mono (by rw [HN0.out]; omega))
          clear hX2 t2 hie
          go_wp2_with fail
          refine (FT.out _ ((HE.out.below hbw).more hbw.size)).mono ?_
          rintro e w3 ⟨rfl, hb3⟩
          have HOWN3 := Lib.hid (own_below HOWN.out hb3)
          have HB3 := Lib.hid (HB.out.trans (hb3.mono (show n0 + 1 ≤ wr.heap.size by omega)))
          clear hd0 hd1 hb3 HOWN HB hbw
          go_wp2_with fail
          go_loopw [5, 60] (fun a c wr => ∃ (i : Nat) (v : Value), i ≤ tt.size ∧ c = .int .i64 i ∧ v = a ∧ Hid (wr.ownsRow (n0 + 1) 73 4 v (X2 ++ tailX ex ((tailT B es).take i)).length (cellsX (X2 ++ tailX ex ((tailT B es).take i)))) ∧ Hid (Below (n0 + 1) w1 wr)) (fun _ c _ => tt.size - (intOf c).toNat)
          case atStart => exact ⟨0, v, Nat.zero_le _, rfl, rfl, by simpa [tailX] using HOWN3, HB3⟩
          case round =>
            clear HOWN3 HB3 hlt hi hzr
            obtain ⟨i, v, hi, rfl, rfl, HOWN, HB⟩ := hrel
            have hzr := HB.out.size
            have ht8 := HTS.out
            by_cases hlt : i < tt.size
            case neg =>
              have hie : (tailT B es).take i = tailT B es := List.take_of_length_le (by have := HTZ.out; omega)
              have HXE : Hid (X2 ++ tailX ex (tailT B es) = cutX B es) := Lib.hid (by rw [← HX2.out, ← HX1.out, ← HEN.out, ← HEX.out]; rfl)
              have hown := HOWN.out
              rw [hie, HXE.out] at hown
              obtain ⟨A5, c5, rfl, hx5, ha5⟩ := own_cuts hown
              have HX5 := Lib.hid hx5; have HA5 := Lib.hid ha5
              clear hown hx5 ha5 hie
              go_wp2_with fail
              go_ret
              exact ⟨A5, c5, rfl, HX5.out, HB1.out.trans (HB.out.mono (by rw [HN0.out]; omega)), fun a ha => by have := HA5.out a ha; rw [HN0.out]; omega⟩
            have t2 := HT1.out.below HB.out (by omega)
            have hd0 := t2.1; have hd1 := t2.2
            have hci : i < (tailT B es).length := by have := HTZ.out; omega
            obtain ⟨ch, hch⟩ : ∃ ch, (tailT B es)[i] = ch := ⟨_, rfl⟩
            obtain ⟨p2, hp2⟩ : ∃ p2, tt.extract i (i + 1) = p2 := ⟨_, rfl⟩
            have HP2 : Hid (p2 = ⟨#[ch]⟩) := Lib.hid (by
              rw [← hp2]
              refine one_byte ?_
              rw [letter_at hlt, HTD.out]
              simp [List.getD, hci, hch])
            have HX : Hid (X2 ++ tailX ex ((tailT B es).take (i + 1)) = X2 ++ tailX ex ((tailT B es).take i) ++ [((p2, ex), 2, 0)]) := Lib.hid (by
              rw [List.take_succ_eq_append_getElem hci, tailX_snoc, hch, HP2.out, List.append_assoc])
            obtain ⟨xs, hxs⟩ : ∃ xs, X2 ++ tailX ex ((tailT B es).take i) = xs := ⟨_, rfl⟩
            have hxl : xs.length ≤ 32 := by
              rw [← hxs]
              have := HX2L.out; have := HTZ.out
              simp only [tailX, List.length_map, List.length_append, List.length_take]; omega
            rw [hxs] at HX HOWN
            have hwz : n0 + 1 ≤ wr.heap.size := by omega
            have HWZ := Lib.hid hwz
            have a1 : (0 : Int) ≤ (i : Int) := by omega
            have a2 : (i : Int) < (tt.size : Int) := by omega
            have a4 : (0 : Int) ≤ (i : Int) + 1 := by omega
            have a5 : ((i : Int) + 1).toNat = i + 1 := by omega
            have a6 : (i : Int) + 1 ≤ (tt.size : Int) := by omega
            have a7 : i + 1 ≤ tt.size := by omega
            have a8 : (i : Int) ≤ (i : Int) + 1 := by omega
            have a3 : IntKind.i64.wrap ((i : Int) + 1) = (i : Int) + 1 := IntWalk.i64_in _ (by omega)
            clear hxs hwz t2 hch hci
            go_wp2_with fail
            go_region_law (first
              | (refine step_append_own' rfl (.tmp 63) (.tmp 71) 53 rfl (n0 + 1) 73 i0 (.agg #[.string ⟨#[]⟩, .string ⟨#[]⟩, .int .i64 0, .int .i64 0]) 4 48 Tryz.underlying53 HI.out HI0.out HI1.out HI2.out rfl (by decide) v xs.length (cellsX xs) rfl HOWN5.out ⟨w5.heap.size, 0, none⟩ 1 1 [.string p2, .string ex, .int .i64 2, .int .i64 0] rfl rfl (new4 w5 p2 ex 2 0) (one4 p2 ex 2 0) (by unfold maxLen; omega) (by omega) HZ5.out ?_
                 go_must (
                 intro v6 w6 hown6 hgr6
                 have HB6 := Lib.hid (HB5.out.grown hgr6 HZ5.out (own_above HOWN5.out))
                 have HOWN6 : Hid (w6.ownsRow (n0 + 1) 73 4 v6 (X2 ++ tailX ex ((tailT B es).take (i + 1))).length (cellsX (X2 ++ tailX ex ((tailT B es).take (i + 1))))) := Lib.hid (by rw [HX.out, cellsX_snoc, List.length_append]; exact hown6)
                 clear hown6 hgr6))
              | (refine step_call (f := 69) (args := #[.agg #[.string B, .slice A es.length cap], .string p2]) rfl (by go_simp) ((FX.out _ _).mono ?_)
                 go_must (
                 rintro e w5 ⟨rfl, hb5⟩
                 refine ⟨_, rfl, ?_⟩
                 have hbA : Below w5.heap.size w5 (w5.alloc (.cells #[.string p2, .string ex, .int .i64 2, .int .i64 0] 73)) := (Below.refl _ _).alloc (Nat.le_refl _) _
                 have hz5 : n0 + 1 ≤ w5.heap.size := Nat.le_trans HWZ.out hb5.size
                 have hbd : Below wr.heap.size wr w5 := (Below.refl _ _).drew.trans hb5
                 have HOWN5 := Lib.hid (own_below (own_below HOWN.out hbd) hbA)
                 have HB5 := Lib.hid ((HB.out.trans (hbd.mono HWZ.out)).trans (hbA.mono hz5))
                 have HZ5 := Lib.hid (Nat.le_trans hz5 hbA.size)
                 clear hbA hz5 hbd hb5)))
            all_goals
              clear hd0 hd1 HOWN5 HB5 HZ5
              go_wp2_with fail
              go_roundw
              case rel => exact ⟨i + 1, v6, by omega, by go_num, rfl, HOWN6, HB6⟩
              case measure => simp [intOf]; omega
        have t2 := HT1.out.below HB.out (by omega)
        have hd0 := t2.1; have hd1 := t2.2
        have hci : i < (headT B es).length := by have := HHZ.out; omega
        obtain ⟨ch, hch⟩ : ∃ ch, (headT B es)[i] = ch := ⟨_, rfl⟩
        obtain ⟨p2, hp2⟩ : ∃ p2, ht.extract i (i + 1) = p2 := ⟨_, rfl⟩
        have HP2 : Hid (p2 = ⟨#[ch]⟩) := Lib.hid (by
          rw [← hp2]
          refine one_byte ?_
          rw [letter_at hlt, HHD.out]
          simp [List.getD, hci, hch])
        have HX : Hid (X1 ++ headX en ((headT B es).take (i + 1)) = X1 ++ headX en ((headT B es).take i) ++ [((en, p2), 1, 0)]) := Lib.hid (by
          rw [List.take_succ_eq_append_getElem hci, headX_snoc, hch, HP2.out, List.append_assoc])
        obtain ⟨xs, hxs⟩ : ∃ xs, X1 ++ headX en ((headT B es).take i) = xs := ⟨_, rfl⟩
        have hxl : xs.length ≤ 24 := by
          rw [← hxs]
          have := HXL.out; have := HHZ.out
          simp only [headX, List.length_map, List.length_append, List.length_take]; omega
        rw [hxs] at HX HOWN
        have hwz : n0 + 1 ≤ wr.heap.size := by omega
        have HWZ := Lib.hid hwz
        have a1 : (0 : Int) ≤ (i : Int) := by omega
        have a2 : (i : Int) < (ht.size : Int) := by omega
        have a4 : (0 : Int) ≤ (i : Int) + 1 := by omega
        have a5 : ((i : Int) + 1).toNat = i + 1 := by omega
        have a6 : (i : Int) + 1 ≤ (ht.size : Int) := by omega
        have a7 : i + 1 ≤ ht.size := by omega
        have a8 : (i : Int) ≤ (i : Int) + 1 := by omega
        have a3 : IntKind.i64.wrap ((i : Int) + 1) = (i : Int) + 1 := IntWalk.i64_in _ (by omega)
        clear hxs hwz t2 hch hci
        go_wp2_with fail
        go_region_law (first
          | (refine step_append_own' rfl (.tmp 42) (.tmp 50) 53 rfl (n0 + 1) 73 i0 (.agg #[.string ⟨#[]⟩, .string ⟨#[]⟩, .int .i64 0, .int .i64 0]) 4 48 Tryz.underlying53 HI.out HI0.out HI1.out HI2.out rfl (by decide) v xs.length (cellsX xs) rfl HOWN5.out ⟨w5.heap.size, 0, none⟩ 1 1 [.string en, .string p2, .int .i64 1, .int .i64 0] rfl rfl (new4 w5 en p2 1 0) (one4 en p2 1 0) (by unfold maxLen; omega) (by omega) HZ5.out ?_
             go_must (
             intro v6 w6 hown6 hgr6
             have HB6 := Lib.hid (HB5.out.grown hgr6 HZ5.out (own_above HOWN5.out))
             have HOWN6 : Hid (w6.ownsRow (n0 + 1) 73 4 v6 (X1 ++ headX en ((headT B es).take (i + 1))).length (cellsX (X1 ++ headX en ((headT B es).take (i + 1))))) := Lib.hid (by rw [HX.out, cellsX_snoc, List.length_append]; exact hown6)
             clear hown6 hgr6))
          | (refine step_call (f := 70) (args := #[.agg #[.string B, .slice A es.length cap], .string p2]) rfl (by go_simp) ((FE.out _ _).mono ?_)
             go_must (
             rintro e w5 ⟨rfl, hb5⟩
             refine ⟨_, rfl, ?_⟩
             have hbA : Below w5.heap.size w5 (w5.alloc (.cells #[.string en, .string p2, .int .i64 1, .int .i64 0] 73)) := (Below.refl _ _).alloc (Nat.le_refl _) _
             have hz5 : n0 + 1 ≤ w5.heap.size := Nat.le_trans HWZ.out hb5.size
             have hbd : Below wr.heap.size wr w5 := (Below.refl _ _).drew.trans hb5
             have HOWN5 := Lib.hid (own_below (own_below HOWN.out hbd) hbA)
             have HB5 := Lib.hid ((HB.out.trans (hbd.mono HWZ.out)).trans (hbA.mono hz5))
             have HZ5 := Lib.hid (Nat.le_trans hz5 hbA.size)
             clear hbA hz5 hbd hb5)))
        all_goals
          clear hd0 hd1 HOWN5 HB5 HZ5
          go_wp2_with fail
          go_roundw
          case rel => exact ⟨i + 1, v6, by omega, by go_num, rfl, HOWN6, HB6⟩
          case measure => simp [intOf]; omega
    have hbw : Below w.heap.size w wr := HB1.out.trans (HB.out.mono (by rw [HN0.out]; omega))
    have t2 := HT1.out.below HB.out (by omega)
    have hd0 := t2.1; have hd1 := t2.2
    have HSET := Lib.hid (HMP.out.below hbw HMP.out.lt)
    have hlk : (Instr.lookup 52 (.map (some m)) (.int .u8 (((⟨#[nameOf k]⟩ : ByteArray)[0]'(by show 0 < 1; omega)).toNat : Nat)) false).run Tryz.prog wr = .ok (.bool (backP B es k)) wr := by
      have h := HSET.out.lookup (P := Tryz.prog) (keyB Tryz.underlying5) (t := 52) (e := 4) Tryz.underlying52 (by kernel_rfl) (nameOf k)
      have e : decB (nameOf k ∈ names (backP B es) es.length) = backP B es k := by
        cases hp : backP B es k with
        | true => exact decB_t ((mem_names (by omega) hlt).2 hp)
        | false => exact decB_f fun h => by rw [(mem_names (by omega) hlt).1 h] at hp; cases hp
      rw [e] at h
      exact h
    have HEW := Lib.hid ((HE.out.below hbw).more hbw.size)
    have s1 : (⟨#[nameOf k]⟩ : ByteArray).size = 1 := rfl
    obtain ⟨p1, hp1⟩ : ∃ p1, (eAt es k).1 = p1 := ⟨_, rfl⟩
    obtain ⟨p2, hp2⟩ : ∃ p2, (eAt es k).2 = p2 := ⟨_, rfl⟩
    have HEA : Hid (eAt es k = (p1, p2)) := Lib.hid (by rw [← hp1, ← hp2])
    clear hp1 hp2 t2 hbw
    cases hbp : backP B es k with
    | true =>
      rw [hbp] at hlk
      have HX : Hid (keptI B es (k + 1) = keptI B es k) := Lib.hid (keptI_no hbp)
      clear hbp
      go_wp2_with (first
        | (go_at_call 95; refine (edgeName_any k (by omega) _).mono ?_; rintro e w4 ⟨rfl, rfl⟩))
      go_roundw
      case rel => exact ⟨k + 1, v, by omega, by go_num, rfl, by rw [HX.out]; exact HOWN, HB⟩
      case measure => simp [intOf]; omega
    | false =>
      rw [hbp] at hlk
      have HX : Hid (keptX es (keptI B es (k + 1)) = keptX es (keptI B es k) ++ [((p1, p2), 0, k)]) := Lib.hid (by rw [keptI_yes hbp, keptX_snoc, HEA.out])
      clear hbp
      obtain ⟨xs, hxs⟩ : ∃ xs, keptX es (keptI B es k) = xs := ⟨_, rfl⟩
      have hxl : xs.length ≤ 16 := by
        rw [← hxs]
        have := keptI_len B es k
        simp only [keptX, List.length_map]; omega
      rw [hxs] at HX HOWN
      clear hxs
      have hwz : n0 + 1 ≤ wr.heap.size := by omega
      have HWZ := Lib.hid hwz
      clear hwz
      go_wp2_with (first
        | (go_at_call 95; refine (edgeName_any k (by omega) _).mono ?_; rintro e w4 ⟨rfl, rfl⟩)
        | (go_at_call 68; refine (keptEdge_any B A cap es k _ HEW.out hlt h16).mono ?_; rw [HEA.out]; go_must (
           rintro e w5 ⟨rfl, hb5⟩
           have hbA : Below w5.heap.size w5 (w5.alloc (.cells #[.string p1, .string p2, .int .i64 0, .int .i64 k] 73)) := (Below.refl _ _).alloc (Nat.le_refl _) _
           have hz5 := Nat.le_trans HWZ.out hb5.size
           have HOWN5 := Lib.hid (own_below (own_below HOWN.out hb5) hbA)
           have HB5 := Lib.hid ((HB.out.trans (hb5.mono HWZ.out)).trans (hbA.mono hz5))
           have HZ5 := Lib.hid (Nat.le_trans hz5 hbA.size)
           clear hbA hz5 hb5))
        | (at_builtin; refine wpList_append_own _ rfl (.tmp 25) (.tmp 29) 53 rfl (n0 + 1) 73 i0 (.agg #[.string ⟨#[]⟩, .string ⟨#[]⟩, .int .i64 0, .int .i64 0]) 4 48 Tryz.underlying53 HI.out HI0.out HI1.out HI2.out rfl (by decide) v xs.length (cellsX xs) rfl HOWN5.out ⟨w5.heap.size, 0, none⟩ 1 1 [.string p1, .string p2, .int .i64 0, .int .i64 k] rfl rfl (new4 w5 p1 p2 0 k) (one4 p1 p2 0 k) (by unfold maxLen; omega) (by omega) HZ5.out ?_; intro v6 w6 hown6 hgr6 _; go_must (
           have HB6 := Lib.hid (HB5.out.grown hgr6 HZ5.out (own_above HOWN5.out))
           have HOWN6 : Hid (w6.ownsRow (n0 + 1) 73 4 v6 (keptX es (keptI B es (k + 1))).length (cellsX (keptX es (keptI B es (k + 1))))) := Lib.hid (by rw [HX.out, cellsX_snoc, List.length_append]; exact hown6)
           clear hown6 hgr6)))
      go_roundw
      case rel => exact ⟨k + 1, v6, by omega, by go_num, rfl, HOWN6, HB6⟩
      case measure => simp [intOf]; omega

end Go.Proofs.YtpeafheljcjlhaaGreat

namespace Go.Proofs.YtpeafheljcjlhaaGreat
open Go.RowKit
set_option linter.unusedVariables false
set_option linter.unusedSimpArgs false

theorem decB_yes {p : Prop} (h : decB p = true) : p := Classical.byContradiction fun n => by rw [decB_f n] at h; cases h
theorem decB_no {p : Prop} (h : decB p = false) : ¬ p := fun n => by rw [decB_t n] at h; cases h

set_option maxRecDepth 100000 in
set_option maxHeartbeats 1000000 in
/-- slices.Index, of edges -/
theorem indexE_any (A : Option Addr) (c : Nat) (ms : List (ByteArray × ByteArray)) (p1 p2 : ByteArray) (w : World) (hX : EdgesIn w w.heap.size A ms) (hl : ms.length ≤ 100) :
    Calls Tryz.prog 129 #[.slice A ms.length c, .agg #[.string p1, .string p2]] w fun e w' => ∃ r : Int, e = .returned (.int .i64 r) ∧ (0 ≤ r ↔ (p1, p2) ∈ ms) ∧ Below w.heap.size w w' := by
  have HX := Lib.hid hX
  have hb1 : Below w.heap.size w (w.alloc (.cells #[.string p1, .string p2] 70)) := (Below.refl _ _).alloc (Nat.le_refl _) _
  have c0 : (w.alloc (.cells #[.string p1, .string p2] 70)).cell? ⟨w.heap.size, 0, none⟩ = some (.string p1) := by go_simp
  have c1 : (w.alloc (.cells #[.string p1, .string p2] 70)).cell? ⟨w.heap.size, 1, none⟩ = some (.string p2) := by go_simp
  have hz1 : (w.alloc (.cells #[.string p1, .string p2] 70)).heap.size = w.heap.size + 1 := by simp
  clear hX
  go_enter Tryz.func129, Tryz.ntmps129
  go_wp2_with fail
  generalize hW1 : w.alloc (.cells #[.string p1, .string p2] 70) = w1 at hb1 c0 c1 hz1 ⊢
  clear hW1
  have HB1 := Lib.hid hb1
  clear hb1
  go_loopw [8] (fun cc wr => ∃ k : Nat, k ≤ ms.length ∧ cc = .int .i64 k ∧ Hid (Below w1.heap.size w1 wr) ∧ Hid (∀ m ∈ ms.take k, m ≠ (p1, p2))) (fun cc _ => ms.length - (intOf cc).toNat)
  case atStart => exact ⟨0, Nat.zero_le _, rfl, Lib.hid (Below.refl _ _), Lib.hid (by simp)⟩
  case round =>
    obtain ⟨k, hk, rfl, HB, HR⟩ := hrel
    have hbw : Below w.heap.size w wr := HB1.out.trans (HB.out.mono HB1.out.size)
    have HBW := Lib.hid hbw
    by_cases hlt : k < ms.length
    case neg =>
      have HN : Hid ((0 : Int) ≤ -1 ↔ (p1, p2) ∈ ms) := Lib.hid ⟨fun h => absurd h (by omega), fun h => absurd rfl (HR.out _ (by rw [List.take_of_length_le (by omega)]; exact h))⟩
      clear hbw
      go_wp2_with fail
      go_ret
      exact ⟨-1, rfl, HN.out, HBW.out⟩
    obtain ⟨r1, hr1⟩ : ∃ r1, ms[k].1 = r1 := ⟨_, rfl⟩
    obtain ⟨r2, hr2⟩ : ∃ r2, ms[k].2 = r2 := ⟨_, rfl⟩
    obtain ⟨eb, eo, rfl, hlow, q1, q2⟩ := (HX.out.below hbw) k hlt
    rw [hr1] at q1
    rw [hr2] at q2
    have HM : Hid (ms[k] = (r1, r2)) := Lib.hid (by rw [← hr1, ← hr2])
    obtain ⟨v, hv⟩ : ∃ v, decide ((p1, p2) = (r1, r2)) = v := ⟨_, rfl⟩
    have hcmp : ∀ W : World, (binOp .eql 70 (.agg #[.string p1, .string p2]) (.agg #[.string r1, .string r2])).run Tryz.prog W = .ok (.bool v) W := fun W => by rw [edge_eql, hv]
    have HV := Lib.hid hv
    have d0 := (HB.out.cell (p := ⟨w.heap.size, 0, none⟩) (by simp only; omega)).trans c0
    have d1 := (HB.out.cell (p := ⟨w.heap.size, 1, none⟩) (by simp only; omega)).trans c1
    have HTK : Hid (ms.take (k + 1) = ms.take k ++ [(r1, r2)]) := Lib.hid (by rw [List.take_succ_eq_append_getElem hlt, HM.out])
    clear hr1 hr2 hv hbw
    go_wp2_with fail
    go_quiet (fail)
    clear hcmp d0 d1 q1 q2
    cases v with
    | true =>
      have HN : Hid ((0 : Int) ≤ (k : Int) ↔ (p1, p2) ∈ ms) := Lib.hid ⟨fun _ => by
        rw [of_decide_eq_true HV.out, ← HM.out]; exact List.getElem_mem hlt, fun _ => by omega⟩
      go_wp2_with fail
      go_ret
      exact ⟨(k : Int), rfl, HN.out, below_drewN HBW.out _⟩
    | false =>
      have HR1 : Hid (∀ m ∈ ms.take (k + 1), m ≠ (p1, p2)) := Lib.hid fun m hm => by
        rw [HTK.out] at hm
        rcases List.mem_append.1 hm with h | h
        · exact HR.out m h
        · simp at h; subst h
          intro e
          exact of_decide_eq_false HV.out e.symm
      go_wp2_with fail
      go_roundw
      case rel => exact ⟨k + 1, by omega, by go_num, Lib.hid (below_drewN HB.out _), HR1⟩
      case measure => simp [intOf]; omega

set_option maxRecDepth 100000 in
set_option maxHeartbeats 1000000 in
/-- slices.Contains, of edges -/
theorem containsE_any (A : Option Addr) (c : Nat) (ms : List (ByteArray × ByteArray)) (p1 p2 : ByteArray) (w : World) (hX : EdgesIn w w.heap.size A ms) (hl : ms.length ≤ 100) :
    Calls Tryz.prog 98 #[.slice A ms.length c, .agg #[.string p1, .string p2]] w (BoolPost (decB ((p1, p2) ∈ ms)) w) := by
  have hb1 : Below w.heap.size w (w.alloc (.cells #[.string p1, .string p2] 70)) := (Below.refl _ _).alloc (Nat.le_refl _) _
  go_enter Tryz.func98, Tryz.ntmps98
  go_wp2_with fail
  refine (indexE_any A c ms p1 p2 _ ((hX.below hb1).more hb1.size) hl).mono ?_
  rintro e w2 ⟨r, rfl, hr, hb2⟩
  have HR := Lib.hid hr
  have hb2' := hb1.trans (hb2.mono hb1.size)
  clear hr hb2 hb1
  have HQ : Hid (decB ((p1, p2) ∈ ms) = decide (0 ≤ r)) := Lib.hid (by
    by_cases h : (p1, p2) ∈ ms
    · rw [decB_t h, decide_eq_true (HR.out.2 h)]
    · rw [decB_f h, decide_eq_false (fun h' => h (HR.out.1 h'))])
  go_wp2_with fail
  go_ret
  exact ⟨by rw [HQ.out]; rfl, hb2'⟩

set_option maxRecDepth 100000 in
set_option maxHeartbeats 4000000 in
/-- impl.sameBack -/
theorem sameBack_any (B : ByteArray) (A : Option Addr) (cap : Nat) (es : List (ByteArray × ByteArray)) (m : Nat) (w : World) (hE : EdgesIn w w.heap.size A es) (h16 : es.length ≤ 16) (hm : SetAt w m ((names (backP B es) es.length).map encB)) :
    Calls Tryz.prog 58 #[.agg #[.string B, .slice A es.length cap], .map (some m)] w (BoolPost (decB (SameTo B es es.length)) w) := by
  obtain ⟨i0, hi, hi0, hi1, hi2⟩ := info_parts edgeInfo
  have HI := Lib.hid hi; have HI0 := Lib.hid hi0; have HI1 := Lib.hid hi1; have HI2 := Lib.hid hi2
  have HMP := Lib.hid hm; have HE := Lib.hid hE
  obtain ⟨n0, hn0⟩ : ∃ n0, w.heap.size = n0 := ⟨_, rfl⟩
  have hb1 : Below w.heap.size w (w.alloc (.cells #[.string B, .slice A es.length cap] 31)) := (Below.refl _ _).alloc (Nat.le_refl _) _
  have t1 := Two.made w B A es.length cap 31
  have hz1 : (w.alloc (.cells #[.string B, .slice A es.length cap] 31)).heap.size = n0 + 1 := by simp [hn0]
  rw [hn0] at t1
  have hd0 := t1.1; have hd1 := t1.2
  have HN0 := Lib.hid hn0
  clear hi hi0 hi1 hi2 hE hm
  go_enter Tryz.func58, Tryz.ntmps58
  go_wp2_with fail
  generalize hW1 : w.alloc (.cells #[.string B, .slice A es.length cap] 31) = w1 at hb1 t1 hz1 hd0 hd1 ⊢
  clear hW1 hn0
  have HB1 := Lib.hid hb1
  have HOWN0 : Hid (w1.ownsRow (n0 + 1) 70 2 (.slice none 0 0) (metE B es 0).length (cellsE (metE B es 0))) := Lib.hid (World.ownsRow_nil w1 _ _ _)
  clear hb1 t1 hd0 hd1
  go_loopw [5, 11] (fun a c wr => ∃ (k : Nat) (v : Value), k ≤ es.length ∧ c = .int .i64 k ∧ v = a ∧ Hid (wr.ownsRow (n0 + 1) 70 2 v (metE B es k).length (cellsE (metE B es k))) ∧ Hid (¬ SameTo B es k) ∧ Hid (Below (n0 + 1) w1 wr)) (fun _ c _ => es.length - (intOf c).toNat)
  case atStart => exact ⟨0, _, Nat.zero_le _, rfl, rfl, HOWN0, Lib.hid (sameTo_zero B es), Lib.hid (Below.refl _ _)⟩
  case round =>
    clear HOWN0
    obtain ⟨k, v, hk, rfl, rfl, HOWN, HS, HB⟩ := hrel
    have hzr := HB.out.size
    have hbw : Below w.heap.size w wr := HB1.out.trans (HB.out.mono (by rw [HN0.out]; omega))
    have HBW := Lib.hid hbw
    by_cases hlt : k < es.length
    case neg =>
      have hke : k = es.length := by omega
      have HD : Hid (decB (SameTo B es es.length) = false) := Lib.hid (decB_f (by rw [← hke]; exact HS.out))
      clear hke hbw
      go_wp2_with fail
      go_ret
      exact ⟨by rw [HD.out]; rfl, HBW.out⟩
    obtain ⟨p1, hp1⟩ : ∃ p1, es[k].1 = p1 := ⟨_, rfl⟩
    obtain ⟨p2, hp2⟩ : ∃ p2, es[k].2 = p2 := ⟨_, rfl⟩
    obtain ⟨eb, eo, rfl, hlow, q1, q2⟩ := (HE.out.below hbw) k hlt
    rw [hp1] at q1
    rw [hp2] at q2
    have HEA : Hid (eAt es k = (p1, p2)) := Lib.hid (by rw [eAt_at hlt, ← hp1, ← hp2])
    have hwz : n0 + 1 ≤ wr.heap.size := by omega
    have HWZ := Lib.hid hwz
    have hbE : Below wr.heap.size wr (wr.alloc (.cells #[.string p1, .string p2] 70)) := (Below.refl _ _).alloc (Nat.le_refl _) _
    have c0 : (wr.alloc (.cells #[.string p1, .string p2] 70)).cell? ⟨wr.heap.size, 0, none⟩ = some (.string p1) := by go_simp
    have c1 : (wr.alloc (.cells #[.string p1, .string p2] 70)).cell? ⟨wr.heap.size, 1, none⟩ = some (.string p2) := by go_simp
    have hza : (wr.alloc (.cells #[.string p1, .string p2] 70)).heap.size = wr.heap.size + 1 := by simp
    have HSET := Lib.hid (HMP.out.below (hbw.trans (hbE.mono hbw.size)) HMP.out.lt)
    have hlk : (Instr.lookup 52 (.map (some m)) (.int .u8 (((⟨#[nameOf k]⟩ : ByteArray)[0]'(by show 0 < 1; omega)).toNat : Nat)) false).run Tryz.prog (wr.alloc (.cells #[.string p1, .string p2] 70)) = .ok (.bool (backP B es k)) (wr.alloc (.cells #[.string p1, .string p2] 70)) := by
      have h := HSET.out.lookup (P := Tryz.prog) (keyB Tryz.underlying5) (t := 52) (e := 4) Tryz.underlying52 (by kernel_rfl) (nameOf k)
      have e : decB (nameOf k ∈ names (backP B es) es.length) = backP B es k := by
        cases hp : backP B es k with
        | true => exact decB_t ((mem_names (by omega) hlt).2 hp)
        | false => exact decB_f fun h => by rw [(mem_names (by omega) hlt).1 h] at hp; cases hp
      rw [e] at h
      exact h
    have s1 : (⟨#[nameOf k]⟩ : ByteArray).size = 1 := rfl
    have HBa := Lib.hid (HB.out.trans (hbE.mono hwz))
    have HOWNa := Lib.hid (own_below HOWN.out hbE)
    clear hp1 hp2 hbw hbE hwz HOWN
    cases hbp : backP B es k with
    | false =>
      rw [hbp] at hlk
      have HX : Hid (metE B es (k + 1) = metE B es k) := Lib.hid (metE_no hbp)
      have HS1 : Hid (¬ SameTo B es (k + 1)) := Lib.hid (sameTo_step HS.out (fun h => by rw [hbp] at h; cases h))
      clear hbp
      go_wp2_with (first
        | (go_at_call 95; refine (edgeName_any k (by omega) _).mono ?_; rintro e w4 ⟨rfl, rfl⟩))
      go_roundw
      case rel => exact ⟨k + 1, v, by omega, by go_num, rfl, by rw [HX.out]; exact HOWNa, HS1, HBa⟩
      case measure => simp [intOf]; omega
    | true =>
      rw [hbp] at hlk
      have HX : Hid (metE B es (k + 1) = metE B es k ++ [(p1, p2)]) := Lib.hid (by rw [metE_yes hbp, HEA.out])
      have HST : Hid ((p1, p2) ∈ metE B es k → SameTo B es (k + 1)) := Lib.hid (fun h => sameTo_met hbp (by rw [HEA.out]; exact h))
      have HSN : Hid ((p1, p2) ∉ metE B es k → ¬ SameTo B es (k + 1)) := Lib.hid (fun h => sameTo_step HS.out (fun _ => by rw [HEA.out]; exact h))
      clear hbp
      obtain ⟨xs, hxs⟩ : ∃ xs, metE B es k = xs := ⟨_, rfl⟩
      have hxl : xs.length ≤ 16 := by rw [← hxs]; have := metE_len B es k; omega
      rw [hxs] at HX HST HSN HOWNa
      clear hxs
      obtain ⟨A5, c5, rfl, hE5, -⟩ := own_edges HOWNa.out rfl
      have HE5 := Lib.hid hE5
      clear hE5
      obtain ⟨cv, hcv⟩ : ∃ cv, decB ((p1, p2) ∈ xs) = cv := ⟨_, rfl⟩
      have HCV := Lib.hid hcv
      clear hcv
      go_wp2_with (first
        | (go_at_call 95; refine (edgeName_any k (by omega) _).mono ?_; rintro e w4 ⟨rfl, rfl⟩))
      generalize hWa : wr.alloc (.cells #[.string p1, .string p2] 70) = wa at c0 c1 hza HSET HBa HOWNa HE5 ⊢
      clear hWa hlk
      refine (containsE_any A5 c5 xs p1 p2 _ HE5.out (by omega)).mono ?_
      rw [HCV.out]
      rintro e w5 ⟨rfl, hb5⟩
      have hz5 : n0 + 1 ≤ w5.heap.size := Nat.le_trans (by have := HWZ.out; omega) hb5.size
      have HB5 := Lib.hid (HBa.out.trans (hb5.mono (show n0 + 1 ≤ wa.heap.size by have := HWZ.out; omega)))
      have d0 := (hb5.cell (p := ⟨wr.heap.size, 0, none⟩) (by simp only; omega)).trans c0
      have d1 := (hb5.cell (p := ⟨wr.heap.size, 1, none⟩) (by simp only; omega)).trans c1
      have HOWN5 := Lib.hid (own_below HOWNa.out hb5)
      clear c0 c1 hb5 HE5 HOWNa
      cases cv with
      | true =>
        have HD : Hid (decB (SameTo B es es.length) = true) := Lib.hid (decB_t (sameTo_mono (HST.out (decB_yes HCV.out)) (by omega)))
        go_wp2_with fail
        go_ret
        exact ⟨by rw [HD.out]; rfl, HB1.out.trans (HB5.out.mono (by rw [HN0.out]; omega))⟩
      | false =>
        have HS1 := Lib.hid (HSN.out (decB_no HCV.out))
        have hbA : Below w5.heap.size w5 (w5.alloc (.cells #[.string p1, .string p2] 70)) := (Below.refl _ _).alloc (Nat.le_refl _) _
        have HOWN6 := Lib.hid (own_below HOWN5.out hbA)
        have HB6 := Lib.hid (HB5.out.trans (hbA.mono hz5))
        have HZ6 := Lib.hid (Nat.le_trans hz5 hbA.size)
        clear hbA HOWN5 HB5
        go_wp2_with (first
          | (at_builtin; refine wpList_append_own _ rfl (.tmp 25) (.tmp 27) 29 rfl (n0 + 1) 70 i0 (.agg #[.string ⟨#[]⟩, .string ⟨#[]⟩]) 2 32 Tryz.underlying29 HI.out HI0.out HI1.out HI2.out rfl (by decide) (.slice A5 xs.length c5) xs.length (cellsE xs) rfl HOWN6.out ⟨w5.heap.size, 0, none⟩ 1 1 [.string p1, .string p2] rfl rfl (grow_new w5 p1 p2) (grow_one p1 p2) (by unfold maxLen; omega) (by omega) HZ6.out ?_; intro v7 w7 hown7 hgr7 _; go_must (
             have HB7 := Lib.hid (HB6.out.grown hgr7 HZ6.out (own_above HOWN6.out))
             have HOWN7 : Hid (w7.ownsRow (n0 + 1) 70 2 v7 (metE B es (k + 1)).length (cellsE (metE B es (k + 1)))) := Lib.hid (by rw [HX.out, cellsE_snoc, List.length_append]; exact hown7)
             clear hown7 hgr7)))
        go_roundw
        case rel => exact ⟨k + 1, v7, by omega, by go_num, rfl, HOWN7, HS1, HB7⟩
        case measure => simp [intOf]; omega

end Go.Proofs.YtpeafheljcjlhaaGreat

namespace Go.Proofs.YtpeafheljcjlhaaGreat
open Go.RowKit
set_option linter.unusedVariables false
set_option linter.unusedSimpArgs false

/-- a net with its cut net, as cells -/
def ctC (B : ByteArray) (A : Option Addr) (n cap : Nat) (mv : Value) (B2 : ByteArray) (v4 v5 : Value) (i : Nat) : Value :=
  if i = 0 then .string B else if i = 1 then .slice A n cap else if i = 2 then mv else if i = 3 then .string B2 else if i = 4 then v4 else v5

/-- the two variables as a call begins -/
structure Begun6 (w : World) (B : ByteArray) (A : Option Addr) (n cap : Nat) (w1 : World) : Prop where
  below : Below w.heap.size w w1
  two : Two w1 w.heap.size B A n cap
  row : w1.rowIs (w.heap.size + 1) 55 6 (ctC ⟨#[]⟩ none 0 0 (.map none) ⟨#[]⟩ (.slice none 0 0) (.slice none 0 0))
  size : w.heap.size + 2 ≤ w1.heap.size

theorem begun6 (w : World) (B : ByteArray) (A : Option Addr) (n cap : Nat) : Begun6 w B A n cap ((w.alloc (.cells #[.string B, .slice A n cap] 31)).alloc (.cells #[.string ⟨#[]⟩, .slice none 0 0, .map none, .string ⟨#[]⟩, .slice none 0 0, .slice none 0 0] 55)) := by
  refine ⟨((Below.refl _ _).alloc (Nat.le_refl _) _).alloc (by simp) _, ⟨by go_simp, by go_simp⟩, ?_, by simp⟩
  have h := World.rowIs_alloc (w.alloc (.cells #[.string B, .slice A n cap] 31)) #[.string ⟨#[]⟩, .slice none 0 0, .map none, .string ⟨#[]⟩, .slice none 0 0, .slice none 0 0] 55 (ctC ⟨#[]⟩ none 0 0 (.map none) ⟨#[]⟩ (.slice none 0 0) (.slice none 0 0)) (fun i hi => by
    match i, hi with
    | 0, _ => rfl
    | 1, _ => rfl
    | 2, _ => rfl
    | 3, _ => rfl
    | 4, _ => rfl
    | 5, _ => rfl)
  rwa [World.size_alloc] at h
theorem Begun6.go {w w1 w2 : World} {B : ByteArray} {A : Option Addr} {n cap : Nat} (h : Begun6 w B A n cap w1) (k : Below w1.heap.size w1 w2) : Begun6 w B A n cap w2 :=
  ⟨h.below.trans (k.mono h.below.size), h.two.below k (by have := h.size; omega), h.row.of_block (k.block _ (by have := h.size; omega)), Nat.le_trans h.size k.size⟩
theorem row6 (w : World) : (w.alloc (.cells #[.string ⟨#[]⟩, .slice none 0 0, .map none, .string ⟨#[]⟩, .slice none 0 0, .slice none 0 0] 55)).rowIs w.heap.size 55 6 (ctC ⟨#[]⟩ none 0 0 (.map none) ⟨#[]⟩ (.slice none 0 0) (.slice none 0 0)) :=
  World.rowIs_alloc w #[.string ⟨#[]⟩, .slice none 0 0, .map none, .string ⟨#[]⟩, .slice none 0 0, .slice none 0 0] 55 _ (fun i hi => by
    match i, hi with
    | 0, _ => rfl
    | 1, _ => rfl
    | 2, _ => rfl
    | 3, _ => rfl
    | 4, _ => rfl
    | 5, _ => rfl)
/-- the cells of a cutting's block -/
structure CtAt (W : World) (R : Nat) (B : ByteArray) (A : Option Addr) (n cap : Nat) (mv : Value) (B2 : ByteArray) (v4 v5 : Value) : Prop where
  c0 : W.cell? ⟨R, 0, none⟩ = some (.string B)
  c1 : W.cell? ⟨R, 1, none⟩ = some (.slice A n cap)
  c2 : W.cell? ⟨R, 2, none⟩ = some mv
  c3 : W.cell? ⟨R, 3, none⟩ = some (.string B2)
  c4 : W.cell? ⟨R, 4, none⟩ = some v4
  c5 : W.cell? ⟨R, 5, none⟩ = some v5
  f0 : W.frozen? ⟨R, 0, none⟩ = false
  f1 : W.frozen? ⟨R, 1, none⟩ = false
  f2 : W.frozen? ⟨R, 2, none⟩ = false
  f3 : W.frozen? ⟨R, 3, none⟩ = false
  f4 : W.frozen? ⟨R, 4, none⟩ = false
  f5 : W.frozen? ⟨R, 5, none⟩ = false
theorem ct_at {W : World} {R : Nat} {B : ByteArray} {A : Option Addr} {n cap : Nat} {mv : Value} {B2 : ByteArray} {v4 v5 : Value} (h : W.rowIs R 55 6 (ctC B A n cap mv B2 v4 v5)) : CtAt W R B A n cap mv B2 v4 v5 :=
  ⟨h.cell (i := 0) (by omega), h.cell (i := 1) (by omega), h.cell (i := 2) (by omega), h.cell (i := 3) (by omega), h.cell (i := 4) (by omega), h.cell (i := 5) (by omega), h.frozen 0, h.frozen 1, h.frozen 2, h.frozen 3, h.frozen 4, h.frozen 5⟩

/-- the cutting's block, as it is made -/
structure CtB (w2 wx : World) (c m : Nat) (B : ByteArray) (A : Option Addr) (n cap : Nat) (ms : List Value) : Prop where
  below : Below w2.heap.size w2 wx
  low : w2.heap.size ≤ c
  row : wx.rowIs c 55 6 (ctC B A n cap (.map (some m)) B (.slice none 0 0) (.slice none 0 0))
  set : SetAt wx m ms
  ne : m ≠ c
  mlow : w2.heap.size ≤ m
theorem CtB.made {w2 w3 : World} {m : Nat} {B : ByteArray} {A : Option Addr} {n cap : Nat} {ms : List Value} (hb : Below w2.heap.size w2 w3) (hset : SetAt w3 m ms) (hm : w2.heap.size ≤ m) : CtB w2 (w3.alloc (.cells #[.string B, .slice A n cap, .map (some m), .string B, .slice none 0 0, .slice none 0 0] 55)) w3.heap.size m B A n cap ms := by
  refine ⟨hb.alloc hb.size _, hb.size, ?_, hset.below ((Below.refl _ _).alloc (Nat.le_refl _) _) hset.lt, Nat.ne_of_lt hset.lt, hm⟩
  exact World.rowIs_alloc w3 #[.string B, .slice A n cap, .map (some m), .string B, .slice none 0 0, .slice none 0 0] 55 _ (fun i hi => by
    match i, hi with
    | 0, _ => rfl
    | 1, _ => rfl
    | 2, _ => rfl
    | 3, _ => rfl
    | 4, _ => rfl
    | 5, _ => rfl)
theorem below_set6 {D c : Nat} {a b : World} (h : Below D a b) (hc : D ≤ c) (v0 v1 v2 v3 v4 v5 : Value) : Below D a ((((((b.setCell ⟨c, 0, none⟩ v0).setCell ⟨c, 1, none⟩ v1).setCell ⟨c, 2, none⟩ v2).setCell ⟨c, 3, none⟩ v3).setCell ⟨c, 4, none⟩ v4).setCell ⟨c, 5, none⟩ v5) :=
  (((((h.setCell hc _).setCell hc _).setCell hc _).setCell hc _).setCell hc _).setCell hc _
theorem CtB.put {w2 w3 : World} {c m : Nat} {B : ByteArray} {A : Option Addr} {n cap : Nat} {ms : List Value} {f : Nat → Value} (hb : Below w2.heap.size w2 w3) (hset : SetAt w3 m ms) (hc : w2.heap.size ≤ c) (hr : w3.rowIs c 55 6 f) (hne : m ≠ c) (hm : w2.heap.size ≤ m) :
    CtB w2 ((((((w3.setCell ⟨c, 0, none⟩ (.string B)).setCell ⟨c, 1, none⟩ (.slice A n cap)).setCell ⟨c, 2, none⟩ (.map (some m))).setCell ⟨c, 3, none⟩ (.string B)).setCell ⟨c, 4, none⟩ (.slice none 0 0)).setCell ⟨c, 5, none⟩ (.slice none 0 0)) c m B A n cap ms := by
  refine ⟨below_set6 hb hc _ _ _ _ _ _, hc, ?_, ?_, hne, hm⟩
  · refine ((((((hr.set 0 _).set 1 _).set 2 _).set 3 _).set 4 _).set 5 _).congr fun i hi => ?_
    match i, hi with
    | 0, _ => rfl
    | 1, _ => rfl
    | 2, _ => rfl
    | 3, _ => rfl
    | 4, _ => rfl
    | 5, _ => rfl
  · have hg : w3.grownBy ((((((w3.setCell ⟨c, 0, none⟩ (.string B)).setCell ⟨c, 1, none⟩ (.slice A n cap)).setCell ⟨c, 2, none⟩ (.map (some m))).setCell ⟨c, 3, none⟩ (.string B)).setCell ⟨c, 4, none⟩ (.slice none 0 0)).setCell ⟨c, 5, none⟩ (.slice none 0 0)) (some c) :=
      only_setCell_at (only_setCell_at (only_setCell_at (only_setCell_at (only_setCell_at (only_setCell_at (World.grownBy.refl w3 _))))))
    have hlt := hset.lt
    obtain ⟨xs, clock, h1, h2⟩ := hset
    exact ⟨xs, clock, (hg.block m hlt (by intro e; injection e with e; exact hne e)).trans h1, h2⟩

theorem Begun6.grown {w w1 w2 : World} {B : ByteArray} {A : Option Addr} {n cap : Nat} {row : Option Nat} (h : Begun6 w B A n cap w1) (k : w1.grownBy w2 row) (hr : ∀ q, row = some q → w.heap.size + 2 ≤ q) : Begun6 w B A n cap w2 := by
  have hz := h.size
  refine ⟨h.below.grown k h.below.size (fun q e => by have := hr q e; omega), h.two.grown k (by omega) (fun e => by have := hr _ e.symm; omega), h.row.of_block (k.block _ (by omega) (fun e => by have := hr _ e.symm; omega)), Nat.le_trans hz k.size⟩
theorem setAt_grown {w w' : World} {m : Nat} {ms : List Value} {row : Option Nat} (h : SetAt w m ms) (k : w.grownBy w' row) (hr : row ≠ some m) : SetAt w' m ms := by
  have hlt := h.lt
  obtain ⟨xs, clock, h1, h2⟩ := h
  exact ⟨xs, clock, (k.block m hlt (fun e => hr e.symm)).trans h1, h2⟩
theorem CutIn.grown {w w' : World} {D : Nat} {A : Option Addr} {xs : List CutEd} {row : Option Nat} (h : CutIn w D A xs) (k : w.grownBy w' row) (hD : D ≤ w.heap.size) (hr : ∀ a, A = some a → row ≠ some a.block) : CutIn w' D A xs := by
  intro i hi
  obtain ⟨b, o, e, hl, h1, h2, h3, h4⟩ := h i hi
  have hb := k.block b (by omega) (fun e' => hr _ e e'.symm)
  exact ⟨b, o, e, hl, (World.cell?_of_block hb).trans h1, (World.cell?_of_block hb).trans h2, (World.cell?_of_block hb).trans h3, (World.cell?_of_block hb).trans h4⟩

/-- a cutting that is being made: its block C; what it names lies elsewhere -/
structure CtS (w W : World) (c m E : Nat) (B : ByteArray) (A : Option Addr) (n cap : Nat) (ms : List Value) (v4 : Value) (A5 : Option Addr) (c5 : Nat) (xs : List CutEd) : Prop where
  beg : Begun6 w B A n cap W
  row : W.rowIs c 55 6 (ctC B A n cap (.map (some m)) B v4 (.slice A5 xs.length c5))
  set : SetAt W m ms
  cut : CutIn W E A5 xs
  apart : ∀ a, A5 = some a → a.block ≠ c ∧ w.heap.size + 2 ≤ a.block
  clow : w.heap.size + 2 ≤ c
  chigh : c < E
  ne : m ≠ c
  mlow : w.heap.size + 2 ≤ m
  mhigh : m < E
  size : E ≤ W.heap.size
theorem CtS.go {w W W' : World} {c m E : Nat} {B : ByteArray} {A : Option Addr} {n cap : Nat} {ms : List Value} {v4 : Value} {A5 : Option Addr} {c5 : Nat} {xs : List CutEd} (h : CtS w W c m E B A n cap ms v4 A5 c5 xs) (k : Below W.heap.size W W') : CtS w W' c m E B A n cap ms v4 A5 c5 xs :=
  ⟨h.beg.go k, h.row.of_block (k.block _ (by have := h.chigh; have := h.size; omega)), h.set.below k (by have := h.mhigh; have := h.size; omega), h.cut.below (k.mono h.size), h.apart, h.clow, h.chigh, h.ne, h.mlow, h.mhigh, Nat.le_trans h.size k.size⟩
theorem CtS.grown {w W W' : World} {c m E : Nat} {B : ByteArray} {A : Option Addr} {n cap : Nat} {ms : List Value} {v4 : Value} {A5 : Option Addr} {c5 : Nat} {xs : List CutEd} {row : Option Nat} (h : CtS w W c m E B A n cap ms v4 A5 c5 xs) (k : W.grownBy W' row) (hr : ∀ q, row = some q → E ≤ q) : CtS w W' c m E B A n cap ms v4 A5 c5 xs := by
  have h1 := h.chigh; have h2 := h.size; have h3 := h.mhigh; have h4 := h.clow
  refine ⟨h.beg.grown k (fun q e => by have := hr q e; omega), h.row.of_block (k.block _ (by omega) (fun e => by have := hr _ e.symm; omega)), setAt_grown h.set k (fun e => by have := hr _ e; omega), ?_, h.apart, h.clow, h.chigh, h.ne, h.mlow, h.mhigh, Nat.le_trans h.size k.size⟩
  intro i hi
  obtain ⟨b, o, e, hl, q1, q2, q3, q4⟩ := h.cut i hi
  have hb := k.block b (by omega) (fun e' => by have := hr _ e'.symm; omega)
  exact ⟨b, o, e, hl, (World.cell?_of_block hb).trans q1, (World.cell?_of_block hb).trans q2, (World.cell?_of_block hb).trans q3, (World.cell?_of_block hb).trans q4⟩
/-- the cut net's edges are stored -/
theorem CtS.put {w W : World} {c m E : Nat} {B : ByteArray} {A : Option Addr} {n cap : Nat} {ms : List Value} {v4 : Value} {A5 : Option Addr} {c5 : Nat} {xs : List CutEd} (h : CtS w W c m E B A n cap ms v4 A5 c5 xs) (v : Value) : CtS w (W.setCell ⟨c, 4, none⟩ v) c m E B A n cap ms v A5 c5 xs := by
  have hg : W.grownBy (W.setCell ⟨c, 4, none⟩ v) (some c) := only_setCell_at (World.grownBy.refl W _)
  refine ⟨h.beg.grown hg (fun q e => by injection e with e; have := h.clow; omega), (h.row.set 4 _).congr fun i hi => ?_, setAt_grown h.set hg (fun e => by injection e with e; exact h.ne e.symm), h.cut.grown hg h.size (fun a ha e => by injection e with e; exact (h.apart a ha).1 e.symm), h.apart, h.clow, h.chigh, h.ne, h.mlow, h.mhigh, Nat.le_trans h.size hg.size⟩
  match i, hi with
  | 0, _ => rfl
  | 1, _ => rfl
  | 2, _ => rfl
  | 3, _ => rfl
  | 4, _ => rfl
  | 5, _ => rfl

/-- what is handed back of a net that can't be cut -/
def NoCutg (w : World) (e : Ending) (w' : World) : Prop := e = .returned (.tuple #[.agg #[.string ⟨#[]⟩, .slice none 0 0, .map none, .string ⟨#[]⟩, .slice none 0 0, .slice none 0 0], .bool false]) ∧ Below w.heap.size w w'
/-- and of one that can -/
def YesCutg (B : ByteArray) (A : Option Addr) (cap : Nat) (es : List (ByteArray × ByteArray)) (w : World) (e : Ending) (w' : World) : Prop :=
  ∃ m A2 c2 A5 c5, e = .returned (.tuple #[.agg #[.string B, .slice A es.length cap, .map (some m), .string B, .slice A2 (cutE B es).length c2, .slice A5 (cutX B es).length c5], .bool true]) ∧ SetAt w' m ((names (backP B es) es.length).map encB) ∧ EdgesIn w' w'.heap.size A2 (cutE B es) ∧ OwnEdges w' w.heap.size A2 (cutE B es).length ∧ CutIn w' w'.heap.size A5 (cutX B es) ∧ Below w.heap.size w w'
def CutgPost (B : ByteArray) (A : Option Addr) (cap : Nat) (es : List (ByteArray × ByteArray)) (w : World) (e : Ending) (w' : World) : Prop := (Cuttable B es ∧ YesCutg B A cap es w e w') ∨ (¬ Cuttable B es ∧ NoCutg w e w')

set_option maxRecDepth 100000 in
set_option maxHeartbeats 8000000 in
/-- impl.cuttingOf -/
theorem cuttingOf_any (B : ByteArray) (A : Option Addr) (cap : Nat) (es : List (ByteArray × ByteArray)) (w : World) (hs : B.size ≤ maxLen) (hE : EdgesIn w w.heap.size A es) (hl : es.length ≤ 1099511627776) :
    Calls Tryz.prog 30 #[.agg #[.string B, .slice A es.length cap]] w (CutgPost B A cap es w) := by
  have hl2 : es.length ≤ maxLen := by unfold maxLen; omega
  have HL := Lib.hid hl; have HL2 := Lib.hid hl2; have HM := Lib.hid hs
  clear hl hl2 hs
  by_cases hv : Valid B.data.toList (ebs es)
  case neg =>
    have HD : Hid (decB (Valid B.data.toList (ebs es)) = false) := Lib.hid (decB_f hv)
    have HN : Hid (¬ Cuttable B es) := Lib.hid (fun h => hv h.1)
    have HB := Lib.hid (begun6 w B A es.length cap)
    clear hv
    go_enter Tryz.func30, Tryz.ntmps30
    go_wp2_with fail
    generalize hW1 : (w.alloc (.cells #[.string B, .slice A es.length cap] 31)).alloc (.cells #[.string ⟨#[]⟩, .slice none 0 0, .map none, .string ⟨#[]⟩, .slice none 0 0, .slice none 0 0] 55) = w1 at HB ⊢
    clear hW1
    refine (valid_any B A cap es _ HM.out ((hE.below HB.out.below).more HB.out.below.size) HL2.out).mono ?_
    rw [HD.out]
    rintro e w2 ⟨rfl, hb2⟩
    have HB2 := Lib.hid (HB.out.go hb2)
    clear hb2 HB
    obtain ⟨c0, c1, c2, c3, c4, c5, f0, f1, f2, f3, f4, f5⟩ := ct_at HB2.out.row
    go_wp2_with fail
    refine bodyPost_ret (v := .tuple #[.agg #[.string ⟨#[]⟩, .slice none 0 0, .map none, .string ⟨#[]⟩, .slice none 0 0, .slice none 0 0], .bool false]) (by simp [results, Tryz.results30, go_sem, c0, c1, c2, c3, c4, c5]) rfl (.inr ⟨HN.out, rfl, below_set6 HB2.out.below (by omega) _ _ _ _ _ _⟩)
  have HD : Hid (decB (Valid B.data.toList (ebs es)) = true) := Lib.hid (decB_t hv)
  have HB := Lib.hid (begun6 w B A es.length cap)
  have HV := Lib.hid hv
  have HF := Lib.hid (facts_of hv)
  clear hv
  go_enter Tryz.func30, Tryz.ntmps30
  go_wp2_with fail
  generalize hW1 : (w.alloc (.cells #[.string B, .slice A es.length cap] 31)).alloc (.cells #[.string ⟨#[]⟩, .slice none 0 0, .map none, .string ⟨#[]⟩, .slice none 0 0, .slice none 0 0] 55) = w1 at HB ⊢
  clear hW1
  refine (valid_any B A cap es _ HM.out ((hE.below HB.out.below).more HB.out.below.size) HL2.out).mono ?_
  rw [HD.out]
  rintro e w2 ⟨rfl, hb2⟩
  have HB2 := Lib.hid (HB.out.go hb2)
  clear hb2 HB
  have t2 := HB2.out.two
  have hS : ∀ W, Below w2.heap.size w2 W → (W.cell? ⟨w.heap.size, 0, none⟩ = some (.string B) ∧ W.cell? ⟨w.heap.size, 1, none⟩ = some (.slice A es.length cap) ∧ Below w2.heap.size w2 W) :=
    fun W h => ⟨(h.cell (by simp only; have := HB2.out.size; omega)).trans t2.1, (h.cell (by simp only; have := HB2.out.size; omega)).trans t2.2, h⟩
  have HSS := Lib.hid hS
  have HE2 : Hid (∀ W, Below w2.heap.size w2 W → EdgesIn W W.heap.size A es) := Lib.hid fun W h => (hE.below (HB2.out.below.trans (h.mono HB2.out.below.size))).more (Nat.le_trans HB2.out.below.size h.size)
  have hk0 : Below w2.heap.size w2 w2.drew := (Below.refl _ _).drew
  have hz0 : Below w2.heap.size w2 (w2.alloc (.cells #[.string ⟨#[]⟩, .slice none 0 0, .map none, .string ⟨#[]⟩, .slice none 0 0, .slice none 0 0] 55)).drew := ((Below.refl _ _).alloc (Nat.le_refl _) _).drew
  have hrz : (w2.alloc (.cells #[.string ⟨#[]⟩, .slice none 0 0, .map none, .string ⟨#[]⟩, .slice none 0 0, .slice none 0 0] 55)).drew.rowIs w2.heap.size 55 6 (ctC ⟨#[]⟩ none 0 0 (.map none) ⟨#[]⟩ (.slice none 0 0) (.slice none 0 0)) := row6 w2
  have hzz : (w2.alloc (.cells #[.string ⟨#[]⟩, .slice none 0 0, .map none, .string ⟨#[]⟩, .slice none 0 0, .slice none 0 0] 55)).drew.heap.size = w2.heap.size + 1 := by simp
  have HK0 := Lib.hid hk0; have HZ0 := Lib.hid hz0; have HRZ := Lib.hid hrz; have HZZ := Lib.hid hzz
  clear hS t2 hk0 hz0 hrz hzz
  go_upto_region 3 with fail
  go_cut [4] from 11 to 17 (fun s4 wx => ∃ c m : Nat, s4 = .pointer (some ⟨c, 0, none⟩) ∧ Hid (CtB w2 wx c m B A es.length cap ((names (backP B es) es.length).map encB)))
  case first =>
    go_region_held3 (fun W => W.cell? ⟨w.heap.size, 0, none⟩ = some (.string B) ∧ W.cell? ⟨w.heap.size, 1, none⟩ = some (.slice A es.length cap) ∧ Below w2.heap.size w2 W)
      (first
        | with_reducible exact HSS.out _ HK0.out
        | with_reducible exact HSS.out _ HZ0.out
        | with_reducible exact HSS.out _ HB3.out
        | with_reducible exact HSS.out _ HC3.out.below
        | with_reducible exact HSS.out _ (HB3.out.alloc HB3.out.size _))
      (first
        | (go_at_call 56
           go_must (
           first
             | (refine (backNames_any B A cap es _ (HE2.out _ HZ0.out) HF.out HM.out).mono ?_
                rintro e w3 ⟨m, rfl, hset, hb3, hm⟩
                have HB3 : Hid (Below w2.heap.size w2 w3) := Lib.hid (HZ0.out.trans (hb3.mono (by rw [HZZ.out]; omega)))
                have hr3 := HRZ.out.of_block (hb3.block _ (by rw [HZZ.out]; omega))
                have HC3 := Lib.hid (CtB.put (B := B) (A := A) (n := es.length) (cap := cap) HB3.out hset (Nat.le_refl _) hr3 (by rw [HZZ.out] at hm; omega) (by rw [HZZ.out] at hm; omega))
                obtain ⟨g0, g1, g2, g3, g4, g5, l0, l1, l2, l3, l4, l5⟩ := ct_at hr3
                clear hset hb3 hm hr3)
             | (refine (backNames_any B A cap es _ (HE2.out _ HK0.out) HF.out HM.out).mono ?_
                rintro e w3 ⟨m, rfl, hset, hb3, hm⟩
                have HB3 : Hid (Below w2.heap.size w2 w3) := Lib.hid (HK0.out.trans hb3)
                have HC3 := Lib.hid (CtB.made (B := B) (A := A) (n := es.length) (cap := cap) HB3.out hset hm)
                clear hset hb3 hm))))
    all_goals
      go_wp2_with fail
      go_meet
      case rel => exact ⟨_, m, rfl, HC3⟩
  case rest =>
    obtain ⟨c, m, rfl, HC⟩ := hcut
    have HBc := Lib.hid (HB2.out.go HC.out.below)
    have hz2 := HB2.out.size
    have hc2 := HC.out.low
    have hcz := HC.out.row.lt
    obtain ⟨hd0, hd1⟩ := HBc.out.two
    obtain ⟨g0, g1, g2, g3, g4, g5, l0, l1, l2, l3, l4, l5⟩ := ct_at HC.out.row
    clear HSS HK0 HZ0 HRZ HZZ HE2
    go_wp2_with fail
    refine (cutEdges_any B A cap es m _ HM.out ((hE.below HBc.out.below).more HBc.out.below.size) HV.out HC.out.set).mono ?_
    rintro e w5 ⟨A5, c5, rfl, hx5, hb5, ha5⟩
    obtain ⟨xs, hxs⟩ : ∃ xs, cutX B es = xs := ⟨_, rfl⟩
    have hxl : xs.length ≤ 32 := by rw [← hxs]; exact cutX_len HF.out.few HF.out.eight
    rw [hxs] at hx5
    rw [hxs]
    have hr5 := HC.out.row.of_block (hb5.block _ hcz)
    have hB5 := HBc.out.go hb5
    have hs5 := HC.out.set.below hb5 HC.out.set.lt
    have hz5 := hb5.size
    have HS6 : Hid (CtS w (w5.setCell ⟨c, 5, none⟩ (.slice A5 xs.length c5)) c m w5.heap.size B A es.length cap ((names (backP B es) es.length).map encB) (.slice none 0 0) A5 c5 xs) := Lib.hid (by
      have hg : w5.grownBy (w5.setCell ⟨c, 5, none⟩ (.slice A5 xs.length c5)) (some c) := only_setCell_at (World.grownBy.refl w5 _)
      refine ⟨hB5.grown hg (fun q e => by injection e with e; omega), (hr5.set 5 _).congr fun i hi => ?_, setAt_grown hs5 hg (fun e => by injection e with e; exact HC.out.ne e.symm), hx5.grown hg (Nat.le_refl _) (fun a ha e => by injection e with e; have := ha5 a ha; omega), fun a ha => ⟨fun e => by have := ha5 a ha; omega, by have := ha5 a ha; omega⟩, by omega, by omega, HC.out.ne, by have := HC.out.mlow; omega, hs5.lt, hg.size⟩
      match i, hi with
      | 0, _ => rfl
      | 1, _ => rfl
      | 2, _ => rfl
      | 3, _ => rfl
      | 4, _ => rfl
      | 5, _ => rfl)
    have HXS := Lib.hid hxs
    clear g0 g1 g2 g3 g4 g5 l0 l1 l2 l3 l4 l5 hd0 hd1
    obtain ⟨g0, g1, g2, g3, g4, g5, l0, l1, l2, l3, l4, l5⟩ := ct_at hr5
    clear hx5 hb5 ha5 hr5 hB5 hs5 hxs
    go_wp2_with fail
    generalize hW6 : w5.setCell ⟨c, 5, none⟩ (.slice A5 xs.length c5) = w6 at HS6 ⊢
    obtain ⟨E, hEE⟩ : ∃ E, w5.heap.size = E := ⟨_, rfl⟩
    rw [hEE] at HS6
    have HOWN0 : Hid (w6.ownsRow E 70 2 (.slice none 0 0) 0 (cellsE ((xs.map fun x => x.1).take 0))) := Lib.hid (World.ownsRow_nil w6 _ _ _)
    obtain ⟨i0, hi, hi0, hi1, hi2⟩ := info_parts edgeInfo
    have HI := Lib.hid hi; have HI0 := Lib.hid hi0; have HI1 := Lib.hid hi1; have HI2 := Lib.hid hi2
    clear hW6 hEE hi hi0 hi1 hi2 g0 g1 g2 g3 g4 g5 l0 l1 l2 l3 l4 l5 hz5 hcz hc2 hz2 HC HBc HB2
    go_loopw [26] (fun cnt wr => ∃ (k : Nat) (v : Value), k ≤ xs.length ∧ cnt = .int .i64 k ∧ Hid (CtS w wr c m E B A es.length cap ((names (backP B es) es.length).map encB) v A5 c5 xs) ∧ Hid (wr.ownsRow E 70 2 v k (cellsE ((xs.map fun x => x.1).take k)))) (fun cnt _ => xs.length - (intOf cnt).toNat)
    case atStart => exact ⟨0, _, Nat.zero_le _, rfl, HS6, HOWN0⟩
    case round =>
      clear HS6 HOWN0
      obtain ⟨k, v, hk, rfl, HS, HOWN⟩ := hrel
      by_cases hlt : k < xs.length
      case neg =>
        have hke : (xs.map fun x => x.1).take k = cutE B es := by rw [List.take_of_length_le (by simp; omega), ← HXS.out]; rfl
        have hown := HOWN.out
        rw [hke] at hown
        obtain ⟨ce, hce⟩ : ∃ ce, cutE B es = ce := ⟨_, rfl⟩
        have hcl : ce.length = xs.length := by rw [← hce, cutE_len, HXS.out]
        have hkc : k = ce.length := by omega
        rw [hce, hkc] at hown
        obtain ⟨A2, c2, rfl, hE2, hO2⟩ := own_edges hown rfl
        have HE2 := Lib.hid hE2; have HO2 := Lib.hid hO2; have HCE := Lib.hid hce; have HCL := Lib.hid hcl
        have hEz := HS.out.size; have hcE := HS.out.chigh; have hc2 := HS.out.clow; have hm2 := HS.out.mlow; have hme := HS.out.mhigh
        obtain ⟨hd0, hd1⟩ := HS.out.beg.two
        have hd2 := (ct_at HS.out.row).c2
        have HCQ : Hid (Cuttable B es ↔ ¬ SameTo B es es.length ∧ Valid B.data.toList (ebs ce)) := Lib.hid (by
          unfold Cuttable
          rw [hce]
          exact ⟨fun h => h.2, fun h => ⟨HV.out, h⟩⟩)
        obtain ⟨sb, hsb⟩ : ∃ sb, decB (SameTo B es es.length) = sb := ⟨_, rfl⟩
        have HSB := Lib.hid hsb
        clear hke hown hE2 hO2 hce hcl hkc hsb HOWN
        go_wp2_with fail
        refine (sameBack_any B A cap es m _ ((hE.below HS.out.beg.below).more HS.out.beg.below.size) HF.out.few HS.out.set).mono ?_
        rw [HSB.out]
        rintro e w8 ⟨rfl, hb8⟩
        have HS8 := Lib.hid (HS.out.go hb8)
        have HE8 := Lib.hid ((HE2.out.below hb8).more hb8.size)
        have HO8 := Lib.hid (HO2.out.below hb8)
        clear hb8 hd0 hd1 hd2 HS HE2 HO2
        obtain ⟨g0, g1, g2, g3, g4, g5, l0, l1, l2, l3, l4, l5⟩ := ct_at HS8.out.row
        cases sb with
        | true =>
          have HN : Hid (¬ Cuttable B es) := Lib.hid (fun h => (HCQ.out.1 h).1 (decB_yes HSB.out))
          clear g0 g1 g2 g3 g4 g5 l0 l1 l2 l3 l4 l5
          obtain ⟨g0, g1, g2, g3, g4, g5, l0, l1, l2, l3, l4, l5⟩ := ct_at HS8.out.beg.row
          go_wp2_with fail
          refine bodyPost_ret (v := .tuple #[.agg #[.string ⟨#[]⟩, .slice none 0 0, .map none, .string ⟨#[]⟩, .slice none 0 0, .slice none 0 0], .bool false]) (by simp [results, Tryz.results30, go_sem, g0, g1, g2, g3, g4, g5]) rfl (.inr ⟨HN.out, rfl, below_set6 HS8.out.beg.below (by omega) _ _ _ _ _ _⟩)
        | false =>
          go_wp2_with fail
          obtain ⟨vb, hvb⟩ : ∃ vb, decB (Valid B.data.toList (ebs ce)) = vb := ⟨_, rfl⟩
          have HVB := Lib.hid hvb
          clear hvb
          refine (valid_any B A2 c2 ce _ HM.out HE8.out (by have := HCL.out; unfold maxLen; omega)).mono ?_
          rw [HVB.out]
          rintro e w9 ⟨rfl, hb9⟩
          have HS9 := Lib.hid (HS8.out.go hb9)
          have HE9 := Lib.hid ((HE8.out.below hb9).more hb9.size)
          have HO9 := Lib.hid (HO8.out.below hb9)
          clear hb9 g0 g1 g2 g3 g4 g5 l0 l1 l2 l3 l4 l5 HS8 HE8 HO8
          obtain ⟨g0, g1, g2, g3, g4, g5, l0, l1, l2, l3, l4, l5⟩ := ct_at HS9.out.beg.row
          cases vb with
          | false =>
            have HN : Hid (¬ Cuttable B es) := Lib.hid (fun h => decB_no HVB.out (HCQ.out.1 h).2)
            go_wp2_with fail
            refine bodyPost_ret (v := .tuple #[.agg #[.string ⟨#[]⟩, .slice none 0 0, .map none, .string ⟨#[]⟩, .slice none 0 0, .slice none 0 0], .bool false]) (by simp [results, Tryz.results30, go_sem, g0, g1, g2, g3, g4, g5]) rfl (.inr ⟨HN.out, rfl, below_set6 HS9.out.beg.below (by omega) _ _ _ _ _ _⟩)
          | true =>
            have HN : Hid (Cuttable B es) := Lib.hid (HCQ.out.2 ⟨decB_no HSB.out, decB_yes HVB.out⟩)
            obtain ⟨j0, j1, j2, j3, j4, j5, -⟩ := ct_at HS9.out.row
            go_wp2_with fail
            have hg : w9.grownBy ((((((w9.setCell ⟨w.heap.size + 1, 0, none⟩ (.string B)).setCell ⟨w.heap.size + 1, 1, none⟩ (.slice A es.length cap)).setCell ⟨w.heap.size + 1, 2, none⟩ (.map (some m))).setCell ⟨w.heap.size + 1, 3, none⟩ (.string B)).setCell ⟨w.heap.size + 1, 4, none⟩ (.slice A2 ce.length c2)).setCell ⟨w.heap.size + 1, 5, none⟩ (.slice A5 xs.length c5)) (some (w.heap.size + 1)) :=
              only_setCell_at (only_setCell_at (only_setCell_at (only_setCell_at (only_setCell_at (only_setCell_at (World.grownBy.refl w9 _))))))
            have hne := HO9.out.ne (c := w.heap.size + 1) (by omega)
            refine bodyPost_ret (v := .tuple #[.agg #[.string B, .slice A es.length cap, .map (some m), .string B, .slice A2 ce.length c2, .slice A5 xs.length c5], .bool true]) (by simp [results, Tryz.results30, go_sem, g0, g1, g2, g3, g4, g5]) rfl (.inl ⟨HN.out, m, A2, c2, A5, c5, ?_, ?_, ?_, ?_, ?_, below_set6 HS9.out.beg.below (by omega) _ _ _ _ _ _⟩)
            · rw [HCE.out, HXS.out]
            · exact setAt_grown HS9.out.set hg (fun e => by injection e with e; omega)
            · rw [HCE.out]; exact (HE9.out.grown hg (Nat.le_refl _) hne).more hg.size
            · rw [HCE.out]; exact (HO9.out.grown hg hne).mono (by omega)
            · rw [HXS.out]; exact (HS9.out.cut.grown hg HS9.out.size (fun a ha e => by injection e with e; have := (HS9.out.apart a ha).2; omega)).more (Nat.le_trans HS9.out.size hg.size)
      obtain ⟨p1, hp1⟩ : ∃ p1, xs[k].1.1 = p1 := ⟨_, rfl⟩
      obtain ⟨p2, hp2⟩ : ∃ p2, xs[k].1.2 = p2 := ⟨_, rfl⟩
      obtain ⟨kd, hkd⟩ : ∃ kd : Int, ((xs[k].2.1 : Nat) : Int) = kd := ⟨_, rfl⟩
      obtain ⟨pl, hpl⟩ : ∃ pl : Int, ((xs[k].2.2 : Nat) : Int) = pl := ⟨_, rfl⟩
      have HTK : Hid ((xs.map fun x => x.1).take (k + 1) = (xs.map fun x => x.1).take k ++ [(p1, p2)]) := Lib.hid (by
        rw [List.take_succ_eq_append_getElem (by simpa using hlt), List.getElem_map, ← hp1, ← hp2])
      obtain ⟨eb, eo, rfl, hlow, q1, q2, q3, q4⟩ := HS.out.cut k hlt
      rw [hp1] at q1
      rw [hp2] at q2
      rw [hkd] at q3
      rw [hpl] at q4
      have hcE := HS.out.chigh
      have hEz := HS.out.size
      have hbE : Below wr.heap.size wr (wr.alloc (.cells #[.string p1, .string p2, .int .i64 kd, .int .i64 pl] 73)) := (Below.refl _ _).alloc (Nat.le_refl _) _
      have n0 : (wr.alloc (.cells #[.string p1, .string p2, .int .i64 kd, .int .i64 pl] 73)).cell? ⟨wr.heap.size, 0, none⟩ = some (.string p1) := by go_simp
      have n1 : (wr.alloc (.cells #[.string p1, .string p2, .int .i64 kd, .int .i64 pl] 73)).cell? ⟨wr.heap.size, 1, none⟩ = some (.string p2) := by go_simp
      have d4 := (ct_at (HS.out.go hbE).row).c4
      have hbF : Below (wr.alloc (.cells #[.string p1, .string p2, .int .i64 kd, .int .i64 pl] 73)).heap.size (wr.alloc (.cells #[.string p1, .string p2, .int .i64 kd, .int .i64 pl] 73)) ((wr.alloc (.cells #[.string p1, .string p2, .int .i64 kd, .int .i64 pl] 73)).alloc (.cells #[.string p1, .string p2] 70)) := (Below.refl _ _).alloc (Nat.le_refl _) _
      have HSb := Lib.hid ((HS.out.go hbE).go hbF)
      have HOWNb := Lib.hid (own_below (own_below HOWN.out hbE) hbF)
      have HNEW := Lib.hid (grow_new (wr.alloc (.cells #[.string p1, .string p2, .int .i64 kd, .int .i64 pl] 73)) p1 p2)
      have hza : (wr.alloc (.cells #[.string p1, .string p2, .int .i64 kd, .int .i64 pl] 73)).heap.size = wr.heap.size + 1 := by simp
      rw [hza] at HNEW
      clear hp1 hp2 hkd hpl hbE hbF HS HOWN
      go_wp2_with (first
        | (at_builtin; refine wpList_append_own _ rfl (.tmp 32) (.tmp 35) 29 rfl E 70 i0 (.agg #[.string ⟨#[]⟩, .string ⟨#[]⟩]) 2 32 Tryz.underlying29 HI.out HI0.out HI1.out HI2.out rfl (by decide) v k (cellsE ((xs.map fun x => x.1).take k)) rfl HOWNb.out ⟨wr.heap.size + 1, 0, none⟩ 1 1 [.string p1, .string p2] rfl rfl HNEW.out (grow_one p1 p2) (by unfold maxLen; omega) (by omega) HSb.out.size ?_; intro v7 w7 hown7 hgr7 _; obtain ⟨g7, c7, rfl⟩ := Go.Joins.ownsRow_form hown7 (by omega); go_must (
           have HS7 := Lib.hid (HSb.out.grown hgr7 (own_above HOWNb.out))
           have e4 := (ct_at HS7.out.row).c4; have l4 := (ct_at HS7.out.row).f4
           have HS8 := Lib.hid (HS7.out.put (.slice (some ⟨g7, 0, none⟩) (k + 1) c7))
           have HOWN8 : Hid ((w7.setCell ⟨c, 4, none⟩ (.slice (some ⟨g7, 0, none⟩) (k + 1) c7)).ownsRow E 70 2 (.slice (some ⟨g7, 0, none⟩) (k + 1) c7) (k + 1) (cellsE ((xs.map fun x => x.1).take (k + 1)))) := Lib.hid (by
             rw [HTK.out, cellsE_snoc]
             exact own_low hown7 (fun g hg => Below.heap_setCell _ _ _ _ (by simp only; omega)))
           clear hown7 hgr7)))
      go_roundw
      case rel => exact ⟨k + 1, _, by omega, by go_num, HS8, HOWN8⟩
      case measure => simp [intOf]; omega

end Go.Proofs.YtpeafheljcjlhaaGreat
