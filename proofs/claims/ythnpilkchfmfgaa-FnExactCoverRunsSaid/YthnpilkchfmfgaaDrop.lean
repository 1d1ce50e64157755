/- A net without an edge, by the program and by the model. -/
import Derived.Test.YthnpilkchfmfgaaNetRes
import Derived.Test.YthnpilkchfmfgaaSpecTurn
import Derived.Test.YthnpilkchfmfgaaMem
import Derived.Outline
namespace Go.Proofs.Ythnpilkchfmfgaa
open Go.RowKit

/-- edges without one -/
def dropE (es : List (ByteArray × ByteArray)) (k : Nat) : List (ByteArray × ByteArray) := es.take k ++ es.drop (k + 1)
theorem dropE_length {es : List (ByteArray × ByteArray)} {k : Nat} (h : k < es.length) : (dropE es k).length = es.length - 1 := by
  simp [dropE]; omega

/-- the cells of edges -/
def cellsE (es : List (ByteArray × ByteArray)) : List Value := es.flatMap fun e => [.string e.1, .string e.2]
theorem cellsE_cons (e : ByteArray × ByteArray) (es : List (ByteArray × ByteArray)) : cellsE (e :: es) = .string e.1 :: .string e.2 :: cellsE es := by
  simp [cellsE]
theorem cellsE_append (a b : List (ByteArray × ByteArray)) : cellsE (a ++ b) = cellsE a ++ cellsE b := by
  simp [cellsE]
theorem cellsE_length : ∀ es : List (ByteArray × ByteArray), (cellsE es).length = es.length * 2
  | [] => rfl
  | e :: es => by rw [cellsE_cons, List.length_cons, List.length_cons, cellsE_length es]; simp; omega
theorem cellsE_at : ∀ {es : List (ByteArray × ByteArray)} {i : Nat}, (h : i < es.length) → (cellsE es)[i * 2]? = some (.string es[i].1) ∧ (cellsE es)[i * 2 + 1]? = some (.string es[i].2)
  | e :: es, 0, _ => by rw [cellsE_cons]; simp
  | e :: es, i + 1, h => by
    rw [cellsE_cons, show (i + 1) * 2 = i * 2 + 2 by omega]
    simp only [List.getElem?_cons_succ, show i * 2 + 2 + 1 = (i * 2 + 1) + 2 by omega]
    exact cellsE_at (by simpa using h)
theorem cellsE_odd {es : List (ByteArray × ByteArray)} {j : Nat} {u : Value} (h : (cellsE es)[j]? = some u) : j / 2 < es.length ∧ u = if j % 2 = 0 then .string (es.getD (j / 2) (⟨#[]⟩, ⟨#[]⟩)).1 else .string (es.getD (j / 2) (⟨#[]⟩, ⟨#[]⟩)).2 := by
  have hl : j < (cellsE es).length := (List.getElem?_eq_some_iff.1 h).1
  rw [cellsE_length] at hl
  have hi : j / 2 < es.length := by omega
  obtain ⟨h1, h2⟩ := cellsE_at hi
  refine ⟨hi, ?_⟩
  by_cases hj : j % 2 = 0
  · have : j / 2 * 2 = j := by omega
    rw [this, h] at h1
    injection h1 with h1
    simp [hj, h1, List.getD, hi]
  · have : j / 2 * 2 + 1 = j := by omega
    rw [this, h] at h2
    injection h2 with h2
    simp [hj, h2, List.getD, hi]
theorem cellsE_one {es : List (ByteArray × ByteArray)} : ∀ u ∈ cellsE es, u.oneCell' = true := by
  intro u hu
  simp only [cellsE, List.mem_flatMap] at hu
  obtain ⟨e, _, hu⟩ := hu
  simp at hu
  rcases hu with rfl | rfl <;> rfl

theorem add_none (b o n : Nat) : (⟨b, o, none⟩ : Addr).add n = ⟨b, o + n, none⟩ := by unfold Addr.add; split <;> simp_all

/-- a stretch of edges as it lies -/
theorem EdgesIn.news {W : World} {B : Nat} {b o : Nat} {es : List (ByteArray × ByteArray)} (h : EdgesIn W B (some ⟨b, o, none⟩) es) (i n : Nat) (hn : i + n ≤ es.length) :
    ∀ j u, (cellsE ((es.drop i).take n))[j]? = some u → W.cell? ((⟨b, o + i * 2, none⟩ : Addr).add j) = some u := by
  intro j u hu
  obtain ⟨hj, hu'⟩ := cellsE_odd hu
  have hj' : j / 2 < n := by simp at hj; omega
  obtain ⟨b', o', e, hl, q1, q2⟩ := h (i + j / 2) (by omega)
  injection e with e
  injection e with e1 e2 _
  subst e1; subst e2
  have hg : ((es.drop i).take n).getD (j / 2) (⟨#[]⟩, ⟨#[]⟩) = es[i + j / 2] := by
    simp [List.getD, List.getElem?_take, hj', show i + j / 2 < es.length by omega]
  rw [hg] at hu'
  rw [add_none, hu']
  by_cases hm : j % 2 = 0
  · rw [if_pos hm, ← q1]
    congr 2; omega
  · rw [if_neg hm, ← q2]
    congr 2; omega

/-- edges that a call owns, as edges that lie -/
theorem own_edges {W : World} {base n : Nat} {v : Value} {es : List (ByteArray × ByteArray)} (h : W.ownsRow base 55 2 v n (cellsE es)) (hn : n = es.length) :
    ∃ A cap, v = .slice A es.length cap ∧ EdgesIn W W.heap.size A es ∧ OwnEdges W base A es.length := by
  subst hn
  rcases h.2 with ⟨rfl, h0⟩ | ⟨g, cap, cur, rfl, hb, hblk, hle, hmax, hsz, htake⟩
  · exact ⟨none, 0, by rw [h0], fun i hi => absurd hi (by omega), .inl ⟨h0, rfl⟩⟩
  · have hg := (Array.getElem?_eq_some_iff.1 hblk).1
    refine ⟨some ⟨g, 0, none⟩, cap, rfl, fun i hi => ?_, .inr ⟨g, cur.size, fun i => cur.getD i undef, rfl, hb, hg, by omega, ⟨cur, hblk, rfl, fun i hi => by simp [hi]⟩⟩⟩
    obtain ⟨p1, p2⟩ := cellsE_at hi
    have q1 := h.cells (g := g) rfl _ _ p1
    have q2 := h.cells (g := g) rfl _ _ p2
    rw [add_none] at q1 q2
    exact ⟨g, 0, rfl, hg, q1, q2⟩

theorem own_block {W : World} {base n : Nat} {T : TypeId} {z : Nat} {v : Value} {xs : List Value} (h : W.ownsRow base T z v n xs) {c : Nat} (hc : c < base) : some c ≠ v.ownBlock := by
  rcases h.2 with ⟨rfl, _⟩ | ⟨g, cap, cur, rfl, hb, _⟩
  · intro e; cases e
  · intro e
    have e' : some c = some g := e
    injection e' with e'; omega
theorem own_low {W W' : World} {base n : Nat} {T : TypeId} {z : Nat} {v : Value} {xs : List Value} (h : W.ownsRow base T z v n xs) (hk : ∀ g, base ≤ g → W'.heap[g]? = W.heap[g]?) : W'.ownsRow base T z v n xs := by
  refine ⟨h.1, ?_⟩
  rcases h.2 with h | ⟨g, cap, cur, hv, hb, hblk, rest⟩
  · exact .inl h
  · exact .inr ⟨g, cap, cur, hv, hb, (hk g hb).trans hblk, rest⟩

/-- 'make([]Edge, 0, n)' -/
theorem make_room (n : Nat) (hn : n ≤ 1099511627776) (W : World) : (Instr.makeSlice 26 (.int .i64 0) (.int .i64 (n : Int))).run Try.prog W =
    .ok (.slice (some ⟨W.heap.size, 0, none⟩) 0 n) (W.alloc (.cells (madeCells #[.string ⟨#[]⟩, .string ⟨#[]⟩] (n * 2)) 55)) := by
  obtain ⟨i0, hi, hz0, hz1, hz2⟩ := info_parts edgeInfo
  have h := run_make (P := Try.prog) W 26 _ i0 _ Try.underlying26 hi hz0 .i64 .i64 0 (n : Int) (by omega) (by omega) (by rw [hz2]; omega) (by omega)
  rw [hz1] at h
  simp only [Int.toNat_natCast, Int.toNat_zero] at h
  exact h

/-- what is handed back: a net of one's own -/
def OwnNet (B : ByteArray) (es : List (ByteArray × ByteArray)) (w : World) (e : Ending) (w' : World) : Prop :=
  ∃ A cap, e = .returned (.agg #[.string B, .slice A es.length cap]) ∧ EdgesIn w' w'.heap.size A es ∧ Below w.heap.size w w' ∧ OwnEdges w' w.heap.size A es.length

set_option maxRecDepth 100000 in
set_option maxHeartbeats 2000000 in
/-- impl.without -/
theorem without_any (B : ByteArray) (A : Option Addr) (cap : Nat) (es : List (ByteArray × ByteArray)) (k : Nat) (w : World) (hE : EdgesIn w w.heap.size A es) (hl : es.length ≤ 1048576) (hk : k < es.length) (hc : es.length ≤ cap) :
    Calls Try.prog 60 #[.agg #[.string B, .slice A es.length cap], .int .i64 k] w (OwnNet B (dropE es k) w) := by
  obtain ⟨eb, eo, rfl, -, -, -⟩ := hE k hk
  obtain ⟨n, hn⟩ : ∃ n, es.length = n + 1 := ⟨es.length - 1, by omega⟩
  have hmk := make_room n (by omega)
  obtain ⟨i0, hi, hi0, hi1, hi2⟩ := info_parts edgeInfo
  have HI := Lib.hid hi; have HI0 := Lib.hid hi0; have HI1 := Lib.hid hi1; have HI2 := Lib.hid hi2
  have HN := Lib.hid hn
  rw [hn]
  have hsub : (((n + 1 : Nat) : Int) - 1) = (n : Int) := by omega
  have hkn : k ≤ n := by omega
  have hcn : n + 1 ≤ cap := by omega
  have hnb : n ≤ 1048576 := by omega
  obtain ⟨ad2, had2⟩ : ∃ ad2 : Addr, (if cap = k + 1 then some (⟨eb, eo, none⟩ : Addr) else some ⟨eb, eo + (k + 1) * 2, none⟩) = some ad2 := by
    split
    · exact ⟨_, rfl⟩
    · exact ⟨_, rfl⟩
  have HAD := Lib.hid had2
  have tok1 : True := trivial
  clear hi hi0 hi1 hi2 hn hl hk hc had2
  go_enter Try.func60, Try.ntmps60
  go_wp2_with (first
    | (at_builtin
       have _t := tok1
       obtain ⟨c2, hc2⟩ : ∃ c2, (madeCells #[.string ⟨#[]⟩, .string ⟨#[]⟩] (n * 2) : Array Value) = c2 := ⟨_, rfl⟩
       have hc2s : c2.size = n * 2 := by rw [← hc2, size_madeCells]
       rw [hc2]
       clear hmk hc2
       have hb3 : Below w.heap.size w (((w.alloc (.cells #[.string B, .slice (some ⟨eb, eo, none⟩) (n + 1) cap] 28)).alloc (.cells #[.string ⟨#[]⟩, .slice none 0 0] 28)).alloc (.cells c2 55)) :=
         (((Below.refl _ _).alloc (Nat.le_refl _) _).alloc (by simp) _).alloc (by simp; omega) _
       have t3 : Two (((w.alloc (.cells #[.string B, .slice (some ⟨eb, eo, none⟩) (n + 1) cap] 28)).alloc (.cells #[.string ⟨#[]⟩, .slice none 0 0] 28)).alloc (.cells c2 55)) w.heap.size B (some ⟨eb, eo, none⟩) (n + 1) cap := ⟨by go_simp, by go_simp⟩
       have hr3 : (((w.alloc (.cells #[.string B, .slice (some ⟨eb, eo, none⟩) (n + 1) cap] 28)).alloc (.cells #[.string ⟨#[]⟩, .slice none 0 0] 28)).alloc (.cells c2 55)).rowIs (w.heap.size + 1) 28 2 (fun i => if i = 0 then .string ⟨#[]⟩ else .slice none 0 0) := by
         have h := (World.rowIs_alloc (w.alloc (.cells #[.string B, .slice (some ⟨eb, eo, none⟩) (n + 1) cap] 28)) #[.string ⟨#[]⟩, .slice none 0 0] 28 (fun i => if i = 0 then .string ⟨#[]⟩ else .slice none 0 0) (fun i hi => by
           match i, hi with
           | 0, _ => rfl
           | 1, _ => rfl)).alloc (.cells c2 55)
         rwa [World.size_alloc] at h
       have hx3 : (((w.alloc (.cells #[.string B, .slice (some ⟨eb, eo, none⟩) (n + 1) cap] 28)).alloc (.cells #[.string ⟨#[]⟩, .slice none 0 0] 28)).alloc (.cells c2 55)).heap[w.heap.size + 1 + 1]? = some (.cells c2 55) := by
         have := World.alloc_heap_new ((w.alloc (.cells #[.string B, .slice (some ⟨eb, eo, none⟩) (n + 1) cap] 28)).alloc (.cells #[.string ⟨#[]⟩, .slice none 0 0] 28)) (.cells c2 55)
         rwa [World.size_alloc, World.size_alloc] at this
       have hz3 : (((w.alloc (.cells #[.string B, .slice (some ⟨eb, eo, none⟩) (n + 1) cap] 28)).alloc (.cells #[.string ⟨#[]⟩, .slice none 0 0] 28)).alloc (.cells c2 55)).heap.size = w.heap.size + 3 := by simp
       generalize hW3 : ((w.alloc (.cells #[.string B, .slice (some ⟨eb, eo, none⟩) (n + 1) cap] 28)).alloc (.cells #[.string ⟨#[]⟩, .slice none 0 0] 28)).alloc (.cells c2 55) = w3 at hb3 t3 hr3 hx3 hz3 ⊢
       clear hW3
       have hown3 : w3.ownsRow (w.heap.size + 1 + 1) 55 2 (.slice (some ⟨w.heap.size + 1 + 1, 0, none⟩) 0 n) 0 [] :=
         ⟨rfl, .inr ⟨_, n, c2, rfl, Nat.le_refl _, hx3, by omega, by unfold maxLen; omega, hc2s, by simp⟩⟩
       have hE3 := (hE.below hb3).more hb3.size
       have HNEW := Lib.hid (hE3.news 0 k (by have := HN.out; omega))
       have HR3 := Lib.hid hr3; have HOWN := Lib.hid hown3; have HE3 := Lib.hid hE3; have HB3 := Lib.hid hb3; have HT3 := Lib.hid t3
       have hbase : w.heap.size + 1 + 1 ≤ w3.heap.size := by omega
       have HL1 : Hid ((cellsE ((es.drop 0).take k)).length = k * 2) := Lib.hid (by rw [cellsE_length]; simp; have := HN.out; omega)
       have HL2 : Hid ((cellsE ((es.drop (k + 1)).take (n - k))).length = (n - k) * 2) := Lib.hid (by rw [cellsE_length]; simp; have := HN.out; omega)
       have hz5 : w.heap.size + 3 = w3.heap.size := by omega
       clear hr3 hx3 hown3 hE3 hb3 t3 hc2s hz3
       refine wpList_append_own _ rfl (.tmp 11) (.tmp 15) 26 rfl (w.heap.size + 1 + 1) 55 i0 (.agg #[.string ⟨#[]⟩, .string ⟨#[]⟩]) 2 32 Try.underlying26 HI.out HI0.out HI1.out HI2.out rfl (by decide) _ 0 [] rfl HOWN.out ⟨eb, eo + 0 * 2, none⟩ k cap (cellsE ((es.drop 0).take k)) rfl HL1.out HNEW.out cellsE_one (by unfold maxLen; omega) (by omega) hbase ?_
       intro v4 w4 hown4 hgr4 _
       replace hgr4 : w3.grownBy w4 (some (w.heap.size + 1 + 1)) := hgr4
       simp only [Nat.zero_add, List.nil_append] at hown4
       have t4 := HT3.out.grown hgr4 (by omega) (by intro e; injection e with e; omega)
       have hd0 := t4.1; have hd1 := t4.2
       have hr4 := HR3.out.of_block (hgr4.block (w.heap.size + 1) (by omega) (by intro e; injection e with e; omega))
       have hb4 : Below w.heap.size w w4 := HB3.out.grown hgr4 HB3.out.size (fun q e => by injection e with e; omega)
       have hE4 := (hE.below hb4).more hb4.size
       have HNEW2 : Hid (∀ j u, (cellsE ((es.drop (k + 1)).take (n - k)))[j]? = some u → w4.cell? (ad2.add j) = some u) := Lib.hid (by
         intro j u hu
         by_cases hck : cap = k + 1
         · have h0 : n - k = 0 := by omega
           rw [h0] at hu
           simp [cellsE] at hu
         · have ha := HAD.out
           rw [if_neg hck] at ha
           injection ha with ha
           subst ha
           exact hE4.news (k + 1) (n - k) (by have := HN.out; omega) j u hu)
       have hbase4 : w.heap.size + 1 + 1 ≤ w4.heap.size := by have := hgr4.size; omega
       have HR4 := Lib.hid hr4; have HOWN4 := Lib.hid hown4; have HT4 := Lib.hid t4; have HB4 := Lib.hid hb4
       clear hr4 hown4 hgr4 t4 hb4 hE4 tok1 HT3 HR3 HOWN HNEW HB3)
    | (at_builtin; go_must (
       refine wpList_append_own _ rfl (.tmp 17) (.tmp 22) 26 rfl (w.heap.size + 1 + 1) 55 i0 (.agg #[.string ⟨#[]⟩, .string ⟨#[]⟩]) 2 32 Try.underlying26 HI.out HI0.out HI1.out HI2.out rfl (by decide) _ k (cellsE ((es.drop 0).take k)) rfl HOWN4.out ad2 (n - k) (cap - (k + 1)) (cellsE ((es.drop (k + 1)).take (n - k))) (by show Value.slice _ _ _ = _; rw [HAD.out]) HL2.out HNEW2.out cellsE_one (by unfold maxLen; omega) (by omega) hbase4 ?_
       intro v5 w5 hown5 hgr5 _
       replace hgr5 : w4.grownBy w5 v4.ownBlock := hgr5
       have t5 := HT4.out.grown hgr5 (by omega) (own_block HOWN4.out (by omega))
       clear hd0 hd1
       have hd0 := t5.1; have hd1 := t5.2
       have hr5 := HR4.out.of_block (hgr5.block (w.heap.size + 1) (by omega) (own_block HOWN4.out (by omega)))
       have hb5 : Below w.heap.size w w5 := HB4.out.grown hgr5 HB4.out.size (fun q e => by have := own_block HOWN4.out (c := q); exact Nat.le_of_not_lt fun hq => this (by omega) e.symm)
       have r0 := hr5.cell (i := 0) (by omega); have r1 := hr5.cell (i := 1) (by omega)
       have rf0 := hr5.frozen 0; have rf1 := hr5.frozen 1
       have hz5' : w.heap.size + 1 + 1 ≤ w5.heap.size := by have := hgr5.size; omega
       rw [show cellsE ((es.drop 0).take k) ++ cellsE ((es.drop (k + 1)).take (n - k)) = cellsE (dropE es k) by
         rw [dropE, cellsE_append, List.drop_zero, List.take_of_length_le (l := es.drop (k + 1)) (by simp; have := HN.out; omega)]] at hown5
       obtain ⟨A5, c5, hv5, hE5, hO5⟩ := own_edges hown5 (by have := dropE_length (es := es) (k := k) (by have := HN.out; omega); have := HN.out; omega)
       subst hv5
       have HE5 := Lib.hid hE5; have HO5 := Lib.hid hO5; have HB5 := Lib.hid hb5
       clear hown5 hgr5 t5 hr5 hb5 hE5 hO5)))
  all_goals
    have hg6 : w5.grownBy ((w5.setCell ⟨w.heap.size + 1, 0, none⟩ (.string B)).setCell ⟨w.heap.size + 1, 1, none⟩ (.slice A5 (dropE es k).length c5)) (some (w.heap.size + 1)) :=
      only_setCell_at (only_setCell_at (World.grownBy.refl w5 _))
    have hne6 := HO5.out.ne (c := w.heap.size + 1) (by omega)
    refine bodyPost_ret (v := .agg #[.string B, .slice A5 (dropE es k).length c5]) (by simp [results, Try.results60, go_sem, r0, r1]) rfl ?_
    exact ⟨A5, c5, rfl, (HE5.out.grown hg6 (Nat.le_refl _) hne6).more hg6.size, (HB5.out.setCell (by simp only; omega) _).setCell (by simp only; omega) _, (HO5.out.grown hg6 hne6).mono (by omega)⟩

end Go.Proofs.Ythnpilkchfmfgaa
