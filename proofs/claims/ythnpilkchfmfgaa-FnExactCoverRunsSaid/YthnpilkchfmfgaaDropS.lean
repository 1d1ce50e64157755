/- A net without an edge, by the model. -/
import Derived.Test.YthnpilkchfmfgaaDrop
import Derived.Deep.RegionHeld3
namespace Go.Proofs.Ythnpilkchfmfgaa
open Go.RowKit

section
variable {w : World} {P : Program}
/-- an append to a row of the call's own, where a region draws its order -/
theorem step_append_own' {ops : Array Oper} {o : Oper} {a : Act} {K : Act → World → Prop} {Q : Exit → Act → World → Prop} {E : Prop} (hgd : o.guard = none) (s x : Operand) (t : TypeId)
    (ho : o.op = .call { callee := .builtin .append, args := #[s, x], argTypes := #[t, t] })
    (base : Nat) (e : TypeId) (i : TypeInfo) (z : Value) (size bytes : Nat) (ht : P.underlying t = some (.slice e)) (hi : P.info? e = some i) (hz : i.zero = some z)
    (hsize : i.size = size) (hby : i.bytes = bytes) (hzs : z.cells.size = size) (hsz : 0 < size)
    (v : Value) (n : Nat) (xs : List Value) (hs : a.eval s = v) (hown : w.ownsRow base e size v n xs)
    (ad : Addr) (m c : Nat) (news : List Value) (hx : a.eval x = .slice (some ad) m c) (hl : news.length = m * size) (hnews : ∀ j u, news[j]? = some u → w.cell? (ad.add j) = some u) (h1 : ∀ u ∈ news, u.oneCell' = true)
    (h63 : n + m ≤ maxLen) (hbytes : (n + m) * bytes ≤ 140737488355328) (hbase : base ≤ w.heap.size)
    (h : ∀ v' w', w'.ownsRow base e size v' (n + m) (xs ++ news) → w.grownBy w' v.ownBlock → K (a.put o.dst v') w') :
    if Region.wanted o (yielded ops a.tmps) = true then Oper.wp P o a w K Q else E := by
  have hw : Region.wanted o (yielded ops a.tmps) = true := by simp [Region.wanted, hgd]
  rw [if_pos hw]
  exact wp_append_own w s x t ho base e i z size bytes ht hi hz hsize hby hzs hsz v n xs hs hown ad m c news hx hl hnews h1 h63 hbytes hbase fun v' w' h2 h3 _ => h v' w' h2 h3
end

set_option maxRecDepth 100000 in
set_option maxHeartbeats 4000000 in
/-- spec.l1Drop -/
theorem l1Drop_any (B : ByteArray) (A : Option Addr) (cap : Nat) (es : List (ByteArray × ByteArray)) (k : Nat) (w : World) (hE : EdgesIn w w.heap.size A es) (hl : es.length ≤ 1048576) (hk : k < es.length) (hc : es.length ≤ cap) :
    Calls Try.prog 58 #[.agg #[.string B, .slice A es.length cap], .int .i64 k] w (OwnNet B (dropE es k) w) := by
  obtain ⟨eb, eo, rfl, -, -, -⟩ := hE k hk
  obtain ⟨n, hn⟩ : ∃ n, es.length = n + 1 := ⟨es.length - 1, by omega⟩
  obtain ⟨i0, hi, hi0, hi1, hi2⟩ := info_parts edgeInfo
  have HI := Lib.hid hi; have HI0 := Lib.hid hi0; have HI1 := Lib.hid hi1; have HI2 := Lib.hid hi2
  have HN := Lib.hid hn
  rw [hn]
  have hkn : k ≤ n := by omega
  have hcn : n + 1 ≤ cap := by omega
  have hnb : n ≤ 1048576 := by omega
  obtain ⟨ad2, had2⟩ : ∃ ad2 : Addr, (if cap = k + 1 then some (⟨eb, eo, none⟩ : Addr) else some ⟨eb, eo + (k + 1) * 2, none⟩) = some ad2 := by
    split
    · exact ⟨_, rfl⟩
    · exact ⟨_, rfl⟩
  have HAD := Lib.hid had2
  have HL1 : Hid ((cellsE ((es.drop 0).take k)).length = k * 2) := Lib.hid (by rw [cellsE_length]; simp; have := HN.out; omega)
  have HL2 : Hid ((cellsE ((es.drop (k + 1)).take (n - k))).length = (n - k) * 2) := Lib.hid (by rw [cellsE_length]; simp; have := HN.out; omega)
  have hb1 : Below w.heap.size w (w.alloc (.cells #[.string B, .slice (some ⟨eb, eo, none⟩) (n + 1) cap] 28)) := (Below.refl _ _).alloc (Nat.le_refl _) _
  have t1 := Two.made w B (some ⟨eb, eo, none⟩) (n + 1) cap 28
  have hz1 : (w.alloc (.cells #[.string B, .slice (some ⟨eb, eo, none⟩) (n + 1) cap] 28)).heap.size = w.heap.size + 1 := by simp
  clear hi hi0 hi1 hi2 hn hl hk hc had2
  go_enter Try.func58, Try.ntmps58
  go_wp2_with fail
  generalize hW1 : w.alloc (.cells #[.string B, .slice (some ⟨eb, eo, none⟩) (n + 1) cap] 28) = w1 at hb1 t1 hz1 ⊢
  clear hW1
  have hr2 : (w1.alloc (.cells #[.string ⟨#[]⟩, .slice none 0 0] 28)).rowIs (w.heap.size + 1) 28 2 (fun i => if i = 0 then .string ⟨#[]⟩ else .slice none 0 0) := by
    have h := World.rowIs_alloc w1 #[.string ⟨#[]⟩, .slice none 0 0] 28 (fun i => if i = 0 then .string ⟨#[]⟩ else .slice none 0 0) (fun i hi => by
      match i, hi with
      | 0, _ => rfl
      | 1, _ => rfl)
    rwa [hz1] at h
  have hb2 : Below (w.heap.size + 1) w1 (w1.alloc (.cells #[.string ⟨#[]⟩, .slice none 0 0] 28)) := (Below.refl _ _).alloc (by omega) _
  have hz2 : (w1.alloc (.cells #[.string ⟨#[]⟩, .slice none 0 0] 28)).heap.size = w.heap.size + 2 := by simp; omega
  generalize hW2 : w1.alloc (.cells #[.string ⟨#[]⟩, .slice none 0 0] 28) = w2 at hr2 hb2 hz2 ⊢
  clear hW2
  -- the first row, behind a draw
  have hx3 : (w2.alloc (.cells #[] 55)).drew.heap[w.heap.size + 2]? = some (.cells #[] 55) := by
    have := World.alloc_heap_new w2 (.cells #[] 55)
    rwa [hz2] at this
  have hS : ∀ W, Below (w.heap.size + 1) w1 W → (W.cell? ⟨w.heap.size, 0, none⟩ = some (.string B) ∧ W.cell? ⟨w.heap.size, 1, none⟩ = some (.slice (some ⟨eb, eo, none⟩) (n + 1) cap) ∧ Below (w.heap.size + 1) w1 W) :=
    fun W h => ⟨(h.cell (by simp only; omega)).trans t1.1, (h.cell (by simp only; omega)).trans t1.2, h⟩
  have hown3 : (w2.alloc (.cells #[] 55)).drew.ownsRow (w.heap.size + 2) 55 2 (.slice (some ⟨w.heap.size + 2, 0, none⟩) 0 0) 0 [] := by
    exact ⟨rfl, .inr ⟨_, 0, #[], rfl, Nat.le_refl _, hx3, by simp, by simp, by simp, by simp⟩⟩
  have hb3 : Below (w.heap.size + 1) w1 (w2.alloc (.cells #[] 55)).drew := (hb2.alloc (by omega) _).drew
  have hE3 : EdgesIn (w2.alloc (.cells #[] 55)).drew w.heap.size (some ⟨eb, eo, none⟩) es := hE.below (hb1.trans (hb3.mono (by omega)))
  have hr3 : (w2.alloc (.cells #[] 55)).drew.rowIs (w.heap.size + 1) 28 2 (fun i => if i = 0 then .string ⟨#[]⟩ else .slice none 0 0) := (hr2.alloc _).drew
  have hz3 : (w2.alloc (.cells #[] 55)).drew.heap.size = w.heap.size + 3 := by simp; omega
  have HSS := Lib.hid hS; have HOWN3 := Lib.hid hown3; have HE3 := Lib.hid hE3; have HR3 := Lib.hid hr3; have HB3 := Lib.hid hb3; have HZ3 := Lib.hid hz3; have HB2 := Lib.hid hb2
  have HNEW := Lib.hid (hE3.news 0 k (by have := HN.out; omega))
  clear hS hx3 hown3 hb3 hE3 hr3 hb2 hr2 hz3
  have a1 : (0 : Int) ≤ (k : Int) := by omega
  have a2 : (k : Int) ≤ (cap : Int) := by omega
  have a3 : IntKind.i64.wrap ((k : Int) + 1) = (k : Int) + 1 := IntWalk.i64_in _ (by omega)
  have a4 : (0 : Int) ≤ (k : Int) + 1 := by omega
  have a5 : ((k : Int) + 1).toNat = k + 1 := by omega
  have a6 : (k : Int) + 1 ≤ ((n + 1 : Nat) : Int) := by omega
  have a7 : (k : Int) + 1 ≤ (n : Int) + 1 := by omega
  have a8 : k ≤ cap := by omega
  have a9 : n + 1 ≤ cap := hcn
  go_region_held3 (fun W => W.cell? ⟨w.heap.size, 0, none⟩ = some (.string B) ∧ W.cell? ⟨w.heap.size, 1, none⟩ = some (.slice (some ⟨eb, eo, none⟩) (n + 1) cap) ∧ Below (w.heap.size + 1) w1 W)
    (first
      | exact HSS.out _ HB2.out.drew
      | exact HSS.out _ HB3.out
      | exact HSS.out _ hb4
      | exact HSS.out _ hb5
      | exact HSS.out _ ((hb5.setCell (by simp) _).setCell (by simp) _))
    (first
      | (clear a1 a2 a3 a4 a5 a6 a7 a8 a9
         refine step_append_own' rfl (.tmp 7) (.tmp 11) 26 rfl (w.heap.size + 2) 55 i0 (.agg #[.string ⟨#[]⟩, .string ⟨#[]⟩]) 2 32 Try.underlying26 HI.out HI0.out HI1.out HI2.out rfl (by decide) _ 0 [] rfl HOWN3.out ⟨eb, eo + 0 * 2, none⟩ k cap (cellsE ((es.drop 0).take k)) rfl HL1.out HNEW.out cellsE_one (by unfold maxLen; omega) (by omega) (by have := HZ3.out; omega) ?_
         go_must (
         intro v4 w4 hown4 hgr4
         simp only [Nat.zero_add, List.nil_append] at hown4
         replace hgr4 : (w2.alloc (.cells #[] 55)).drew.grownBy w4 (some (w.heap.size + 2)) := hgr4
         have hb4 : Below (w.heap.size + 1) w1 w4 := HB3.out.grown hgr4 (by have := HZ3.out; omega) (fun q e => by injection e with e; omega)
         have hE4 : EdgesIn w4 w.heap.size (some ⟨eb, eo, none⟩) es := hE.below (hb1.trans (hb4.mono (by omega)))
         have HNEW2 : Hid (∀ j u, (cellsE ((es.drop (k + 1)).take (n - k)))[j]? = some u → w4.cell? (ad2.add j) = some u) := Lib.hid (by
           intro j u hu
           by_cases hck : cap = k + 1
           · have h0 : n - k = 0 := by omega
             rw [h0] at hu
             simp [cellsE] at hu
           · have ha := HAD.out
             rw [if_neg hck] at ha
             injection ha with ha
             subst ha
             exact hE4.news (k + 1) (n - k) (by have := HN.out; omega) j u hu)
         have hbase4 : w.heap.size + 2 ≤ w4.heap.size := by have := hgr4.size; have := HZ3.out; omega
         have hr4 := HR3.out.of_block (hgr4.block (w.heap.size + 1) (by have := HZ3.out; omega) (by intro e; injection e with e; omega))
         have HR4 := Lib.hid hr4; have HOWN4 := Lib.hid hown4
         clear hr4 hown4 hgr4 hE4))
      | (go_must (
         refine step_append_own' rfl (.tmp 12) (.tmp 17) 26 rfl (w.heap.size + 2) 55 i0 (.agg #[.string ⟨#[]⟩, .string ⟨#[]⟩]) 2 32 Try.underlying26 HI.out HI0.out HI1.out HI2.out rfl (by decide) _ k (cellsE ((es.drop 0).take k)) rfl HOWN4.out ad2 (n - k) (cap - (k + 1)) (cellsE ((es.drop (k + 1)).take (n - k))) (by show Value.slice _ _ _ = _; rw [HAD.out]) HL2.out HNEW2.out cellsE_one (by unfold maxLen; omega) (by omega) hbase4 ?_
         intro v5 w5 hown5 hgr5
         replace hgr5 : w4.grownBy w5 v4.ownBlock := hgr5
         have hr5 := HR4.out.of_block (hgr5.block (w.heap.size + 1) (by omega) (own_block HOWN4.out (by omega)))
         have hb5 : Below (w.heap.size + 1) w1 w5 := hb4.grown hgr5 (by omega) (fun q e => by have := own_block HOWN4.out (c := q); exact Nat.le_of_not_lt fun hq => this (by omega) e.symm)
         have r0 := hr5.cell (i := 0) (by omega); have r1 := hr5.cell (i := 1) (by omega)
         have rf0 := hr5.frozen 0; have rf1 := hr5.frozen 1
         rw [show cellsE ((es.drop 0).take k) ++ cellsE ((es.drop (k + 1)).take (n - k)) = cellsE (dropE es k) by
           rw [dropE, cellsE_append, List.drop_zero, List.take_of_length_le (l := es.drop (k + 1)) (by simp; have := HN.out; omega)]] at hown5
         obtain ⟨A5, c5, hv5, hE5, hO5⟩ := own_edges hown5 (by have := dropE_length (es := es) (k := k) (by have := HN.out; omega); have := HN.out; omega)
         subst hv5
         have HE5 := Lib.hid hE5; have HO5 := Lib.hid hO5
         clear hown5 hgr5 hr5 hE5 hO5)))
  rename_i hHeld
  clear hHeld
  go_wp2_with fail
  all_goals
    have hg6 : w5.grownBy ((w5.setCell ⟨w.heap.size + 1, 0, none⟩ (.string B)).setCell ⟨w.heap.size + 1, 1, none⟩ (.slice A5 (dropE es k).length c5)) (some (w.heap.size + 1)) :=
      only_setCell_at (only_setCell_at (World.grownBy.refl w5 _))
    have hne6 := HO5.out.ne (c := w.heap.size + 1) (by omega)
    have hb5' : Below w.heap.size w w5 := hb1.trans (hb5.mono (by omega))
    refine bodyPost_ret (v := .agg #[.string B, .slice A5 (dropE es k).length c5]) (by simp [results, Try.results58, go_sem, r0, r1]) rfl ?_
    exact ⟨A5, c5, rfl, (HE5.out.grown hg6 (Nat.le_refl _) hne6).more hg6.size, (hb5'.setCell (by simp only; omega) _).setCell (by simp only; omega) _, (HO5.out.grown hg6 hne6).mono (by omega)⟩

end Go.Proofs.Ythnpilkchfmfgaa
