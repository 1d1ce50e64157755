/- The blocks of a net as nodes that point to those behind them. -/
import Derived.Test.YtpeafheljcjlhaaGreatSpec1
import Derived.Test.YtpeafheljcjlhaaGreatMaps
import Derived.Test.YtpeafheljcjlhaaGreatGraph
import Derived.Test.YtpeafheljcjlhaaGreatMem
import Derived.Deep.OwnRows
import Derived.Maps.AppendAt
import Derived.Deep.AppendLies
namespace Go.Proofs.YtpeafheljcjlhaaGreat
open Go.RowKit

theorem getElem_data0 {o : ByteArray} {i : Nat} (h : i < o.size) : o.data.toList[i]? = some o[i] := List.getElem?_eq_getElem (by simpa using h)

theorem lets_of2 {l : List UInt8} {es : List (ByteArray × ByteArray)} (h : EdgesOk l (ebs es)) : ∀ e ∈ es, ∃ x y, e.1.data.toList = [x] ∧ e.2.data.toList = [y] ∧ x ∈ l ∧ y ∈ l := by
  intro e he
  have := h.2 _ (List.mem_map_of_mem he)
  obtain ⟨x, hx, hm, _⟩ := bIdx_some this.1
  obtain ⟨y, hy, hm', _⟩ := bIdx_some this.2.1
  exact ⟨x, y, hx, hy, hm, hm'⟩

/-- what is handed back: the nodes of a net -/
def NodesPost (l : List UInt8) (E : Eds) (w : World) (e : Ending) (w' : World) : Prop :=
  ∃ (G M : Nat) (S : Nat → List Nat) (V : Nat → Value), e = .returned (.slice (some ⟨G, 0, none⟩) l.length l.length) ∧ w.heap.size ≤ G ∧ NodesAt G M w' l E S V ∧ M < w'.heap.size ∧ Below w.heap.size w w'

set_option maxRecDepth 100000 in
set_option maxHeartbeats 4000000 in
/-- impl.nodesOf -/
theorem nodesOf_any (B : ByteArray) (A : Option Addr) (cap : Nat) (es : List (ByteArray × ByteArray)) (w : World) (hs : BlocksOk B.data.toList) (hE : EdgesIn w w.heap.size A es) (hok : EdgesOk B.data.toList (ebs es)) :
    Calls Tryz.prog 117 #[.agg #[.string B, .slice A es.length cap]] w (NodesPost B.data.toList (ebs es) w) := by
  have h2 : 2 ≤ B.size := by have := hs.1; simpa using this
  have h8 : B.size ≤ 8 := by have := hs.2.1; simpa using this
  have hl : es.length ≤ 16 := by have := hok.1; simpa [ebs] using this
  have HS := Lib.hid hs; clear hs
  have HOK := Lib.hid hok; clear hok
  have hmk := fun W => make_nodes B.size (by omega) W
  go_enter Tryz.func117, Tryz.ntmps117
  go_wp2
  clear hmk
  have hb0 : Below w.heap.size w ((w.alloc (.cells #[.string B, .slice A es.length cap] 31)).alloc (.cells (madeCells #[.pointer none] B.size) 123)) := ((Below.refl _ _).alloc (Nat.le_refl _) _).alloc (by simp) _
  have hc0 : ((w.alloc (.cells #[.string B, .slice A es.length cap] 31)).alloc (.cells (madeCells #[.pointer none] B.size) 123)).cell? ⟨w.heap.size, 0, none⟩ = some (.string B) := by go_simp
  have hc1 : ((w.alloc (.cells #[.string B, .slice A es.length cap] 31)).alloc (.cells (madeCells #[.pointer none] B.size) 123)).cell? ⟨w.heap.size, 1, none⟩ = some (.slice A es.length cap) := by go_simp
  have hz0 : ((w.alloc (.cells #[.string B, .slice A es.length cap] 31)).alloc (.cells (madeCells #[.pointer none] B.size) 123)).heap.size = w.heap.size + 2 := by simp
  have hg0 : ((w.alloc (.cells #[.string B, .slice A es.length cap] 31)).alloc (.cells (madeCells #[.pointer none] B.size) 123)).rowIs (w.heap.size + 1) 123 B.size (fun _ => .pointer none) := by
    have := World.rowIs_made (w.alloc (.cells #[.string B, .slice A es.length cap] 31)) (.pointer none) B.size 123
    rwa [World.size_alloc] at this
  go_loopw [17] (fun i wr => ∃ k : Nat, k ≤ B.size ∧ i = .int .i64 k ∧ Below w.heap.size w wr ∧ wr.cell? ⟨w.heap.size, 0, none⟩ = some (.string B) ∧ wr.cell? ⟨w.heap.size, 1, none⟩ = some (.slice A es.length cap) ∧ wr.heap.size = w.heap.size + 2 + k ∧
    wr.rowIs (w.heap.size + 1) 123 B.size (fun i => if i < k then ptrN (w.heap.size + 2) i else .pointer none) ∧
    ∀ i, (h : i < B.size) → i < k → wr.rowIs (w.heap.size + 2 + i) 138 2 (fun j => if j = 0 then .int .u8 B[i].toNat else .slice none 0 0)) (fun i _ => B.size - (intOf i).toNat)
  case atStart => exact ⟨0, Nat.zero_le _, rfl, hb0, hc0, hc1, hz0, hg0.congr (by intro i _; simp), by intro i _ h; omega⟩
  case round =>
    obtain ⟨k, hk, rfl, hb, hB0, hB1, hz, hg, hn⟩ := hrel
    clear hb0 hc0 hc1 hz0 hg0
    by_cases hlt : k < B.size
    · have hz' : w.heap.size + 2 + k ≤ wr.heap.size := by omega
      have hst : (wr.alloc (.cells #[.int .u8 B[k].toNat, .slice none 0 0] 138)).cell? ⟨w.heap.size + 1, k, none⟩ = some (.pointer none) := by
        rw [World.cell?_alloc_lt _ _ _ (by simp only; omega)]
        have := hg.cell (i := k) hlt; simpa using this
      have hfr : (wr.alloc (.cells #[.int .u8 B[k].toNat, .slice none 0 0] 138)).frozen? ⟨w.heap.size + 1, k, none⟩ = false := (hg.alloc _).frozen k
      have HG := Lib.hid hg; have HN := Lib.hid hn; have HZ := Lib.hid hz
      clear hg hn hz
      go_wp2
      go_roundw
      case rel =>
        have hz := HZ.out
        refine ⟨k + 1, by omega, by go_num, (hb.alloc hb.size _).setCell (by simp only; omega) _, (World.cell?_setCell_other _ _ _ _ (by intro h; injection h with h; omega)).trans ((World.cell?_alloc_lt _ _ _ (by simp only; omega)).trans hB0), (World.cell?_setCell_other _ _ _ _ (by intro h; injection h with h; omega)).trans ((World.cell?_alloc_lt _ _ _ (by simp only; omega)).trans hB1), by simp [World.setCell]; omega, ?_, ?_⟩
        · refine ((HG.out.alloc _).set k _).congr fun i hi => ?_
          by_cases hik : i = k
          · subst hik; simp [ptrN, hz]
          · have : (i < k + 1) = (i < k) := by rw [eq_iff_iff]; omega
            simp [hik, this]
        · intro i hi hik
          by_cases hik' : i = k
          · subst hik'
            have h1 := World.rowIs_alloc wr #[.int .u8 B[i].toNat, .slice none 0 0] 138 (fun j => if j = 0 then .int .u8 B[i].toNat else .slice none 0 0) (by intro j hj; match j, hj with | 0, _ => rfl | 1, _ => rfl)
            rw [hz] at h1
            rw [hz]
            exact h1.setOther (by simp only; omega) _
          · exact ((HN.out i hi (by omega)).alloc _).setOther (by simp only; omega) _
      case measure => simp [intOf]; omega
    · obtain rfl : k = B.size := by omega
      have hM : wr.heap.size = w.heap.size + 1 + 1 + B.data.toList.length := by simp; omega
      have hNA : NodesAt (w.heap.size + 1) (w.heap.size + 1 + 1 + B.data.toList.length) wr B.data.toList [] (fun _ => []) (fun _ => .slice none 0 0) := by
        refine ⟨?_, fun i c hc => ?_, fun i hi => World.ownsRow_nil _ _ _ _, fun i j b _ _ _ h => by simp [Value.ownBlock] at h, fun i x _ j => by simp, fun i _ => by simp, rfl⟩
        · have : B.data.toList.length = B.size := by simp
          rw [this]
          exact hg.congr fun i hi => by simp [hi]
        · have hi : i < B.size := by have := (List.getElem?_eq_some_iff.1 hc).1; simpa using this
          have hbi : B[i] = c := by
            have h := hc
            rw [List.getElem?_eq_getElem (by simpa using hi)] at h
            exact Option.some.inj h
          have := hn i hi (by omega)
          rw [hbi] at this
          exact this
      have hlow : w.heap.size < wr.heap.size := by omega
      have HM := Lib.hid hM
      have HZ := Lib.hid hz
      clear hg hn hM hz
      have hmm := @run_makeMap Tryz.prog
      have hb1 : Below w.heap.size w (wr.alloc (.map #[] 0)) := hb.alloc hb.size _
      have hc0 : (wr.alloc (.map #[] 0)).cell? ⟨w.heap.size, 0, none⟩ = some (.string B) := by rw [World.cell?_alloc_lt _ _ _ hlow]; exact hB0
      have hc1 : (wr.alloc (.map #[] 0)).cell? ⟨w.heap.size, 1, none⟩ = some (.slice A es.length cap) := by rw [World.cell?_alloc_lt _ _ _ hlow]; exact hB1
      have hs1 : (wr.alloc (.map #[] 0)).heap.size = wr.heap.size + 1 := by simp
      have hset := SetAt.new (enc := encP) wr
      have hNB : NodesAt (w.heap.size + 1) wr.heap.size (wr.alloc (.map #[] 0)) B.data.toList [] (fun _ => []) (fun _ => .slice none 0 0) := by
        have := hNA.keep (w' := wr.alloc (.map #[] 0)) (fun b _ hb _ => Below.heap_alloc _ _ _ hb)
        rwa [← HM.out] at this
      clear hNA
      go_wp2
      clear hmm
      have HS1 := Lib.hid hs1; clear hs1
      obtain ⟨wm, rfl⟩ : ∃ wm : World, wm = wr := ⟨_, rfl⟩
      clear HZ
      obtain ⟨G, hG⟩ : ∃ G, w.heap.size + 1 = G := ⟨_, rfl⟩
      rw [hG] at HM hNB ⊢
      have hG1 : w.heap.size < G := by omega
      have hG2 : G < wm.heap.size := by have := HM.out; omega
      have hlenB : B.data.toList.length = B.size := by simp
      have HLB := Lib.hid hlenB
      clear hG hlenB
      go_loopw [34] (fun i wx => ∃ (k : Nat) (S : Nat → List Nat) (V : Nat → Value) (xs : List (UInt8 × UInt8)), k ≤ es.length ∧ i = .int .i64 k ∧ Below w.heap.size w wx ∧ wx.cell? ⟨w.heap.size, 0, none⟩ = some (.string B) ∧ wx.cell? ⟨w.heap.size, 1, none⟩ = some (.slice A es.length cap) ∧ wm.heap.size < wx.heap.size ∧
        SetAt wx wm.heap.size (xs.map encP) ∧ (∀ x y, (x, y) ∈ xs ↔ ([x], [y]) ∈ (ebs es).take k) ∧ NodesAt G wm.heap.size wx B.data.toList ((ebs es).take k) S V) (fun i _ => es.length - (intOf i).toNat)
      case atStart => exact ⟨0, fun _ => [], fun _ => .slice none 0 0, [], Nat.zero_le _, rfl, hb1, hc0, hc1, by have := HS1.out; omega, hset, by simp, by simpa using hNB⟩
      case round =>
        clear hb1 hc0 hc1 hset hNB hb hB0 hB1
        obtain ⟨k, S, V, xs, hk, rfl, hb, hB0, hB1, hz, hset, hxs, hN⟩ := hrel
        have HXS := Lib.hid hxs; clear hxs
        by_cases hlt : k < es.length
        · obtain ⟨eb, eo, rfl, hlow', h1, h2'⟩ := (hE.below hb) k hlt
          have hwz : w.heap.size < wr.heap.size := by omega
          obtain ⟨x, y, hx, hy, hxl, hyl⟩ := lets_of2 HOK.out es[k] (List.getElem_mem hlt)
          have hget : (ebs es)[k]? = some (es[k].1.data.toList, es[k].2.data.toList) := by simp [ebs, hlt]
          generalize es[k].1 = p1 at *
          generalize es[k].2 = p2 at *
          have hx0 : 0 < p1.size := by
            have : p1.data.toList.length = 1 := by rw [hx]; rfl
            simp at this; omega
          have hy0 : 0 < p2.size := by
            have : p2.data.toList.length = 1 := by rw [hy]; rfl
            simp at this; omega
          obtain rfl : p1[0] = x := by
            have h := getElem_data0 hx0
            rw [hx] at h; simpa using h.symm
          obtain rfl : p2[0] = y := by
            have h := getElem_data0 hy0
            rw [hy] at h; simpa using h.symm
          rw [hx, hy] at hget
          have HG := Lib.hid hget; clear hget
          have HX := Lib.hid hx; clear hx
          have HY := Lib.hid hy; clear hy
          go_wp2
          go_region
          have hbn : Below w.heap.size w (((wr.alloc (.cells #[.string p1, .string p2] 70)).alloc (.cells #[.int .u8 p1[0].toNat, .int .u8 p2[0].toNat] 141)).drew) := ((hb.alloc hb.size _).alloc (hb.alloc hb.size _).size _).drew
          have hn0 : (((wr.alloc (.cells #[.string p1, .string p2] 70)).alloc (.cells #[.int .u8 p1[0].toNat, .int .u8 p2[0].toNat] 141)).drew).cell? ⟨w.heap.size, 0, none⟩ = some (.string B) := by go_simp
          have hn1 : (((wr.alloc (.cells #[.string p1, .string p2] 70)).alloc (.cells #[.int .u8 p1[0].toNat, .int .u8 p2[0].toNat] 141)).drew).cell? ⟨w.heap.size, 1, none⟩ = some (.slice (some ⟨eb, eo, none⟩) es.length cap) := by go_simp
          have hn2 : (((wr.alloc (.cells #[.string p1, .string p2] 70)).alloc (.cells #[.int .u8 p1[0].toNat, .int .u8 p2[0].toNat] 141)).drew).cell? ⟨wr.heap.size, 0, none⟩ = some (.string p1) := by go_simp
          have hn3 : (((wr.alloc (.cells #[.string p1, .string p2] 70)).alloc (.cells #[.int .u8 p1[0].toNat, .int .u8 p2[0].toNat] 141)).drew).cell? ⟨wr.heap.size, 1, none⟩ = some (.string p2) := by go_simp
          have hn4 : (((wr.alloc (.cells #[.string p1, .string p2] 70)).alloc (.cells #[.int .u8 p1[0].toNat, .int .u8 p2[0].toNat] 141)).drew).cell? ⟨wr.heap.size + 1, 0, none⟩ = some (.int .u8 p1[0].toNat) := by go_simp
          have hn5 : (((wr.alloc (.cells #[.string p1, .string p2] 70)).alloc (.cells #[.int .u8 p1[0].toNat, .int .u8 p2[0].toNat] 141)).drew).cell? ⟨wr.heap.size + 1, 1, none⟩ = some (.int .u8 p2[0].toNat) := by go_simp
          have hn6 : (((wr.alloc (.cells #[.string p1, .string p2] 70)).alloc (.cells #[.int .u8 p1[0].toNat, .int .u8 p2[0].toNat] 141)).drew).heap.size = wr.heap.size + 2 := by simp [World.drew]
          have hkeep : ∀ b, b < wr.heap.size → (((wr.alloc (.cells #[.string p1, .string p2] 70)).alloc (.cells #[.int .u8 p1[0].toNat, .int .u8 p2[0].toNat] 141)).drew).heap[b]? = wr.heap[b]? := fun b hb' =>
            (Below.heap_alloc _ _ _ (by simp; omega)).trans (Below.heap_alloc _ _ _ hb')
          generalize hW0 : ((wr.alloc (.cells #[.string p1, .string p2] 70)).alloc (.cells #[.int .u8 p1[0].toNat, .int .u8 p2[0].toNat] 141)).drew = W0 at hbn hn0 hn1 hn2 hn3 hn4 hn5 hn6 hkeep ⊢
          clear hW0 h1 h2'
          have hset0 : SetAt W0 wm.heap.size (xs.map encP) := by
            obtain ⟨es', clock, hh, hr⟩ := hset
            exact ⟨es', clock, (hkeep _ hz).trans hh, hr⟩
          have hN0 := hN.keep (w' := W0) (fun b _ hb _ => hkeep b hb)
          have HN6 := Lib.hid hn6; clear hn6 hkeep hset hN hb hB0 hB1
          clear hwz
          by_cases hin : (p1[0], p2[0]) ∈ xs
          · have hq : decB ((p1[0], p2[0]) ∈ xs) = true := decB_t hin
            have HQ := Lib.hid hq; clear hq
            have HIN := Lib.hid hin; clear hin
            go_wp2_with (at_lookup; refine wpList_lookup_set rfl _ _ 139 rfl (keyP Tryz.underlying141 Tryz.underlying5 (fun _ => by kernel_rfl)) Tryz.underlying139 (Tryz.zeroValue4 _) _ xs rfl hset0 (p1[0], p2[0]) rfl true HQ.out ?_)
            go_roundw
            case rel =>
              have hE' : ([p1[0]], [p2[0]]) ∈ (ebs es).take k := (HXS.out _ _).1 HIN.out
              have e1 : (ebs es).take (k + 1) = (ebs es).take k ++ [([p1[0]], [p2[0]])] := by rw [List.take_add_one, HG.out]; rfl
              refine ⟨k + 1, S, V, xs, by omega, by go_num, hbn, hn0, hn1, by have := HN6.out; omega, hset0, fun x y => ?_, ?_⟩
              · rw [e1, List.mem_append, ← HXS.out x y]
                constructor
                · exact .inl
                · rintro (h | h)
                  · exact h
                  · simp at h; obtain ⟨rfl, rfl⟩ := h; exact HIN.out
              · rw [e1]; exact hN0.skip hE'
            case measure => simp [intOf]; omega
          · have hq : decB ((p1[0], p2[0]) ∈ xs) = false := decB_f hin
            have HQ := Lib.hid hq; clear hq
            have HIN := Lib.hid hin; clear hin
            obtain ⟨a, ha⟩ := List.mem_iff_getElem?.1 hxl
            obtain ⟨b, hb⟩ := List.mem_iff_getElem?.1 hyl
            have hal : a < B.size := by have := (List.getElem?_eq_some_iff.1 ha).1; have := HLB.out; omega
            have hbl : b < B.size := by have := (List.getElem?_eq_some_iff.1 hb).1; have := HLB.out; omega
            have hia : bIdx B.data.toList p1.data.toList = (a : Int) := by rw [HX.out]; exact indexByte_of_get HS.out.2.2.2 ha
            have hib : bIdx B.data.toList p2.data.toList = (b : Int) := by rw [HY.out]; exact indexByte_of_get HS.out.2.2.2 hb
            have HIA := Lib.hid hia; have HIB := Lib.hid hib; have HA := Lib.hid ha; have HB := Lib.hid hb
            clear hia hib ha hb hxl hyl
            have hWl : G < W0.heap.size := by have := HN6.out; omega
            have hWm : wm.heap.size < W0.heap.size := by have := HN6.out; omega
            go_wp2_with (first
              | (at_lookup; refine wpList_lookup_set rfl _ _ 139 rfl (keyP Tryz.underlying141 Tryz.underlying5 (fun _ => by kernel_rfl)) Tryz.underlying139 (Tryz.zeroValue4 _) _ xs rfl hset0 (p1[0], p2[0]) rfl false HQ.out ?_)
              | (at_mapUpdate; refine wpList_update_set rfl _ _ 139 (.inl rfl) (keyP Tryz.underlying141 Tryz.underlying5 (fun _ => by kernel_rfl)) Tryz.underlying139 _ xs rfl hset0 (p1[0], p2[0]) rfl HIN.out ?_; intro w1 hset1 hg1))
            have hne : ∀ c, c ≠ wm.heap.size → some c ≠ some wm.heap.size := fun c h e => h (by injection e)
            have hm0 : w1.cell? ⟨w.heap.size, 0, none⟩ = some (.string B) := hg1.cell hn0 (hne _ (by simp only; omega))
            have hm1 : w1.cell? ⟨w.heap.size, 1, none⟩ = some (.slice (some ⟨eb, eo, none⟩) es.length cap) := hg1.cell hn1 (hne _ (by simp only; omega))
            have hm2 : w1.cell? ⟨wr.heap.size, 0, none⟩ = some (.string p1) := hg1.cell hn2 (hne _ (by simp only; omega))
            have hm3 : w1.cell? ⟨wr.heap.size, 1, none⟩ = some (.string p2) := hg1.cell hn3 (hne _ (by simp only; omega))
            have hN1 := hN0.keep (w' := w1) (fun b _ hb hbm => hg1.block b hb (hne _ hbm))
            have hb1 : Below w.heap.size w w1 := hbn.grown hg1 hbn.size (fun c e => by injection e with e; omega)
            have hsz1 : W0.heap.size ≤ w1.heap.size := hg1.size
            clear hn0 hn1 hn2 hn3 hn4 hn5 hset0 hN0 hbn hne hg1
            have hp1 : w1.cell? ⟨G, a, none⟩ = some (.pointer (some ⟨G + 1 + a, 0, none⟩)) := hN1.ptrs.cell (by have := HLB.out; omega)
            have hp2 : w1.cell? ⟨G, b, none⟩ = some (.pointer (some ⟨G + 1 + b, 0, none⟩)) := hN1.ptrs.cell (by have := HLB.out; omega)
            have x0 : ∀ x : After w1, x.W.cell? ⟨w.heap.size, 0, none⟩ = some (.string B) := fun x => x.cell (by simp only; omega) hm0
            have x1 : ∀ x : After w1, x.W.cell? ⟨w.heap.size, 1, none⟩ = some (.slice (some ⟨eb, eo, none⟩) es.length cap) := fun x => x.cell (by simp only; omega) hm1
            have x2 : ∀ x : After w1, x.W.cell? ⟨wr.heap.size, 0, none⟩ = some (.string p1) := fun x => x.cell (by have := HN6.out; simp only; omega) hm2
            have x3 : ∀ x : After w1, x.W.cell? ⟨wr.heap.size, 1, none⟩ = some (.string p2) := fun x => x.cell (by have := HN6.out; simp only; omega) hm3
            have x4 : ∀ x : After w1, x.W.cell? ⟨G, a, none⟩ = some (.pointer (some ⟨G + 1 + a, 0, none⟩)) := fun x => x.cell (by simp only; omega) hp1
            have x5 : ∀ x : After w1, x.W.cell? ⟨G, b, none⟩ = some (.pointer (some ⟨G + 1 + b, 0, none⟩)) := fun x => x.cell (by simp only; omega) hp2
            have D1 : Hid (∀ (sl : Value) (W : World), Calls Tryz.prog 115 #[.agg #[.string B, sl], .string p1] W fun e w' => e = .returned (.int .i64 (a : Int)) ∧ Below W.heap.size W w') :=
              Lib.hid fun sl W => (blockIndex_any B p1 sl W).mono fun _ _ ⟨he, hw⟩ => ⟨he.trans (by rw [HIA.out]), hw⟩
            have D2 : Hid (∀ (sl : Value) (W : World), Calls Tryz.prog 115 #[.agg #[.string B, sl], .string p2] W fun e w' => e = .returned (.int .i64 (b : Int)) ∧ Below W.heap.size W w') :=
              Lib.hid fun sl W => (blockIndex_any B p2 sl W).mono fun _ _ ⟨he, hw⟩ => ⟨he.trans (by rw [HIB.out]), hw⟩
            go_frame
            refine wp_region_below (by kernel_rfl) (by kernel_rfl) ?_
            repeat (go_big_quiet_step ((first | (go_at_call_of 115 (Value.string p1); exact After.call (D1.out _ _)) | (go_at_call_of 115 (Value.string p2); exact After.call (D2.out _ _)))))
            refine wpQuiet_nil ?_
            rintro _ ⟨x, rfl⟩
            clear x0 x1 x2 x3 x4 x5
            have hb2 : Below w.heap.size w x.W := hb1.trans (x.h.mono hb1.size)
            have hk0 := x.cell (p := ⟨w.heap.size, 0, none⟩) (by simp only; omega) hm0
            have hk1 := x.cell (p := ⟨w.heap.size, 1, none⟩) (by simp only; omega) hm1
            have hN2 := hN1.keep (w' := x.W) (fun b _ hb _ => x.h.block b hb)
            have hset2 : SetAt x.W wm.heap.size ((xs ++ [(p1[0], p2[0])]).map encP) := by
              obtain ⟨es', clock, hh, hr⟩ := hset1
              exact ⟨es', clock, (x.h.block _ (by omega)).trans hh, hr⟩
            have hs2 : w1.heap.size ≤ x.W.heap.size := x.h.size
            generalize x.W = W3 at hb2 hk0 hk1 hN2 hset2 hs2 ⊢
            clear hm0 hm1 hm2 hm3 hp1 hp2 hset1 hN1 hb1 x
            have hna := hN2.node a _ HA.out
            have hc1 : W3.cell? ⟨G + 1 + a, 1, none⟩ = some (V a) := by have := hna.cell (i := 1) (by omega); simpa using this
            have hrow := (hN2.own a (by have := HLB.out; omega)).alloc (.cells #[.pointer (some ⟨G + 1 + b, 0, none⟩)] 123)
            have hSl : (S a).length ≤ 16 := by have h1 := hN2.len a (by have := HLB.out; omega); simp [ebs] at h1; omega
            have hmid := hN2.mid
            have hnl : G + 1 + a < W3.heap.size := hna.lt
            have hbase : wm.heap.size + 1 ≤ W3.heap.size := by omega
            have HMID := Lib.hid hmid; clear hmid
            obtain ⟨i0, hi, hz0, hz1, hz2⟩ := info_parts nodeInfo
            have HI := Lib.hid hi; have HZ0 := Lib.hid hz0; have HZ1 := Lib.hid hz1; have HZ2 := Lib.hid hz2
            have HNA := Lib.hid hna; have HROW := Lib.hid hrow
            clear hi hz0 hz1 hz2 hna hrow
            have HOB : Hid (some (G + 1 + a) ≠ (V a).ownBlock) := Lib.hid fun e => by
              have h1 := (ownBlock_lt (hN2.own a (by have := HLB.out; omega)) e.symm).1
              have := HMID.out; have := HLB.out; omega
            have A1 : Hid (∀ (j : Nat) (u : Value), [Value.pointer (some ⟨G + 1 + b, 0, none⟩)][j]? = some u → (W3.alloc (.cells #[.pointer (some ⟨G + 1 + b, 0, none⟩)] 123)).cell? ((⟨W3.heap.size, 0, none⟩ : Addr).add j) = some u) := Lib.hid (by
              intro j u hu
              match j, hu with
              | 0, hu => injection hu with hu; subst hu; simp [Addr.add])
            have A2 : Hid (∀ u ∈ [Value.pointer (some ⟨G + 1 + b, 0, none⟩)], u.oneCell' = true) := Lib.hid (by
              intro u hu; simp at hu; subst hu; rfl)
            have A5 : wm.heap.size + 1 ≤ (W3.alloc (.cells #[.pointer (some ⟨G + 1 + b, 0, none⟩)] 123)).heap.size := by simp; omega
            go_wp2_with (at_builtin; refine wpList_append_lies _ rfl _ _ 124 rfl (wm.heap.size + 1) 123 i0 (.pointer none) 1 8 Tryz.underlying124 HI.out HZ0.out HZ1.out HZ2.out rfl (by decide) _ _ _ rfl HROW.out ⟨W3.heap.size, 0, none⟩ 1 1 [.pointer (some ⟨G + 1 + b, 0, none⟩)] rfl rfl A1.out A2.out (by decide) (by unfold maxLen; omega) (by omega) A5 _ rfl ?_; intro fg fcap w5 hown5 hgr5 hat5 hlt5; have hn5 := (HNA.out.alloc (.cells #[.pointer (some ⟨G + 1 + b, 0, none⟩)] 123)).of_block (hgr5.block _ (by simp; omega) HOB.out); have hc5 := hn5.cell (i := 1) (by omega); have hf5 := hn5.frozen 1; clear hn5)
            have hat5' : (Value.slice (some ⟨fg, 0, none⟩) ((S a).length + 1) fcap).ownBlock = (V a).ownBlock ∨ ∃ f, (Value.slice (some ⟨fg, 0, none⟩) ((S a).length + 1) fcap).ownBlock = some f ∧ W3.heap.size ≤ f := by
              rcases hat5 with h | h
              · exact .inl h.symm
              · exact .inr ⟨fg, rfl, by rw [h]; simp⟩
            have hkeep5 : ∀ c, c < W3.heap.size → some c ≠ (V a).ownBlock → w5.heap[c]? = W3.heap[c]? := fun c h1 h2 => (hgr5.block c (by simp; omega) h2).trans (Below.heap_alloc _ _ _ h1)
            have hsz5 : W3.heap.size ≤ w5.heap.size := by have := hgr5.size; simp at this; omega
            have HL5 : ∀ c, c ≤ wm.heap.size → some c ≠ (V a).ownBlock := fun c hc e => by have := (ownBlock_lt (hN2.own a (by have := HLB.out; omega)) e.symm).1; omega
            have hfin := hN2.step HS.out.2.2.2 HA.out HB.out (v := .slice (some ⟨fg, 0, none⟩) ((S a).length + 1) fcap) (w1 := w5) (w' := w5.setCell ⟨G + 1 + a, 1, none⟩ (.slice (some ⟨fg, 0, none⟩) ((S a).length + 1) fcap)) hown5 hat5' (fun c _ h2 _ h4 => hkeep5 c h2 h4) rfl
            have e1 : (ebs es).take (k + 1) = (ebs es).take k ++ [([p1[0]], [p2[0]])] := by rw [List.take_add_one, HG.out]; rfl
            have hfar : ∀ c, c ≤ w.heap.size → (w5.setCell ⟨G + 1 + a, 1, none⟩ (.slice (some ⟨fg, 0, none⟩) ((S a).length + 1) fcap)).heap[c]? = W3.heap[c]? := fun c hc =>
              (Below.heap_setCell _ _ _ _ (by simp only; omega)).trans (hkeep5 c (by omega) (HL5 c (by omega)))
            have hset5 : SetAt (w5.setCell ⟨G + 1 + a, 1, none⟩ (.slice (some ⟨fg, 0, none⟩) ((S a).length + 1) fcap)) wm.heap.size ((xs ++ [(p1[0], p2[0])]).map encP) := by
              obtain ⟨es', clock, hh, hr⟩ := hset2
              exact ⟨es', clock, (Below.heap_setCell _ _ _ _ (by have := HMID.out; have := HLB.out; simp only; omega)).trans ((hkeep5 _ (by omega) (HL5 _ (Nat.le_refl _))).trans hh), hr⟩
            have hb5 : Below w.heap.size w (w5.setCell ⟨G + 1 + a, 1, none⟩ (.slice (some ⟨fg, 0, none⟩) ((S a).length + 1) fcap)) :=
              ⟨hgr5.os.trans hb2.os, hgr5.tape.trans hb2.tape, hgr5.output.trans hb2.output, by simp [World.setCell]; have := hb2.size; omega, fun c hc => (hfar c (by omega)).trans (hb2.block c hc)⟩
            have HE1 := Lib.hid e1
            have hq0 := (World.cell?_of_block (a := ⟨w.heap.size, 0, none⟩) (hfar w.heap.size (Nat.le_refl _))).trans hk0
            have hq1 := (World.cell?_of_block (a := ⟨w.heap.size, 1, none⟩) (hfar w.heap.size (Nat.le_refl _))).trans hk1
            clear e1 hfar hkeep5 hat5' HL5 hat5 hgr5 hown5 hc5 hf5 hset2 hN2
            go_roundw
            case rel =>
              refine ⟨k + 1, (fun i => if i = a then S a ++ [b] else S i), (fun i => if i = a then .slice (some ⟨fg, 0, none⟩) ((S a).length + 1) fcap else V i), xs ++ [(p1[0], p2[0])], by omega, by go_num, hb5, hq0, hq1, by simp [World.setCell]; omega, hset5, fun x y => ?_, ?_⟩
              · rw [HE1.out, List.mem_append, List.mem_append, ← HXS.out x y]; simp
              · rw [HE1.out]; exact hfin
            case measure => simp [intOf]; omega
        · have hN' : NodesAt G wm.heap.size wr B.data.toList (ebs es) S V := by
            have h := hN
            rw [List.take_of_length_le (by simp [ebs]; omega)] at h
            exact h
          clear hN hset HXS
          go_wp2
          go_ret
          exact ⟨G, wm.heap.size, S, V, by rw [HLB.out]; rfl, by omega, hN', hz, hb⟩

end Go.Proofs.YtpeafheljcjlhaaGreat
