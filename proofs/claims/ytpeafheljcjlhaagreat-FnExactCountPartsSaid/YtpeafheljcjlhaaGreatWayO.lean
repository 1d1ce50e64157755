/- The way order by the program: impl.wayOrder. -/
import Derived.Test.YtpeafheljcjlhaaGreatWay
import Derived.Test.YtpeafheljcjlhaaGreatEntry
import Derived.Laws.EntriesVeiled
import Derived.Deep.RegionHeld3
namespace Go.Proofs.YtpeafheljcjlhaaGreat
open Go.RowKit Go.Shelf


set_option maxRecDepth 100000 in
set_option maxHeartbeats 1000000 in
/-- impl.wayOrder -/
theorem wayOrder_any (B : ByteArray) (A : Option Addr) (cap : Nat) (es : List (ByteArray × ByteArray)) (w : World) (hE : EdgesIn w w.heap.size A es) (hl : es.length ≤ 100) (hL : Lets B.data.toList es) (hI : Into B.data.toList (ebs es)) (h8 : B.data.toList.length ≤ 8) (hm : entry B.data.toList ∈ B.data.toList) (hB1 : 1 ≤ B.size) (hBm : B.size ≤ maxLen) (hent : B.extract 0 1 = ⟨#[entry B.data.toList]⟩) :
    Calls Tryz.prog 93 #[.agg #[.string B, .slice A es.length cap]] w fun e w' => e = .returned (.string ⟨(orderE B.data.toList (ebs es)).toArray⟩) ∧ Below w.heap.size w w' := by
  have hmm := @run_makeMap Tryz.prog
  go_enter Tryz.func93, Tryz.ntmps93
  go_wp2_with fail
  clear hmm
  simp only [Nat.add_assoc, Nat.reduceAdd]
  obtain ⟨W0, hW0⟩ : ∃ W0, W0 = ((((w.alloc (.cells #[.string B, .slice A es.length cap] 31)).alloc (.cells #[.string ⟨#[]⟩] 9)).alloc (.map #[] 0)).alloc (.cells #[.map (some (w.heap.size + 2))] 107)).alloc
    (.cells #[.func (.func 119) #[] #[.pointer (some ⟨w.heap.size + 3, 0, none⟩), .pointer (some ⟨w.heap.size, 0, none⟩), .pointer (some ⟨w.heap.size + 4, 0, none⟩), .pointer (some ⟨w.heap.size + 1, 0, none⟩)]] 127) := ⟨_, rfl⟩
  have hz0 : W0.heap.size = w.heap.size + 5 := by rw [hW0]; simp
  have hb0 : Below w.heap.size w W0 := by
    rw [hW0]
    exact (((((Below.refl _ _).alloc (Nat.le_refl _) _).alloc (by simp) _).alloc (by simp; omega) _).alloc (by simp; omega) _).alloc (by simp; omega) _
  have s1 : (w.alloc (.cells #[.string B, .slice A es.length cap] 31)).heap.size = w.heap.size + 1 := by simp
  have b0 : W0.heap[w.heap.size]? = some (.cells #[.string B, .slice A es.length cap] 31 (0, 0)) := by
    rw [hW0]; exact alloc_old _ _ (alloc_old _ _ (alloc_old _ _ (alloc_old _ _ (heap_alloc_new _ _))))
  have b1 : W0.heap[w.heap.size + 1]? = some (.cells #[.string ⟨#[]⟩] 9 (0, 0)) := by
    rw [hW0]; exact alloc_old _ _ (alloc_old _ _ (alloc_old _ _ (alloc_at _ _ (by simp))))
  have b2 : W0.heap[w.heap.size + 2]? = some (.map #[] 0) := by
    rw [hW0]; exact alloc_old _ _ (alloc_old _ _ (alloc_at _ _ (by simp)))
  have b3 : W0.heap[w.heap.size + 3]? = some (.cells #[.map (some (w.heap.size + 2))] 107 (0, 0)) := by
    rw [hW0]; exact alloc_old _ _ (alloc_at _ _ (by simp))
  have b4 : W0.heap[w.heap.size + 4]? = some (.cells #[.func (.func 119) #[] (capsW w.heap.size)] 127 (0, 0)) := by
    rw [hW0]; exact alloc_at _ _ (by simp)
  rw [← hW0]
  clear hW0
  have hH0 : HomeW W0 w.heap.size B A es.length cap := by
    exact ⟨⟨by simp [World.cell?, b0], by simp [World.cell?, b0]⟩, by simp [World.cell?, b3], by simp [World.cell?, b4], by omega⟩
  have hG0 : GoneAt W0 w.heap.size ([], []) := by
    exact ⟨⟨#[], 0, b2, by simp, by simp⟩, b1⟩
  have hcall : ∀ W, Below W0.heap.size W0 W → Calls Tryz.prog 119 #[.string (B.extract 0 1), .pointer (some ⟨w.heap.size + 3, 0, none⟩), .pointer (some ⟨w.heap.size, 0, none⟩), .pointer (some ⟨w.heap.size + 4, 0, none⟩), .pointer (some ⟨w.heap.size + 1, 0, none⟩)] W
      (WentPost w.heap.size (visit (ebs es) 8 (entry B.data.toList) ([], [])) W) := fun W h => by
    have hk : Kept3 (w.heap.size + 2) (w.heap.size + 1) (w.heap.size + 1) W0 W := Kept3.below h (Nat.le_refl _)
    have := goThrough_any w.heap.size B A cap es B.data.toList hl hL hI h8 8 (entry B.data.toList) ([], []) W (hH0.keep hk (.inr rfl)) (hE.below (hb0.trans (h.mono hb0.size))) (hG0.below h (by omega)) ⟨by simp, by simp, by simp⟩ hm (by simp) (by simpa using h8)
    rw [hent]
    simpa only [capsW, List.append_toArray, List.cons_append, List.nil_append] using this
  have n0 := hH0.net.1; have n1 := hH0.net.2; have n4 := hH0.go
  have hS : ∀ W, Below W0.heap.size W0 W → (W.cell? ⟨w.heap.size, 0, none⟩ = some (.string B) ∧ W.cell? ⟨w.heap.size, 1, none⟩ = some (.slice A es.length cap) ∧ W.cell? ⟨w.heap.size + 4, 0, none⟩ = some (.func (.func 119) #[] #[.pointer (some ⟨w.heap.size + 3, 0, none⟩), .pointer (some ⟨w.heap.size, 0, none⟩), .pointer (some ⟨w.heap.size + 4, 0, none⟩), .pointer (some ⟨w.heap.size + 1, 0, none⟩)])) :=
    fun W h => ⟨(h.cell (by simp only; omega)).trans n0, (h.cell (by simp only; omega)).trans n1, (h.cell (by simp only; omega)).trans n4⟩
  have hS5 : ∀ W W', Below W0.heap.size W0 W → Kept3 (w.heap.size + 2) (w.heap.size + 1) (w.heap.size + 1) W W' → (W'.cell? ⟨w.heap.size, 0, none⟩ = some (.string B) ∧ W'.cell? ⟨w.heap.size, 1, none⟩ = some (.slice A es.length cap) ∧ W'.cell? ⟨w.heap.size + 4, 0, none⟩ = some (.func (.func 119) #[] #[.pointer (some ⟨w.heap.size + 3, 0, none⟩), .pointer (some ⟨w.heap.size, 0, none⟩), .pointer (some ⟨w.heap.size + 4, 0, none⟩), .pointer (some ⟨w.heap.size + 1, 0, none⟩)])) :=
    fun W W' h k => by
      have := hH0.keep (Kept3.trans (Kept3.below h (Nat.le_refl _)) k) (.inr rfl)
      exact ⟨this.net.1, this.net.2, this.go⟩
  have HSS5 := Lib.hid hS5; clear hS5
  have HSS := Lib.hid hS; have HCALL := Lib.hid hcall; have HB0 := Lib.hid hb0; have HH0 := Lib.hid hH0; have HZ0 := Lib.hid hz0
  clear hS hcall hb0 hH0 hG0 b0 b1 b2 b3 b4 s1 n0 n1 n4 hz0 hE hL hI hent hm h8
  go_region_held3 (fun W => W.cell? ⟨w.heap.size, 0, none⟩ = some (.string B) ∧ W.cell? ⟨w.heap.size, 1, none⟩ = some (.slice A es.length cap) ∧ W.cell? ⟨w.heap.size + 4, 0, none⟩ = some (.func (.func 119) #[] #[.pointer (some ⟨w.heap.size + 3, 0, none⟩), .pointer (some ⟨w.heap.size, 0, none⟩), .pointer (some ⟨w.heap.size + 4, 0, none⟩), .pointer (some ⟨w.heap.size + 1, 0, none⟩)]))
    (first
      | exact hs5
      | exact HSS.out _ (Below.refl _ _).drew
      | exact HSS.out _ ((Below.refl _ _).drew.trans hb4))
    (first
      | (go_at_call 61; refine (entryOf_any B _ _ hB1 hBm).mono ?_; rintro e w4 ⟨rfl, hb4⟩)
      | (go_at_call 119; refine (HCALL.out _ ((Below.refl _ _).drew.trans hb4)).mono ?_; rintro e w5 ⟨⟨v5, rfl⟩, hG5, hB5, hK5⟩
         have hs5 := HSS5.out _ _ ((Below.refl _ _).drew.trans hb4) hK5))
  rename_i hHeld
  have hfin : Below w.heap.size w w5 := HB0.out.trans ((((Below.refl _ _).drew.trans hb4).mono HB0.out.size).trans hB5)
  have hord := hG5.order
  rw [show (visit (ebs es) 8 (entry B.data.toList) ([], [])).2 = orderE B.data.toList (ebs es) from rfl] at hord
  obtain ⟨o, ho⟩ : ∃ o, orderE B.data.toList (ebs es) = o := ⟨_, rfl⟩
  rw [ho] at hord
  have HO := Lib.hid ho
  have co : w5.cell? ⟨w.heap.size + 1, 0, none⟩ = some (.string ⟨o.toArray⟩) := by simp [World.cell?, hord]
  have HF := Lib.hid hfin
  clear hG5 hB5 hK5 hs5 hord ho hfin hHeld hb4
  go_wp2_with fail
  go_ret
  exact ⟨by rw [HO.out]; rfl, HF.out⟩

end Go.Proofs.YtpeafheljcjlhaaGreat
