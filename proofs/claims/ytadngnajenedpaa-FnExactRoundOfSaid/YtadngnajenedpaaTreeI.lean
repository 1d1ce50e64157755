/- Trees by the program: IsTree. -/
import Derived.Test.YtadngnajenedpaaUnionJ
import Derived.Deep.RegionHeld3
namespace Go.Proofs.Ytadngnajenedpaa
open Go.RowKit

set_option maxRecDepth 100000 in
set_option maxHeartbeats 4000000 in
/-- impl.joinEnds -/
theorem joinEnds_any (B : ByteArray) (A : Option Addr) (cap gcap : Nat) (es : List (ByteArray × ByteArray)) (base R : Nat) (G : Nat → Nat) (par : Nat → Option Nat) (f d : Nat → Nat) (k : Nat) (w : World) (hE : EdgesIn w base A es) (hl : es.length ≤ 1099511627776) (hV : EdgesOk B.data.toList (ebs es)) (h8 : B.size ≤ 8) (hU : Uni w base R B.size G par f d) (hbase : base ≤ w.heap.size) (hk : k < es.length) :
    Calls Try.prog 47 #[.agg #[.string B, .slice A es.length cap], .slice (some ⟨R, 0, none⟩) B.size gcap, .int .i64 k] w fun e w' => e = .returned (.bool (f (endsN B.data.toList (ebs es) k).1 != f (endsN B.data.toList (ebs es) k).2)) ∧ (∃ par' d', Uni w' base R B.size G par' (joinR f (endsN B.data.toList (ebs es) k).1 (endsN B.data.toList (ebs es) k).2) d') ∧ KeepG B.size G w w' := by
  obtain ⟨x, y, i, j, e1, e2, e3, e4, e5, e6, e7⟩ := ends_at hV hk
  rw [e3]
  have hBL : B.data.toList.length = B.size := by simp
  rw [hBL] at e6 e7
  have FB : Hid (∀ (c : UInt8) (W : World), Calls Try.prog 56 #[.agg #[.string B, .slice A es.length cap], .string ⟨#[c]⟩] W fun e w' => e = .returned (.int .i64 (Lib.indexByte B.data.toList c)) ∧ Below W.heap.size W w') := Lib.hid fun c W => by
    have := blockIndex_any B ⟨#[c]⟩ (.slice A es.length cap) W
    simpa [bIdx] using this
  have HI := Lib.hid e4; have HJ := Lib.hid e5
  obtain ⟨eb, eo, rfl, hlow, h1, h2⟩ := hE k hk
  rw [e1] at h1
  rw [e2] at h2
  have hlow' : eb < w.heap.size := by omega
  clear e1 e2 e3 e4 e5 hV hBL hlow hE
  obtain ⟨W0, hW0⟩ : ∃ W0, W0 = (w.alloc (.cells #[.string B, .slice (some ⟨eb, eo, none⟩) es.length cap] 30)).alloc (.cells #[.string ⟨#[x]⟩, .string ⟨#[y]⟩] 72) := ⟨_, rfl⟩
  have hb0 : Below w.heap.size w W0 := by rw [hW0]; exact ((Below.refl _ _).alloc (Nat.le_refl _) _).alloc (by simp) _
  have hc0 : W0.cell? ⟨w.heap.size, 0, none⟩ = some (.string B) := by rw [hW0]; go_simp
  have hc1 : W0.cell? ⟨w.heap.size, 1, none⟩ = some (.slice (some ⟨eb, eo, none⟩) es.length cap) := by rw [hW0]; go_simp
  have hc2 : W0.cell? ⟨w.heap.size + 1, 0, none⟩ = some (.string ⟨#[x]⟩) := by rw [hW0]; go_simp
  have hc3 : W0.cell? ⟨w.heap.size + 1, 1, none⟩ = some (.string ⟨#[y]⟩) := by rw [hW0]; go_simp
  have hz0 : W0.heap.size = w.heap.size + 2 := by rw [hW0]; simp
  have hU0 := hU.below_all hb0
  have hr1 := hU0.row.cell (i := i) e6
  have hr2 := hU0.row.cell (i := j) e7
  have hRl := hU0.row.lt
  have hGl : ∀ m, m < B.size → G m < w.heap.size := fun m hm => hU.lt hm
  have a1 : (0 : Int) ≤ (i : Int) := by omega
  have a2 : (i : Int) < (B.size : Int) := by omega
  have a3 : (0 : Int) ≤ (j : Int) := by omega
  have a4 : (j : Int) < (B.size : Int) := by omega
  have hC : ∀ W, Below W0.heap.size W0 W → (W.cell? ⟨w.heap.size, 0, none⟩ = some (.string B) ∧ W.cell? ⟨w.heap.size, 1, none⟩ = some (.slice (some ⟨eb, eo, none⟩) es.length cap) ∧ W.cell? ⟨w.heap.size + 1, 0, none⟩ = some (.string ⟨#[x]⟩) ∧ W.cell? ⟨w.heap.size + 1, 1, none⟩ = some (.string ⟨#[y]⟩) ∧ W.cell? ⟨R, i, none⟩ = some (.pointer (some ⟨G i, 0, none⟩)) ∧ W.cell? ⟨R, j, none⟩ = some (.pointer (some ⟨G j, 0, none⟩))) := fun W h =>
    ⟨(h.cell (by simp only; omega)).trans hc0, (h.cell (by simp only; omega)).trans hc1, (h.cell (by simp only; omega)).trans hc2, (h.cell (by simp only; omega)).trans hc3, (h.cell (by simp only; omega)).trans hr1, (h.cell (by simp only; omega)).trans hr2⟩
  have hC5 : ∀ W W', Below W0.heap.size W0 W → KeepG B.size G W W' → (W'.cell? ⟨w.heap.size, 0, none⟩ = some (.string B) ∧ W'.cell? ⟨w.heap.size, 1, none⟩ = some (.slice (some ⟨eb, eo, none⟩) es.length cap) ∧ W'.cell? ⟨w.heap.size + 1, 0, none⟩ = some (.string ⟨#[x]⟩) ∧ W'.cell? ⟨w.heap.size + 1, 1, none⟩ = some (.string ⟨#[y]⟩) ∧ W'.cell? ⟨R, i, none⟩ = some (.pointer (some ⟨G i, 0, none⟩)) ∧ W'.cell? ⟨R, j, none⟩ = some (.pointer (some ⟨G j, 0, none⟩))) := fun W W' h k => by
    obtain ⟨g0, g1, g2, g3, g4, g5⟩ := hC W h
    have hs := h.size
    exact ⟨k.cell (by simp only; omega) (fun m hm => by have := hGl m hm; simp only; omega) g0, k.cell (by simp only; omega) (fun m hm => by have := hGl m hm; simp only; omega) g1, k.cell (by simp only; omega) (fun m hm => by have := hGl m hm; simp only; omega) g2, k.cell (by simp only; omega) (fun m hm => by have := hGl m hm; simp only; omega) g3, k.cell (by simp only; omega) (fun m hm => (hU.ne m hm).symm) g4, k.cell (by simp only; omega) (fun m hm => (hU.ne m hm).symm) g5⟩
  have HJN : Hid (∀ W : World, Below W0.heap.size W0 W → Calls Try.prog 84 #[.pointer (some ⟨G i, 0, none⟩), .pointer (some ⟨G j, 0, none⟩)] W fun e w' => e = .returned (.bool (f i != f j)) ∧ (∃ par' d', Uni w' base R B.size G par' (joinR f i j) d') ∧ KeepG B.size G W w') := Lib.hid fun W h =>
    joinP_any base R B.size G par f d i j W e6 e7 (hU0.below_all h)
  have HSS := Lib.hid hC; have HS5 := Lib.hid hC5; have HB0 := Lib.hid hb0
  clear hC hC5 hU hU0 hr1 hr2 hRl hGl hb0 hc0 hc1 hc2 hc3 e6 e7 hbase h8 hl
  go_enter Try.func47, Try.ntmps47
  go_wp2_with fail
  rw [← hW0]
  clear hW0 h1 h2
  go_region_held3 (fun W => W.cell? ⟨w.heap.size, 0, none⟩ = some (.string B) ∧ W.cell? ⟨w.heap.size, 1, none⟩ = some (.slice (some ⟨eb, eo, none⟩) es.length cap) ∧ W.cell? ⟨w.heap.size + 1, 0, none⟩ = some (.string ⟨#[x]⟩) ∧ W.cell? ⟨w.heap.size + 1, 1, none⟩ = some (.string ⟨#[y]⟩) ∧ W.cell? ⟨R, i, none⟩ = some (.pointer (some ⟨G i, 0, none⟩)) ∧ W.cell? ⟨R, j, none⟩ = some (.pointer (some ⟨G j, 0, none⟩)))
    (first
      | exact hs5
      | exact HSS.out _ (Below.refl _ _).drew
      | exact HSS.out _ ((Below.refl _ _).drew.trans hb1)
      | exact HSS.out _ (((Below.refl _ _).drew.trans hb1).trans (hb2.mono hb1.size)))
    (first
      | (go_at_call 84
         have hbb := ((Below.refl W0.heap.size W0).drew.trans hb1).trans (hb2.mono hb1.size)
         refine (HJN.out _ hbb).mono ?_; rintro e w5 ⟨rfl, hU5, hk5⟩
         have hs5 := HS5.out _ _ hbb hk5
         have HU5 := Lib.hid hU5; have HK5 := Lib.hid hk5; have HBB := Lib.hid hbb
         clear hU5 hk5 hbb)
      | (go_at_call 56; have tok := w1; clear tok; refine (FB.out y _).mono ?_; rw [HJ.out]; rintro e w2 ⟨rfl, hb2⟩)
      | (go_at_call 56; refine (FB.out x _).mono ?_; rw [HI.out]; rintro e w1 ⟨rfl, hb1⟩))
  go_wp2_with fail
  go_ret
  exact ⟨rfl, HU5.out, (KeepG.of_below (HB0.out.trans (HBB.out.mono HB0.out.size))).trans HK5.out⟩

end Go.Proofs.Ytadngnajenedpaa
