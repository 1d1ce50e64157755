/- The name of an edge; a way that goes on. -/
import Derived.Test.YtghdjmjodgbghaaPaths
import Derived.Test.YtghdjmjodgbghaaEdgeName
import Derived.Deep.RegionHeld3
namespace Go.Proofs.Ytghdjmjodgbghaa
open Go.RowKit

set_option maxRecDepth 100000 in
set_option maxHeartbeats 2000000 in
/-- (impl.way).along -/
theorem along_any (b p B : ByteArray) (A : Option Addr) (cap : Nat) (es : List (ByteArray × ByteArray)) (k : Nat) (w : World) (hE : EdgesIn w w.heap.size A es) (hl : es.length ≤ 20) (hk : k < es.length) (hp : p.size ≤ 1048576) :
    Calls Try.prog 83 #[.agg #[.string b, .string p], .agg #[.string B, .slice A es.length cap], .int .i64 k] w fun e w' => e = .returned (.agg #[.string es[k].2, .string (p ++ ⟨#[nameOf k]⟩)]) ∧ Below w.heap.size w w' := by
  obtain ⟨eb, eo, rfl, hlow, h1, h2⟩ := hE k hk
  have hb1 : Below w.heap.size w ((w.alloc (.cells #[.string b, .string p] 83)).alloc (.cells #[.string B, .slice (some ⟨eb, eo, none⟩) es.length cap] 29)) := ((Below.refl _ _).alloc (Nat.le_refl _) _).alloc (by simp) _
  have c0 : ((w.alloc (.cells #[.string b, .string p] 83)).alloc (.cells #[.string B, .slice (some ⟨eb, eo, none⟩) es.length cap] 29)).cell? ⟨w.heap.size, 1, none⟩ = some (.string p) := by go_simp
  have c1 : ((w.alloc (.cells #[.string b, .string p] 83)).alloc (.cells #[.string B, .slice (some ⟨eb, eo, none⟩) es.length cap] 29)).cell? ⟨w.heap.size + 1, 1, none⟩ = some (.slice (some ⟨eb, eo, none⟩) es.length cap) := by go_simp
  have hz1 : ((w.alloc (.cells #[.string b, .string p] 83)).alloc (.cells #[.string B, .slice (some ⟨eb, eo, none⟩) es.length cap] 29)).heap.size = w.heap.size + 2 := by simp
  have g2 := (hb1.cell (p := ⟨eb, eo + k * 2 + 1, none⟩) hlow).trans h2
  clear h1 h2 hE
  go_enter Try.func83, Try.ntmps83
  go_wp2_with fail
  generalize hW1 : (w.alloc (.cells #[.string b, .string p] 83)).alloc (.cells #[.string B, .slice (some ⟨eb, eo, none⟩) es.length cap] 29) = w1 at hb1 c0 c1 hz1 g2 ⊢
  clear hW1
  have hb2 : Below (w.heap.size + 2) w1 (w1.alloc (.cells #[.string ⟨#[]⟩, .string ⟨#[]⟩] 83)) := (Below.refl _ _).alloc (by omega) _
  have hr2 : (w1.alloc (.cells #[.string ⟨#[]⟩, .string ⟨#[]⟩] 83)).rowIs (w.heap.size + 2) 83 2 (fun _ => .string ⟨#[]⟩) := by
    have h := World.rowIs_alloc w1 #[.string ⟨#[]⟩, .string ⟨#[]⟩] 83 (fun _ => .string ⟨#[]⟩) (fun i hi => by
      match i, hi with
      | 0, _ => rfl
      | 1, _ => rfl)
    rwa [hz1] at h
  generalize hW2 : w1.alloc (.cells #[.string ⟨#[]⟩, .string ⟨#[]⟩] 83) = w2 at hb2 hr2 ⊢
  clear hW2
  have hS : ∀ W, Below (w.heap.size + 2) w1 W → (W.cell? ⟨w.heap.size, 1, none⟩ = some (.string p) ∧ W.cell? ⟨w.heap.size + 1, 1, none⟩ = some (.slice (some ⟨eb, eo, none⟩) es.length cap) ∧ W.cell? ⟨eb, eo + k * 2 + 1, none⟩ = some (.string es[k].2) ∧ Below (w.heap.size + 2) w1 W) :=
    fun W h => ⟨(h.cell (by simp only; omega)).trans c0, (h.cell (by simp only; omega)).trans c1, (h.cell (by simp only; omega)).trans g2, h⟩
  have hr3 := hr2
  have q0 := hr3.cell (i := 0) (by omega); have q1 := hr3.cell (i := 1) (by omega)
  have f0 := hr3.frozen 0; have f1 := hr3.frozen 1
  have HSS := Lib.hid hS; have HB2 := Lib.hid hb2; have HB1 := Lib.hid hb1
  have hadd : ¬ 9223372036854775807 < p.size + (⟨#[nameOf k]⟩ : ByteArray).size := by
    have : (⟨#[nameOf k]⟩ : ByteArray).size = 1 := rfl
    omega
  have hadd2 : ¬ 9223372036854775807 < p.size + 1 := by omega
  have hadd3 : p.size + 1 ≤ 9223372036854775807 := by omega
  have hki : (k : Int) < (es.length : Int) := by omega
  clear hS hr2 hr3 hb2 c0 c1 g2 hb1
  go_region_held3 (fun W => W.cell? ⟨w.heap.size, 1, none⟩ = some (.string p) ∧ W.cell? ⟨w.heap.size + 1, 1, none⟩ = some (.slice (some ⟨eb, eo, none⟩) es.length cap) ∧ W.cell? ⟨eb, eo + k * 2 + 1, none⟩ = some (.string es[k].2) ∧ Below (w.heap.size + 2) w1 W)
    (first
      | exact HSS.out _ HB2.out.drew
      | exact HSS.out _ ((HB2.out.drew.setCell (by simp) _).setCell (by simp) _))
    (first
      | (go_at_call 99; refine (edgeName_any k (by omega) _).mono ?_; rintro e w4 ⟨rfl, rfl⟩))
  rename_i hHeld
  have hfin := hHeld.2.2.2
  clear hHeld
  go_wp2_with fail
  refine bodyPost_ret (v := .agg #[.string es[k].2, .string (p ++ ⟨#[nameOf k]⟩)]) (by simp [results, Try.results83, go_sem, q0, q1]) rfl ⟨rfl, HB1.out.trans (hfin.mono (by omega))⟩

end Go.Proofs.Ytghdjmjodgbghaa
