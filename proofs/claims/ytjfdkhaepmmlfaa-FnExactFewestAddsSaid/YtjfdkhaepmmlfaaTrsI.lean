/- An iterator over the trees of a net is made: impl.treesFrom. -/
import Derived.Test.YtjfdkhaepmmlfaaBstP
namespace Go.Proofs.Ytjfdkhaepmmlfaa
open Go.RowKit

/-- what the iterator stands on: a net, labels, the edges so far, and the place of the next -/
structure TrsBox (W : World) (b : Nat) (B : ByteArray) (A : Option Addr) (n cap : Nat) (f : Nat → Nat) (t : ByteArray) (i : Nat) : Prop where
  net : Two W b B A n cap
  lab : W.rowIs (b + 1) 108 8 (fun k => .int .i64 ((f k : Nat) : Int))
  txt : W.cell? ⟨b + 2, 0, none⟩ = some (.string t)
  pos : W.cell? ⟨b + 3, 0, none⟩ = some (.int .i64 i)
  lt : b + 3 < W.heap.size
theorem TrsBox.below {W W' : World} {b : Nat} {B : ByteArray} {A : Option Addr} {n cap : Nat} {f : Nat → Nat} {t : ByteArray} {i : Nat} (h : TrsBox W b B A n cap f t i) (k : Below W.heap.size W W') : TrsBox W' b B A n cap f t i := by
  have hlt := h.lt
  exact ⟨h.net.below k (by omega), h.lab.of_block (k.block _ (by omega)), (k.cell (by simp only; omega)).trans h.txt, (k.cell (by simp only; omega)).trans h.pos, Nat.lt_of_lt_of_le hlt k.size⟩

set_option maxRecDepth 100000 in
set_option maxHeartbeats 2000000 in
/-- impl.treesFrom -/
theorem treesFrom_any (B : ByteArray) (A : Option Addr) (n cap : Nat) (f : Nat → Nat) (t : ByteArray) (i : Nat) (w : World) : Calls Try.prog 74 #[.agg #[.string B, .slice A n cap], arrL f, .string t, .int .i64 i] w fun e w' => e = .returned (.func (.func 103) #[] #[.pointer (some ⟨w.heap.size + 2, 0, none⟩), .pointer (some ⟨w.heap.size, 0, none⟩), .pointer (some ⟨w.heap.size + 3, 0, none⟩), .pointer (some ⟨w.heap.size + 1, 0, none⟩)]) ∧ TrsBox w' w.heap.size B A n cap f t i ∧ Below w.heap.size w w' := by
  obtain ⟨W1, hW1⟩ : ∃ W1, W1 = (w.alloc (.cells #[.string B, .slice A n cap] 30)).alloc (.cells #[.int .i64 ((f 0 : Nat) : Int), .int .i64 ((f 1 : Nat) : Int), .int .i64 ((f 2 : Nat) : Int), .int .i64 ((f 3 : Nat) : Int), .int .i64 ((f 4 : Nat) : Int), .int .i64 ((f 5 : Nat) : Int), .int .i64 ((f 6 : Nat) : Int), .int .i64 ((f 7 : Nat) : Int)] 108) := ⟨_, rfl⟩
  have hb1 : Below w.heap.size w W1 := by rw [hW1]; exact ((Below.refl _ _).alloc (Nat.le_refl _) _).alloc (by simp) _
  have t1 : Two W1 w.heap.size B A n cap := by rw [hW1]; exact ⟨by go_simp, by go_simp⟩
  have hz1 : W1.heap.size = w.heap.size + 2 := by rw [hW1]; simp
  have l1 : W1.rowIs (w.heap.size + 1) 108 8 (fun i => .int .i64 ((f i : Nat) : Int)) := by
    have := arrL_row (w.alloc (.cells #[.string B, .slice A n cap] 30)) f 108
    rw [World.size_alloc] at this
    rw [hW1]; exact this
  unfold arrL
  go_enter Try.func74, Try.ntmps74
  go_wp2_with fail
  rw [← hW1]
  go_ret
  have hk : Below W1.heap.size W1 ((W1.alloc (.cells #[.string t] 9)).alloc (.cells #[.int .i64 i] 3)) := ((Below.refl _ _).alloc (Nat.le_refl _) _).alloc (by simp) _
  refine ⟨rfl, ⟨t1.below hk (by omega), l1.of_block (hk.block _ (by omega)), ?_, ?_, by simp; omega⟩, hb1.trans (hk.mono hb1.size)⟩
  · rw [← hz1]; go_simp
  · rw [show w.heap.size + 3 = W1.heap.size + 1 by omega]; go_simp

end Go.Proofs.Ytjfdkhaepmmlfaa
