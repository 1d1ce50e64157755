/- A slice of numbers: read, copied. -/
import Derived.Test.YtadngnajenedpaaIntsB
import Derived.Test.YtadngnajenedpaaOpen
namespace Go.Proofs.Ytadngnajenedpaa
open Go.ChangeShapes Go.WideShapes Go.ChangeAt Go.RowKit Go.Deep Go.Joins

set_option maxRecDepth 100000 in
set_option maxHeartbeats 2000000 in
/-- laws.toIntS -/
theorem toIntS_any (A : Option Addr) (cap : Nat) (xs : List Int) (w : World) (hX : IntsIn w w.heap.size A xs) (hl : xs.length ≤ 1099511627776) :
    Calls Try.prog 14 #[.slice A xs.length cap] w (IntsPost xs w) := by
  have hmk := fun W => make_ints xs.length hl W
  go_enter Try.func14, Try.ntmps14
  go_wp2
  clear hmk
  obtain ⟨g, hg⟩ : ∃ g, w.heap.size = g := ⟨_, rfl⟩
  have hrow : ∃ f, (w.alloc (.cells (madeCells #[.int .i64 0] xs.length) 3)).rowIs g 3 xs.length f := by
    have h := World.rowIs_alloc w (madeCells #[.int .i64 0] xs.length) 3 (fun i => (madeCells #[.int .i64 0] xs.length).getD i undef) (fun i hi => by simp [hi])
    rw [size_madeCells, hg] at h
    exact ⟨_, h⟩
  have hb3 : Below g w (w.alloc (.cells (madeCells #[.int .i64 0] xs.length) 3)) := (Below.refl _ _).alloc (by omega) _
  have hs3 : (w.alloc (.cells (madeCells #[.int .i64 0] xs.length) 3)).heap.size = g + 1 := by simp [hg]
  rw [hg] at hX ⊢
  generalize hW3 : w.alloc (.cells (madeCells #[.int .i64 0] xs.length) 3) = w3 at hrow hb3 hs3 ⊢
  clear hW3
  have HS3 := Lib.hid hs3; have HGG := Lib.hid hg
  clear hs3 hg
  go_loopw [4] (fun i wr => ∃ k : Nat, k ≤ xs.length ∧ i = .int .i64 k ∧ Below g w wr ∧ (∃ f, wr.rowIs g 3 xs.length f) ∧ g < wr.heap.size ∧
    ∀ i, (h : i < xs.length) → i < k → wr.cell? ⟨g, i, none⟩ = some (.int .i64 xs[i])) (fun i _ => xs.length - (intOf i).toNat)
  case atStart => exact ⟨0, Nat.zero_le _, rfl, hb3, hrow, by have := HS3.out; omega, by intro i _ h; omega⟩
  case round =>
    clear hb3 hrow
    obtain ⟨k, hk, rfl, hb, ⟨f, hrow⟩, hz, hcs⟩ := hrel
    have HR := Lib.hid hrow; have HCS := Lib.hid hcs
    clear hcs
    by_cases hlt : k < xs.length
    · obtain ⟨eb, eo, rfl, hlow, h1⟩ := (hX.below hb) k hlt
      have hst1 := hrow.cell (i := k) hlt
      have hsf1 := hrow.frozen k
      clear hrow
      go_wp2_with fail
      have hcsn : ∀ i, (h : i < xs.length) → i < k + 1 → (wr.setCell ⟨g, k, none⟩ (.int .i64 xs[k])).cell? ⟨g, i, none⟩ = some (.int .i64 xs[i]) := by
        intro i hi hik
        by_cases hik' : i = k
        · subst hik'
          exact World.cell?_setCell_same' _ _ _ (by rw [hst1]; rfl)
        · exact (World.cell?_setCell_other _ _ _ _ (by intro e; injection e with _ e; omega)).trans (HCS.out i hi (by omega))
      have HCN := Lib.hid hcsn; clear hcsn hst1 hsf1
      go_roundw
      case rel => exact ⟨k + 1, by omega, by go_num, hb.setCell (by simp only; omega) _, ⟨_, HR.out.set _ _⟩, by simp [World.setCell]; omega, HCN.out⟩
      case measure => simp [intOf]; omega
    · clear hrow
      go_wp2_with fail
      go_ret
      refine ⟨g, rfl, fun i hi => ⟨g, 0, rfl, hz, ?_⟩, by rw [HGG.out]; exact hb⟩
      rw [Nat.zero_add]; exact HCS.out i hi (by omega)

variable {H : Type} {enc : TypeId × Value → H} {W : World} {spare : Nat → Bool} {held : Bool}

set_option maxRecDepth 100000 in
/-- numbers that came in, read -/
theorem open_intS {v : Value} {d : DataW H} {p : List MemPlace} (hv : Value.okWide Try.prog W .any 0 25 v) (h : DataW.Trod enc Try.prog W 0 spare held 25 v d p) :
    ∃ (A : Option Addr) (cap : Nat) (xs : List Int), v = .slice A xs.length cap ∧ IntsIn W W.heap.size A xs ∧ xs.length ≤ maxLen := by
  obtain ⟨a0, len0, cap0, rfl⟩ := okWide_slice Try.underlying25 hv
  obtain ⟨fuel, hf⟩ := h
  rcases open_ints Try.underlying25 Try.underlying3 (by kernel_rfl) hf with ⟨e1, _⟩ | ⟨a, len, cap, zs, e1, _, hl, hm, hz, _, hc, _⟩
  · simp [Value.cells] at e1
    obtain ⟨rfl, rfl, rfl⟩ := e1
    exact ⟨none, 0, [], rfl, fun k hk => absurd hk (by simp), by simp⟩
  · simp [Value.cells] at e1
    obtain ⟨rfl, rfl, rfl⟩ := e1
    have hzl : len0 ≤ zs.length := by rw [hz]; split <;> omega
    obtain ⟨b, o, sp⟩ := a
    refine ⟨some ⟨b, o, sp⟩, cap0, zs.take len0, by simp [Nat.min_eq_left hzl], fun k hk => ?_, by simp; omega⟩
    have hk' : k < len0 := by simp at hk; omega
    have c0 := hc k (by omega)
    have hsp : sp = none := by
      have h := World.cell?_spot (hc 0 (by omega))
      simpa [Addr.add] using h
    subst hsp
    rw [add_none] at c0
    refine ⟨b, o, rfl, World.block_lt_of_cell? W ⟨b, o + k, none⟩ c0, ?_⟩
    rw [c0]
    have hkz : k < zs.length := by omega
    simp [List.getD, hkz]

end Go.Proofs.Ytadngnajenedpaa
