/- Bytes that came in, read. -/
import Derived.Test.YtkclbjgnaichhaaPick
import Derived.Lib.SmallJoins
namespace Go.Proofs.Ytkclbjgnaichhaa
open Go.ChangeShapes Go.WideShapes Go.ChangeAt Go.RowKit

variable {H : Type} {enc : TypeId × Value → H} {W : World} {spare : Nat → Bool} {held : Bool}

set_option maxRecDepth 100000 in
/-- bytes that came in, read -/
theorem open_bytesS {v : Value} {d : DataW H} {p : List MemPlace} (hv : Value.okWide Try.prog W .any 0 22 v) (h : DataW.Trod enc Try.prog W 0 spare held 22 v d p) :
    ∃ (A : Option Addr) (cap : Nat) (xs : List UInt8), v = .slice A xs.length cap ∧ BytesIn W W.heap.size A xs ∧ xs.length ≤ maxLen ∧ xs.length ≤ cap := by
  obtain ⟨a0, len0, cap0, rfl⟩ := okWide_slice Try.underlying22 hv
  obtain ⟨fuel, hf⟩ := h
  rcases open_ints Try.underlying22 Try.underlying5 (by kernel_rfl) hf with ⟨e1, _⟩ | ⟨a, len, cap, zs, e1, _, hl, hm, hz, _, hc, hw⟩
  · simp [Value.cells] at e1
    obtain ⟨rfl, rfl, rfl⟩ := e1
    exact ⟨none, 0, [], rfl, fun k hk => absurd hk (by simp), by simp, by simp⟩
  · simp [Value.cells] at e1
    obtain ⟨rfl, rfl, rfl⟩ := e1
    have hzl : len0 ≤ zs.length := by rw [hz]; split <;> omega
    obtain ⟨b, o, sp⟩ := a
    refine ⟨some ⟨b, o, sp⟩, cap0, (zs.take len0).map fun z => z.toNat.toUInt8, by simp [Nat.min_eq_left hzl], fun k hk => ?_, by simp; omega, by simp; omega⟩
    have hk' : k < len0 := by simp at hk; omega
    have c0 := hc k (by omega)
    have hsp : sp = none := by
      have h := World.cell?_spot (hc 0 (by omega))
      simpa [Addr.add] using h
    subst hsp
    have ha : (⟨b, o, none⟩ : Addr).add k = ⟨b, o + k, none⟩ := by unfold Addr.add; split <;> simp_all
    rw [ha] at c0
    refine ⟨b, o, rfl, World.block_lt_of_cell? W ⟨b, o + k, none⟩ c0, ?_⟩
    rw [c0]
    have hkz : k < zs.length := by omega
    have hwk := hw zs[k] (List.getElem_mem hkz)
    have hmn : IntKind.u8.min = 0 := rfl
    have hmx : IntKind.u8.max = 255 := rfl
    simp only [Lit.wf, Bool.and_eq_true, decide_eq_true_eq, hmn, hmx] at hwk
    have e : ((zs[k].toNat.toUInt8).toNat : Int) = zs[k] := by
      have h1 : zs[k].toNat < 256 := by omega
      simp [Nat.toUInt8, UInt8.toNat_ofNat', Nat.mod_eq_of_lt h1]
      omega
    have hg : zs.getD k 0 = zs[k] := by simp [List.getD, hkz]
    rw [hg]
    simp only [List.getElem_map, List.getElem_take]
    rw [e]

end Go.Proofs.Ytkclbjgnaichhaa
