/- Names of edges, gathered by the program. -/
import Derived.Test.YtpeafheljcjlhaaGreatNet1
import Derived.Test.YtpeafheljcjlhaaGreatBuild
namespace Go.Proofs.YtpeafheljcjlhaaGreat
open Go.RowKit

theorem cells_snoc (l : List UInt8) {k : Nat} (h : k ≤ 100) : Lib.byteCells (l ++ [nameOf k]) = Lib.byteCells l ++ [.int .u8 (97 + (k : Int))] := by
  simp [Lib.byteCells, nameOf_toNat h]

/-- a builder is one still behind a callee that keeps what lay -/
theorem isBuilder_keeps {T e : TypeId} {B b : Nat} {bs : List Value} {w w' : World} (h : Lib.IsBuilderF T e B b bs w) (hb : Below w.heap.size w w') : Lib.IsBuilderF T e B b bs w' := by
  have one : ∀ p, Lib.BuilderAtF T e B b p bs w → Lib.BuilderAtF T e B b p bs w' := by
    rintro p ⟨hB, v, hbk, ⟨hlen, hown⟩, hne⟩
    refine ⟨hB, v, (hb.block b (Array.getElem?_eq_some_iff.1 hbk).1).trans hbk, ⟨hlen, ?_⟩, hne⟩
    rcases hown with h | ⟨g, cap, cur, fz, hv, hg, hgb, rest⟩
    · exact .inl h
    · exact .inr ⟨g, cap, cur, fz, hv, hg, (hb.block g (Array.getElem?_eq_some_iff.1 hgb).1).trans hgb, rest⟩
  exact h.elim (fun h => .inl (one _ h)) (fun h => .inr (one _ h))
theorem isBuilder_lt {T e : TypeId} {B b : Nat} {bs : List Value} {w : World} (h : Lib.IsBuilderF T e B b bs w) : B ≤ b ∧ b < w.heap.size := by
  rcases h with ⟨hB, _, hb, _⟩ | ⟨hB, _, hb, _⟩ <;> exact ⟨hB, (Array.getElem?_eq_some_iff.1 hb).1⟩

set_option maxRecDepth 100000 in
set_option maxHeartbeats 2000000 in
/-- impl.namesWhere -/
theorem namesWhere_any (B : ByteArray) (A : Option Addr) (n cap : Nat) (f : FuncId) (caps : Array Value) (p : Nat → Bool) (w : World) (hn : n ≤ 100)
    (he : ∀ args w, (callFunc f args).run Tryz.prog w = .ok (.enter f args) w)
    (hk : ∀ (i : Nat) (W : World), i < n → Below w.heap.size w W → Calls Tryz.prog f (#[.int .i64 i] ++ caps) W fun e W' => e = .returned (.bool (p i)) ∧ Below W.heap.size W W') :
    Calls Tryz.prog 138 #[.agg #[.string B, .slice A n cap], .func (.func f) #[] caps] w fun e w' => e = .returned (.string ⟨(names p n).toArray⟩) ∧ Below w.heap.size w w' := by
  have HK := Lib.hid hk
  clear hk
  have hb2 : Below w.heap.size w ((w.alloc (.cells #[.string B, .slice A n cap] 31)).alloc (.cells #[.pointer none, .slice none 0 0] 151)) := ((Below.refl _ _).alloc (Nat.le_refl _) _).alloc (by simp) _
  have hB2 : Lib.IsBuilderF 151 5 (w.heap.size + 1) (w.heap.size + 1) (Lib.byteCells []) ((w.alloc (.cells #[.string B, .slice A n cap] 31)).alloc (.cells #[.pointer none, .slice none 0 0] 151)) := by
    have := Lib.IsBuilderF.of (Lib.fresh_isBuilder 151 5 (w.alloc (.cells #[.string B, .slice A n cap] 31)))
    rwa [World.size_alloc] at this
  have HB2 := Lib.hid hb2
  have HI2 := Lib.hid hB2
  clear hb2 hB2
  go_enter Tryz.func138, Tryz.ntmps138
  go_wp2_with fail
  generalize hW2 : (w.alloc (.cells #[.string B, .slice A n cap] 31)).alloc (.cells #[.pointer none, .slice none 0 0] 151) = w2 at HB2 HI2 ⊢
  clear hW2
  go_loopw [10] (fun i wr => ∃ k : Nat, k ≤ n ∧ i = .int .i64 k ∧ Below w.heap.size w wr ∧ Lib.IsBuilderF 151 5 (w.heap.size + 1) (w.heap.size + 1) (Lib.byteCells (names p k)) wr) (fun i _ => n - (intOf i).toNat)
  case atStart =>
    exact ⟨0, Nat.zero_le _, rfl, HB2.out, HI2.out⟩
  case round =>
    obtain ⟨k, hkn, rfl, hb, hI⟩ := hrel
    have hlt := (isBuilder_lt hI).2
    by_cases hkl : k < n
    · go_wp2_with fail
      refine (HK.out k wr hkl hb).mono ?_
      rintro e w3 ⟨rfl, hb3⟩
      have hb3' := hb.trans (hb3.mono hb.size)
      have hI3 := isBuilder_keeps hI hb3
      have HI3 := Lib.hid hI3
      have hz3 : w.heap.size + 1 ≤ w3.heap.size := by have := hb3.size; omega
      clear hI3 hb3 hI
      cases hp : p k with
      | false =>
        have HP := Lib.hid (names_no hp)
        clear hp
        go_wp2_with fail
        go_roundw
        case rel => exact ⟨k + 1, by omega, by go_num, hb3', by rw [HP.out]; exact HI3.out⟩
        case measure => simp [intOf]; omega
      | true =>
        have HP := Lib.hid (names_yes hp)
        clear hp
        have HLN := Lib.hid (names_length p k)
        go_wp2_with fail
        refine (writeByte_any (w.heap.size + 1) (w.heap.size + 1) _ _ w3 HI3.out (by have := HLN.out; rw [Lib.byteCells_length]; omega) hz3).mono ?_
        rintro e w5 ⟨rfl, hA5, hb5, _⟩
        have hI5 : Lib.IsBuilderF 151 5 (w.heap.size + 1) (w.heap.size + 1) (Lib.byteCells (names p (k + 1))) w5 := by
          rw [HP.out, cells_snoc _ (show k ≤ 100 by omega)]
          exact .inr hA5
        have HI5 := Lib.hid hI5
        have hb5' := hb3'.trans (hb5.mono (by omega))
        clear hA5 hb5 hI5
        go_wp2_with fail
        go_roundw
        case rel => exact ⟨k + 1, by omega, by go_num, hb5', HI5.out⟩
        case measure => simp [intOf]; omega
    · go_wp2_with fail
      refine (builtString_any (w.heap.size + 1) (w.heap.size + 1) _ wr hI (by omega)).mono ?_
      rintro e w4 ⟨rfl, _, hb4, _⟩
      have hkn' : k = n := by omega
      subst hkn'
      go_wp2_with fail
      go_ret
      exact ⟨rfl, hb.trans (hb4.mono (by omega))⟩

end Go.Proofs.YtpeafheljcjlhaaGreat
