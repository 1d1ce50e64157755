/- A text cut at each letter of one kind, by the model. -/
import Derived.Test.YtkclbjgnaichhaaCutL
import Derived.Test.YtkclbjgnaichhaaTextsB
import Derived.BigRegion
namespace Go.Proofs.Ytkclbjgnaichhaa
open Go.RowKit

/-- what is handed back: the parts, in a row of the call's own -/
def PartsPost (c : UInt8) (s : ByteArray) (w : World) (e : Ending) (w' : World) : Prop :=
  ∃ (A : Option Addr) (cap : Nat) (ts : List ByteArray), e = .returned (.slice A ts.length cap) ∧ ts.map (·.data.toList) = cutL c s.data.toList ∧ ts.length ≤ cap ∧ TextsIn w' w'.heap.size A ts ∧ Below w.heap.size w w'

/-- what holds while parts are gathered -/
structure SeaP (w : World) (v : Value) (xs : List Value) (wr : World) : Prop where
  below : Below w.heap.size w wr
  own : wr.ownsRow w.heap.size 9 1 v xs.length xs
theorem SeaP.go {w wr W : World} {v : Value} {xs : List Value} (h : SeaP w v xs wr) (k : Below wr.heap.size wr W) : SeaP w v xs W :=
  ⟨h.below.trans (k.mono h.below.size), ownsRow_of_block h.own fun b hb => k.block b (ownBlock_lt h.own hb).2⟩
theorem SeaP.push {w wr W : World} {v v' : Value} {xs xs' : List Value} (h : SeaP w v xs wr) (k : wr.grownBy W v.ownBlock) (hq : W.ownsRow w.heap.size 9 1 v' xs'.length xs') : SeaP w v' xs' W :=
  ⟨h.below.grown k h.below.size (fun _ e => Nat.le_of_not_lt fun hq => ownV_ne h.own hq e.symm), hq⟩

theorem own_cap {w : World} {base : Nat} {T : TypeId} {z n : Nat} {v : Value} {xs : List Value} (h : w.ownsRow base T z v n xs) : ∃ A cap, v = .slice A n cap ∧ n ≤ cap := by
  rcases h.2 with ⟨rfl, h0⟩ | ⟨g, cap, cur, rfl, hb, hg, hn, _⟩
  · exact ⟨none, 0, by rw [h0], by omega⟩
  · exact ⟨_, cap, rfl, hn⟩

set_option maxRecDepth 100000 in
set_option maxHeartbeats 4000000 in
/-- spec.l16Cut -/
theorem l16Cut_any (s : ByteArray) (c : UInt8) (w : World) (hs : s.size ≤ 1048576) :
    Calls Try.prog 77 #[.string s, .int .u8 (c.toNat : Int)] w (PartsPost c s w) := by
  have hlen : s.data.toList.length = s.size := by simp
  have HLEN := Lib.hid hlen
  clear hlen
  obtain ⟨i0, hi0, hi1, hi2, hi3⟩ := info_parts textCell
  have HI0 := Lib.hid hi0; have HI1 := Lib.hid hi1; have HI2 := Lib.hid hi2; have HI3 := Lib.hid hi3
  clear hi0 hi1 hi2 hi3
  have HSEA0 : Hid (SeaP w (.slice (some ⟨w.heap.size, 0, none⟩) 0 0) [] (w.alloc (.cells #[] 9))) := Lib.hid
    ⟨(Below.refl _ _).alloc (Nat.le_refl _) _, ⟨rfl, .inr ⟨w.heap.size, 0, #[], rfl, Nat.le_refl _, heap_alloc_new _ _, by simp, by simp, by simp, by simp⟩⟩⟩
  go_enter Try.func77, Try.ntmps77
  go_wp2_with fail
  go_loopw [5, 6, 7] (fun v b a wr => ∃ (k fr : Nat) (ts : List ByteArray), k ≤ s.size + 1 ∧ fr ≤ k ∧ b = .int .i64 fr ∧ a = .int .i64 k ∧ ts.length ≤ k ∧ SeaP w v (ts.map Value.string) wr ∧
    ((k ≤ s.size ∧ cutL c (s.data.toList.take k) = ts.map (·.data.toList) ++ [(s.data.toList.take k).drop fr]) ∨ (k = s.size + 1 ∧ cutL c s.data.toList = ts.map (·.data.toList)))) (fun _ _ a _ => s.size + 1 - (intOf a).toNat)
  case atStart => exact ⟨0, 0, [], Nat.zero_le _, Nat.le_refl _, rfl, rfl, Nat.zero_le _, HSEA0.out, .inl ⟨Nat.zero_le _, by simp [cutL]⟩⟩
  case round =>
    clear HSEA0
    obtain ⟨k, fr, ts, hk, hfr, rfl, rfl, htl, hsea, hcut⟩ := hrel
    have HSEA := Lib.hid hsea
    clear hsea
    by_cases hle : k ≤ s.size
    case neg =>
      have hc2 : cutL c s.data.toList = ts.map (·.data.toList) := by
        rcases hcut with ⟨h, _⟩ | ⟨_, h⟩
        · omega
        · exact h
      have HC2 := Lib.hid hc2
      clear hcut hc2
      have hcond : ¬ ((k : Int) ≤ (s.size : Int)) := by omega
      go_wp2_with fail
      go_ret
      have hox := HSEA.out.own
      rw [List.length_map] at hox
      obtain ⟨A', cap', hv, h1, h2⟩ := own_texts hox
      obtain ⟨A2, cap2, hv2, hcap⟩ := own_cap hox
      have he : cap' = cap2 := by
        rw [hv] at hv2
        injection hv2
      exact ⟨A', cap', ts, by rw [← hv]; rfl, HC2.out.symm, by omega, h1, HSEA.out.below⟩
    have hcut2 : cutL c (s.data.toList.take k) = ts.map (·.data.toList) ++ [(s.data.toList.take k).drop fr] := by
      rcases hcut with ⟨_, h⟩ | ⟨h, _⟩
      · exact h
      · omega
    have HCUT := Lib.hid hcut2
    clear hcut hcut2
    have hcond : (k : Int) ≤ (s.size : Int) := by omega
    obtain ⟨pc, hpc⟩ : ∃ pc, s.extract fr k = pc := ⟨_, rfl⟩
    have hpd : pc.data.toList = (s.data.toList.take k).drop fr := by
      rw [← hpc, Lib.extract_data, List.drop_take]
    have HPD := Lib.hid hpd; have HPC := Lib.hid hpc
    have a1 : (0 : Int) ≤ (fr : Int) := by omega
    have a2 : (fr : Int) ≤ (k : Int) := by omega
    have hba : Below wr.heap.size wr (wr.alloc (.cells #[.string pc] 9)) := (Below.refl _ _).alloc (Nat.le_refl _) _
    have HSEA8 := Lib.hid (HSEA.out.go hba)
    have HNEWS := Lib.hid (one_new wr (.string pc))
    have hone : ∀ u ∈ [Value.string pc], u.oneCell' = true := by intro u hu; simp at hu; subst hu; rfl
    have HONE := Lib.hid hone
    have HZ8 : Hid (w.heap.size ≤ (wr.alloc (.cells #[.string pc] 9)).heap.size) := Lib.hid HSEA8.out.below.size
    clear hba hone hpd
    by_cases hend : k = s.size
    · have hb : ((k : Int) == (s.size : Int)) = true := by simp [hend]
      have HNEW : Hid (cutL c s.data.toList = (ts ++ [pc]).map (·.data.toList)) := Lib.hid (by
        have h := HCUT.out
        rw [List.take_of_length_le (by have := HLEN.out; omega)] at h
        rw [h, List.map_append, List.map_cons, List.map_nil, HPD.out, List.take_of_length_le (by have := HLEN.out; omega)])
      have HEND := Lib.hid hend
      clear hend
      go_wp2_with (
        at_builtin
        refine wpList_append_own _ rfl (.tmp 26) (.tmp 31) 62 rfl w.heap.size 9 i0 (.string ⟨#[]⟩) 1 16 Try.underlying62 HI0.out HI1.out HI2.out HI3.out rfl (by decide) _ ts.length (ts.map Value.string) rfl (by have := HSEA8.out.own; rw [List.length_map] at this; exact this) ⟨wr.heap.size, 0, none⟩ 1 1 [.string pc] rfl rfl HNEWS.out HONE.out (by unfold maxLen; omega) (by omega) HZ8.out ?_
        intro v9 w9 hown9 hgr9 _
        go_must (
        have HSEA9 : Hid (SeaP w v9 ((ts ++ [pc]).map Value.string) w9) := Lib.hid (HSEA8.out.push hgr9 (by simpa using hown9))
        clear hown9 hgr9))
      go_roundw
      case rel => exact ⟨k + 1, k + 1, ts ++ [pc], by omega, Nat.le_refl _, by go_num, by go_num, by simp; omega, HSEA9.out, .inr ⟨by have := HEND.out; omega, HNEW.out⟩⟩
      case measure => simp [intOf]; omega
    have hklt : k < s.size := by omega
    have hb : ((k : Int) == (s.size : Int)) = false := by rw [beq_eq_false_iff_ne]; omega
    have hkl : k < s.data.toList.length := by have := HLEN.out; omega
    have hget : s.data.toList[k] = s[k] := rfl
    have HTK : Hid (s.data.toList.take (k + 1) = s.data.toList.take k ++ [s[k]]) := Lib.hid (by rw [List.take_succ_eq_append_getElem hkl]; rfl)
    clear hend hget
    by_cases hc : s[k] = c
    · have hq : ((s[k].toNat : Int) == (c.toNat : Int)) = true := by simp [hc]
      have HNEW : Hid (cutL c (s.data.toList.take (k + 1)) = (ts ++ [pc]).map (·.data.toList) ++ [(s.data.toList.take (k + 1)).drop (k + 1)]) := Lib.hid (by
        have e : (s.data.toList.take (k + 1)).drop (k + 1) = [] := List.drop_of_length_le (by rw [List.length_take]; omega)
        rw [e, HTK.out, hc, cutL_snoc_yes, HCUT.out, List.map_append, List.map_cons, List.map_nil, HPD.out])
      clear hc
      go_wp2_with (
        at_builtin
        refine wpList_append_own _ rfl (.tmp 26) (.tmp 31) 62 rfl w.heap.size 9 i0 (.string ⟨#[]⟩) 1 16 Try.underlying62 HI0.out HI1.out HI2.out HI3.out rfl (by decide) _ ts.length (ts.map Value.string) rfl (by have := HSEA8.out.own; rw [List.length_map] at this; exact this) ⟨wr.heap.size, 0, none⟩ 1 1 [.string pc] rfl rfl HNEWS.out HONE.out (by unfold maxLen; omega) (by omega) HZ8.out ?_
        intro v9 w9 hown9 hgr9 _
        go_must (
        have HSEA9 : Hid (SeaP w v9 ((ts ++ [pc]).map Value.string) w9) := Lib.hid (HSEA8.out.push hgr9 (by simpa using hown9))
        clear hown9 hgr9))
      go_roundw
      case rel => exact ⟨k + 1, k + 1, ts ++ [pc], by omega, Nat.le_refl _, by go_num, by go_num, by simp; omega, HSEA9.out, .inl ⟨by omega, HNEW.out⟩⟩
      case measure => simp [intOf]; omega
    · have hq : ((s[k].toNat : Int) == (c.toNat : Int)) = false := by
        rw [beq_eq_false_iff_ne]; intro h; exact hc (UInt8.toNat_inj.1 (by omega))
      have HNEW : Hid (cutL c (s.data.toList.take (k + 1)) = ts.map (·.data.toList) ++ [(s.data.toList.take (k + 1)).drop fr]) := Lib.hid (by
        rw [HTK.out, cutL_snoc_no hc _ _ _ HCUT.out, List.drop_append_of_le_length (by rw [List.length_take]; have := HLEN.out; omega)])
      clear hc
      go_wp2_with fail
      go_roundw
      case rel => exact ⟨k + 1, fr, ts, by omega, by omega, by go_num, by go_num, by omega, HSEA.out, .inl ⟨by omega, HNEW.out⟩⟩
      case measure => simp [intOf]; omega

end Go.Proofs.Ytkclbjgnaichhaa
