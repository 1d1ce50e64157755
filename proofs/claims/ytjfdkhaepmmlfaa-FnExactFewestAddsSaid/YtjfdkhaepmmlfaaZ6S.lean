/- Values of all edges by the model. -/
import Derived.Test.YtjfdkhaepmmlfaaZ6V
import Derived.Test.YtjfdkhaepmmlfaaZ6A
import Derived.Deep.RegionHeld3
namespace Go.Proofs.Ytjfdkhaepmmlfaa
open Go.RowKit

/-- the values of all edges -/
noncomputable def valuesV (B : ByteArray) (es : List (ByteArray × ByteArray)) : List Int × Bool := if acycV B es = true then ((List.range es.length).map (fun k => ((valE (ebs es) (exit_ B.data.toList) k : Nat) : Int)), true) else ([], false)

end Go.Proofs.Ytjfdkhaepmmlfaa

namespace Go.Proofs.Ytjfdkhaepmmlfaa
open Go.RowKit

set_option maxRecDepth 100000 in
set_option maxHeartbeats 8000000 in
/-- spec.ValuesOf -/
theorem specValuesOf_any (B : ByteArray) (A : Option Addr) (cap : Nat) (es : List (ByteArray × ByteArray)) (w : World) (hs : B.size ≤ maxLen) (hE : EdgesIn w w.heap.size A es) (hl : es.length ≤ 1099511627776) (hS : ∀ e ∈ es, e.1.size ≤ 1099511627776 ∧ e.2.size ≤ 1099511627776) :
    Calls Try.prog 30 #[.agg #[.string B, .slice A es.length cap]] w (ValsPost (valuesV B es) w) := by
  have HL := Lib.hid hl; have HM := Lib.hid hs; have HS := Lib.hid hS
  clear hl hs hS
  obtain ⟨i0, hi, hi0, hi1, hi2⟩ := info_parts intInfo
  have HI := Lib.hid hi; have HI0 := Lib.hid hi0; have HI1 := Lib.hid hi1; have HI2 := Lib.hid hi2
  obtain ⟨W1, hW1⟩ : ∃ W1, (w.alloc (.cells #[.string B, .slice A es.length cap] 30)).alloc (.cells #[] 3) = W1 := ⟨_, rfl⟩
  have hb0 : Below w.heap.size w (w.alloc (.cells #[.string B, .slice A es.length cap] 30)) := (Below.refl _ _).alloc (Nat.le_refl _) _
  have hba : Below (w.heap.size + 1) (w.alloc (.cells #[.string B, .slice A es.length cap] 30)) W1 := by rw [← hW1]; exact (Below.refl _ _).alloc (by simp) _
  have t0 := Two.made w B A es.length cap 30
  have t1 := t0.below hba (by omega)
  have hb1 : Below w.heap.size w W1 := hb0.trans (hba.mono (by omega))
  have hz1 : W1.heap.size = w.heap.size + 2 := by rw [← hW1]; simp
  have HOWN1 : Hid (W1.ownsRow (w.heap.size + 1) 3 1 (.slice (some ⟨w.heap.size + 1, 0, none⟩) 0 0) 0 []) := Lib.hid
    ⟨rfl, .inr ⟨w.heap.size + 1, 0, #[], rfl, Nat.le_refl _, by rw [← hW1]; exact alloc_at _ _ (by simp), by simp, by simp, by simp, by simp⟩⟩
  clear hi hi0 hi1 hi2 hb0 hba t0
  obtain ⟨v, hv⟩ : ∃ v, acycV B es = v := ⟨_, rfl⟩
  have FA : Hid (∀ W : World, EdgesIn W W.heap.size A es → Calls Try.prog 28 #[.agg #[.string B, .slice A es.length cap]] W fun e w' => e = .returned (.bool v) ∧ Below W.heap.size W w') := Lib.hid fun W h => by
    have := specIsAcyclic_any B A cap es W HM.out h HL.out HS.out
    rwa [hv] at this
  have HT1 := Lib.hid t1; have HB1 := Lib.hid hb1
  have hd0 := t1.1; have hd1 := t1.2
  cases v with
  | false =>
    have HN : Hid (valuesV B es = ([], false)) := Lib.hid (if_neg (by rw [hv]; simp))
    clear hv t1 hb1
    go_enter Try.func30, Try.ntmps30
    go_wp2_with fail
    refine (FA.out _ ((hE.below HB1.out).more HB1.out.size)).mono ?_
    rintro e w2 ⟨rfl, hb2⟩
    have HB2 := Lib.hid hb2
    clear hb2
    go_wp2_with fail
    refine bodyPost_ret (v := .tuple #[.slice (some ⟨w.heap.size + 1, 0, none⟩) 0 0, .bool false]) (by simp [results, Try.results30, go_sem]) rfl ?_
    rw [HN.out]
    have hO2 := ownsRow_of_block HOWN1.out fun b hb => HB2.out.block b (ownBlock_lt HOWN1.out hb).2
    obtain ⟨A2, c2, hv2, h1, h2⟩ := own_ints (ts := []) hO2
    injection hv2 with e1 _ e2
    subst e1 e2
    exact ⟨_, 0, rfl, h1, HB1.out.trans (HB2.out.mono HB1.out.size), h2.mono (by omega)⟩
  | true =>
    have hA := acy_v hv
    have h16 := hA.F.few
    obtain ⟨F, hF⟩ : ∃ F, valE (ebs es) (exit_ B.data.toList) = F := ⟨_, rfl⟩
    have HVF : Hid (∀ k, k < es.length → F k ≤ 4294967296) := Lib.hid fun k hk => by rw [← hF]; exact valE_few' hA hk
    have HN : Hid (valuesV B es = ((List.range es.length).map (fun k => ((F k : Nat) : Int)), true)) := Lib.hid ((if_pos hv).trans (by rw [hF]))
    have FV : Hid (∀ k, k < es.length → ∀ W : World, EdgesIn W W.heap.size A es → Calls Try.prog 63 #[.agg #[.string B, .slice A es.length cap], .string ⟨#[nameOf k]⟩] W fun e w' => e = .returned (.int .i64 ((F k : Nat) : Int)) ∧ Below W.heap.size W w') := Lib.hid fun k hk W h => by
      rw [← hF]; exact l4Value_any B A cap es k W h hA HM.out hk
    clear hA hv hF
    go_enter Try.func30, Try.ntmps30
    go_wp2_with fail
    refine (FA.out _ ((hE.below HB1.out).more HB1.out.size)).mono ?_
    rintro e w2 ⟨rfl, hb2⟩
    have HT2 := Lib.hid (HT1.out.below hb2 (by omega))
    have HB2 := Lib.hid (HB1.out.trans (hb2.mono HB1.out.size))
    have HO2 := Lib.hid (ownsRow_of_block HOWN1.out fun b hb => hb2.block b (ownBlock_lt HOWN1.out hb).2)
    have hz2 : w.heap.size + 2 ≤ w2.heap.size := by have := hb2.size; omega
    clear hd0 hd1 hb2 hW1 t1 hb1 HT1 HB1 HOWN1
    have hd0 := HT2.out.1; have hd1 := HT2.out.2
    go_wp2_with fail
    clear hd0 hd1
    go_loopw [4, 14] (fun vv a wr => ∃ k : Nat, k ≤ es.length ∧ a = .int .i64 k ∧ Below w.heap.size w wr ∧ w.heap.size + 2 ≤ wr.heap.size ∧ Two wr w.heap.size B A es.length cap ∧
      wr.ownsRow (w.heap.size + 1) 3 1 vv k (((List.range k).map (fun k => ((F k : Nat) : Int))).map (Value.int .i64))) (fun _ a _ => es.length - (intOf a).toNat)
    case atStart => exact ⟨0, Nat.zero_le _, rfl, HB2.out, hz2, HT2.out, HO2.out⟩
    case round =>
      obtain ⟨k, hk, rfl, hb, hz, t3, hown⟩ := hrel
      have HB := Lib.hid hb; have HT3 := Lib.hid t3; have HOWN := Lib.hid hown
      clear hb t3 hown
      by_cases hlt : k < es.length
      case neg =>
        have hkn : k = es.length := by omega
        have hown := HOWN.out
        obtain ⟨xs, hxs⟩ : ∃ xs, (List.range k).map (fun k => ((F k : Nat) : Int)) = xs := ⟨_, rfl⟩
        have hxl : xs.length = k := by rw [← hxs]; simp
        rw [hxs, ← hxl] at hown
        obtain ⟨A2, c2, rfl, h1, h2⟩ := own_ints hown
        have HX1 := Lib.hid h1; have HX2 := Lib.hid h2
        have HN2 : Hid (valuesV B es = (xs, true)) := Lib.hid (by rw [HN.out, ← hkn, hxs])
        have hki : ¬ ((k : Int) < (es.length : Int)) := by omega
        clear hown h1 h2 hxs hlt hxl hkn
        go_wp2_with fail
        refine bodyPost_ret (v := .tuple #[.slice A2 xs.length c2, .bool true]) (by simp [results, Try.results30, go_sem]) rfl ?_
        rw [HN2.out]
        exact ⟨A2, c2, rfl, HX1.out, HB.out, HX2.out.mono (by omega)⟩
      have hki : (k : Int) < (es.length : Int) := by omega
      have z9 : IntKind.i64.wrap ((k : Int) + 1) = (k : Int) + 1 := IntWalk.i64_in _ (by omega)
      obtain ⟨fk, hfk⟩ : ∃ fk, F k = fk := ⟨_, rfl⟩
      have FVk := FV.out k hlt
      rw [hfk] at FVk
      have HFV := Lib.hid FVk
      have HCE : Hid (((List.range (k + 1)).map (fun k => ((F k : Nat) : Int))).map (Value.int .i64) = ((List.range k).map (fun k => ((F k : Nat) : Int))).map (Value.int .i64) ++ [.int .i64 (fk : Int)]) := Lib.hid (by
        rw [List.range_succ, List.map_append, List.map_append]; simp [hfk])
      have HLT := Lib.hid hlt
      have HONE : Hid (∀ u ∈ [Value.int .i64 (fk : Int)], u.oneCell' = true) := Lib.hid (by intro u hu; simp at hu; subst hu; rfl)
      clear FVk hfk hlt
      have hS : ∀ W, Below wr.heap.size wr W → (W.cell? ⟨w.heap.size, 0, none⟩ = some (.string B) ∧ W.cell? ⟨w.heap.size, 1, none⟩ = some (.slice A es.length cap)) :=
        fun W h => ⟨(h.cell (by simp only; omega)).trans HT3.out.1, (h.cell (by simp only; omega)).trans HT3.out.2⟩
      have HSS := Lib.hid hS
      have HA : Hid (∀ W, Below wr.heap.size wr W → EdgesIn W W.heap.size A es) := Lib.hid fun W h => (hE.below (HB.out.trans (h.mono (by omega)))).more (HB.out.trans (h.mono (by omega))).size
      clear hS
      go_wp2_with fail
      go_region_held3 (fun W => W.cell? ⟨w.heap.size, 0, none⟩ = some (.string B) ∧ W.cell? ⟨w.heap.size, 1, none⟩ = some (.slice A es.length cap))
        (first
          | exact HSS.out _ (Below.refl _ _).drew
          | exact HSS.out _ HB4.out
          | exact HSS.out _ HB5.out
          | exact HSS.out _ HB5A.out
          | exact HSS6.out)
        (first
          | (go_at_call 64
             refine (l1Name_any k (by omega) _).mono ?_
             rintro e w4 ⟨rfl, hb4⟩
             have HB4 : Hid (Below wr.heap.size wr w4) := Lib.hid ((Below.refl _ _).drew.trans hb4)
             clear hb4)
          | (go_at_call 63
             refine (HFV.out _ (HA.out _ HB4.out)).mono ?_
             rintro e w5 ⟨rfl, hb5⟩
             have HB5 : Hid (Below wr.heap.size wr w5) := Lib.hid (HB4.out.trans (hb5.mono HB4.out.size))
             have HB5A : Hid (Below wr.heap.size wr (w5.alloc (.cells #[.int .i64 (fk : Int)] 3))) := Lib.hid (HB5.out.alloc HB5.out.size _)
             have HOWN5 := Lib.hid (ownsRow_of_block HOWN.out fun b hb => HB5A.out.block b (ownBlock_lt HOWN.out hb).2)
             have HNEW5 := Lib.hid (one_newI w5 (.int .i64 (fk : Int)))
             have HZ5 : Hid (w.heap.size + 1 ≤ (w5.alloc (.cells #[.int .i64 (fk : Int)] 3)).heap.size) := Lib.hid (by have := HB5A.out.size; omega)
             clear hb5)
          | (refine step_append_ownI rfl (.tmp 17) (.tmp 22) 52 rfl (w.heap.size + 1) 3 i0 (.int .i64 0) 1 8 Try.underlying52 HI.out HI0.out HI1.out HI2.out rfl (by decide) _ k _ rfl HOWN5.out ⟨w5.heap.size, 0, none⟩ 1 1 [.int .i64 (fk : Int)] rfl rfl HNEW5.out HONE.out (by unfold maxLen; omega) (by omega) HZ5.out ?_
             go_must (
             intro v6 w6 hown6 hgr6
             have HOWN6 := Lib.hid hown6
             have HB6 : Hid (Below (w.heap.size + 1) wr w6) := Lib.hid ((HB5A.out.mono (by omega)).grown hgr6 HZ5.out (fun _ e => Nat.le_of_not_lt fun hq => ownI_ne HOWN5.out hq e.symm))
             have HSS6 : Hid (w6.cell? ⟨w.heap.size, 0, none⟩ = some (.string B) ∧ w6.cell? ⟨w.heap.size, 1, none⟩ = some (.slice A es.length cap)) := Lib.hid ⟨(HB6.out.cell (by simp only; omega)).trans HT3.out.1, (HB6.out.cell (by simp only; omega)).trans HT3.out.2⟩
             clear hown6 hgr6)))
      rename_i hHeld
      clear hHeld
      have HZ6 : Hid (w.heap.size + 2 ≤ w6.heap.size) := Lib.hid (by have := HB6.out.size; omega)
      go_wp2_with fail
      go_roundw
      case rel => exact ⟨k + 1, by have := HLT.out; omega, by go_num, HB.out.trans (HB6.out.mono (by omega)), HZ6.out, HT3.out.below HB6.out (by omega), by rw [HCE.out]; exact HOWN6.out⟩
      case measure => simp [intOf]; have := HLT.out; omega

end Go.Proofs.Ytjfdkhaepmmlfaa
