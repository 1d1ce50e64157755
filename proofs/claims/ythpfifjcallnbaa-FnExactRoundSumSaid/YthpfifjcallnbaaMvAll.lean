/- Moves along all edges, by the program. -/
import Derived.Test.YthpfifjcallnbaaZ6W
namespace Go.Proofs.Ythpfifjcallnbaa
open Go.RowKit

set_option maxRecDepth 100000 in
set_option maxHeartbeats 8000000 in
/-- impl.movesIn -/
theorem movesAll_any (B : ByteArray) (A : Option Addr) (cap : Nat) (es : List (ByteArray × ByteArray)) (b : ByteArray) (w : World) (hs : B.size ≤ maxLen) (hE : EdgesIn w w.heap.size A es) (hl : es.length ≤ 1099511627776) (hV : Valid B.data.toList (ebs es)) (hK : Known es.length b.data.toList) (hb6 : b.size ≤ 16) :
    Calls Try.prog 89 #[.agg #[.string B, .slice A es.length cap], .string b] w fun e w' => ∃ A' c, e = .returned (.slice A' (msP B.data.toList es (ksOf b.data.toList)).length c) ∧ MovesIn w' w'.heap.size A' (msP B.data.toList es (ksOf b.data.toList)) ∧ Below w.heap.size w w' := by
  obtain ⟨i0, hi, hi0, hi1, hi2⟩ := info_parts moveInfo
  have HI := Lib.hid hi; have HI0 := Lib.hid hi0; have HI1 := Lib.hid hi1; have HI2 := Lib.hid hi2
  have h2 : 2 ≤ B.size := by have := hV.1.1.1; simpa using this
  have HL := Lib.hid hl
  have H16 := Lib.hid (valid_sizes hV).2
  have HLEN : Hid (b.data.toList.length = b.size) := Lib.hid (by simp)
  have HEO := Lib.hid hV.1.2; have HK := Lib.hid hK
  have hlb : B.data.toList.length = B.size := by simp
  obtain ⟨m1, m2, m3, m4⟩ := entry_exit (l := B.data.toList) (by omega) hV.1.1.2.2.2
  have hen : B.extract 0 1 = ⟨#[entry B.data.toList]⟩ := bytes_one (by
    have := letter_at (p := B) (i := 0) (by omega)
    rw [Nat.zero_add] at this
    rw [this, List.getD_eq_getElem?_getD, ← m3, idxL_get m1]; rfl)
  have hex : B.extract (B.size - 1) B.size = ⟨#[exit_ B.data.toList]⟩ := bytes_one (by
    have := letter_at (p := B) (i := B.size - 1) (by omega)
    rw [show B.size - 1 + 1 = B.size by omega] at this
    rw [this, List.getD_eq_getElem?_getD, ← hlb, ← m4, idxL_get m2]; rfl)
  have FEN : Hid (∀ W : World, Calls Try.prog 111 #[.agg #[.string B, .slice A es.length cap]] W fun e w' => e = .returned (.string ⟨#[entry B.data.toList]⟩) ∧ Below W.heap.size W w') := Lib.hid fun W => by
    rw [← hen]; exact entryOf_any B _ W (by omega) hs
  have FEX : Hid (∀ W : World, Calls Try.prog 122 #[.agg #[.string B, .slice A es.length cap]] W fun e w' => e = .returned (.string ⟨#[exit_ B.data.toList]⟩) ∧ Below W.heap.size W w') := Lib.hid fun W => by
    rw [← hex]; exact exitOf_any B _ W (by omega) hs
  have FMA : Hid (∀ (e : Ed) (W : World), Calls Try.prog 121 #[.string ⟨#[e.nm]⟩, .agg #[.string ⟨#[e.a]⟩, .string ⟨#[e.b]⟩]] W fun r w' => ∃ g, r = .returned (.slice (some ⟨g, 0, none⟩) 2 2) ∧ w'.heap[g]? = some (.cells (cellsM [plus e, minus e]).toArray 68 (0, 0)) ∧ W.heap.size ≤ g ∧ Below W.heap.size W w') := Lib.hid fun e W => by
    rw [← both_at]; exact movesAlong_any _ _ _ W (by show (⟨#[e.nm]⟩ : ByteArray).size ≤ 2; exact Nat.le_succ 1)
  have FI : Hid (∀ (k : Nat) (c : UInt8) (s : ByteArray), s.data.toList = [c] → eIdx es.length [c] = k → ∀ W : World, Calls Try.prog 45 #[.agg #[.string B, .slice A es.length cap], .string s] W fun e w' => e = .returned (.int .i64 (k : Int)) ∧ Below W.heap.size W w') := Lib.hid fun k c s hs hi W => by
    have := edgeIndex_any (.string B) A es.length cap s W HL.out
    rwa [hs, hi] at this
  have HZED : Hid (msP B.data.toList es [] = [plus (edZ B.data.toList), minus (edZ B.data.toList)]) := Lib.hid rfl
  have FMZ := Lib.hid (FMA.out (edZ B.data.toList))
  obtain ⟨l, hll⟩ : ∃ l, B.data.toList = l := ⟨_, rfl⟩
  rw [hll] at FEN FEX FMZ HZED HEO ⊢
  have hb1 : Below w.heap.size w (w.alloc (.cells #[.string B, .slice A es.length cap] 30)) := (Below.refl _ _).alloc (Nat.le_refl _) _
  have t1 := Two.made w B A es.length cap 30
  have hz1 : (w.alloc (.cells #[.string B, .slice A es.length cap] 30)).heap.size = w.heap.size + 1 := by simp
  have hC : ∀ W, Below (w.heap.size + 1) (w.alloc (.cells #[.string B, .slice A es.length cap] 30)) W → (W.cell? ⟨w.heap.size, 0, none⟩ = some (.string B) ∧ W.cell? ⟨w.heap.size, 1, none⟩ = some (.slice A es.length cap)) := fun W h => ⟨(h.cell (by simp only; omega)).trans t1.1, (h.cell (by simp only; omega)).trans t1.2⟩
  have HSS := Lib.hid hC; have HT1 := Lib.hid t1; have HB1 := Lib.hid hb1; have HZ1 := Lib.hid hz1
  clear hl hs hV hK hi hi0 hi1 hi2 hen hex m1 m2 m3 m4 hlb hll h2 hC t1 hb1 hz1
  unfold edZ at FMZ
  go_enter Try.func89, Try.ntmps89
  go_wp2_with fail
  generalize hW1 : w.alloc (.cells #[.string B, .slice A es.length cap] 30) = w1 at HSS HT1 HB1 HZ1 ⊢
  clear hW1
  go_region_held3 (fun W => W.cell? ⟨w.heap.size, 0, none⟩ = some (.string B) ∧ W.cell? ⟨w.heap.size, 1, none⟩ = some (.slice A es.length cap))
    (first
      | exact HSS.out _ (Below.refl _ _).drew
      | exact HSS.out _ HB2.out
      | exact HSS.out _ HB3.out
      | exact HSS.out _ HB4.out)
    (first
      | (go_at_call 122
         go_must (
         refine (FEX.out _).mono ?_
         rintro e w2 ⟨rfl, hb2⟩
         have HB2 : Hid (Below (w.heap.size + 1) w1 w2) := Lib.hid ((Below.refl _ _).drew.trans (hb2.mono (show w.heap.size + 1 ≤ w1.heap.size from by have := HZ1.out; omega)))
         clear hb2))
      | (go_at_call 111
         go_must (
         refine (FEN.out _).mono ?_
         rintro e w3 ⟨rfl, hb3⟩
         have HB3 : Hid (Below (w.heap.size + 1) w1 w3) := Lib.hid (HB2.out.trans (hb3.mono (by have := HZ1.out; have := HB2.out.size; omega)))
         clear hb3))
      | (go_at_call 121
         go_must (
         refine (FMZ.out _).mono ?_
         rintro e w4 ⟨g, rfl, hg4, hgl, hb4⟩
         have HB4 : Hid (Below (w.heap.size + 1) w1 w4) := Lib.hid (HB3.out.trans (hb4.mono (by have := HZ1.out; have := HB3.out.size; omega)))
         have HG4 := Lib.hid hg4
         have HGL : Hid (w.heap.size + 1 ≤ g) := Lib.hid (by have := HB3.out.size; have := HZ1.out; omega)
         clear hb4 hg4 hgl)))
  rename_i hHeld
  clear hHeld
  have HT4 : Hid (Two w4 w.heap.size B A es.length cap) := Lib.hid (HT1.out.below HB4.out (by omega))
  have HBW4 : Hid (Below w.heap.size w w4) := Lib.hid (HB1.out.trans (HB4.out.mono (by omega)))
  have HOWN4 : Hid (w4.ownsRow (w.heap.size + 1) 68 3 (.slice (some ⟨g, 0, none⟩) 2 2) 2 (cellsM (msP l es []))) := Lib.hid (own_moves HGL.out (by rw [HZED.out]; rfl) (by unfold maxLen; omega) HG4.out)
  have HZ4 : Hid (w.heap.size + 1 ≤ w4.heap.size) := Lib.hid (by have := HB4.out.size; have := HZ1.out; omega)
  go_wp2_with fail
  go_loopw [5, 16] (fun vv c wr => ∃ i : Nat, i ≤ b.size ∧ c = .int .i64 i ∧ Hid (wr.ownsRow (w.heap.size + 1) 68 3 vv (2 + 2 * i) (cellsM (msP l es ((ksOf b.data.toList).take i)))) ∧ Hid (Two wr w.heap.size B A es.length cap) ∧ Below w.heap.size w wr ∧ w.heap.size + 1 ≤ wr.heap.size) (fun _ c _ => b.size - (intOf c).toNat)
  case atStart => exact ⟨0, Nat.zero_le _, rfl, HOWN4, HT4, HBW4.out, HZ4.out⟩
  case round =>
    clear HOWN4 HT4 HBW4 HZ4 HB4 HB3 HB2 HG4 HGL HT1 HB1 HZ1 HSS
    obtain ⟨i, hi, rfl, HOWN, HT, hb, hz⟩ := hrel
    by_cases hlt : i < b.size
    case neg =>
      have hib : i = b.size := by omega
      have hmm : msP l es ((ksOf b.data.toList).take i) = msP l es (ksOf b.data.toList) := by rw [List.take_of_length_le (by simp [ksOf]; omega)]
      have hown := HOWN.out
      rw [hmm] at hown
      have hln : (msP l es (ksOf b.data.toList)).length = 2 + 2 * i := by rw [msP_len, hib]; simp [ksOf]
      obtain ⟨A', c', hv, hmv⟩ := moves_of_own hln hown
      have HMV := Lib.hid hmv; have HLN := Lib.hid hln; have HV := Lib.hid hv
      clear hmm hown hln hmv hib hv
      go_wp2_with fail
      go_ret
      exact ⟨A', c', by rw [HLN.out]; exact congrArg Ending.returned HV.out, HMV.out, hb⟩
    have hex := letter_at (p := b) hlt
    have hka := HK.out.at (i := i) (by have := HLEN.out; omega)
    have hkt := ks_takeM (l := b.data.toList) (i := i) (by have := HLEN.out; omega)
    obtain ⟨c, hc⟩ : ∃ c, b.data.toList.getD i 0 = c := ⟨_, rfl⟩
    rw [hc] at hex hka hkt
    obtain ⟨k, hk⟩ : ∃ k, c.toNat - 97 = k := ⟨_, rfl⟩
    rw [hk] at hka hkt
    have hcn : nameOf k = c := by
      have h97 : 97 ≤ c.toNat := by
        have := hka.1
        unfold eIdx at this
        simp only at this
        split at this
        · rename_i q; exact q.1
        · omega
      apply UInt8.toNat_inj.1
      rw [nameOf_toNat (by have := H16.out; have := hka.2; omega)]
      omega
    have HFX := Lib.hid (FI.out k c (b.extract i (i + 1)) hex hka.1)
    obtain ⟨q1, q2, q3, q4, _⟩ := edK_at HEO.out hka.2
    have hkey : b.extract i (i + 1) = ⟨#[(edK es k).nm]⟩ := by
      rw [show (edK es k).nm = c from hcn]; exact bytes_one hex
    have HMS : Hid (msP l es ((ksOf b.data.toList).take (i + 1)) = msP l es ((ksOf b.data.toList).take i) ++ [plus (edK es k), minus (edK es k)]) := Lib.hid (by rw [hkt, msP_snoc])
    have HFM : Hid (∀ W : World, Calls Try.prog 121 #[.string (b.extract i (i + 1)), .agg #[.string es[k].1, .string es[k].2]] W fun r w' => ∃ g, r = .returned (.slice (some ⟨g, 0, none⟩) 2 2) ∧ w'.heap[g]? = some (.cells (cellsM [plus (edK es k), minus (edK es k)]).toArray 68 (0, 0)) ∧ W.heap.size ≤ g ∧ Below W.heap.size W w') := Lib.hid fun W => by
      rw [hkey, q1, q2]; exact FMA.out (edK es k) W
    obtain ⟨eb, eo, rfl, hlow, g1, g2⟩ := (hE.below hb) k hka.2
    have hkn : k < es.length := hka.2
    obtain ⟨e1, he1⟩ : ∃ e1, es[k].1 = e1 := ⟨_, rfl⟩
    obtain ⟨e2, he2⟩ : ∃ e2, es[k].2 = e2 := ⟨_, rfl⟩
    rw [he1] at g1 HFM
    rw [he2] at g2 HFM
    have a1 : (0 : Int) ≤ (i : Int) := by omega
    have a4 : (0 : Int) ≤ (i : Int) + 1 := by omega
    have a5 : ((i : Int) + 1).toNat = i + 1 := by omega
    have a6 : (i : Int) + 1 ≤ (b.size : Int) := by omega
    have a7 : i + 1 ≤ b.size := by omega
    have a8 : (i : Int) ≤ (i : Int) + 1 := by omega
    have a9 : IntKind.i64.wrap ((i : Int) + 1) = (i : Int) + 1 := IntWalk.i64_in _ (by omega)
    have b1 : (0 : Int) ≤ (k : Int) := by omega
    have b2 : (k : Int) < (es.length : Int) := by omega
    have hC : ∀ W, Below (w.heap.size + 1) wr W → (W.cell? ⟨w.heap.size, 0, none⟩ = some (.string B) ∧ W.cell? ⟨w.heap.size, 1, none⟩ = some (.slice (some ⟨eb, eo, none⟩) es.length cap) ∧ W.cell? ⟨eb, eo + k * 2, none⟩ = some (.string e1) ∧ W.cell? ⟨eb, eo + k * 2 + 1, none⟩ = some (.string e2)) := fun W h => ⟨(h.cell (by simp only; omega)).trans HT.out.1, (h.cell (by simp only; omega)).trans HT.out.2, (h.cell (by simp only; omega)).trans g1, (h.cell (by simp only; omega)).trans g2⟩
    have HSS := Lib.hid hC; have HBB := Lib.hid hb; have HZZ := Lib.hid hz
    clear hex hka hkt hc hk hcn q1 q2 q3 q4 hkey hC g1 g2 hkn he1 he2 hb hz hlow
    go_wp2_with fail
    go_region_held3 (fun W => W.cell? ⟨w.heap.size, 0, none⟩ = some (.string B) ∧ W.cell? ⟨w.heap.size, 1, none⟩ = some (.slice (some ⟨eb, eo, none⟩) es.length cap) ∧ W.cell? ⟨eb, eo + k * 2, none⟩ = some (.string e1) ∧ W.cell? ⟨eb, eo + k * 2 + 1, none⟩ = some (.string e2))
      (first
        | exact HSS.out _ (Below.refl _ _).drew
        | exact HSS.out _ HB5.out
        | exact HSS.out _ HB6.out
        | exact HSS.out _ HB7.out)
      (first
        | (go_at_call 45
           go_must (
           refine (HFX.out _).mono ?_
           rintro e w5 ⟨rfl, hb5⟩
           have HB5 : Hid (Below (w.heap.size + 1) wr w5) := Lib.hid ((Below.refl _ _).drew.trans (hb5.mono (show w.heap.size + 1 ≤ wr.heap.size from HZZ.out)))
           have HO5 := Lib.hid (ownsRow_of_block HOWN.out fun q hq => hb5.block q (ownBlock_lt HOWN.out hq).2)
           clear hb5))
        | (go_at_call 121
           go_must (
           refine (HFM.out _).mono ?_
           rintro e w6 ⟨g, rfl, hg6, hgl, hb6⟩
           have HB6 : Hid (Below (w.heap.size + 1) wr w6) := Lib.hid (HB5.out.trans (hb6.mono (by have := HZZ.out; have := HB5.out.size; omega)))
           have HO6 := Lib.hid (ownsRow_of_block HO5.out fun q hq => hb6.block q (ownBlock_lt HO5.out hq).2)
           have HNEW : Hid (∀ j u, (cellsM [plus (edK es k), minus (edK es k)])[j]? = some u → w6.cell? ((⟨g, 0, none⟩ : Addr).add j) = some u) := Lib.hid fun j u hu => by
             rw [add_none, Nat.zero_add]
             simp only [World.cell?, hg6]
             simpa using hu
           have HZ6 : Hid (w.heap.size + 1 ≤ w6.heap.size) := Lib.hid (by have := HB6.out.size; have := HZZ.out; omega)
           clear hb6 hg6 hgl))
        | (refine step_append_own' rfl (.tmp 24) (.tmp 33) 63 rfl (w.heap.size + 1) 68 i0 (.agg #[.string ⟨#[]⟩, .string ⟨#[]⟩, .string ⟨#[]⟩]) 3 48 Try.underlying63 HI.out HI0.out HI1.out HI2.out rfl (by decide) _ (2 + 2 * i) _ rfl HO6.out ⟨g, 0, none⟩ 2 2 (cellsM [plus (edK es k), minus (edK es k)]) rfl rfl HNEW.out (cellsM_one _) (by unfold maxLen; omega) (by omega) HZ6.out ?_
           go_must (
           intro v7 w7 hown7 hgr7
           have HOWN7 := Lib.hid hown7
           have HB7 : Hid (Below (w.heap.size + 1) wr w7) := Lib.hid (HB6.out.grown hgr7 HZ6.out (fun _ e => Nat.le_of_not_lt fun hq => own_block HO6.out hq e.symm))
           clear hown7 hgr7)))
    rename_i hHeld
    clear hHeld
    have HO8 : Hid (w7.ownsRow (w.heap.size + 1) 68 3 v7 (2 + 2 * (i + 1)) (cellsM (msP l es ((ksOf b.data.toList).take (i + 1))))) := Lib.hid (by
      have := HOWN7.out
      rw [← cellsM_append, ← HMS.out] at this
      rwa [show 2 + 2 * (i + 1) = 2 + 2 * i + 2 by omega])
    go_wp2_with fail
    go_roundw
    case rel => exact ⟨i + 1, by omega, by go_num, HO8, Lib.hid (HT.out.below HB7.out (by omega)), HBB.out.trans (HB7.out.mono (by omega)), by have := HB7.out.size; have := HZZ.out; omega⟩
    case measure => simp [intOf]; omega

end Go.Proofs.Ythpfifjcallnbaa
