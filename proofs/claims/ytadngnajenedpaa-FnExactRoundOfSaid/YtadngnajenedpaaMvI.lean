/- Moves along a tree, by the program. -/
import Derived.Test.YtadngnajenedpaaWayF
import Derived.Test.YtadngnajenedpaaAppend
import Derived.Test.YtadngnajenedpaaEntry
import Derived.Test.YtadngnajenedpaaGraph
namespace Go.Proofs.Ytadngnajenedpaa
open Go.RowKit

theorem moveInfo : (Try.prog.info? 116).map (fun i => (i.zero, i.size, i.bytes)) = some (some (.agg #[.string ⟨#[]⟩, .string ⟨#[]⟩, .string ⟨#[]⟩]), 3, 48) := by kernel_rfl

/-- a move, as cells -/
def mvC (m : Mv) : List Value := [.string ⟨#[m.sg, m.nm]⟩, .string ⟨#[m.fr]⟩, .string ⟨#[m.tb]⟩]
def cellsM (ms : List Mv) : List Value := ms.flatMap mvC
theorem cellsM_len (ms : List Mv) : (cellsM ms).length = ms.length * 3 := by
  induction ms with
  | nil => rfl
  | cons m ms ih => show (mvC m ++ cellsM ms).length = _; rw [List.length_append, ih]; simp [mvC]; omega
theorem cellsM_append (a b : List Mv) : cellsM (a ++ b) = cellsM a ++ cellsM b := by simp [cellsM]
theorem cellsM_at : ∀ {ms : List Mv} {i : Nat}, (hi : i < ms.length) → (cellsM ms)[i * 3]? = some (.string ⟨#[ms[i].sg, ms[i].nm]⟩) ∧ (cellsM ms)[i * 3 + 1]? = some (.string ⟨#[ms[i].fr]⟩) ∧ (cellsM ms)[i * 3 + 2]? = some (.string ⟨#[ms[i].tb]⟩)
  | m :: ms, 0, _ => ⟨rfl, rfl, rfl⟩
  | m :: ms, i + 1, hi => by
    obtain ⟨h1, h2, h3⟩ := cellsM_at (ms := ms) (i := i) (by simpa using hi)
    have e1 : (i + 1) * 3 = i * 3 + 3 := by omega
    have e2 : cellsM (m :: ms) = .string ⟨#[m.sg, m.nm]⟩ :: .string ⟨#[m.fr]⟩ :: .string ⟨#[m.tb]⟩ :: cellsM ms := rfl
    rw [e1, e2]
    exact ⟨h1, h2, h3⟩
theorem cellsM_one (ms : List Mv) : ∀ u ∈ cellsM ms, u.oneCell' = true := by
  intro u hu
  obtain ⟨m, _, hm⟩ := List.mem_flatMap.1 hu
  simp only [mvC, List.mem_cons, List.not_mem_nil, or_false] at hm
  rcases hm with rfl | rfl | rfl <;> rfl

/-- moves as they lie in memory -/
def MovesIn (w : World) (M : Nat) (A : Option Addr) (ms : List Mv) : Prop :=
  ∀ k, (h : k < ms.length) → ∃ b o, A = some ⟨b, o, none⟩ ∧ b < M ∧ w.cell? ⟨b, o + k * 3, none⟩ = some (.string ⟨#[ms[k].sg, ms[k].nm]⟩) ∧ w.cell? ⟨b, o + k * 3 + 1, none⟩ = some (.string ⟨#[ms[k].fr]⟩) ∧ w.cell? ⟨b, o + k * 3 + 2, none⟩ = some (.string ⟨#[ms[k].tb]⟩)
theorem MovesIn.below {w w' : World} {B : Nat} {A : Option Addr} {ms : List Mv} (h : MovesIn w B A ms) (hb : Below B w w') : MovesIn w' B A ms := by
  intro k hk
  obtain ⟨b, o, e, hl, h1, h2, h3⟩ := h k hk
  exact ⟨b, o, e, hl, (hb.cell hl).trans h1, (hb.cell hl).trans h2, (hb.cell hl).trans h3⟩
theorem MovesIn.more {w : World} {B B' : Nat} {A : Option Addr} {ms : List Mv} (h : MovesIn w B A ms) (hb : B ≤ B') : MovesIn w B' A ms := by
  intro k hk
  obtain ⟨b, o, e, hl, h1, h2, h3⟩ := h k hk
  exact ⟨b, o, e, by omega, h1, h2, h3⟩

/-- both moves along an edge, as texts -/
def bothC (nb x y : ByteArray) : List Value := [.string (⟨#[43]⟩ ++ nb), .string x, .string y, .string (⟨#[45]⟩ ++ nb), .string y, .string x]
theorem both_at (e : Ed) : bothC ⟨#[e.nm]⟩ ⟨#[e.a]⟩ ⟨#[e.b]⟩ = cellsM [plus e, minus e] := by
  have h1 : (⟨#[43]⟩ : ByteArray) ++ ⟨#[e.nm]⟩ = ⟨#[43, e.nm]⟩ := str_ext (by rw [Go.Joins.data_append]; rfl)
  have h2 : (⟨#[45]⟩ : ByteArray) ++ ⟨#[e.nm]⟩ = ⟨#[45, e.nm]⟩ := str_ext (by rw [Go.Joins.data_append]; rfl)
  unfold bothC
  rw [h1, h2]
  rfl

set_option maxRecDepth 100000 in
set_option maxHeartbeats 2000000 in
/-- impl.movesAlong -/
theorem movesAlong_any (nb x y : ByteArray) (w : World) (hn : nb.size ≤ 2) :
    Calls Try.prog 94 #[.string nb, .agg #[.string x, .string y]] w fun e w' => ∃ g, e = .returned (.slice (some ⟨g, 0, none⟩) 2 2) ∧ w'.heap[g]? = some (.cells (bothC nb x y).toArray 116 (0, 0)) ∧ w.heap.size ≤ g ∧ Below w.heap.size w w' := by
  have s1 : ¬ 9223372036854775807 < (⟨#[43]⟩ : ByteArray).size + nb.size := by
    have : (⟨#[43]⟩ : ByteArray).size = 1 := rfl
    omega
  have s2 : ¬ 9223372036854775807 < (⟨#[45]⟩ : ByteArray).size + nb.size := by
    have : (⟨#[45]⟩ : ByteArray).size = 1 := rfl
    omega
  have hc0 : (w.alloc (.cells #[.string x, .string y] 72)).cell? ⟨w.heap.size, 0, none⟩ = some (.string x) := by go_simp
  have hc1 : (w.alloc (.cells #[.string x, .string y] 72)).cell? ⟨w.heap.size, 1, none⟩ = some (.string y) := by go_simp
  obtain ⟨W1, hW1⟩ : ∃ W1, W1 = w.alloc (.cells #[.string x, .string y] 72) := ⟨_, rfl⟩
  have hb1 : Below w.heap.size w W1 := by rw [hW1]; exact (Below.refl _ _).alloc (Nat.le_refl _) _
  have hz1 : W1.heap.size = w.heap.size + 1 := by rw [hW1]; simp
  have HB1 := Lib.hid hb1; have HZ1 := Lib.hid hz1
  rw [← hW1] at hc0 hc1
  clear hb1 hz1
  go_enter Try.func94, Try.ntmps94
  rw [hW1] at hc0 hc1
  go_wp2_with fail
  go_ret
  rw [← hW1]
  refine ⟨W1.heap.size, ?_, ?_, by have := HZ1.out; omega, HB1.out.alloc HB1.out.size _⟩
  · rw [HZ1.out]; rfl
  · exact heap_alloc_new _ _

theorem own_moves {w : World} {base g n : Nat} {ms : List Mv} (hb : base ≤ g) (hn : ms.length = n) (hm : n ≤ maxLen) (h : w.heap[g]? = some (.cells (cellsM ms).toArray 116 (0, 0))) : w.ownsRow base 116 3 (.slice (some ⟨g, 0, none⟩) n n) n (cellsM ms) := by
  refine ⟨by rw [cellsM_len, hn], .inr ⟨g, n, _, rfl, hb, h, Nat.le_refl _, hm, ?_, ?_⟩⟩
  · simp [cellsM_len, hn]
  · simp only [List.toList_toArray]
    exact List.take_of_length_le (by rw [cellsM_len, hn]; exact Nat.le_refl _)
theorem moves_of_own {w : World} {base n : Nat} {v : Value} {ms : List Mv} (hn : ms.length = n) (h : w.ownsRow base 116 3 v n (cellsM ms)) : ∃ A c, v = .slice A n c ∧ MovesIn w w.heap.size A ms := by
  rcases h.2 with ⟨rfl, h0⟩ | ⟨g, cap, cur, rfl, hb, hg, _⟩
  · exact ⟨none, 0, by rw [h0], fun k hk => by omega⟩
  · refine ⟨some ⟨g, 0, none⟩, cap, rfl, fun k hk => ?_⟩
    obtain ⟨h1, h2, h3⟩ := cellsM_at hk
    have hc := h.cells (g := g) rfl
    have q1 := hc _ _ h1
    have q2 := hc _ _ h2
    have q3 := hc _ _ h3
    rw [add_none] at q1 q2 q3
    have hl : g < w.heap.size := (Array.getElem?_eq_some_iff.1 hg).1
    exact ⟨g, 0, rfl, hl, by simpa using q1, by simpa [Nat.add_assoc] using q2, by simpa [Nat.add_assoc] using q3⟩

theorem ks_takeM {l : List UInt8} {i : Nat} (h : i < l.length) : (ksOf l).take (i + 1) = (ksOf l).take i ++ [(l.getD i 0).toNat - 97] := by
  rw [List.take_add_one]
  simp [ksOf, List.getD, h]

/-- the moves of a tree, as the program has them -/
def msP (l : List UInt8) (es : List (ByteArray × ByteArray)) (ks : List Nat) : List Mv := mvs (edZ l :: ks.map (edK es))
theorem msP_len (l : List UInt8) (es : List (ByteArray × ByteArray)) (ks : List Nat) : (msP l es ks).length = 2 + 2 * ks.length := by
  have : ∀ U : List Ed, (mvs U).length = 2 * U.length := by
    intro U
    induction U with
    | nil => rfl
    | cons e U ih => show ([plus e, minus e] ++ mvs U).length = _; rw [List.length_append, ih]; simp; omega
  unfold msP
  rw [this]
  simp; omega
theorem msP_snoc (l : List UInt8) (es : List (ByteArray × ByteArray)) (ks : List Nat) (k : Nat) : msP l es (ks ++ [k]) = msP l es ks ++ [plus (edK es k), minus (edK es k)] := by simp [msP, mvs]

set_option maxRecDepth 100000 in
set_option maxHeartbeats 8000000 in
/-- impl.movesIn -/
theorem movesIn_any (B : ByteArray) (A : Option Addr) (cap : Nat) (es : List (ByteArray × ByteArray)) (b : ByteArray) (w : World) (hs : B.size ≤ maxLen) (hE : EdgesIn w w.heap.size A es) (hl : es.length ≤ 1099511627776) (hV : Valid B.data.toList (ebs es)) (hK : Known es.length b.data.toList) (hb6 : b.size ≤ 6) :
    Calls Try.prog 58 #[.agg #[.string B, .slice A es.length cap], .string b] w fun e w' => ∃ A' c, e = .returned (.slice A' (msP B.data.toList es (ksOf b.data.toList)).length c) ∧ MovesIn w' w'.heap.size A' (msP B.data.toList es (ksOf b.data.toList)) ∧ Below w.heap.size w w' := by
  obtain ⟨i0, hi, hi0, hi1, hi2⟩ := info_parts moveInfo
  have HI := Lib.hid hi; have HI0 := Lib.hid hi0; have HI1 := Lib.hid hi1; have HI2 := Lib.hid hi2
  have h2 : 2 ≤ B.size := by have := hV.1.1.1; simpa using this
  have HL := Lib.hid hl
  have H16 := Lib.hid (valid_sizes hV).2
  have HLEN : Hid (b.data.toList.length = b.size) := Lib.hid (by simp)
  have HEO := Lib.hid hV.1.2; have HK := Lib.hid hK
  have hlb : B.data.toList.length = B.size := by simp
  obtain ⟨m1, m2, m3, m4⟩ := entry_exit (l := B.data.toList) (by omega) hV.1.1.2.2.2
  have hen : B.extract 0 1 = ⟨#[entry B.data.toList]⟩ := bytes_one (by
    have := letter_at (p := B) (i := 0) (by omega)
    rw [Nat.zero_add] at this
    rw [this, List.getD_eq_getElem?_getD, ← m3, idxL_get m1]; rfl)
  have hex : B.extract (B.size - 1) B.size = ⟨#[exit_ B.data.toList]⟩ := bytes_one (by
    have := letter_at (p := B) (i := B.size - 1) (by omega)
    rw [show B.size - 1 + 1 = B.size by omega] at this
    rw [this, List.getD_eq_getElem?_getD, ← hlb, ← m4, idxL_get m2]; rfl)
  have FEN : Hid (∀ W : World, Calls Try.prog 96 #[.agg #[.string B, .slice A es.length cap]] W fun e w' => e = .returned (.string ⟨#[entry B.data.toList]⟩) ∧ Below W.heap.size W w') := Lib.hid fun W => by
    rw [← hen]; exact entryOf_any B _ W (by omega) hs
  have FEX : Hid (∀ W : World, Calls Try.prog 95 #[.agg #[.string B, .slice A es.length cap]] W fun e w' => e = .returned (.string ⟨#[exit_ B.data.toList]⟩) ∧ Below W.heap.size W w') := Lib.hid fun W => by
    rw [← hex]; exact exitOf_any B _ W (by omega) hs
  have FMA : Hid (∀ (e : Ed) (W : World), Calls Try.prog 94 #[.string ⟨#[e.nm]⟩, .agg #[.string ⟨#[e.a]⟩, .string ⟨#[e.b]⟩]] W fun r w' => ∃ g, r = .returned (.slice (some ⟨g, 0, none⟩) 2 2) ∧ w'.heap[g]? = some (.cells (cellsM [plus e, minus e]).toArray 116 (0, 0)) ∧ W.heap.size ≤ g ∧ Below W.heap.size W w') := Lib.hid fun e W => by
    rw [← both_at]; exact movesAlong_any _ _ _ W (by show (⟨#[e.nm]⟩ : ByteArray).size ≤ 2; exact Nat.le_succ 1)
  have FI : Hid (∀ (k : Nat) (c : UInt8) (s : ByteArray), s.data.toList = [c] → eIdx es.length [c] = k → ∀ W : World, Calls Try.prog 62 #[.agg #[.string B, .slice A es.length cap], .string s] W fun e w' => e = .returned (.int .i64 (k : Int)) ∧ Below W.heap.size W w') := Lib.hid fun k c s hs hi W => by
    have := edgeIndex_any (.string B) A es.length cap s W HL.out
    rwa [hs, hi] at this
  have HZED : Hid (msP B.data.toList es [] = [plus (edZ B.data.toList), minus (edZ B.data.toList)]) := Lib.hid rfl
  have FMZ := Lib.hid (FMA.out (edZ B.data.toList))
  obtain ⟨l, hll⟩ : ∃ l, B.data.toList = l := ⟨_, rfl⟩
  rw [hll] at FEN FEX FMZ HZED HEO ⊢
  have hb1 : Below w.heap.size w (w.alloc (.cells #[.string B, .slice A es.length cap] 30)) := (Below.refl _ _).alloc (Nat.le_refl _) _
  have t1 := Two.made w B A es.length cap 30
  have hz1 : (w.alloc (.cells #[.string B, .slice A es.length cap] 30)).heap.size = w.heap.size + 1 := by simp
  have hC : ∀ W, Below (w.heap.size + 1) (w.alloc (.cells #[.string B, .slice A es.length cap] 30)) W → (W.cell? ⟨w.heap.size, 0, none⟩ = some (.string B) ∧ W.cell? ⟨w.heap.size, 1, none⟩ = some (.slice A es.length cap)) := fun W h => ⟨(h.cell (by simp only; omega)).trans t1.1, (h.cell (by simp only; omega)).trans t1.2⟩
  have HSS := Lib.hid hC; have HT1 := Lib.hid t1; have HB1 := Lib.hid hb1; have HZ1 := Lib.hid hz1
  clear hl hs hV hK hi hi0 hi1 hi2 hen hex m1 m2 m3 m4 hlb hll h2 hC t1 hb1 hz1
  unfold edZ at FMZ
  go_enter Try.func58, Try.ntmps58
  go_wp2_with fail
  generalize hW1 : w.alloc (.cells #[.string B, .slice A es.length cap] 30) = w1 at HSS HT1 HB1 HZ1 ⊢
  clear hW1
  go_region_held3 (fun W => W.cell? ⟨w.heap.size, 0, none⟩ = some (.string B) ∧ W.cell? ⟨w.heap.size, 1, none⟩ = some (.slice A es.length cap))
    (first
      | exact HSS.out _ (Below.refl _ _).drew
      | exact HSS.out _ HB2.out
      | exact HSS.out _ HB3.out
      | exact HSS.out _ HB4.out)
    (first
      | (go_at_call 95
         go_must (
         refine (FEX.out _).mono ?_
         rintro e w2 ⟨rfl, hb2⟩
         have HB2 : Hid (Below (w.heap.size + 1) w1 w2) := Lib.hid ((Below.refl _ _).drew.trans (hb2.mono (show w.heap.size + 1 ≤ w1.heap.size from by have := HZ1.out; omega)))
         clear hb2))
      | (go_at_call 96
         go_must (
         refine (FEN.out _).mono ?_
         rintro e w3 ⟨rfl, hb3⟩
         have HB3 : Hid (Below (w.heap.size + 1) w1 w3) := Lib.hid (HB2.out.trans (hb3.mono (by have := HZ1.out; have := HB2.out.size; omega)))
         clear hb3))
      | (go_at_call 94
         go_must (
         refine (FMZ.out _).mono ?_
         rintro e w4 ⟨g, rfl, hg4, hgl, hb4⟩
         have HB4 : Hid (Below (w.heap.size + 1) w1 w4) := Lib.hid (HB3.out.trans (hb4.mono (by have := HZ1.out; have := HB3.out.size; omega)))
         have HG4 := Lib.hid hg4
         have HGL : Hid (w.heap.size + 1 ≤ g) := Lib.hid (by have := HB3.out.size; have := HZ1.out; omega)
         clear hb4 hg4 hgl)))
  rename_i hHeld
  clear hHeld
  have HT4 : Hid (Two w4 w.heap.size B A es.length cap) := Lib.hid (HT1.out.below HB4.out (by omega))
  have HBW4 : Hid (Below w.heap.size w w4) := Lib.hid (HB1.out.trans (HB4.out.mono (by omega)))
  have HOWN4 : Hid (w4.ownsRow (w.heap.size + 1) 116 3 (.slice (some ⟨g, 0, none⟩) 2 2) 2 (cellsM (msP l es []))) := Lib.hid (own_moves HGL.out (by rw [HZED.out]; rfl) (by unfold maxLen; omega) HG4.out)
  have HZ4 : Hid (w.heap.size + 1 ≤ w4.heap.size) := Lib.hid (by have := HB4.out.size; have := HZ1.out; omega)
  go_wp2_with fail
  go_loopw [5, 16] (fun vv c wr => ∃ i : Nat, i ≤ b.size ∧ c = .int .i64 i ∧ Hid (wr.ownsRow (w.heap.size + 1) 116 3 vv (2 + 2 * i) (cellsM (msP l es ((ksOf b.data.toList).take i)))) ∧ Hid (Two wr w.heap.size B A es.length cap) ∧ Below w.heap.size w wr ∧ w.heap.size + 1 ≤ wr.heap.size) (fun _ c _ => b.size - (intOf c).toNat)
  case atStart => exact ⟨0, Nat.zero_le _, rfl, HOWN4, HT4, HBW4.out, HZ4.out⟩
  case round =>
    clear HOWN4 HT4 HBW4 HZ4 HB4 HB3 HB2 HG4 HGL HT1 HB1 HZ1 HSS
    obtain ⟨i, hi, rfl, HOWN, HT, hb, hz⟩ := hrel
    by_cases hlt : i < b.size
    case neg =>
      have hib : i = b.size := by omega
      have hmm : msP l es ((ksOf b.data.toList).take i) = msP l es (ksOf b.data.toList) := by rw [List.take_of_length_le (by simp [ksOf]; omega)]
      have hown := HOWN.out
      rw [hmm] at hown
      have hln : (msP l es (ksOf b.data.toList)).length = 2 + 2 * i := by rw [msP_len, hib]; simp [ksOf]
      obtain ⟨A', c', hv, hmv⟩ := moves_of_own hln hown
      have HMV := Lib.hid hmv; have HLN := Lib.hid hln; have HV := Lib.hid hv
      clear hmm hown hln hmv hib hv
      go_wp2_with fail
      go_ret
      exact ⟨A', c', by rw [HLN.out]; exact congrArg Ending.returned HV.out, HMV.out, hb⟩
    have hex := letter_at (p := b) hlt
    have hka := HK.out.at (i := i) (by have := HLEN.out; omega)
    have hkt := ks_takeM (l := b.data.toList) (i := i) (by have := HLEN.out; omega)
    obtain ⟨c, hc⟩ : ∃ c, b.data.toList.getD i 0 = c := ⟨_, rfl⟩
    rw [hc] at hex hka hkt
    obtain ⟨k, hk⟩ : ∃ k, c.toNat - 97 = k := ⟨_, rfl⟩
    rw [hk] at hka hkt
    have hcn : nameOf k = c := by
      have h97 : 97 ≤ c.toNat := by
        have := hka.1
        unfold eIdx at this
        simp only at this
        split at this
        · rename_i q; exact q.1
        · omega
      apply UInt8.toNat_inj.1
      rw [nameOf_toNat (by have := H16.out; have := hka.2; omega)]
      omega
    have HFX := Lib.hid (FI.out k c (b.extract i (i + 1)) hex hka.1)
    obtain ⟨q1, q2, q3, q4, _⟩ := edK_at HEO.out hka.2
    have hkey : b.extract i (i + 1) = ⟨#[(edK es k).nm]⟩ := by
      rw [show (edK es k).nm = c from hcn]; exact bytes_one hex
    have HMS : Hid (msP l es ((ksOf b.data.toList).take (i + 1)) = msP l es ((ksOf b.data.toList).take i) ++ [plus (edK es k), minus (edK es k)]) := Lib.hid (by rw [hkt, msP_snoc])
    have HFM : Hid (∀ W : World, Calls Try.prog 94 #[.string (b.extract i (i + 1)), .agg #[.string es[k].1, .string es[k].2]] W fun r w' => ∃ g, r = .returned (.slice (some ⟨g, 0, none⟩) 2 2) ∧ w'.heap[g]? = some (.cells (cellsM [plus (edK es k), minus (edK es k)]).toArray 116 (0, 0)) ∧ W.heap.size ≤ g ∧ Below W.heap.size W w') := Lib.hid fun W => by
      rw [hkey, q1, q2]; exact FMA.out (edK es k) W
    obtain ⟨eb, eo, rfl, hlow, g1, g2⟩ := (hE.below hb) k hka.2
    have hkn : k < es.length := hka.2
    obtain ⟨e1, he1⟩ : ∃ e1, es[k].1 = e1 := ⟨_, rfl⟩
    obtain ⟨e2, he2⟩ : ∃ e2, es[k].2 = e2 := ⟨_, rfl⟩
    rw [he1] at g1 HFM
    rw [he2] at g2 HFM
    have a1 : (0 : Int) ≤ (i : Int) := by omega
    have a4 : (0 : Int) ≤ (i : Int) + 1 := by omega
    have a5 : ((i : Int) + 1).toNat = i + 1 := by omega
    have a6 : (i : Int) + 1 ≤ (b.size : Int) := by omega
    have a7 : i + 1 ≤ b.size := by omega
    have a8 : (i : Int) ≤ (i : Int) + 1 := by omega
    have a9 : IntKind.i64.wrap ((i : Int) + 1) = (i : Int) + 1 := IntWalk.i64_in _ (by omega)
    have b1 : (0 : Int) ≤ (k : Int) := by omega
    have b2 : (k : Int) < (es.length : Int) := by omega
    have hC : ∀ W, Below (w.heap.size + 1) wr W → (W.cell? ⟨w.heap.size, 0, none⟩ = some (.string B) ∧ W.cell? ⟨w.heap.size, 1, none⟩ = some (.slice (some ⟨eb, eo, none⟩) es.length cap) ∧ W.cell? ⟨eb, eo + k * 2, none⟩ = some (.string e1) ∧ W.cell? ⟨eb, eo + k * 2 + 1, none⟩ = some (.string e2)) := fun W h => ⟨(h.cell (by simp only; omega)).trans HT.out.1, (h.cell (by simp only; omega)).trans HT.out.2, (h.cell (by simp only; omega)).trans g1, (h.cell (by simp only; omega)).trans g2⟩
    have HSS := Lib.hid hC; have HBB := Lib.hid hb; have HZZ := Lib.hid hz
    clear hex hka hkt hc hk hcn q1 q2 q3 q4 hkey hC g1 g2 hkn he1 he2 hb hz hlow
    go_wp2_with fail
    go_region_held3 (fun W => W.cell? ⟨w.heap.size, 0, none⟩ = some (.string B) ∧ W.cell? ⟨w.heap.size, 1, none⟩ = some (.slice (some ⟨eb, eo, none⟩) es.length cap) ∧ W.cell? ⟨eb, eo + k * 2, none⟩ = some (.string e1) ∧ W.cell? ⟨eb, eo + k * 2 + 1, none⟩ = some (.string e2))
      (first
        | exact HSS.out _ (Below.refl _ _).drew
        | exact HSS.out _ HB5.out
        | exact HSS.out _ HB6.out
        | exact HSS.out _ HB7.out)
      (first
        | (go_at_call 62
           go_must (
           refine (HFX.out _).mono ?_
           rintro e w5 ⟨rfl, hb5⟩
           have HB5 : Hid (Below (w.heap.size + 1) wr w5) := Lib.hid ((Below.refl _ _).drew.trans (hb5.mono (show w.heap.size + 1 ≤ wr.heap.size from HZZ.out)))
           have HO5 := Lib.hid (ownsRow_of_block HOWN.out fun q hq => hb5.block q (ownBlock_lt HOWN.out hq).2)
           clear hb5))
        | (go_at_call 94
           go_must (
           refine (HFM.out _).mono ?_
           rintro e w6 ⟨g, rfl, hg6, hgl, hb6⟩
           have HB6 : Hid (Below (w.heap.size + 1) wr w6) := Lib.hid (HB5.out.trans (hb6.mono (by have := HZZ.out; have := HB5.out.size; omega)))
           have HO6 := Lib.hid (ownsRow_of_block HO5.out fun q hq => hb6.block q (ownBlock_lt HO5.out hq).2)
           have HNEW : Hid (∀ j u, (cellsM [plus (edK es k), minus (edK es k)])[j]? = some u → w6.cell? ((⟨g, 0, none⟩ : Addr).add j) = some u) := Lib.hid fun j u hu => by
             rw [add_none, Nat.zero_add]
             simp only [World.cell?, hg6]
             simpa using hu
           have HZ6 : Hid (w.heap.size + 1 ≤ w6.heap.size) := Lib.hid (by have := HB6.out.size; have := HZZ.out; omega)
           clear hb6 hg6 hgl))
        | (refine step_append_own' rfl (.tmp 24) (.tmp 33) 68 rfl (w.heap.size + 1) 116 i0 (.agg #[.string ⟨#[]⟩, .string ⟨#[]⟩, .string ⟨#[]⟩]) 3 48 Try.underlying68 HI.out HI0.out HI1.out HI2.out rfl (by decide) _ (2 + 2 * i) _ rfl HO6.out ⟨g, 0, none⟩ 2 2 (cellsM [plus (edK es k), minus (edK es k)]) rfl rfl HNEW.out (cellsM_one _) (by unfold maxLen; omega) (by omega) HZ6.out ?_
           go_must (
           intro v7 w7 hown7 hgr7
           have HOWN7 := Lib.hid hown7
           have HB7 : Hid (Below (w.heap.size + 1) wr w7) := Lib.hid (HB6.out.grown hgr7 HZ6.out (fun _ e => Nat.le_of_not_lt fun hq => own_block HO6.out hq e.symm))
           clear hown7 hgr7)))
    rename_i hHeld
    clear hHeld
    have HO8 : Hid (w7.ownsRow (w.heap.size + 1) 116 3 v7 (2 + 2 * (i + 1)) (cellsM (msP l es ((ksOf b.data.toList).take (i + 1))))) := Lib.hid (by
      have := HOWN7.out
      rw [← cellsM_append, ← HMS.out] at this
      rwa [show 2 + 2 * (i + 1) = 2 + 2 * i + 2 by omega])
    go_wp2_with fail
    go_roundw
    case rel => exact ⟨i + 1, by omega, by go_num, HO8, Lib.hid (HT.out.below HB7.out (by omega)), HBB.out.trans (HB7.out.mono (by omega)), by have := HB7.out.size; have := HZZ.out; omega⟩
    case measure => simp [intOf]; omega

end Go.Proofs.Ytadngnajenedpaa
