/- A round read, by the program: readRound. -/
import Derived.Test.YthpfifjcallnbaaRdI
import Derived.Deep.RegionHeld3
import Derived.Maps.AppendAt
namespace Go.Proofs.Ythpfifjcallnbaa
open Go.RowKit

theorem two_eq (a b s c : UInt8) : ((⟨#[a, b]⟩ : ByteArray).toList == (⟨#[s, c]⟩ : ByteArray).toList) = (a == s && b == c) := by
  rw [Lib.toList_data, Lib.toList_data]
  show ([a, b] == [s, c]) = _
  simp
/-- what the search for a move tells -/
theorem first_mv {l : List UInt8} {es : List (ByteArray × ByteArray)} (hn : es.length ≤ 16) {s c : UInt8} {r : Int} (h : FirstM (allM l es) (fun m => (⟨#[m.sg, m.nm]⟩ : ByteArray).toList == (⟨#[s, c]⟩ : ByteArray).toList) r) : (r = -1 ∧ mvOf l es s c = none) ∨ ∃ k m, r = (k : Nat) ∧ (allM l es)[k]? = some m ∧ mvOf l es s c = some m := by
  rcases h with ⟨h1, h2⟩ | ⟨k, m, h1, h2, h3⟩
  · refine .inl ⟨h1, ?_⟩
    cases hm : mvOf l es s c with
    | none => rfl
    | some m =>
      obtain ⟨k1, k2, k3⟩ := mv_all hn hm
      have : ((⟨#[m.sg, m.nm]⟩ : ByteArray).toList == (⟨#[s, c]⟩ : ByteArray).toList) = false := h2 m k1
      rw [two_eq, k2, k3] at this
      simp at this
  · refine .inr ⟨k, m, h1, h2, ?_⟩
    have h4 : ((⟨#[m.sg, m.nm]⟩ : ByteArray).toList == (⟨#[s, c]⟩ : ByteArray).toList) = true := h3
    rw [two_eq] at h4
    simp at h4
    have := all_mv hn (List.mem_of_getElem? h2)
    rwa [h4.1, h4.2] at this

/-- what is handed back: the moves of a round, or none -/
def ReadPost (l : List UInt8) (es : List (ByteArray × ByteArray)) (r : List UInt8) (w : World) (e : Ending) (w' : World) : Prop :=
  ((∃ ms A c, e = .returned (.tuple #[.slice A ms.length c, .bool true]) ∧ RoundOk l es r ms ∧ MovesIn w' w'.heap.size A ms) ∨ (e = .returned (.tuple #[.slice none 0 0, .bool false]) ∧ ¬ ∃ ms, RoundOk l es r ms)) ∧ Below w.heap.size w w'

/-- what holds while moves are read -/
structure ReadAt (l : List UInt8) (es : List (ByteArray × ByteArray)) (r : List UInt8) (w2 wr : World) (v : Value) (P : Nat) (ms : List Mv) : Prop where
  pre : PreR l es r ms
  len : 2 * ms.length ≤ r.length
  own : wr.ownsRow w2.heap.size 68 3 v ms.length (cellsM ms)
  box : wr.rowIs P 3 1 (fun _ => .int .i64 ((2 * ms.length : Nat) : Int))
  up : w2.heap.size ≤ P
  ap : some P ≠ v.ownBlock
  below : Below w2.heap.size w2 wr

def lenOf : Value → Nat
  | .slice _ n _ => n
  | _ => 0
theorem lenOf_own {W : World} {b : Nat} {T : TypeId} {z n : Nat} {v : Value} {xs : List Value} (h : W.ownsRow b T z v n xs) : lenOf v = n := by
  rcases h.2 with ⟨rfl, h0⟩ | ⟨g, cap, cur, rfl, _⟩
  · exact h0.symm
  · rfl
theorem mvC_new (W : World) (m : Mv) (a b c : ByteArray) (ha : (⟨#[m.sg, m.nm]⟩ : ByteArray) = a) (hb : (⟨#[m.fr]⟩ : ByteArray) = b) (hc : (⟨#[m.tb]⟩ : ByteArray) = c) : ∀ j u, (mvC m)[j]? = some u → (W.alloc (.cells #[.string a, .string b, .string c] 68)).cell? ((⟨W.heap.size, 0, none⟩ : Addr).add j) = some u := by
  intro j u hj
  have hg : (W.alloc (.cells #[.string a, .string b, .string c] 68)).heap[W.heap.size]? = some (.cells #[.string a, .string b, .string c] 68 (0, 0)) := heap_alloc_new _ _
  rw [add_none, Nat.zero_add, cell_of_row _ _ _ _ _ _ hg, ← ha, ← hb, ← hc]
  simpa [mvC] using hj
theorem mvC_one (m : Mv) : ∀ u ∈ mvC m, u.oneCell' = true := by
  intro u hu
  simp only [mvC, List.mem_cons, List.not_mem_nil, or_false] at hu
  rcases hu with rfl | rfl | rfl <;> rfl

theorem boxI (W : World) (x : Int) : (W.alloc (.cells #[.int .i64 x] 3)).rowIs W.heap.size 3 1 (fun _ => .int .i64 x) :=
  World.rowIs_alloc W _ _ _ fun i hi => by
    have : i = 0 := by simp at hi; omega
    subst this; rfl

set_option maxRecDepth 100000 in
set_option maxHeartbeats 4000000 in
/-- impl.readRound -/
theorem readRound_any (B : ByteArray) (A : Option Addr) (cap : Nat) (es : List (ByteArray × ByteArray)) (r : ByteArray) (w : World) (hs : B.size ≤ maxLen) (hE : EdgesIn w w.heap.size A es) (hl : es.length ≤ 1099511627776) (hV : Valid B.data.toList (ebs es)) (hrz : r.size ≤ 1099511627776) :
    Calls Try.prog 59 #[.agg #[.string B, .slice A es.length cap], .string r] w (ReadPost B.data.toList es r.data.toList w) := by
  obtain ⟨i0, hi, hi0, hi1, hi2⟩ := info_parts moveInfo
  have HI := Lib.hid hi; have HI0 := Lib.hid hi0; have HI1 := Lib.hid hi1; have HI2 := Lib.hid hi2
  have h16 := (valid_sizes hV).2
  have hrl : r.data.toList.length = r.size := by simp
  have FNW : Hid (∀ W : World, Calls Try.prog 90 #[.agg #[.string B, .slice A es.length cap], .func (.func 91) #[] #[]] W fun e w' => e = .returned (.string ⟨(names (fun _ => true) es.length).toArray⟩) ∧ Below W.heap.size W w') := Lib.hid fun W =>
    namesWhere_any B A es.length cap 91 #[] (fun _ => true) W (by omega) (enters_of Try.func91 (by kernel_rfl) rfl) (fun i W _ _ => yes_any i W)
  obtain ⟨nm, hnm⟩ : ∃ nm : ByteArray, (⟨(names (fun _ => true) es.length).toArray⟩ : ByteArray) = nm := ⟨_, rfl⟩
  rw [hnm] at FNW
  have hnd : nm.data.toList = (List.range es.length).map nameOf := by
    rw [← hnm]
    show names (fun _ => true) es.length = _
    unfold names
    rw [List.filter_eq_self.2 (by simp)]
  have hns : nm.size = es.length := by rw [str_size hnd]; simp
  have hkn : Known es.length nm.data.toList := by
    intro i hi
    rw [hnd, List.length_map, List.length_range] at hi
    have hg : ∀ j, j < es.length → nm.data.toList.getD j 0 = nameOf j := fun j hj => by
      rw [hnd, List.getD_eq_getElem?_getD, List.getElem?_map, List.getElem?_range hj]; rfl
    rw [hg i hi]
    refine ⟨by rw [eIdx_name hi (by omega)]; omega, fun h0 => ?_⟩
    rw [hg (i - 1) (by omega), nameOf_toNat (by omega), nameOf_toNat (by omega)]
    omega
  have hks : ksOf nm.data.toList = List.range es.length := by
    unfold ksOf
    rw [hnd, List.map_map]
    apply List.ext_getElem?
    intro i
    by_cases hi : i < es.length
    · rw [List.getElem?_map, List.getElem?_range hi, Option.map_some]
      show some ((nameOf i).toNat - 97) = some i
      rw [nameOf_toNat (by omega)]
      congr 1
      omega
    · rw [List.getElem?_eq_none (by simp; omega), List.getElem?_eq_none (by simp; omega)]
  have FMV : Hid (∀ W : World, EdgesIn W W.heap.size A es → Calls Try.prog 89 #[.agg #[.string B, .slice A es.length cap], .string nm] W fun e w' => ∃ A' c, e = .returned (.slice A' (allM B.data.toList es).length c) ∧ MovesIn w' w'.heap.size A' (allM B.data.toList es) ∧ Below W.heap.size W w') := Lib.hid fun W h => by
    have := movesAll_any B A cap es nm W hs h hl hV hkn (by omega)
    rw [hks] at this
    exact this
  have HFM : Hid (∀ (s c : UInt8) (i : Int), FirstM (allM B.data.toList es) (fun m => (⟨#[m.sg, m.nm]⟩ : ByteArray).toList == (⟨#[s, c]⟩ : ByteArray).toList) i → (i = -1 ∧ mvOf B.data.toList es s c = none) ∨ ∃ k m, i = (k : Nat) ∧ (allM B.data.toList es)[k]? = some m ∧ mvOf B.data.toList es s c = some m) := Lib.hid fun s c i h => first_mv h16 h
  have halen : (allM B.data.toList es).length ≤ 100 := by unfold allM; rw [msP_len]; simp; omega
  obtain ⟨all, hall⟩ : ∃ all, allM B.data.toList es = all := ⟨_, rfl⟩
  rw [hall] at FMV HFM halen
  obtain ⟨l, hle⟩ : ∃ l, B.data.toList = l := ⟨_, rfl⟩
  rw [hle] at HFM ⊢
  have HRL := Lib.hid hrl; have HAL := Lib.hid halen
  have hbA : Below w.heap.size w ((w.alloc (.cells #[.string B, .slice A es.length cap] 30)).alloc (.cells #[.string r] 9)) := ((Below.refl _ _).alloc (Nat.le_refl _) _).alloc (by simp) _
  have htA : Two ((w.alloc (.cells #[.string B, .slice A es.length cap] 30)).alloc (.cells #[.string r] 9)) w.heap.size B A es.length cap := ⟨by go_simp, by go_simp⟩
  have hrA : ((w.alloc (.cells #[.string B, .slice A es.length cap] 30)).alloc (.cells #[.string r] 9)).cell? ⟨w.heap.size + 1, 0, none⟩ = some (.string r) := by go_simp
  have hzA : ((w.alloc (.cells #[.string B, .slice A es.length cap] 30)).alloc (.cells #[.string r] 9)).heap.size = w.heap.size + 2 := by simp
  obtain ⟨w1, hw1⟩ : ∃ w1, (w.alloc (.cells #[.string B, .slice A es.length cap] 30)).alloc (.cells #[.string r] 9) = w1 := ⟨_, rfl⟩
  rw [hw1] at hbA htA hrA hzA
  have HW1 := Lib.hid hw1; have HBA := Lib.hid hbA; have HTA := Lib.hid htA; have HRA := Lib.hid hrA; have HZA := Lib.hid hzA
  clear hi hi0 hi1 hi2 h16 hrl hnm hnd hns hkn hks hall hle hs hl hV halen hbA htA hrA hzA hw1
  by_cases hlo : r.size < 2 ∨ 120 < r.size ∨ r.size % 2 ≠ 0
  · have HNO : Hid (¬ ∃ ms, RoundOk l es r.data.toList ms) := Lib.hid (by
      rintro ⟨ms, h1, h2, h3, _⟩
      rw [HRL.out] at h1 h2 h3
      omega)
    by_cases h1 : r.size < 2
    · have q1 : (r.size : Int) < 2 := by omega
      clear hlo h1
      go_enter Try.func59, Try.ntmps59
      go_wp2_with fail
      refine bodyPost_ret (v := .tuple #[.slice none 0 0, .bool false]) (by simp [results, Try.results59, go_sem]) rfl ⟨.inr ⟨rfl, HNO.out⟩, ?_⟩
      rw [HW1.out]
      exact HBA.out
    by_cases h2 : 120 < r.size
    · have q1 : ¬ (r.size : Int) < 2 := by omega
      have q2 : (120 : Int) < (r.size : Int) := by omega
      clear hlo h1 h2
      go_enter Try.func59, Try.ntmps59
      go_wp2_with fail
      refine bodyPost_ret (v := .tuple #[.slice none 0 0, .bool false]) (by simp [results, Try.results59, go_sem]) rfl ⟨.inr ⟨rfl, HNO.out⟩, ?_⟩
      rw [HW1.out]
      exact HBA.out
    · have q1 : ¬ (r.size : Int) < 2 := by omega
      have q2 : ¬ (120 : Int) < (r.size : Int) := by omega
      have q3 : (0 : Int) ≤ (r.size : Int) := by omega
      have q4 : ((r.size : Int) % 2 != 0) = true := by rw [bne_iff_ne]; omega
      clear hlo h1 h2
      go_enter Try.func59, Try.ntmps59
      go_wp2_with fail
      refine bodyPost_ret (v := .tuple #[.slice none 0 0, .bool false]) (by simp [results, Try.results59, go_sem]) rfl ⟨.inr ⟨rfl, HNO.out⟩, ?_⟩
      rw [HW1.out]
      exact HBA.out
  have hsz : 2 ≤ r.size ∧ r.size ≤ 120 ∧ r.size % 2 = 0 := by omega
  have HSZ := Lib.hid hsz
  have q1 : ¬ (r.size : Int) < 2 := by omega
  have q2 : ¬ (120 : Int) < (r.size : Int) := by omega
  have q3 : (0 : Int) ≤ (r.size : Int) := by omega
  have q4 : ((r.size : Int) % 2 != 0) = false := by rw [bne_eq_false_iff_eq]; omega
  clear hlo hsz
  go_enter Try.func59, Try.ntmps59
  go_wp2_with fail
  rw [HW1.out]
  have HSS : Hid (∀ W, Below w1.heap.size w1 W → (W.cell? ⟨w.heap.size, 0, none⟩ = some (.string B) ∧ W.cell? ⟨w.heap.size, 1, none⟩ = some (.slice A es.length cap))) := Lib.hid fun W h =>
    ⟨(h.cell (by have := HZA.out; simp only; omega)).trans HTA.out.1, (h.cell (by have := HZA.out; simp only; omega)).trans HTA.out.2⟩
  go_region_held3 (fun W => W.cell? ⟨w.heap.size, 0, none⟩ = some (.string B) ∧ W.cell? ⟨w.heap.size, 1, none⟩ = some (.slice A es.length cap))
    (first
      | exact HSS.out _ (Below.refl _ _).drew
      | exact HSS.out _ HB3.out
      | exact HSS.out _ HB2.out)
    (first
      | (go_at_call 90
         go_must (
         refine (FNW.out _).mono ?_
         rintro e w3 ⟨rfl, hb3⟩
         have HB3 : Hid (Below w1.heap.size w1 w3) := Lib.hid ((Below.refl _ _).drew.trans hb3)
         clear hb3))
      | (go_at_call 89
         go_must (
         refine (FMV.out _ ((hE.below (HBA.out.trans (HB3.out.mono HBA.out.size))).more (HBA.out.trans (HB3.out.mono HBA.out.size)).size)).mono ?_
         rintro e w2 ⟨A2, c2, rfl, hm2, hb2⟩
         have HB2 : Hid (Below w1.heap.size w1 w2) := Lib.hid (HB3.out.trans (hb2.mono HB3.out.size))
         have HM2 := Lib.hid hm2
         clear hb2 hm2)))
  rename_i hHeld
  clear hHeld HSS q1 q2 q3 q4
  have HW2 : Hid (Below w.heap.size w w2) := Lib.hid (HBA.out.trans (HB2.out.mono HBA.out.size))
  have HZ2 : Hid (w.heap.size + 2 ≤ w2.heap.size) := Lib.hid (by have := HB2.out.size; have := HZA.out; omega)
  have HR2 : Hid (w2.cell? ⟨w.heap.size + 1, 0, none⟩ = some (.string r)) := Lib.hid ((HB2.out.cell (by have := HZA.out; simp only; omega)).trans HRA.out)
  clear HB2 HB3 HTA HRA HZA HBA
  have HS0 : Hid (ReadAt l es r.data.toList w2 (w2.alloc (.cells #[.int .i64 0] 3)) (.slice none 0 0) w2.heap.size []) := Lib.hid
    ⟨PreR.nil _ _ _, by simp, ⟨rfl, .inl ⟨rfl, rfl⟩⟩, (boxI w2 0), Nat.le_refl _, by simp [Value.ownBlock], (Below.refl _ _).alloc (Nat.le_refl _) _⟩
  go_wp2_with fail
  go_loopw [7, 8] (fun vv pp wr => ∃ (P : Nat) (ms : List Mv), pp = .pointer (some ⟨P, 0, none⟩) ∧ Hid (ReadAt l es r.data.toList w2 wr vv P ms)) (fun vv _ _ => 200 - lenOf vv)
  case atStart => exact ⟨w2.heap.size, [], rfl, HS0⟩
  case round =>
    clear HS0
    obtain ⟨P, ms, rfl, HRD⟩ := hrel
    obtain ⟨q, hq⟩ : ∃ q, 2 * ms.length = q := ⟨_, rfl⟩
    have hlen := HRD.out.len
    rw [HRL.out] at hlen
    have hsz := HSZ.out
    have hbx := HRD.out.box
    have hPl := hbx.lt
    have hcP := hbx.cell (i := 0) (by omega)
    have hfP := hbx.frozen 0
    rw [hq] at hcP
    have hbl := HRD.out.below
    have hup := HRD.out.up
    have hz2 := HZ2.out
    have hwr := hbl.size
    have hR := (hbl.cell (p := ⟨w.heap.size + 1, 0, none⟩) (by simp only; omega)).trans HR2.out
    have HQ := Lib.hid hq
    have HBX := Lib.hid hbx; have HBL := Lib.hid hbl
    have hM := (HM2.out.below hbl).more hbl.size
    have HMW := Lib.hid hM
    clear hbx hbl hM
    by_cases hlt : q < r.size
    case neg =>
      have hqe : q = r.size := by omega
      obtain ⟨j1, hj1⟩ : ∃ j1, ms.length = j1 + 1 := ⟨ms.length - 1, by omega⟩
      obtain ⟨vg, vc, rfl⟩ := Go.Joins.ownsRow_form HRD.out.own (by omega)
      obtain ⟨x, hx⟩ : ∃ x, ms[j1]? = some x := ⟨_, List.getElem?_eq_getElem (by omega)⟩
      obtain ⟨m, hm⟩ : ∃ m, ms[0]? = some m := ⟨_, List.getElem?_eq_getElem (by omega)⟩
      obtain ⟨hxl, hxe⟩ := List.getElem?_eq_some_iff.1 hx
      obtain ⟨hml, hme⟩ := List.getElem?_eq_some_iff.1 hm
      have hcx := (cellsM_at hxl).2.2
      have hcm := (cellsM_at hml).2.1
      rw [hxe] at hcx
      rw [hme] at hcm
      have g4 := HRD.out.own.cells (g := vg) rfl _ _ hcx
      have g2 := HRD.out.own.cells (g := vg) rfl _ _ hcm
      rw [add_none, Nat.zero_add] at g4 g2
      rw [Nat.zero_mul, Nat.zero_add] at g2
      obtain ⟨t4, h4⟩ : ∃ t4 : ByteArray, (⟨#[x.tb]⟩ : ByteArray) = t4 := ⟨_, rfl⟩
      obtain ⟨t2, h2⟩ : ∃ t2 : ByteArray, (⟨#[m.fr]⟩ : ByteArray) = t2 := ⟨_, rfl⟩
      rw [h4] at g4
      rw [h2] at g2
      have H4 := Lib.hid h4; have H2 := Lib.hid h2
      have hiff : (∃ ns, RoundOk l es r.data.toList ns) ↔ ClosedR ms := full_round (by rw [HRL.out]; omega) (by rw [HRL.out]; omega) HRD.out.pre (by rw [HRL.out]; omega)
      have HI59 := Lib.hid hiff
      have hcl : ClosedR ms ↔ m.fr = x.tb := by
        refine ⟨fun ⟨a, b, ha, hb, he⟩ => ?_, fun he => ⟨m, x, hm, by rw [hj1]; exact hx, he⟩⟩
        rw [hm] at ha
        rw [hj1, show j1 + 1 - 1 = j1 by omega, hx] at hb
        injection ha with ha
        injection hb with hb
        rw [ha, hb, he]
      have HCL := Lib.hid hcl
      have HOKS : Hid (m.fr = x.tb → RoundOk l es r.data.toList ms) := Lib.hid fun he => ⟨by rw [HRL.out]; omega, by rw [HRL.out]; omega, by rw [HRL.out]; omega, HRD.out.pre, HCL.out.2 he⟩
      have HFIN : Hid (Below w.heap.size w wr) := Lib.hid (HW2.out.trans (HBL.out.mono HW2.out.size))
      have HMS : Hid (∀ W : World, Below wr.heap.size wr W → MovesIn W W.heap.size (some ⟨vg, 0, none⟩) ms) := Lib.hid fun W hW => by
        obtain ⟨A', c', hv', hmv⟩ := moves_of_own (w := W) rfl (ownsRow_of_block HRD.out.own fun b hb => hW.block b (ownBlock_lt HRD.out.own hb).2)
        injection hv' with e1 e2 e3
        rw [e1]
        exact hmv
      have z1 : IntKind.i64.wrap ((ms.length : Int) - 1) = (j1 : Int) := by
        rw [show (ms.length : Int) - 1 = (j1 : Int) by omega]; exact IntWalk.i64_in _ (by omega)
      have z2 : (0 : Int) ≤ (j1 : Int) := by omega
      have z3 : (j1 : Int) < (ms.length : Int) := by omega
      have z4 : (0 : Int) < (ms.length : Int) := by omega
      have z5 : 0 < ms.length := by omega
      have hnl : ¬ (q : Int) < (r.size : Int) := by omega
      clear hj1 hx hm hxl hxe hml hme hcx hcm h4 h2 hiff hcl hqe hlt
      by_cases hfx : m.fr = x.tb
      · have HOK := Lib.hid (HOKS.out hfx)
        have qe : (t2.toList == t4.toList) = true := by rw [beq_iff_eq, Lib.toList_data, Lib.toList_data, ← H2.out, ← H4.out, hfx]
        clear hfx
        go_wp2_with fail
        go_quiet (fail)
        go_wp2_with fail
        refine bodyPost_ret (v := .tuple #[.slice (some ⟨vg, 0, none⟩) ms.length vc, .bool true]) (by simp [results, Try.results59, go_sem]) rfl ⟨.inl ⟨ms, _, vc, rfl, HOK.out, ?_⟩, below_drewN HFIN.out _⟩
        exact HMS.out _ (below_drewN (Below.refl _ _) _)
      · have HNO : Hid (¬ ∃ ms, RoundOk l es r.data.toList ms) := Lib.hid fun h => hfx (HCL.out.1 (HI59.out.1 h))
        have qe : (t2.toList == t4.toList) = false := by rw [beq_eq_false_iff_ne]; intro e; rw [Lib.toList_data, Lib.toList_data, ← H2.out, ← H4.out] at e; exact hfx (by simpa using e)
        clear hfx
        go_wp2_with fail
        go_quiet (fail)
        go_wp2_with fail
        refine bodyPost_ret (v := .tuple #[.slice none 0 0, .bool false]) (by simp [results, Try.results59, go_sem]) rfl ⟨.inr ⟨rfl, HNO.out⟩, ?_⟩
        exact below_drewN HFIN.out _
    obtain ⟨s, hs⟩ : ∃ s, r.data.toList.getD q 0 = s := ⟨_, rfl⟩
    obtain ⟨c, hc⟩ : ∃ c, r.data.toList.getD (q + 1) 0 = c := ⟨_, rfl⟩
    have hq2 : q + 2 ≤ r.size := by omega
    have hex : r.extract q (q + 2) = ⟨#[s, c]⟩ := by
      apply bytes_ext
      have hl1 : q < r.data.toList.length := by rw [HRL.out]; omega
      have hl2 : q + 1 < r.data.toList.length := by rw [HRL.out]; omega
      rw [Lib.extract_data, show q + 2 - q = 2 by omega, List.drop_eq_getElem_cons hl1, List.drop_eq_getElem_cons hl2, ← hs, ← hc]
      rw [List.getD_eq_getElem?_getD, List.getElem?_eq_getElem hl1, List.getD_eq_getElem?_getD, List.getElem?_eq_getElem hl2]
      rfl
    have HIX : Hid (Calls Try.prog 92 #[.slice A2 all.length c2, .func (.func 93) #[] #[.pointer (some ⟨w.heap.size + 1, 0, none⟩), .pointer (some ⟨P, 0, none⟩)]] wr fun e w' => ∃ i : Int, e = .returned (.int .i64 i) ∧ FirstM all (fun m => (⟨#[m.sg, m.nm]⟩ : ByteArray).toList == (⟨#[s, c]⟩ : ByteArray).toList) i ∧ Below wr.heap.size wr w') := Lib.hid
      (indexM_any A2 c2 all 93 #[.pointer (some ⟨w.heap.size + 1, 0, none⟩), .pointer (some ⟨P, 0, none⟩)] _ wr HMW.out HAL.out (enters_of Try.func93 (by kernel_rfl) rfl) (fun m W hW => by
        rw [← hex]
        exact sameText_any m r _ (w.heap.size + 1) P q W ((hW.cell (by simp only; omega)).trans hR) ((hW.cell hPl).trans hcP) (by have := hW.size; omega) (by have := hW.size; omega) hq2 (by omega) rfl))
    have hqi : (q : Int) < (r.size : Int) := by omega
    have HSE := Lib.hid hs; have HCE := Lib.hid hc
    clear hex hs hc hq
    go_wp2_with fail
    refine HIX.out.mono ?_
    rintro e w3 ⟨i, rfl, hfm, hb3⟩
    have hfm2 := HFM.out s c i hfm
    have hcP3 := (hb3.cell (p := ⟨P, 0, none⟩) hPl).trans hcP
    have hfP3 := (hb3.frozen (p := ⟨P, 0, none⟩) hPl).trans hfP
    have hR3 := (hb3.cell (p := ⟨w.heap.size + 1, 0, none⟩) (by simp only; omega)).trans hR
    have HB3 := Lib.hid hb3
    clear hfm hb3 hcP hfP hR HIX hqi
    rcases hfm2 with ⟨rfl, hno⟩ | ⟨k, m, rfl, hkm, hmv⟩
    · have HNO : Hid (¬ ∃ ms, RoundOk l es r.data.toList ms) := Lib.hid (no_round HRD.out.pre (by rw [HRL.out, HQ.out]; exact hlt) fun m hm => by
        rw [HQ.out, HSE.out, HCE.out, hno] at hm; cases hm)
      have HFIN : Hid (Below w.heap.size w w3) := Lib.hid (HW2.out.trans ((HBL.out.trans (HB3.out.mono HBL.out.size)).mono HW2.out.size))
      clear hno hcP3 hfP3 hR3
      go_wp2_with fail
      go_quiet (fail)
      go_wp2_with fail
      refine bodyPost_ret (v := .tuple #[.slice none 0 0, .bool false]) (by simp [results, Try.results59, go_sem]) rfl ⟨.inr ⟨rfl, HNO.out⟩, ?_⟩
      first | exact HFIN.out | exact below_drewN HFIN.out _
    obtain ⟨hkl, hke⟩ := List.getElem?_eq_some_iff.1 hkm
    obtain ⟨pb, po, rfl, hlow, g1, g2, g3⟩ := HMW.out k hkl
    rw [hke] at g1 g2 g3
    obtain ⟨t1, h1⟩ : ∃ t1 : ByteArray, (⟨#[m.sg, m.nm]⟩ : ByteArray) = t1 := ⟨_, rfl⟩
    obtain ⟨t2, h2⟩ : ∃ t2 : ByteArray, (⟨#[m.fr]⟩ : ByteArray) = t2 := ⟨_, rfl⟩
    obtain ⟨t3, h3⟩ : ∃ t3 : ByteArray, (⟨#[m.tb]⟩ : ByteArray) = t3 := ⟨_, rfl⟩
    rw [h1] at g1
    rw [h2] at g2
    rw [h3] at g3
    have H1 := Lib.hid h1; have H2 := Lib.hid h2; have H3 := Lib.hid h3
    have g1 := (HB3.out.cell (p := ⟨pb, po + k * 3, none⟩) hlow).trans g1
    have g2 := (HB3.out.cell (p := ⟨pb, po + k * 3 + 1, none⟩) hlow).trans g2
    have g3 := (HB3.out.cell (p := ⟨pb, po + k * 3 + 2, none⟩) hlow).trans g3
    have k0 : (0 : Int) ≤ (k : Int) := by omega
    have k1 : (k : Int) < (all.length : Int) := by omega
    have HMV : Hid (mvOf l es (r.data.toList.getD (2 * ms.length) 0) (r.data.toList.getD (2 * ms.length + 1) 0) = some m) := Lib.hid (by rw [HQ.out, HSE.out, HCE.out, hmv])
    clear hkm hke h1 h2 h3 hmv
    by_cases hj : ms.length = 0
    · have n0 : decide (0 < q) = false := by have := HQ.out; simp; omega
      have d0 : decide ((k : Int) < 0) = false := by simp
      have HPRE : Hid (PreR l es r.data.toList (ms ++ [m])) := Lib.hid (HRD.out.pre.snoc HMV.out (.inl hj))
      clear hj
      go_wp2_with fail
      go_quiet (fail)
      obtain ⟨w4, hw4⟩ : ∃ w4, w3.drewN nq = w4 := ⟨_, rfl⟩
      have hb4 : Below w3.heap.size w3 w4 := by rw [← hw4]; exact below_drewN (Below.refl _ _) _
      rw [hw4]
      clear hw4
      have HB4 := Lib.hid (HB3.out.trans (hb4.mono HB3.out.size))
      have HOWN5 := Lib.hid (ownsRow_of_block HRD.out.own fun b hb => (HB4.out.alloc HB4.out.size (.cells #[.string t1, .string t2, .string t3] 68)).block b (ownBlock_lt HRD.out.own hb).2)
      have HNEWS := Lib.hid (mvC_new w4 m t1 t2 t3 H1.out H2.out H3.out)
      have hz4 := hb4.size
      have hz3 := HB3.out.size
      have HZ5 : Hid (w2.heap.size ≤ (w4.alloc (.cells #[.string t1, .string t2, .string t3] 68)).heap.size) := Lib.hid (by simp; omega)
      have HF1 : Hid (ms.length + 1 ≤ maxLen) := Lib.hid (by unfold maxLen; omega)
      have HF2 : Hid ((ms.length + 1) * 48 ≤ 140737488355328) := Lib.hid (by omega)
      have g1' := (hb4.cell (p := ⟨pb, po + k * 3, none⟩) (by simp only; omega)).trans g1
      have g2' := (hb4.cell (p := ⟨pb, po + k * 3 + 1, none⟩) (by simp only; omega)).trans g2
      have g3' := (hb4.cell (p := ⟨pb, po + k * 3 + 2, none⟩) (by simp only; omega)).trans g3
      have HPP : Hid ((w4.alloc (.cells #[.string t1, .string t2, .string t3] 68)).cell? ⟨P, 0, none⟩ = some (.int .i64 (q : Int))) := Lib.hid (((Below.refl _ _).alloc (Nat.le_refl _) _).cell (by simp only; omega) |>.trans ((hb4.cell (p := ⟨P, 0, none⟩) (by simp only; omega)).trans hcP3))
      have HPL5 : Hid (P < (w4.alloc (.cells #[.string t1, .string t2, .string t3] 68)).heap.size) := Lib.hid (by simp; omega)
      have HB5 : Hid (Below w2.heap.size w2 (w4.alloc (.cells #[.string t1, .string t2, .string t3] 68))) := Lib.hid (HBL.out.trans ((HB4.out.alloc HB4.out.size _).mono HBL.out.size))
      clear g1 g2 g3 hcP3 hfP3 hR3 hb4
      go_wp2_with (at_builtin
                   refine wpList_append_own_at _ rfl (.tmp 58) (.tmp 63) 63 rfl w2.heap.size 68 i0 (.agg #[.string ⟨#[]⟩, .string ⟨#[]⟩, .string ⟨#[]⟩]) 3 48 Try.underlying63 HI.out HI0.out HI1.out HI2.out rfl (by decide) _ ms.length (cellsM ms) rfl HOWN5.out ⟨w4.heap.size, 0, none⟩ 1 1 (mvC m) rfl rfl HNEWS.out (mvC_one m) HF1.out HF2.out HZ5.out ?_
                   intro v6 w6 hown6 hgr6 hnil6 hat6
                   have hcP6 : w6.cell? ⟨P, 0, none⟩ = some (.int .i64 (q : Int)) := (World.cell?_of_block (hgr6.block P HPL5.out HRD.out.ap)).trans HPP.out
                   have HOWN6 := Lib.hid hown6
                   have HB6 : Hid (Below w2.heap.size w2 w6) := Lib.hid (HB5.out.grown hgr6 HZ5.out (fun _ e => Nat.le_of_not_lt fun hq => ownI_ne HOWN5.out hq e.symm))
                   clear hown6 hgr6 hnil6 hat6)
      refine ⟨⟨w6.heap.size, ms ++ [m], rfl, Lib.hid ⟨HPRE.out, ?_, ?_, ?_, ?_, ?_, HB6.out.alloc HB6.out.size _⟩⟩, ?_⟩
      · rw [HRL.out, List.length_append, List.length_singleton]; have := HQ.out; omega
      · have h := ownsRow_of_block (w' := w6.alloc (.cells #[.int .i64 ((q : Int) + 2)] 3)) HOWN6.out fun b hb => Below.heap_alloc _ _ _ (ownBlock_lt HOWN6.out hb).2
        rw [List.length_append, List.length_singleton, cellsM_append, show cellsM [m] = mvC m by simp [cellsM]]
        exact h
      · have h := boxI w6 ((q : Int) + 2)
        refine h.congr fun i _ => ?_
        rw [List.length_append, List.length_singleton]
        have := HQ.out
        congr 1
        omega
      · exact HB6.out.size
      · intro e
        have := (ownBlock_lt HOWN6.out e.symm).2
        omega
      · rw [lenOf_own HOWN6.out, lenOf_own HRD.out.own]
        omega
    obtain ⟨j1, hj1⟩ : ∃ j1, ms.length = j1 + 1 := ⟨ms.length - 1, by omega⟩
    obtain ⟨vg, vc, rfl⟩ := Go.Joins.ownsRow_form HRD.out.own (by omega)
    obtain ⟨x, hx⟩ : ∃ x, ms[j1]? = some x := ⟨_, List.getElem?_eq_getElem (by omega)⟩
    obtain ⟨hxl, hxe⟩ := List.getElem?_eq_some_iff.1 hx
    have hcx := (cellsM_at hxl).2.2
    rw [hxe] at hcx
    have g4 := HRD.out.own.cells (g := vg) rfl _ _ hcx
    rw [add_none, Nat.zero_add] at g4
    obtain ⟨t4, h4⟩ : ∃ t4 : ByteArray, (⟨#[x.tb]⟩ : ByteArray) = t4 := ⟨_, rfl⟩
    rw [h4] at g4
    have H4 := Lib.hid h4
    have g4 := (HB3.out.cell (p := ⟨vg, j1 * 3 + 2, none⟩) (by have := World.block_lt_of_cell? wr _ g4; exact this)).trans g4
    have n0 : decide (0 < q) = true := by have := HQ.out; simp; omega
    have d0 : decide ((k : Int) < 0) = false := by simp
    have z1 : IntKind.i64.wrap ((ms.length : Int) - 1) = (j1 : Int) := by
      rw [show (ms.length : Int) - 1 = (j1 : Int) by omega]; exact IntWalk.i64_in _ (by omega)
    have z2 : (0 : Int) ≤ (j1 : Int) := by omega
    have z3 : (j1 : Int) < (ms.length : Int) := by omega
    have HX : Hid (ms[ms.length - 1]? = some x) := Lib.hid (by rw [hj1]; exact hx)
    have HJ1 := Lib.hid hj1
    clear hj1 hx hxl hxe hcx h4
    by_cases hfx : m.fr = x.tb
    case neg =>
      have HNO : Hid (¬ ∃ ms, RoundOk l es r.data.toList ms) := Lib.hid (no_round HRD.out.pre (by rw [HRL.out, HQ.out]; exact hlt) fun m' hm' => by
        rw [HMV.out] at hm'
        injection hm' with hm'
        subst hm'
        exact ⟨hj, x, HX.out, hfx⟩)
      have HFIN : Hid (Below w.heap.size w w3) := Lib.hid (HW2.out.trans ((HBL.out.trans (HB3.out.mono HBL.out.size)).mono HW2.out.size))
      have qe : (t2.toList == t4.toList) = false := by rw [beq_eq_false_iff_ne]; intro e; rw [Lib.toList_data, Lib.toList_data, ← H2.out, ← H4.out] at e; exact hfx (by simpa using e)
      clear hfx hj
      go_wp2_with fail
      go_quiet (fail)
      go_wp2_with fail
      refine bodyPost_ret (v := .tuple #[.slice none 0 0, .bool false]) (by simp [results, Try.results59, go_sem]) rfl ⟨.inr ⟨rfl, HNO.out⟩, ?_⟩
      first | exact HFIN.out | exact below_drewN HFIN.out _

    have HPRE : Hid (PreR l es r.data.toList (ms ++ [m])) := Lib.hid (HRD.out.pre.snoc HMV.out (.inr ⟨x, HX.out, hfx⟩))
    have qe : (t2.toList == t4.toList) = true := by rw [beq_iff_eq, Lib.toList_data, Lib.toList_data, ← H2.out, ← H4.out, hfx]
    clear hfx hj
    go_wp2_with fail
    go_quiet (fail)
    clear g4 z1 z2 z3 n0 d0 qe
    obtain ⟨w4, hw4⟩ : ∃ w4, w3.drewN nq = w4 := ⟨_, rfl⟩
    have hb4 : Below w3.heap.size w3 w4 := by rw [← hw4]; exact below_drewN (Below.refl _ _) _
    rw [hw4]
    clear hw4
    have HB4 := Lib.hid (HB3.out.trans (hb4.mono HB3.out.size))
    have HOWN5 := Lib.hid (ownsRow_of_block HRD.out.own fun b hb => (HB4.out.alloc HB4.out.size (.cells #[.string t1, .string t2, .string t3] 68)).block b (ownBlock_lt HRD.out.own hb).2)
    have HNEWS := Lib.hid (mvC_new w4 m t1 t2 t3 H1.out H2.out H3.out)
    have hz4 := hb4.size
    have hz3 := HB3.out.size
    have HZ5 : Hid (w2.heap.size ≤ (w4.alloc (.cells #[.string t1, .string t2, .string t3] 68)).heap.size) := Lib.hid (by simp; omega)
    have HF1 : Hid (ms.length + 1 ≤ maxLen) := Lib.hid (by unfold maxLen; omega)
    have HF2 : Hid ((ms.length + 1) * 48 ≤ 140737488355328) := Lib.hid (by omega)
    have g1' := (hb4.cell (p := ⟨pb, po + k * 3, none⟩) (by simp only; omega)).trans g1
    have g2' := (hb4.cell (p := ⟨pb, po + k * 3 + 1, none⟩) (by simp only; omega)).trans g2
    have g3' := (hb4.cell (p := ⟨pb, po + k * 3 + 2, none⟩) (by simp only; omega)).trans g3
    have HPP : Hid ((w4.alloc (.cells #[.string t1, .string t2, .string t3] 68)).cell? ⟨P, 0, none⟩ = some (.int .i64 (q : Int))) := Lib.hid (((Below.refl _ _).alloc (Nat.le_refl _) _).cell (by simp only; omega) |>.trans ((hb4.cell (p := ⟨P, 0, none⟩) (by simp only; omega)).trans hcP3))
    have HPL5 : Hid (P < (w4.alloc (.cells #[.string t1, .string t2, .string t3] 68)).heap.size) := Lib.hid (by simp; omega)
    have HB5 : Hid (Below w2.heap.size w2 (w4.alloc (.cells #[.string t1, .string t2, .string t3] 68))) := Lib.hid (HBL.out.trans ((HB4.out.alloc HB4.out.size _).mono HBL.out.size))
    clear g1 g2 g3 hcP3 hfP3 hR3 hb4
    go_wp2_with (at_builtin
                 refine wpList_append_own_at _ rfl (.tmp 58) (.tmp 63) 63 rfl w2.heap.size 68 i0 (.agg #[.string ⟨#[]⟩, .string ⟨#[]⟩, .string ⟨#[]⟩]) 3 48 Try.underlying63 HI.out HI0.out HI1.out HI2.out rfl (by decide) _ ms.length (cellsM ms) rfl HOWN5.out ⟨w4.heap.size, 0, none⟩ 1 1 (mvC m) rfl rfl HNEWS.out (mvC_one m) HF1.out HF2.out HZ5.out ?_
                 intro v6 w6 hown6 hgr6 hnil6 hat6
                 have hcP6 : w6.cell? ⟨P, 0, none⟩ = some (.int .i64 (q : Int)) := (World.cell?_of_block (hgr6.block P HPL5.out HRD.out.ap)).trans HPP.out
                 have HOWN6 := Lib.hid hown6
                 have HB6 : Hid (Below w2.heap.size w2 w6) := Lib.hid (HB5.out.grown hgr6 HZ5.out (fun _ e => Nat.le_of_not_lt fun hq => ownI_ne HOWN5.out hq e.symm))
                 clear hown6 hgr6 hnil6 hat6)
    refine ⟨⟨w6.heap.size, ms ++ [m], rfl, Lib.hid ⟨HPRE.out, ?_, ?_, ?_, ?_, ?_, HB6.out.alloc HB6.out.size _⟩⟩, ?_⟩
    · rw [HRL.out, List.length_append, List.length_singleton]; have := HQ.out; omega
    · have h := ownsRow_of_block (w' := w6.alloc (.cells #[.int .i64 ((q : Int) + 2)] 3)) HOWN6.out fun b hb => Below.heap_alloc _ _ _ (ownBlock_lt HOWN6.out hb).2
      rw [List.length_append, List.length_singleton, cellsM_append, show cellsM [m] = mvC m by simp [cellsM]]
      exact h
    · have h := boxI w6 ((q : Int) + 2)
      refine h.congr fun i _ => ?_
      rw [List.length_append, List.length_singleton]
      have := HQ.out
      congr 1
      omega
    · exact HB6.out.size
    · intro e
      have := (ownBlock_lt HOWN6.out e.symm).2
      omega
    · rw [lenOf_own HOWN6.out, lenOf_own HRD.out.own]
      omega

end Go.Proofs.Ythpfifjcallnbaa
