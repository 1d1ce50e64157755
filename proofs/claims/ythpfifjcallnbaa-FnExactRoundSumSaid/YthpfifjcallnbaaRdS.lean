/- A round read, by the model: l6Round. -/
import Derived.Test.YthpfifjcallnbaaRdP
import Derived.Test.YthpfifjcallnbaaZ6K
import Derived.Deep.RegionHeld3
import Derived.Deep.DeepCutAuto
import Derived.BigQuiet
namespace Go.Proofs.Ythpfifjcallnbaa
open Go.RowKit

/-- an edge in its box -/
structure EBox (w1 W : World) (p : Nat) (a b : ByteArray) : Prop where
  row : W.rowIs p 89 2 (fun i => .string (if i = 0 then a else b))
  up : w1.heap.size ≤ p
  below : Below w1.heap.size w1 W
theorem EBox.c0 {w1 W : World} {p : Nat} {a b : ByteArray} (h : EBox w1 W p a b) : W.cell? ⟨p, 0, none⟩ = some (.string a) := by have := h.row.cell (i := 0) (by omega); simpa using this
theorem EBox.c1 {w1 W : World} {p : Nat} {a b : ByteArray} (h : EBox w1 W p a b) : W.cell? ⟨p, 1, none⟩ = some (.string b) := by have := h.row.cell (i := 1) (by omega); simpa using this
theorem EBox.go {w1 W W' : World} {p : Nat} {a b : ByteArray} (h : EBox w1 W p a b) (k : Below W.heap.size W W') : EBox w1 W' p a b :=
  ⟨h.row.of_block (k.block p h.row.lt), h.up, h.below.trans (k.mono h.below.size)⟩
theorem EBox.put {w1 W : World} {p : Nat} {a b : ByteArray} (h : EBox w1 W p a b) (a' b' : ByteArray) : EBox w1 ((W.setCell ⟨p, 0, none⟩ (.string a')).setCell ⟨p, 1, none⟩ (.string b')) p a' b' :=
  ⟨((h.row.set 0 (.string a')).set 1 (.string b')).congr (fun i hi => by
    have : i = 0 ∨ i = 1 := by omega
    rcases this with rfl | rfl <;> simp), h.up, (h.below.setCell h.up _).setCell h.up _⟩
theorem EBox.new {w1 W : World} (h : Below w1.heap.size w1 W) (a b : ByteArray) : EBox w1 (W.alloc (.cells #[.string a, .string b] 89)) W.heap.size a b :=
  ⟨World.rowIs_alloc W _ _ _ fun i hi => by
    have : i = 0 ∨ i = 1 := by simp at hi; omega
    rcases this with rfl | rfl <;> rfl, h.size, h.alloc h.size _⟩

/-- where the first one begins -/
def FirstT (ms : List Mv) (f : ByteArray) : Prop := ∀ m, ms[0]? = some m → f = ⟨#[m.fr]⟩
/-- where the last one ends -/
def LastT (ms : List Mv) (f : ByteArray) : Prop := ∀ m, ms[ms.length - 1]? = some m → f = ⟨#[m.tb]⟩

set_option maxRecDepth 100000 in
set_option maxHeartbeats 4000000 in
/-- spec.l6Round -/
theorem l6Round_any (B : ByteArray) (A : Option Addr) (cap : Nat) (es : List (ByteArray × ByteArray)) (r : ByteArray) (w : World) (hs : B.size ≤ maxLen) (hE : EdgesIn w w.heap.size A es) (hl : es.length ≤ 1099511627776) (hV : Valid B.data.toList (ebs es)) (hrz : r.size ≤ 1099511627776) :
    Calls Try.prog 56 #[.agg #[.string B, .slice A es.length cap], .string r] w (BoolPost (decB (∃ ms, RoundOk B.data.toList es r.data.toList ms)) w) := by
  have h16 := (valid_sizes hV).2
  have hrl : r.data.toList.length = r.size := by simp
  have h2 : 2 ≤ B.data.toList.length := hV.1.1.1
  have hlb : B.data.toList.length = B.size := by simp
  obtain ⟨m1, m2, m3, m4⟩ := entry_exit h2 hV.1.1.2.2.2
  have hen : B.extract 0 1 = ⟨#[entry B.data.toList]⟩ := bytes_one (by
    have := letter_at (p := B) (i := 0) (by omega)
    rw [Nat.zero_add] at this
    rw [this, List.getD_eq_getElem?_getD, ← m3, idxL_get m1]; rfl)
  have hexi : B.extract (B.size - 1) B.size = ⟨#[exit_ B.data.toList]⟩ := bytes_one (by
    have := letter_at (p := B) (i := B.size - 1) (by omega)
    rw [show B.size - 1 + 1 = B.size by omega] at this
    rw [this, List.getD_eq_getElem?_getD, ← hlb, ← m4, idxL_get m2]; rfl)
  have FEN : Hid (∀ W : World, Calls Try.prog 73 #[.agg #[.string B, .slice A es.length cap]] W fun e w' => e = .returned (.string ⟨#[(edZ B.data.toList).b]⟩) ∧ Below W.heap.size W w') := Lib.hid fun W => by
    have := l1Entry_any B (.slice A es.length cap) W (by omega) hs
    rwa [hen] at this
  have FEX : Hid (∀ W : World, Calls Try.prog 87 #[.agg #[.string B, .slice A es.length cap]] W fun e w' => e = .returned (.string ⟨#[(edZ B.data.toList).a]⟩) ∧ Below W.heap.size W w') := Lib.hid fun W => by
    have := l1Exit_any B (.slice A es.length cap) W (by omega) hs
    rwa [hexi] at this
  have FIX : Hid (∀ (c : UInt8) (W : World), Calls Try.prog 43 #[.agg #[.string B, .slice A es.length cap], .string ⟨#[c]⟩] W fun e w' => e = .returned (.int .i64 (eIdx es.length [c])) ∧ Below W.heap.size W w') := Lib.hid fun c W => l1Index_any (.string B) A es.length cap ⟨#[c]⟩ W hl
  have FED : Hid (∀ (c : UInt8) (k : Nat), eIdx es.length [c] = (k : Int) → k < es.length → ∀ W : World, EdgesIn W W.heap.size A es → Calls Try.prog 80 #[.agg #[.string B, .slice A es.length cap], .string ⟨#[c]⟩] W fun e w' => e = .returned (.agg #[.string ⟨#[(edK es k).a]⟩, .string ⟨#[(edK es k).b]⟩]) ∧ Below W.heap.size W w') := Lib.hid fun c k hc hk W h => by
    have := l2Edge_any B A cap es ⟨#[c]⟩ k W h (by omega) hk hc
    obtain ⟨e1, e2, _⟩ := edK_at hV.1.2 hk
    rwa [e1, e2] at this
  obtain ⟨l, hle⟩ : ∃ l, B.data.toList = l := ⟨_, rfl⟩
  rw [hle] at FEN FEX ⊢
  have HRL := Lib.hid hrl; have H16 := Lib.hid h16
  have hb1 : Below w.heap.size w (w.alloc (.cells #[.string B, .slice A es.length cap] 30)) := (Below.refl _ _).alloc (Nat.le_refl _) _
  have t1 := Two.made w B A es.length cap 30
  have hz1 : (w.alloc (.cells #[.string B, .slice A es.length cap] 30)).heap.size = w.heap.size + 1 := by simp
  obtain ⟨w1, hw1⟩ : ∃ w1, w.alloc (.cells #[.string B, .slice A es.length cap] 30) = w1 := ⟨_, rfl⟩
  rw [hw1] at hb1 t1 hz1
  have HW1 := Lib.hid hw1; have HB1 := Lib.hid hb1; have HT1 := Lib.hid t1; have HZ1 := Lib.hid hz1
  clear h16 hrl h2 hlb m1 m2 m3 m4 hen hexi hle hs hl hV hb1 t1 hz1 hw1
  by_cases hlo : r.size = 0 ∨ r.size % 2 ≠ 0 ∨ 120 < r.size
  · have HNO : Hid (false = decB (∃ ms, RoundOk l es r.data.toList ms)) := Lib.hid (decB_f (by
      rintro ⟨ms, h1, h2, h3, _⟩
      rw [HRL.out] at h1 h2 h3
      omega)).symm
    have q3 : (0 : Int) ≤ (r.size : Int) := by omega
    by_cases h0 : r.size = 0
    · have q1 : ((r.size : Int) == 0) = true := by rw [beq_iff_eq]; omega
      clear hlo h0
      go_enter Try.func56, Try.ntmps56
      go_wp2_with fail
      go_ret
      rw [HW1.out]
      exact ⟨ret_bool HNO.out, HB1.out⟩
    have q1 : ((r.size : Int) == 0) = false := by rw [beq_eq_false_iff_ne]; omega
    by_cases h2 : r.size % 2 ≠ 0
    · have q4 : ((r.size : Int) % 2 != 0) = true := by rw [bne_iff_ne]; omega
      clear hlo h0 h2
      go_enter Try.func56, Try.ntmps56
      go_wp2_with fail
      go_ret
      rw [HW1.out]
      exact ⟨ret_bool HNO.out, HB1.out⟩
    · have q4 : ((r.size : Int) % 2 != 0) = false := by rw [bne_eq_false_iff_eq]; omega
      have q2 : (120 : Int) < (r.size : Int) := by omega
      clear hlo h0 h2
      go_enter Try.func56, Try.ntmps56
      go_wp2_with fail
      go_ret
      rw [HW1.out]
      exact ⟨ret_bool HNO.out, HB1.out⟩
  have hsz : 2 ≤ r.size ∧ r.size ≤ 120 ∧ r.size % 2 = 0 := by omega
  have HSZ := Lib.hid hsz
  have q1 : ((r.size : Int) == 0) = false := by rw [beq_eq_false_iff_ne]; omega
  have q2 : ¬ (120 : Int) < (r.size : Int) := by omega
  have q3 : (0 : Int) ≤ (r.size : Int) := by omega
  have q4 : ((r.size : Int) % 2 != 0) = false := by rw [bne_eq_false_iff_eq]; omega
  clear hlo hsz
  go_enter Try.func56, Try.ntmps56
  go_wp2_with fail
  rw [HW1.out]
  clear q1 q4
  go_loopw [5, 6, 7] (fun f a c wr => ∃ (ms : List Mv) (q : Nat) (ft lt : ByteArray), f = .string ft ∧ a = .string lt ∧ c = .int .i64 (q : Int) ∧ Hid (q = 2 * ms.length) ∧ q ≤ r.size ∧ Hid (PreR l es r.data.toList ms) ∧ Hid (FirstT ms ft) ∧ Hid (LastT ms lt) ∧ Hid (Below w1.heap.size w1 wr)) (fun _ _ c _ => r.size - (intOf c).toNat)
  case atStart => exact ⟨[], 0, ⟨#[]⟩, ⟨#[]⟩, rfl, rfl, rfl, Lib.hid rfl, Nat.zero_le _, Lib.hid (PreR.nil _ _ _), Lib.hid (fun m h => by simp at h), Lib.hid (fun m h => by simp at h), Lib.hid (Below.refl _ _)⟩
  case round =>
    obtain ⟨ms, q, ft, lt, rfl, rfl, rfl, HQ, hqr, HPR, HFT, HLT, HB⟩ := hrel
    have hsz := HSZ.out
    have HBF : Hid (Below w.heap.size w wr) := Lib.hid (HB1.out.trans (HB.out.mono HB1.out.size))
    by_cases hlt : q < r.size
    case neg =>
      have hqe : q = r.size := by omega
      have hl2 : r.data.toList.length = 2 * ms.length := by rw [HRL.out, ← HQ.out, hqe]
      have hiff : (∃ ns, RoundOk l es r.data.toList ns) ↔ ClosedR ms := full_round (by rw [HRL.out]; omega) (by rw [HRL.out]; omega) HPR.out hl2
      have hml : 0 < ms.length := by have := HQ.out; omega
      obtain ⟨m, hm⟩ : ∃ m, ms[0]? = some m := ⟨_, List.getElem?_eq_getElem hml⟩
      obtain ⟨x, hx⟩ : ∃ x, ms[ms.length - 1]? = some x := ⟨_, List.getElem?_eq_getElem (by omega)⟩
      have hf := HFT.out m hm
      have hl := HLT.out x hx
      have HVV : Hid ((lt.toList == ft.toList) = decB (∃ ms, RoundOk l es r.data.toList ms)) := Lib.hid (by
        have hcl : ClosedR ms ↔ m.fr = x.tb := by
          refine ⟨fun ⟨a, b, ha, hb, he⟩ => ?_, fun he => ⟨m, x, hm, hx, he⟩⟩
          rw [hm] at ha
          rw [hx] at hb
          injection ha with ha
          injection hb with hb
          rw [ha, hb, he]
        rw [hf, hl, one_eq]
        by_cases he : x.tb = m.fr
        · rw [decB_t (hiff.2 (hcl.2 he.symm)), he]; simp
        · rw [decB_f (fun h => he (hcl.1 (hiff.1 h)).symm)]; simp [he])
      clear hiff hf hl hm hx hl2 hqe
      go_wp2_with fail
      go_ret
      exact ⟨by rw [← HVV.out]; rfl, HBF.out⟩
    obtain ⟨s, hs⟩ : ∃ s, r.data.toList.getD q 0 = s := ⟨_, rfl⟩
    obtain ⟨c, hc⟩ : ∃ c, r.data.toList.getD (q + 1) 0 = c := ⟨_, rfl⟩
    have hq2 : q + 2 ≤ r.size := by have := HQ.out; omega
    have l0 : q < r.size := by omega
    have l1 : q + 1 < r.size := by omega
    have x0 : r[q]'l0 = s := by
      have h : r.data.toList[q]? = some r[q] := List.getElem?_eq_getElem (by simpa using l0)
      rw [← hs, List.getD_eq_getElem?_getD, h]; rfl
    have x1 : r[q + 1]'l1 = c := by
      have h : r.data.toList[q + 1]? = some r[q + 1] := List.getElem?_eq_getElem (by simpa using l1)
      rw [← hc, List.getD_eq_getElem?_getD, h]; rfl
    have hex : r.extract (q + 1) (q + 2) = ⟨#[c]⟩ := bytes_one (by rw [show q + 2 = q + 1 + 1 by omega, letter_at l1, hc])
    have HSC : Hid (r.data.toList.getD (2 * ms.length) 0 = s ∧ r.data.toList.getD (2 * ms.length + 1) 0 = c) := Lib.hid ⟨by rw [← HQ.out, hs], by rw [← HQ.out, hc]⟩
    have HNONE : Hid (mvOf l es s c = none → false = decB (∃ ms, RoundOk l es r.data.toList ms)) := Lib.hid fun h => (decB_f (no_round HPR.out (by rw [HRL.out, ← HQ.out]; exact hlt) fun m hm => by rw [HSC.out.1, HSC.out.2, h] at hm; cases hm)).symm
    have HEXT := Lib.hid hex
    clear hs hc hex
    have a1 : (0 : Int) ≤ (q : Int) := by omega
    have a2 : (q : Int) < (r.size : Int) := by omega
    have a3 : (0 : Int) ≤ (q : Int) + 1 := by omega
    have a4 : ((q : Int) + 1).toNat = q + 1 := by omega
    have a5 : ((q : Int) + 2).toNat = q + 2 := by omega
    have a6 : (q : Int) + 2 ≤ (r.size : Int) := by omega
    have a7 : (q : Int) + 1 ≤ (q : Int) + 2 := by omega
    have a8 : (q : Int) + 1 < (r.size : Int) := by omega
    have a9 : IntKind.i64.wrap ((q : Int) + 1) = (q : Int) + 1 := IntWalk.i64_in _ (by omega)
    have a10 : IntKind.i64.wrap ((q : Int) + 2) = (q : Int) + 2 := IntWalk.i64_in _ (by omega)
    have a11 : (0 : Int) ≤ (q : Int) + 2 := by omega
    have HSS : Hid (∀ W, Below w1.heap.size w1 W → (W.cell? ⟨w.heap.size, 0, none⟩ = some (.string B) ∧ W.cell? ⟨w.heap.size, 1, none⟩ = some (.slice A es.length cap))) := Lib.hid fun W h => ⟨(h.cell (by have := HZ1.out; simp only; omega)).trans HT1.out.1, (h.cell (by have := HZ1.out; simp only; omega)).trans HT1.out.2⟩
    have HEA : Hid (∀ W, Below w1.heap.size w1 W → EdgesIn W W.heap.size A es) := Lib.hid fun W h => (hE.below (HB1.out.trans (h.mono HB1.out.size))).more (HB1.out.trans (h.mono HB1.out.size)).size
    obtain ⟨xa, hxa⟩ : ∃ xa : ByteArray, (⟨#[(edZ l).a]⟩ : ByteArray) = xa := ⟨_, rfl⟩
    obtain ⟨xb, hxb⟩ : ∃ xb : ByteArray, (⟨#[(edZ l).b]⟩ : ByteArray) = xb := ⟨_, rfl⟩
    have FEX2 := FEX.out; have FEN2 := FEN.out
    rw [hxa] at FEX2
    rw [hxb] at FEN2
    have GEX := Lib.hid FEX2; have GEN := Lib.hid FEN2; have HXA := Lib.hid hxa; have HXB := Lib.hid hxb
    clear FEX2 FEN2 hxa hxb
    go_upto_region 7 with fail
    go_cut [8] from 23 to 78 (fun s8 wx => ∃ p : Nat, s8 = .pointer (some ⟨p, 0, none⟩) ∧ Hid (EBox w1 wx p xa xb))
    case first =>
      go_region_held3 (fun W => W.cell? ⟨w.heap.size, 0, none⟩ = some (.string B) ∧ W.cell? ⟨w.heap.size, 1, none⟩ = some (.slice A es.length cap))
        (first
          | (with_reducible exact HSS.out _ HB.out.drew)
          | exact HSS.out _ HB.out.drew
          | exact HSS.out _ (HB.out.drew.alloc HB.out.size _)
          | exact HSS.out _ HB5.out
          | exact HSS.out _ (HB5.out.alloc HB5.out.size _)
          | exact HSS.out _ HB6.out
          | exact HSS.out _ (HB6.out.alloc HB6.out.size _)
          | exact HSS.out _ (HEX6.out.put _ _).below)
        (first
          | (go_at_call 87
             go_must (
             refine (GEX.out _).mono ?_
             rintro e w5 ⟨rfl, hb5⟩
             first
               | (have HEX5 : Hid (EBox w1 w5 wr.heap.size ⟨#[]⟩ ⟨#[]⟩) := Lib.hid ((EBox.new HB.out.drew ⟨#[]⟩ ⟨#[]⟩).go hb5)
                  have HB5 := Lib.hid HEX5.out.below
                  clear hb5)
               | (have HB5 : Hid (Below w1.heap.size w1 w5) := Lib.hid (HB.out.drew.trans (hb5.mono HB.out.size))
                  clear hb5)))
          | (go_at_call 73
             go_must (
             refine (GEN.out _).mono ?_
             rintro e w6 ⟨rfl, hb6⟩
             first
               | (have HEX6 : Hid (EBox w1 w6 w5.heap.size ⟨#[]⟩ ⟨#[]⟩) := Lib.hid ((EBox.new HB5.out ⟨#[]⟩ ⟨#[]⟩).go hb6)
                  have HB6 := Lib.hid HEX6.out.below
                  have s0 := HEX6.out.c0; have s1 := HEX6.out.c1; have f0 := HEX6.out.row.frozen 0; have f1 := HEX6.out.row.frozen 1
                  clear hb6)
               | (have HEX6 : Hid (EBox w1 w6 wr.heap.size ⟨#[]⟩ ⟨#[]⟩) := Lib.hid (HEX5.out.go hb6)
                  have HB6 := Lib.hid HEX6.out.below
                  have s0 := HEX6.out.c0; have s1 := HEX6.out.c1; have f0 := HEX6.out.row.frozen 0; have f1 := HEX6.out.row.frozen 1
                  clear hb6)
               | (have HB6 : Hid (Below w1.heap.size w1 w6) := Lib.hid (HB5.out.trans (hb6.mono HB5.out.size))
                  clear hb6))))
      all_goals
        go_wp2_with fail
        go_meet
        case rel =>
          first
            | exact ⟨_, rfl, Lib.hid (EBox.new HB6.out _ _)⟩
            | exact ⟨_, rfl, Lib.hid (HEX6.out.put _ _)⟩
    case rest =>
      obtain ⟨p, rfl, HX⟩ := hcut
      have hpl := HX.out.row.lt
      go_upto_if 38 with fail
      go_cut [8] from 23 to 78 (fun s8 wx => ∃ (p : Nat) (e : Ed), s8 = .pointer (some ⟨p, 0, none⟩) ∧ Hid (edOf l es c = some e) ∧ Hid (EBox w1 wx p ⟨#[e.a]⟩ ⟨#[e.b]⟩))
      case first =>
        by_cases hz : c = 122
        · have n1 : ((c.toNat : Int) != 122) = false := by rw [hz]; rfl
          have HED : Hid (edOf l es c = some (edZ l)) := Lib.hid (if_pos hz)
          clear hz
          go_wp2_with fail
          go_meet
          case rel => exact ⟨p, edZ l, rfl, HED, Lib.hid (by rw [HXA.out, HXB.out]; exact HX.out)⟩
        have n1 : ((c.toNat : Int) != 122) = true := by
          rw [bne_iff_ne]
          intro e
          exact hz (UInt8.toNat_inj.1 (by show c.toNat = 122; omega))
        have y0 : ∀ x : After wc, x.W.cell? ⟨w.heap.size, 0, none⟩ = some (.string B) := fun x => (HSS.out x.W (HX.out.below.trans (x.h.mono HX.out.below.size))).1
        have y1 : ∀ x : After wc, x.W.cell? ⟨w.heap.size, 1, none⟩ = some (.slice A es.length cap) := fun x => (HSS.out x.W (HX.out.below.trans (x.h.mono HX.out.below.size))).2
        obtain ⟨tc, htc⟩ : ∃ tc, r.extract (q + 1) (q + 2) = tc := ⟨_, rfl⟩
        have HTC := Lib.hid htc
        have hix : ∀ W : World, Calls Try.prog 43 #[.agg #[.string B, .slice A es.length cap], .string (r.extract (q + 1) (q + 2))] W fun e w' => e = .returned (.int .i64 (eIdx es.length [c])) ∧ Below W.heap.size W w' := fun W => by
          rw [HEXT.out]; exact FIX.out c W
        obtain ⟨ix, hixe⟩ : ∃ ix, eIdx es.length [c] = ix := ⟨_, rfl⟩
        rw [hixe] at hix
        have HIX := Lib.hid hix
        clear hix htc
        by_cases hneg : ix < 0
        · have HF := Lib.hid (HNONE.out (by
            unfold mvOf edOf
            rw [if_neg hz, if_neg (by omega)]))
          clear hz hixe
          go_wp2_with fail
          refine wp_region_below (by kernel_rfl) (by kernel_rfl) ?_
          repeat (go_big_quiet_step ((go_at_call 43; exact After.call (HIX.out _))))
          refine wpQuiet_nil ?_
          rintro _ ⟨xw, rfl⟩
          have HFIN := Lib.hid (HB1.out.trans ((HX.out.below.trans (xw.h.mono HX.out.below.size)).mono HB1.out.size))
          clear y0 y1
          go_wp2_with fail
          go_ret
          exact ⟨ret_bool HF.out, HFIN.out⟩
        have hd : decide (ix < 0) = false := by simp; omega
        obtain ⟨k, rfl⟩ : ∃ k : Nat, ix = k := ⟨ix.toNat, by omega⟩
        have hk : k < es.length := by
          obtain ⟨k', h1, h2⟩ := eIdx_some (n := es.length) (b := [c]) (by rw [hixe]; omega)
          rw [hixe] at h2
          omega
        have HED : Hid (edOf l es c = some (edK es k)) := Lib.hid (by
          unfold edOf
          rw [if_neg hz, hixe, if_pos (by omega), Int.toNat_natCast])
        have HFE : Hid (∀ W : World, EdgesIn W W.heap.size A es → Calls Try.prog 80 #[.agg #[.string B, .slice A es.length cap], .string (r.extract (q + 1) (q + 2))] W fun e w' => e = .returned (.agg #[.string ⟨#[(edK es k).a]⟩, .string ⟨#[(edK es k).b]⟩]) ∧ Below W.heap.size W w') := Lib.hid fun W h => by
          rw [HEXT.out]; exact FED.out c k hixe hk W h
        clear hz hixe hneg hk
        go_wp2_with fail
        refine wp_region_below (by kernel_rfl) (by kernel_rfl) ?_
        repeat (go_big_quiet_step ((go_at_call 43; exact After.call (HIX.out _))))
        refine wpQuiet_nil ?_
        rintro _ ⟨xw, rfl⟩
        have HX4 : Hid (EBox w1 xw.W p xa xb) := Lib.hid (HX.out.go (xw.h.mono (Nat.le_refl _)))
        obtain ⟨w4, hw4⟩ : ∃ w4, xw.W = w4 := ⟨_, rfl⟩
        rw [hw4] at HX4
        rw [hw4]
        clear y0 y1 hw4 xw hd
        go_wp2_with fail
        go_region_held3 (fun W => W.cell? ⟨w.heap.size, 0, none⟩ = some (.string B) ∧ W.cell? ⟨w.heap.size, 1, none⟩ = some (.slice A es.length cap))
          (first
            | exact HSS.out _ HX4.out.below.drew
            | exact HSS.out _ HX5.out.below
            | exact HSS.out _ (HX5.out.put _ _).below)
          (first
            | (go_at_call 80
               go_must (
               refine (HFE.out _ (HEA.out _ HX4.out.below.drew)).mono ?_
               rintro e w5 ⟨rfl, hb5⟩
               have HX5 : Hid (EBox w1 w5 p xa xb) := Lib.hid (HX4.out.go ((Below.refl _ _).drew.trans hb5))
               have s0 := HX5.out.c0; have s1 := HX5.out.c1; have f0 := HX5.out.row.frozen 0; have f1 := HX5.out.row.frozen 1
               clear hb5)))
        go_wp2_with fail
        go_meet
        case rel => exact ⟨p, edK es k, rfl, HED, Lib.hid (HX5.out.put _ _)⟩
      case rest =>
        clear HX hpl
        obtain ⟨p, e, rfl, HED, HX⟩ := hcut
        have c0 := HX.out.c0; have c1 := HX.out.c1; have f0 := HX.out.row.frozen 0; have f1 := HX.out.row.frozen 1
        obtain ⟨ta, hta⟩ : ∃ ta : ByteArray, (⟨#[e.a]⟩ : ByteArray) = ta := ⟨_, rfl⟩
        obtain ⟨tb, htb⟩ : ∃ tb : ByteArray, (⟨#[e.b]⟩ : ByteArray) = tb := ⟨_, rfl⟩
        have HTA := Lib.hid hta; have HTB := Lib.hid htb
        rw [hta] at c0
        rw [htb] at c1
        have HX2 : Hid (EBox w1 wc p ta tb) := Lib.hid (by rw [← hta, ← htb]; exact HX.out)
        clear hta htb HX
        go_upto_if 59 with fail
        go_cut [8] from 23 to 78 (fun s8 wx => ∃ (p : Nat) (m : Mv), s8 = .pointer (some ⟨p, 0, none⟩) ∧ Hid (mvOf l es s c = some m) ∧ Hid (EBox w1 wx p ⟨#[m.fr]⟩ ⟨#[m.tb]⟩))
        case first =>
          by_cases hsm : s = 45
          · have g1 : ((s.toNat : Int) == 45) = true := by rw [beq_iff_eq, hsm]; rfl
            have HMV : Hid (mvOf l es s c = some (minus e)) := Lib.hid (by unfold mvOf; rw [HED.out, hsm]; rfl)
            clear hsm
            go_wp2_with fail
            go_meet
            case rel => exact ⟨p, minus e, rfl, HMV, Lib.hid (by have := HX2.out.put tb ta; rw [← HTA.out, ← HTB.out] at this; rw [← HTA.out, ← HTB.out]; exact this)⟩
          have g1 : ((s.toNat : Int) == 45) = false := by
            rw [beq_eq_false_iff_ne]
            intro e
            exact hsm (UInt8.toNat_inj.1 (by show s.toNat = 45; omega))
          by_cases hsp : s = 43
          · have g2 : ((s.toNat : Int) != 43) = false := by rw [hsp]; rfl
            have HMV : Hid (mvOf l es s c = some (plus e)) := Lib.hid (by unfold mvOf; rw [HED.out, hsp]; rfl)
            clear hsm hsp
            go_wp2_with fail
            go_meet
            case rel => exact ⟨p, plus e, rfl, HMV, Lib.hid (by have := HX2.out; rw [← HTA.out, ← HTB.out] at this; exact this)⟩
          · have g2 : ((s.toNat : Int) != 43) = true := by
              rw [bne_iff_ne]
              intro e
              exact hsp (UInt8.toNat_inj.1 (by show s.toNat = 43; omega))
            have HF := Lib.hid (HNONE.out (by unfold mvOf; rw [HED.out]; simp only []; rw [if_neg hsp, if_neg hsm]))
            have HFIN := Lib.hid (HB1.out.trans (HX2.out.below.mono HB1.out.size))
            clear hsm hsp
            go_wp2_with fail
            go_ret
            exact ⟨ret_bool HF.out, HFIN.out⟩
        case rest =>
          clear HX2 c0 c1 f0 f1 HTA HTB
          obtain ⟨p, m, rfl, HMV, HX⟩ := hcut
          have c0 := HX.out.c0; have c1 := HX.out.c1
          obtain ⟨ta, hta⟩ : ∃ ta : ByteArray, (⟨#[m.fr]⟩ : ByteArray) = ta := ⟨_, rfl⟩
          obtain ⟨tb, htb⟩ : ∃ tb : ByteArray, (⟨#[m.tb]⟩ : ByteArray) = tb := ⟨_, rfl⟩
          have HTA := Lib.hid hta; have HTB := Lib.hid htb
          rw [hta] at c0
          rw [htb] at c1
          have HMV2 : Hid (mvOf l es (r.data.toList.getD (2 * ms.length) 0) (r.data.toList.getD (2 * ms.length + 1) 0) = some m) := Lib.hid (by rw [HSC.out.1, HSC.out.2]; exact HMV.out)
          clear hta htb
          go_upto_if 70 with fail
          go_cut [5, 8] from 23 to 78 (fun s5 s8 wx => ∃ (ft' : ByteArray), s5 = .string ft' ∧ s8 = .pointer (some ⟨p, 0, none⟩) ∧ wx = wc ∧ Hid (PreR l es r.data.toList (ms ++ [m])) ∧ Hid (FirstT (ms ++ [m]) ft'))
          case first =>
            by_cases hj : ms.length = 0
            · have hms : ms = [] := List.eq_nil_of_length_eq_zero hj
              have HP2 : Hid (PreR l es r.data.toList (ms ++ [m])) := Lib.hid (HPR.out.snoc HMV2.out (.inl hj))
              have HF2 : Hid (FirstT (ms ++ [m]) ta) := Lib.hid (by rw [hms]; intro m' hm'; simp at hm'; subst hm'; exact HTA.out.symm)
              have g1 : ((q : Int) == 0) = true := by rw [beq_iff_eq]; have := HQ.out; omega
              clear hj hms
              go_wp2_with fail
              go_meet
              case rel => exact ⟨ta, rfl, rfl, rfl, HP2, HF2⟩
            have g1 : ((q : Int) == 0) = false := by rw [beq_eq_false_iff_ne]; have := HQ.out; omega
            obtain ⟨x, hx⟩ : ∃ x, ms[ms.length - 1]? = some x := ⟨_, List.getElem?_eq_getElem (by omega)⟩
            have hlx := HLT.out x hx
            by_cases hfx : m.fr = x.tb
            · have HP2 : Hid (PreR l es r.data.toList (ms ++ [m])) := Lib.hid (HPR.out.snoc HMV2.out (.inr ⟨x, hx, hfx⟩))
              have HF2 : Hid (FirstT (ms ++ [m]) ft) := Lib.hid (by
                intro m' hm'
                rw [List.getElem?_append_left (by omega)] at hm'
                exact HFT.out m' hm')
              have g2 : (ta.toList == lt.toList) = true := by rw [← HTA.out, hlx, hfx]; simp
              clear hj hx hlx hfx
              go_wp2_with fail
              go_meet
              case rel => exact ⟨ft, rfl, rfl, rfl, HP2, HF2⟩
            · have HF : Hid (false = decB (∃ ms, RoundOk l es r.data.toList ms)) := Lib.hid (decB_f (no_round HPR.out (by rw [HRL.out, ← HQ.out]; exact hlt) fun m' hm' => by
                rw [HMV2.out] at hm'
                injection hm' with hm'
                subst hm'
                exact ⟨hj, x, hx, hfx⟩)).symm
              have g2 : (ta.toList == lt.toList) = false := by rw [← HTA.out, hlx, one_eq, beq_eq_false_iff_ne]; exact hfx
              have HFIN := Lib.hid (HB1.out.trans (HX.out.below.mono HB1.out.size))
              clear hj hx hlx hfx
              go_wp2_with fail
              go_ret
              exact ⟨ret_bool HF.out, HFIN.out⟩
          case rest =>
            obtain ⟨ft', rfl, rfl, rfl, HP2, HF2⟩ := hcut
            have HL2 : Hid (LastT (ms ++ [m]) tb) := Lib.hid (by
              intro m' hm'
              rw [List.length_append, List.length_singleton, Nat.add_sub_cancel] at hm'
              simp at hm'
              subst hm'
              exact HTB.out.symm)
            have q120 : q ≤ 120 := by omega
            go_wp2_with fail
            go_roundw
            case rel => exact ⟨ms ++ [m], q + 2, ft', tb, rfl, rfl, by go_num, Lib.hid (by rw [List.length_append, List.length_singleton]; have := HQ.out; omega), hq2, HP2, HF2, HL2, Lib.hid HX.out.below⟩
            case measure => simp [intOf]; omega

end Go.Proofs.Ythpfifjcallnbaa
