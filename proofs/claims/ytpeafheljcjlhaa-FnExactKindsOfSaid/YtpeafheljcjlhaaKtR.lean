/- The kinds of a cut net's edges, by the program. -/
import Derived.Test.YtpeafheljcjlhaaZ8I
import Derived.Test.YtpeafheljcjlhaaBuildS
import Derived.Test.YtpeafheljcjlhaaNames
namespace Go.Proofs.Ytpeafheljcjlhaa
open Go.RowKit
set_option linter.unusedVariables false
set_option linter.unusedSimpArgs false

theorem cutX_kind {B : ByteArray} {es : List (ByteArray × ByteArray)} : ∀ x ∈ cutX B es, (x.2.1 = 0 ∧ x.2.2 < es.length) ∨ x.2.1 = 1 ∨ x.2.1 = 2 := by
  intro x hx
  unfold cutX at hx
  rcases List.mem_append.1 hx with hx | hx
  · rcases List.mem_append.1 hx with hx | hx
    · obtain ⟨i, hi, rfl⟩ := List.mem_map.1 hx
      exact .inl ⟨rfl, (keptI_mem hi).1⟩
    · obtain ⟨i, hi, rfl⟩ := List.mem_map.1 hx
      exact .inr (.inl rfl)
  · obtain ⟨i, hi, rfl⟩ := List.mem_map.1 hx
    exact .inr (.inr rfl)

set_option maxRecDepth 100000 in
set_option maxHeartbeats 4000000 in
/-- impl.KindsOf -/
theorem implKindsOf_any (B : ByteArray) (A : Option Addr) (cap : Nat) (es : List (ByteArray × ByteArray)) (w : World) (hs : B.size ≤ maxLen) (hE : EdgesIn w w.heap.size A es) (hl : es.length ≤ 1099511627776) (_ : ∀ e ∈ es, e.1.size ≤ 1099511627776 ∧ e.2.size ≤ 1099511627776) :
    Calls Try.prog 14 #[.agg #[.string B, .slice A es.length cap]] w (TextPost (kindsV B es) w) := by
  have hb1 : Below w.heap.size w (w.alloc (.cells #[.string B, .slice A es.length cap] 28)) := (Below.refl _ _).alloc (Nat.le_refl _) _
  go_enter Try.func14, Try.ntmps14
  go_wp2_with fail
  refine (cuttingOf_any B A cap es _ hs ((hE.below hb1).more hb1.size) hl).mono ?_
  rintro e w2 h
  rcases h with ⟨hc, m, A2, c2, A5, c5, rfl, hset, hE2, hO2, hx2, hb2⟩ | ⟨hc, rfl, hb2⟩
  case inr =>
    have hb2' := hb1.trans (hb2.mono hb1.size)
    have HN : Hid (kindsV B es = (⟨#[]⟩, false)) := Lib.hid (textV_no hc)
    clear hb2 hc
    go_wp2_with fail
    go_ret2
    exact ⟨by rw [HN.out]; rfl, hb2'.alloc hb2'.size _⟩
  have HN : Hid (kindsV B es = (⟨(cutK B es).toArray⟩, true)) := Lib.hid (textV_yes hc)
  have HF := Lib.hid (facts_of hc.1)
  have hb2' := hb1.trans (hb2.mono hb1.size)
  obtain ⟨ce, hce⟩ : ∃ ce, cutE B es = ce := ⟨_, rfl⟩
  obtain ⟨xs, hxs⟩ : ∃ xs, cutX B es = xs := ⟨_, rfl⟩
  have hxl : xs.length ≤ 32 := by rw [← hxs]; exact cutX_len HF.out.few HF.out.eight
  have HK : Hid (cutK B es = xs.map kindL) := Lib.hid (by rw [← hxs]; rfl)
  have HKD : Hid (∀ x ∈ xs, (x.2.1 = 0 ∧ x.2.2 < es.length) ∨ x.2.1 = 1 ∨ x.2.1 = 2) := Lib.hid (by rw [← hxs]; exact cutX_kind)
  rw [hce, hxs]
  rw [hxs] at hx2
  have HX2 := Lib.hid hx2; have HB2 := Lib.hid hb2'
  have hba : Below w2.heap.size w2 (w2.alloc (.cells #[.string B, .slice A es.length cap, .map (some m), .string B, .slice A2 ce.length c2, .slice A5 xs.length c5] 45)) := (Below.refl _ _).alloc (Nat.le_refl _) _
  have hza : (w2.alloc (.cells #[.string B, .slice A es.length cap, .map (some m), .string B, .slice A2 ce.length c2, .slice A5 xs.length c5] 45)).heap.size = w2.heap.size + 1 := by simp
  have HBA := Lib.hid hba
  have hbb : Below (w2.heap.size + 1) (w2.alloc (.cells #[.string B, .slice A es.length cap, .map (some m), .string B, .slice A2 ce.length c2, .slice A5 xs.length c5] 45)) ((w2.alloc (.cells #[.string B, .slice A es.length cap, .map (some m), .string B, .slice A2 ce.length c2, .slice A5 xs.length c5] 45)).alloc (.cells #[.pointer none, .slice none 0 0] 53)) := (Below.refl _ _).alloc (by omega) _
  have hbi : Lib.IsBuilderF 53 5 (w2.heap.size + 1) (w2.heap.size + 1) (Lib.byteCells []) ((w2.alloc (.cells #[.string B, .slice A es.length cap, .map (some m), .string B, .slice A2 ce.length c2, .slice A5 xs.length c5] 45)).alloc (.cells #[.pointer none, .slice none 0 0] 53)) := by
    have := Lib.IsBuilderF.of (Lib.fresh_isBuilder 53 5 (w2.alloc (.cells #[.string B, .slice A es.length cap, .map (some m), .string B, .slice A2 ce.length c2, .slice A5 xs.length c5] 45)))
    rwa [World.size_alloc] at this
  have HBB := Lib.hid hbb; have HBI := Lib.hid hbi
  clear hset hE2 hO2 hx2 hb2 hc hce hxs hb2' hba hbb hbi hb1 hs hE hl
  go_wp2_with fail
  generalize hW3 : w2.alloc (.cells #[.string B, .slice A es.length cap, .map (some m), .string B, .slice A2 ce.length c2, .slice A5 xs.length c5] 45) = w3 at HBA HBB HBI hza ⊢
  clear hW3
  obtain ⟨D, hD⟩ : ∃ D, w2.heap.size + 1 = D := ⟨_, rfl⟩
  rw [hD] at HBB HBI hza ⊢
  have hwd : w2.heap.size < D := by omega
  clear hD
  go_loopw [19] (fun c wr => ∃ k : Nat, k ≤ xs.length ∧ c = .int .i64 k ∧ Hid (Below D w3 wr) ∧ Hid (Lib.IsBuilderF 53 5 D D (Lib.byteCells ((xs.map kindL).take k)) wr)) (fun c _ => xs.length - (intOf c).toNat)
  case atStart => exact ⟨0, Nat.zero_le _, rfl, HBB, HBI⟩
  case round =>
    clear HBB HBI
    obtain ⟨k, hk, rfl, HB, HI⟩ := hrel
    have hzr := HB.out.size
    by_cases hlt : k < xs.length
    case neg =>
      have HIE : Hid (Lib.IsBuilderF 53 5 D D (Lib.byteCells (xs.map kindL)) wr) := Lib.hid (by
        have h := HI.out
        rwa [List.take_of_length_le (by simp; omega)] at h)
      go_wp2_with fail
      refine (builtString_any D D _ wr HIE.out (by omega)).mono ?_
      rintro e w4 ⟨rfl, _, hb4, _⟩
      have hbw : Below w.heap.size w w4 := HB2.out.trans ((HBA.out.trans ((HB.out.trans hb4).mono (by omega))).mono HB2.out.size)
      obtain ⟨kt, hkt⟩ : ∃ kt : ByteArray, (⟨(xs.map kindL).toArray⟩ : ByteArray) = kt := ⟨_, rfl⟩
      have HKT : Hid ((⟨(cutK B es).toArray⟩ : ByteArray) = kt) := Lib.hid (by rw [HK.out]; exact hkt)
      rw [hkt]
      clear hkt hb4
      go_wp2_with fail
      go_ret2
      exact ⟨by rw [HN.out, HKT.out]; rfl, hbw⟩
    obtain ⟨x, hx⟩ : ∃ x, xs[k] = x := ⟨_, rfl⟩
    have hkx := HKD.out xs[k] (List.getElem_mem hlt)
    have htk : (xs.map kindL).take (k + 1) = (xs.map kindL).take k ++ [kindL xs[k]] := by
      rw [List.take_succ_eq_append_getElem (by simpa using hlt), List.getElem_map]
    obtain ⟨eb, eo, rfl, hlow, q1, q2, q3, q4⟩ := (HX2.out.below (HBA.out.trans (HB.out.mono (by omega)))) k hlt
    rw [hx] at hkx htk q1 q2 q3 q4
    obtain ⟨⟨p1, p2⟩, kd, pl⟩ := x
    simp only at hkx q1 q2 q3 q4
    have HLN : Hid (((xs.map kindL).take k).length ≤ 32) := Lib.hid (by simp; omega)
    have HLET := Lib.hid HF.out.few
    have hdr : D ≤ wr.heap.size := by have := (isBuilder_lt HI.out).2; omega
    have HDR := Lib.hid hdr
    clear hx hdr
    rcases hkx with ⟨h, hp⟩ | h | h
    · subst h
      have HTK : Hid ((xs.map kindL).take (k + 1) = (xs.map kindL).take k ++ [nameOf pl]) := Lib.hid htk
      rw [show ((0 : Nat) : Int) = 0 from rfl] at q3
      have hbE : Below wr.heap.size wr (wr.alloc (.cells #[.string p1, .string p2, .int .i64 0, .int .i64 (pl : Int)] 58)) := (Below.refl _ _).alloc (Nat.le_refl _) _
      have n3 : (wr.alloc (.cells #[.string p1, .string p2, .int .i64 0, .int .i64 (pl : Int)] 58)).cell? ⟨wr.heap.size, 3, none⟩ = some (.int .i64 (pl : Int)) := by go_simp
      have HBa := Lib.hid (HB.out.trans (hbE.mono HDR.out))
      have HIa := Lib.hid (isBuilder_keeps HI.out hbE)
      have HZa := Lib.hid (Nat.le_trans HDR.out hbE.size)
      clear htk hbE HB HI
      go_wp2_with fail
      refine (edgeName_any pl (by have := HLET.out; omega) _).mono ?_
      rintro e w4 ⟨rfl, rfl⟩
      go_wp2_with fail
      refine (writeString_any D D _ _ _ HIa.out (by have := HLN.out; rw [Lib.byteCells_length]; have e1 : (⟨#[nameOf pl]⟩ : ByteArray).size = 1 := rfl; omega) HZa.out).mono ?_
      rintro e w5 ⟨rfl, hA5, hb5, _⟩
      have HI5 : Hid (Lib.IsBuilderF 53 5 D D (Lib.byteCells ((xs.map kindL).take (k + 1))) w5) := Lib.hid (by
        rw [HTK.out]
        refine .inr ?_
        rw [Lib.byteCells_append]; rw [Lib.strCells_eq] at hA5; exact hA5)
      have HB5 := Lib.hid (HBa.out.trans hb5)
      clear hA5 hb5 n3 q1 q2 q3 q4
      go_wp2_with fail
      go_roundw
      case rel => exact ⟨k + 1, by omega, by go_num, HB5, HI5⟩
      case measure => simp [intOf]; omega
    · subst h
      have HTK : Hid ((xs.map kindL).take (k + 1) = (xs.map kindL).take k ++ [43]) := Lib.hid htk
      rw [show ((1 : Nat) : Int) = 1 from rfl] at q3
      have hbE : Below wr.heap.size wr (wr.alloc (.cells #[.string p1, .string p2, .int .i64 1, .int .i64 (pl : Int)] 58)) := (Below.refl _ _).alloc (Nat.le_refl _) _
      have n3 : (wr.alloc (.cells #[.string p1, .string p2, .int .i64 1, .int .i64 (pl : Int)] 58)).cell? ⟨wr.heap.size, 3, none⟩ = some (.int .i64 (pl : Int)) := by go_simp
      have HBa := Lib.hid (HB.out.trans (hbE.mono HDR.out))
      have HIa := Lib.hid (isBuilder_keeps HI.out hbE)
      have HZa := Lib.hid (Nat.le_trans HDR.out hbE.size)
      clear htk hbE HB HI
      go_wp2_with fail
      refine (writeByte_any D D _ _ _ HIa.out (by have := HLN.out; rw [Lib.byteCells_length]; omega) HZa.out).mono ?_
      rintro e w5 ⟨rfl, hA5, hb5, _⟩
      have HI5 : Hid (Lib.IsBuilderF 53 5 D D (Lib.byteCells ((xs.map kindL).take (k + 1))) w5) := Lib.hid (by
        rw [HTK.out]
        refine .inr ?_
        rw [Lib.byteCells_append]; exact hA5)
      have HB5 := Lib.hid (HBa.out.trans hb5)
      clear hA5 hb5 n3 q1 q2 q3 q4
      go_wp2_with fail
      go_roundw
      case rel => exact ⟨k + 1, by omega, by go_num, HB5, HI5⟩
      case measure => simp [intOf]; omega
    · subst h
      have HTK : Hid ((xs.map kindL).take (k + 1) = (xs.map kindL).take k ++ [45]) := Lib.hid htk
      rw [show ((2 : Nat) : Int) = 2 from rfl] at q3
      have hbE : Below wr.heap.size wr (wr.alloc (.cells #[.string p1, .string p2, .int .i64 2, .int .i64 (pl : Int)] 58)) := (Below.refl _ _).alloc (Nat.le_refl _) _
      have n3 : (wr.alloc (.cells #[.string p1, .string p2, .int .i64 2, .int .i64 (pl : Int)] 58)).cell? ⟨wr.heap.size, 3, none⟩ = some (.int .i64 (pl : Int)) := by go_simp
      have HBa := Lib.hid (HB.out.trans (hbE.mono HDR.out))
      have HIa := Lib.hid (isBuilder_keeps HI.out hbE)
      have HZa := Lib.hid (Nat.le_trans HDR.out hbE.size)
      clear htk hbE HB HI
      go_wp2_with fail
      refine (writeByte_any D D _ _ _ HIa.out (by have := HLN.out; rw [Lib.byteCells_length]; omega) HZa.out).mono ?_
      rintro e w5 ⟨rfl, hA5, hb5, _⟩
      have HI5 : Hid (Lib.IsBuilderF 53 5 D D (Lib.byteCells ((xs.map kindL).take (k + 1))) w5) := Lib.hid (by
        rw [HTK.out]
        refine .inr ?_
        rw [Lib.byteCells_append]; exact hA5)
      have HB5 := Lib.hid (HBa.out.trans hb5)
      clear hA5 hb5 n3 q1 q2 q3 q4
      go_wp2_with fail
      go_roundw
      case rel => exact ⟨k + 1, by omega, by go_num, HB5, HI5⟩
      case measure => simp [intOf]; omega

end Go.Proofs.Ytpeafheljcjlhaa
