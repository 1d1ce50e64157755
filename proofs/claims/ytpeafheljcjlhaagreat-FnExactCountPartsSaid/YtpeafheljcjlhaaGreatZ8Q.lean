/- How many parts a run has. -/
import Derived.Test.YtpeafheljcjlhaaGreatNet1
import Derived.Test.YtpeafheljcjlhaaGreatZ8P
import Derived.Test.YtpeafheljcjlhaaGreatLaw
import Derived.Test.YtpeafheljcjlhaaGreatRows
import Derived.Test.YtpeafheljcjlhaaGreatOpen
import Derived.WalkKit
import Derived.ProofKit
import Derived.OpenShut
import Derived.ShutString
import Derived.ChangeOld
import Derived.Below
namespace Go.Proofs.YtpeafheljcjlhaaGreat
open Go.RowKit

/-- one number, and all that lay is kept -/
def IntPost (v : Int) (w : World) (e : Ending) (w' : World) : Prop := e = .returned (.int .i64 v) ∧ Below w.heap.size w w'

end Go.Proofs.YtpeafheljcjlhaaGreat

namespace Go.Proofs.YtpeafheljcjlhaaGreat
open Go.RowKit

/-- how many parts a run has, -1 if none -/
noncomputable def partsC (B : ByteArray) (es : List (ByteArray × ByteArray)) (p : ByteArray) : Int := if (partsQ B es p).2 = true then ((partsQ B es p).1.length : Int) else -1

set_option maxRecDepth 100000 in
set_option maxHeartbeats 4000000 in
/-- spec.CountParts -/
theorem specCountParts_any (B : ByteArray) (A : Option Addr) (cap : Nat) (es : List (ByteArray × ByteArray)) (b : ByteArray) (w : World) (hs : B.size ≤ maxLen) (hE : EdgesIn w w.heap.size A es) (hl : es.length ≤ 1099511627776) (hS : ∀ e ∈ es, e.1.size ≤ 1099511627776 ∧ e.2.size ≤ 1099511627776) (hp : b.size ≤ 1099511627776) :
    Calls Tryz.prog 23 #[.agg #[.string B, .slice A es.length cap], .string b] w (IntPost (partsC B es b) w) := by
  have hb1 : Below w.heap.size w (w.alloc (.cells #[.string B, .slice A es.length cap] 31)) := (Below.refl _ _).alloc (Nat.le_refl _) _
  have F := Lib.hid (specPartRuns_any B A cap es b _ hs ((hE.below hb1).more hb1.size) hl hS hp)
  obtain ⟨q, hq⟩ : ∃ q, partsQ B es b = q := ⟨_, rfl⟩
  have hC : partsC B es b = if q.2 = true then (q.1.length : Int) else -1 := by rw [partsC, hq]
  rw [hq] at F
  obtain ⟨v, hv⟩ : ∃ v, partsC B es b = v := ⟨_, rfl⟩
  rw [hv] at hC
  have HC := Lib.hid hC
  rw [hv]
  clear hC hv hq hs hl hS hp
  obtain ⟨ts, ok⟩ := q
  go_enter Tryz.func23, Tryz.ntmps23
  go_wp2_with fail
  refine F.out.mono ?_
  rintro e w2 ⟨A2, c2, rfl, -, hb2, -⟩
  have hb2' := hb1.trans (hb2.mono hb1.size)
  clear hb2 hb1
  cases ok with
  | false =>
    go_wp2_with fail
    go_ret
    exact ⟨by rw [HC.out]; rfl, hb2'⟩
  | true =>
    go_wp2_with fail
    go_ret
    exact ⟨by rw [HC.out]; rfl, hb2'⟩

set_option maxRecDepth 100000 in
set_option maxHeartbeats 4000000 in
/-- impl.CountParts -/
theorem implCountParts_any (B : ByteArray) (A : Option Addr) (cap : Nat) (es : List (ByteArray × ByteArray)) (b : ByteArray) (w : World) (hs : B.size ≤ maxLen) (hE : EdgesIn w w.heap.size A es) (hl : es.length ≤ 1099511627776) (hS : ∀ e ∈ es, e.1.size ≤ 1099511627776 ∧ e.2.size ≤ 1099511627776) (hp : b.size ≤ 1099511627776) :
    Calls Tryz.prog 24 #[.agg #[.string B, .slice A es.length cap], .string b] w (IntPost (partsC B es b) w) := by
  have hb1 : Below w.heap.size w (w.alloc (.cells #[.string B, .slice A es.length cap] 31)) := (Below.refl _ _).alloc (Nat.le_refl _) _
  have F := Lib.hid (implPartRuns_any B A cap es b _ hs ((hE.below hb1).more hb1.size) hl hS hp)
  obtain ⟨q, hq⟩ : ∃ q, partsQ B es b = q := ⟨_, rfl⟩
  have hC : partsC B es b = if q.2 = true then (q.1.length : Int) else -1 := by rw [partsC, hq]
  rw [hq] at F
  obtain ⟨v, hv⟩ : ∃ v, partsC B es b = v := ⟨_, rfl⟩
  rw [hv] at hC
  have HC := Lib.hid hC
  rw [hv]
  clear hC hv hq hs hl hS hp
  obtain ⟨ts, ok⟩ := q
  go_enter Tryz.func24, Tryz.ntmps24
  go_wp2_with fail
  refine F.out.mono ?_
  rintro e w2 ⟨A2, c2, rfl, -, hb2, -⟩
  have hb2' := hb1.trans (hb2.mono hb1.size)
  clear hb2 hb1
  cases ok with
  | false =>
    go_wp2_with fail
    go_ret
    exact ⟨by rw [HC.out]; rfl, hb2'⟩
  | true =>
    go_wp2_with fail
    go_ret
    exact ⟨by rw [HC.out]; rfl, hb2'⟩

end Go.Proofs.YtpeafheljcjlhaaGreat

namespace Go.Proofs.YtpeafheljcjlhaaGreat
open Go.RowKit

set_option maxRecDepth 100000 in
set_option maxHeartbeats 2000000 in
/-- laws.FnExactCountParts -/
theorem lawCountParts (B : ByteArray) (A : Option Addr) (cap : Nat) (es : List (ByteArray × ByteArray)) (b : ByteArray) (w : World) (hs : B.size ≤ maxLen) (hE : EdgesIn w w.heap.size A es) (hl : es.length ≤ maxLen) (hS : ∀ e ∈ es, e.1.size ≤ maxLen ∧ e.2.size ≤ maxLen) :
    Calls Tryz.prog 6 #[.agg #[.string B, .slice A es.length cap], .string b] w fun e w' => e = .returned (.bool true) ∧ Below w.heap.size w w' := by
  have hb1 : Below w.heap.size w (w.alloc (.cells #[.string B, .slice A es.length cap] 24)) := (Below.refl _ _).alloc (Nat.le_refl _) _
  by_cases hbs : (b.size : Int) > 1048576
  · go_enter Tryz.func6, Tryz.ntmps6
    go_wp2_with fail
    go_ret
    exact ⟨rfl, hb1⟩
  have hbs' : (b.size : Int) ≤ 1048576 := by omega
  clear hbs
  have hc0 : (w.alloc (.cells #[.string B, .slice A es.length cap] 24)).cell? ⟨w.heap.size, 0, none⟩ = some (.string B) := by go_simp
  have hc1 : (w.alloc (.cells #[.string B, .slice A es.length cap] 24)).cell? ⟨w.heap.size, 1, none⟩ = some (.slice A es.length cap) := by go_simp
  have hz1 : (w.alloc (.cells #[.string B, .slice A es.length cap] 24)).heap.size = w.heap.size + 1 := by simp
  have HS := Lib.hid hS; have HL := Lib.hid hl; have HM := Lib.hid hs
  clear hS hl hs
  obtain ⟨v, hv⟩ : ∃ v, szv (B.size + (es.length + letters es)) 1048576 = v := ⟨_, rfl⟩
  have HV := Lib.hid hv; clear hv
  go_enter Tryz.func6, Tryz.ntmps6
  go_wp2_with fail
  refine (szNet_any B A cap es 1048576 _ HM.out ((hE.below hb1).more hb1.size) HL.out HS.out (by omega) (by omega)).mono ?_
  rintro e w2 ⟨rfl, hb2⟩
  rw [HV.out]
  have hd0 := (hb2.cell (p := ⟨w.heap.size, 0, none⟩) (by simp)).trans hc0
  have hd1 := (hb2.cell (p := ⟨w.heap.size, 1, none⟩) (by simp)).trans hc1
  have hb2' := hb1.trans (hb2.mono hb1.size)
  have hz2 := hb2.size
  rw [hz1] at hz2
  clear hb2 hc0 hc1
  by_cases h0 : v < 0
  · go_wp2_with fail
    go_ret
    exact ⟨rfl, hb2'⟩
  · have hle : B.size + (es.length + letters es) ≤ 1048576 := by
      have := HV.out
      unfold szv at this
      split at this <;> omega
    have HL' : Hid (es.length ≤ 1099511627776) := Lib.hid (by omega)
    have HS' : Hid (∀ e ∈ es, e.1.size ≤ 1099511627776 ∧ e.2.size ≤ 1099511627776) := Lib.hid fun e he => by
      have := letters_mem he
      omega
    clear hle
    obtain ⟨q, hq⟩ : ∃ q, partsC B es b = q := ⟨_, rfl⟩
    have hp : ∀ (W W' : World) (e : Ending), IntPost (partsC B es b) W e W' → e = .returned (.int .i64 q) ∧ Below W.heap.size W W' := fun W W' e h => by
      unfold IntPost at h
      rw [hq] at h
      exact h
    have HP := Lib.hid hp
    clear hq hp
    go_wp2_with fail
    refine (toNet_any B A cap es _ ((hE.below hb2').more hb2'.size) HL'.out).mono ?_
    rintro e w3 ⟨g3, rfl, hg3, hE3, hb3⟩
    have hb3' := hb2'.trans (hb3.mono hb2'.size)
    have he0 := (hb3.cell (p := ⟨w.heap.size, 0, none⟩) (by simp only; omega)).trans hd0
    have he1 := (hb3.cell (p := ⟨w.heap.size, 1, none⟩) (by simp only; omega)).trans hd1
    have hz3 := hb3.size
    have hz3' := Nat.le_trans hz2 hz3
    clear hb3 hd0 hd1
    go_wp2_with fail
    refine (specCountParts_any B (some ⟨g3, 0, none⟩) es.length es b _ HM.out hE3 HL'.out HS'.out (by omega)).mono ?_
    intro e w4 h4
    obtain ⟨rfl, hb4⟩ := HP.out _ _ _ h4
    clear h4
    have hb4' := hb3'.trans (hb4.mono hb3'.size)
    have hf0 := (hb4.cell (p := ⟨w.heap.size, 0, none⟩) (by simp only; omega)).trans he0
    have hf1 := (hb4.cell (p := ⟨w.heap.size, 1, none⟩) (by simp only; omega)).trans he1
    have hz4' := Nat.le_trans hz3' hb4.size
    clear hb4 he0 he1 hE3
    go_wp2_with fail
    refine (toNet_any B A cap es _ ((hE.below hb4').more hb4'.size) HL'.out).mono ?_
    rintro e w5 ⟨g5, rfl, hg5, hE5, hb5⟩
    have hb5' := hb4'.trans (hb5.mono hb4'.size)
    have hi0 := (hb5.cell (p := ⟨w.heap.size, 0, none⟩) (by simp only; omega)).trans hf0
    have hi1 := (hb5.cell (p := ⟨w.heap.size, 1, none⟩) (by simp only; omega)).trans hf1
    have hz5' := Nat.le_trans hz4' hb5.size
    clear hb5 hf0 hf1
    go_wp2_with fail
    have hbx : Below w5.heap.size w5 (w5.alloc (.cells #[.string B, .slice (some ⟨g5, 0, none⟩) es.length es.length] 31)) := (Below.refl _ _).alloc (Nat.le_refl _) _
    have hj0 : (w5.alloc (.cells #[.string B, .slice (some ⟨g5, 0, none⟩) es.length es.length] 31)).cell? ⟨w5.heap.size, 0, none⟩ = some (.string B) := by go_simp
    have hj1 : (w5.alloc (.cells #[.string B, .slice (some ⟨g5, 0, none⟩) es.length es.length] 31)).cell? ⟨w5.heap.size, 1, none⟩ = some (.slice (some ⟨g5, 0, none⟩) es.length es.length) := by go_simp
    refine (implCountParts_any B (some ⟨g5, 0, none⟩) es.length es b _ HM.out ((hE5.below hbx).more hbx.size) HL'.out HS'.out (by omega)).mono ?_
    intro e w6 h6
    obtain ⟨rfl, hb6⟩ := HP.out _ _ _ h6
    clear h6
    have hx6 := hbx.trans (hb6.mono hbx.size)
    have hk0 := (hb6.cell (p := ⟨w5.heap.size, 0, none⟩) (by simp)).trans hj0
    have hk1 := (hb6.cell (p := ⟨w5.heap.size, 1, none⟩) (by simp)).trans hj1
    have hk2 := (hx6.cell (p := ⟨w.heap.size, 0, none⟩) (by simp only; omega)).trans hi0
    have hk3 := (hx6.cell (p := ⟨w.heap.size, 1, none⟩) (by simp only; omega)).trans hi1
    have hz6 : w5.heap.size < w6.heap.size := by have := hb6.size; simp at this; omega
    have hE6 := (hE5.below hx6).more hx6.size
    have hb6' := hb5'.trans (hx6.mono hb5'.size)
    have q1 : (q != q) = false := by simp
    clear hb6 hj0 hj1 hbx hx6 hi0 hi1 hE5
    go_wp2_with fail
    have hS : ∀ W, Below w6.heap.size w6 W → (W.cell? ⟨w5.heap.size, 0, none⟩ = some (.string B) ∧ W.cell? ⟨w5.heap.size, 1, none⟩ = some (.slice (some ⟨g5, 0, none⟩) es.length es.length) ∧ W.cell? ⟨w.heap.size, 0, none⟩ = some (.string B) ∧ W.cell? ⟨w.heap.size, 1, none⟩ = some (.slice A es.length cap) ∧ Below w6.heap.size w6 W) :=
      fun W h => ⟨(h.cell (by simp only; omega)).trans hk0, (h.cell (by simp only; omega)).trans hk1, (h.cell (by simp only; omega)).trans hk2, (h.cell (by simp only; omega)).trans hk3, h⟩
    have hA : ∀ W, Below w6.heap.size w6 W → EdgesIn W W.heap.size A es := fun W h => (hE.below (hb6'.trans (h.mono hb6'.size))).more (hb6'.trans (h.mono hb6'.size)).size
    have hG : ∀ W, Below w6.heap.size w6 W → EdgesIn W W.heap.size (some ⟨g5, 0, none⟩) es := fun W h => (hE6.below h).more h.size
    have HSS := Lib.hid hS; have HA := Lib.hid hA; have HG := Lib.hid hG
    clear hS hA hG hE6
    go_region_held3 (fun W => W.cell? ⟨w5.heap.size, 0, none⟩ = some (.string B) ∧ W.cell? ⟨w5.heap.size, 1, none⟩ = some (.slice (some ⟨g5, 0, none⟩) es.length es.length) ∧ W.cell? ⟨w.heap.size, 0, none⟩ = some (.string B) ∧ W.cell? ⟨w.heap.size, 1, none⟩ = some (.slice A es.length cap) ∧ Below w6.heap.size w6 W)
      (first | exact HSS.out _ (Below.refl _ _).drew | exact HSS.out _ ((Below.refl _ _).drew.trans hb7) | exact HSS.out _ (((Below.refl _ _).drew.trans hb7).trans (hb8.mono hb7.size)))
      (first
        | (go_at_call 9; refine (toNet_any B A cap es _ (HA.out _ (Below.refl _ _).drew) HL'.out).mono ?_; rintro e w7 ⟨g7, rfl, hg7, hE7, hb7⟩)
        | (go_at_call 12; refine (eqNet_t B _ _ _ _ es _ (HG.out _ ((Below.refl _ _).drew.trans hb7)) hE7 HL'.out).mono ?_; rintro e w8 ⟨rfl, hb8⟩))
    rename_i hHeld
    have hb8' := hb6'.trans (hHeld.2.2.2.2.mono hb6'.size)
    clear hHeld
    go_wp2_with fail
    go_ret
    exact ⟨rfl, hb8'⟩

end Go.Proofs.YtpeafheljcjlhaaGreat

namespace Go.Proofs.YtpeafheljcjlhaaGreat
open Go.ChangeShapes Go.WideShapes Go.ChangeAt Go.RowKit
open Go.ChangeMaps (open_string shut_string)
set_option linter.unusedVariables false

theorem ownCountParts : ownKnob Tryz.prog.godebug = none := by kernel_rfl
theorem laidCountParts : laidOutB Tryz.prog = true := by kernel_rfl

set_option maxRecDepth 100000 in
theorem liftedCountParts (os : Os) (started : os.Started) (H : Type) (enc : TypeId × Value → H) :
    ReturnsInHanded {} Tryz.checked os 6 .any (Rows.fnExactCountPartsSpec.pre6 enc Tryz.prog Tryz.f6 Rows.fnExactCountPartsRow.domain false) (Rows.fnExactCountPartsSpec.post enc Tryz.prog Tryz.f6 false true false false) := by
  refine returnsInHanded_of_change (C := Tryz.checked) ownCountParts started (by kernel_rfl) Tryz.func6
    (ChangeSpec.witness6 (enc := enc) (C := Tryz.checked) false ⟨#[], #[.agg #[.string ⟨#[]⟩, .slice none 0 0], .string ⟨#[]⟩], []⟩ 8 (by kernel_rfl) (by kernel_rfl) (by kernel_rfl) (by kernel_rfl)) ?_
  intro W base args ds gs before hval0 hW hcnd _
  have hval : ∀ (j : Nat) t v, Tryz.f6.params[j]? = some t → args[j]? = some v → Value.okWide Tryz.prog W .any base t v := hval0
  have hW' := hW
  obtain ⟨p, q, hA0, hV, rfl, hfz, hnd⟩ := hW
  have hA : DataW.TrodAll enc Tryz.prog W 0 (fun _ => true) true Tryz.f6.params.toList args.toList ds p := hA0
  rw [Tryz.params6] at hA hval
  obtain ⟨v0, vs0, d0, ds0, p0, q0, hargs, rfl, rfl, h0, r0⟩ := trodAll_cons hA
  obtain ⟨v1, vs1, d1, ds1, p1, q1, rfl, rfl, rfl, h1, r1⟩ := trodAll_cons r0
  obtain ⟨rfl, rfl, rfl⟩ := trodAll_nil r1
  obtain rfl : args = #[v0, v1] := by cases args; simp_all
  obtain ⟨rfl, rfl⟩ := trodVars_none hV
  have k0 := h0
  have lt0 : ∀ x ∈ p0, x.block < W.heap.size := by obtain ⟨m, hm⟩ := k0; exact DataW.trod_lt m _ _ _ hm
  obtain ⟨B0, A0, cap0, es0, rfl, hs0, hE0, hl0, hS0⟩ := open_net (hval 0 24 v0 rfl rfl) h0
  obtain ⟨b1, rfl, rfl, rfl, hz1⟩ := open_string Tryz.underlying9 (hval 1 9 v1 rfl rfl) h1
  clear hA0 hval0
  refine (lawCountParts B0 A0 cap0 es0 b1 W hs0 hE0 hl0 hS0).mono fun e W' ⟨he, bel⟩ => ?_
  subst he
  exact ⟨_, rfl, _, _, _, [], _, [], hW', trodAll_mk1 (shut_bool Tryz.underlying4 _), (trodAll_cons_mk (Below.trod laidCountParts (by kernel_rfl) (of_decide_eq_true (by kernel_rfl)) k0 bel lt0) (trodAll_cons_mk (shut_string Tryz.underlying9 hz1) trodAll_mk0)), rfl, bel.frame _, fun h => by cases h⟩

theorem overCountParts : Rows.fnExactCountPartsRow.holds Tryz.pinned (OpenSpec.ofChange Rows.fnExactCountPartsSpec) :=
  OpenClaim.holds_of_wide 6 Tryz.f6 rfl rfl rfl rfl rfl rfl rfl ⟨rfl, rfl, rfl, rfl, rfl⟩ rfl rfl rfl rfl rfl (by kernel_rfl) Tryz.func6 (by kernel_rfl)
    (of_decide_eq_true (by kernel_rfl)) (by unfold Func.isWrapper; first | (rw [if_pos (by decide +kernel)]; kernel_rfl) | (rw [if_neg (by decide +kernel)]; exact ⟨rfl, rfl⟩))
    (fun os started H enc _ => liftedCountParts os started H enc)

/-- the statement -/
theorem provedCountParts : Rows.FnExactCountPartsSaid := overCountParts

end Go.Proofs.YtpeafheljcjlhaaGreat
