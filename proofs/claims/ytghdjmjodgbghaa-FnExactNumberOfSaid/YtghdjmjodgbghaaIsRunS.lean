/- Whether a text is a run, by the model. -/
import Derived.Test.YtghdjmjodgbghaaIsRun
namespace Go.Proofs.Ytghdjmjodgbghaa
open Go.RowKit

set_option maxRecDepth 100000 in
set_option maxHeartbeats 4000000 in
/-- spec.IsRun -/
theorem specIsRun_any (B : ByteArray) (A : Option Addr) (cap : Nat) (es : List (ByteArray × ByteArray)) (p : ByteArray) (w : World) (hs : B.size ≤ maxLen) (hE : EdgesIn w w.heap.size A es) (hl : es.length ≤ 1099511627776) (_ : ∀ e ∈ es, e.1.size ≤ 1099511627776 ∧ e.2.size ≤ 1099511627776) (hp : p.size ≤ 1099511627776) :
    Calls Try.prog 52 #[.agg #[.string B, .slice A es.length cap], .string p] w (BoolPost (runV B es p) w) := by
  have HL := Lib.hid hl; have HM := Lib.hid hs; have HP := Lib.hid hp
  clear hl hs
  have hb0 : Below w.heap.size w (w.alloc (.cells #[.string B, .slice A es.length cap] 29)) := (Below.refl _ _).alloc (Nat.le_refl _) _
  have t0 := Two.made w B A es.length cap 29
  have hz0 : (w.alloc (.cells #[.string B, .slice A es.length cap] 29)).heap.size = w.heap.size + 1 := by simp
  obtain ⟨bv, hbv⟩ : ∃ bv, pathV B es p = bv := ⟨_, rfl⟩
  have HBV := Lib.hid hbv
  cases bv with
  | false =>
    have HQ : Hid (runV B es p = false) := Lib.hid (decB_f fun h => by rw [hbv] at h; exact absurd h.1 (by simp))
    clear hbv hp
    go_enter Try.func52, Try.ntmps52
    go_wp2
    generalize hW0 : w.alloc (.cells #[.string B, .slice A es.length cap] 29) = W0 at hb0 t0 hz0 ⊢
    clear hW0
    have x0 : ∀ x : After W0, x.W.cell? ⟨w.heap.size, 0, none⟩ = some (.string B) := fun x => x.cell (by simp only; omega) t0.1
    have x1 : ∀ x : After W0, x.W.cell? ⟨w.heap.size, 1, none⟩ = some (.slice A es.length cap) := fun x => x.cell (by simp only; omega) t0.2
    have xE : ∀ x : After W0, EdgesIn x.W x.W.heap.size A es := fun x => ((hE.below hb0).below (x.h.mono hb0.size)).more (by have := x.h.size; have := hb0.size; omega)
    have XE := Lib.hid xE; clear xE t0
    have HZ := Lib.hid hz0; clear hz0
    refine wp_region_below (by kernel_rfl) (by kernel_rfl) ?_
    repeat (go_big_quiet_step ((go_at_call 76; exact After.call ((specIsPath_any _ _ _ _ _ _ HM.out (XE.out _) HL.out HP.out).mono fun _ _ ⟨he, hw⟩ => ⟨he.trans (by rw [HBV.out]), hw⟩))))
    refine wpQuiet_nil ?_
    rintro _ ⟨x, rfl⟩
    clear x0 x1
    go_wp2
    go_ret
    exact ⟨by rw [HQ.out]; rfl, hb0.trans (x.h.mono hb0.size)⟩
  | true =>
  by_cases h0 : 0 < p.size
  case neg =>
    have HQ : Hid (runV B es p = false) := Lib.hid (decB_f fun h => h0 h.2.1)
    have hpe : p = ⟨#[]⟩ := bytes_ext (by simp; exact Array.eq_empty_of_size_eq_zero (show p.size = 0 by omega))
    subst hpe
    clear hbv hp h0
    go_enter Try.func52, Try.ntmps52
    go_wp2
    generalize hW0 : w.alloc (.cells #[.string B, .slice A es.length cap] 29) = W0 at hb0 t0 hz0 ⊢
    clear hW0
    have x0 : ∀ x : After W0, x.W.cell? ⟨w.heap.size, 0, none⟩ = some (.string B) := fun x => x.cell (by simp only; omega) t0.1
    have x1 : ∀ x : After W0, x.W.cell? ⟨w.heap.size, 1, none⟩ = some (.slice A es.length cap) := fun x => x.cell (by simp only; omega) t0.2
    have xE : ∀ x : After W0, EdgesIn x.W x.W.heap.size A es := fun x => ((hE.below hb0).below (x.h.mono hb0.size)).more (by have := x.h.size; have := hb0.size; omega)
    have XE := Lib.hid xE; clear xE t0
    have HZ := Lib.hid hz0; clear hz0
    refine wp_region_below (by kernel_rfl) (by kernel_rfl) ?_
    repeat (go_big_quiet_step ((go_at_call 76; exact After.call ((specIsPath_any _ _ _ _ _ _ HM.out (XE.out _) HL.out HP.out).mono fun _ _ ⟨he, hw⟩ => ⟨he.trans (by rw [HBV.out]), hw⟩))))
    refine wpQuiet_nil ?_
    rintro _ ⟨x, rfl⟩
    clear x0 x1
    go_wp2
    go_ret
    exact ⟨by rw [HQ.out]; rfl, hb0.trans (x.h.mono hb0.size)⟩
  have hvp : Valid B.data.toList (ebs es) ∧ PathOk es p.data.toList := decB_iff.1 hbv
  have hB2 : 2 ≤ B.size := by have := hvp.1.1.1.1; simpa using this
  have hB1 : 1 ≤ B.size := by omega
  have hne : ¬ p.toList = [] := fun h => by
    have := congrArg List.length h
    have e1 : p.data.toList.length = p.size := by simp
    rw [Lib.toList_data, e1, List.length_nil] at this
    omega
  have hne1 : (p.toList == []) = false := by simp [hne]
  have hne3 : (p.toList != []) = true := by simp [hne]
  have hne2 : p.toList.isEmpty = false := by
    cases hq : p.toList with
    | nil => exact absurd hq hne
    | cons => rfl
  obtain ⟨n, hn⟩ : ∃ n, p.size = n + 1 := ⟨p.size - 1, by omega⟩
  have hlen : p.data.toList.length = p.size := by simp
  have HX1 : Hid (0 ≤ eIdx es.length (p.extract 0 1).data.toList) := Lib.hid (by
    have := letter_at (p := p) (i := 0) h0
    rw [Nat.zero_add] at this
    rw [this]
    exact (hvp.2.2 0 (by omega)).1)
  have HX2 : Hid (0 ≤ eIdx es.length (p.extract n p.size).data.toList) := Lib.hid (by
    have := letter_at (p := p) (i := n) (by omega)
    rw [← hn] at this
    rw [this]
    exact (hvp.2.2 n (by omega)).1)
  obtain ⟨q1, hq1⟩ : ∃ q1, ((edgeB es (p.extract 0 1)).1.toList == (B.extract 0 1).toList) = q1 := ⟨_, rfl⟩
  obtain ⟨q2, hq2⟩ : ∃ q2, ((edgeB es (p.extract n p.size)).2.toList == (B.extract (B.size - 1) B.size).toList) = q2 := ⟨_, rfl⟩
  have HQ : Hid (runV B es p = (q1 && q2)) := Lib.hid (by rw [runV_of hbv h0, show p.size - 1 = n by omega, hq1, hq2])
  have a1 : (1 : Int) ≤ (p.size : Int) := by omega
  have a2 : 1 ≤ p.size := by omega
  have a3 : IntKind.i64.wrap ((p.size : Int) - 1) = (n : Int) := by rw [IntWalk.i64_in _ (by omega)]; omega
  have a4 : (0 : Int) ≤ (n : Int) := by omega
  have a5 : (n : Int) ≤ (p.size : Int) := by omega
  have a6 : n ≤ p.size := by omega
  have e1 := edge_from; have e2 := edge_to
  have HZ : Hid ((w.alloc (.cells #[.string B, .slice A es.length cap] 29)).heap.size = w.heap.size + 1) := Lib.hid hz0
  clear hbv hvp hB2 hn hlen hp h0 hz0
  cases q1 with
  | false =>
    go_enter Try.func52, Try.ntmps52
    go_wp2
    generalize hW0 : w.alloc (.cells #[.string B, .slice A es.length cap] 29) = W0 at hb0 t0 HZ ⊢
    clear hW0
    have x0 : ∀ x : After W0, x.W.cell? ⟨w.heap.size, 0, none⟩ = some (.string B) := fun x => x.cell (by have := HZ.out; simp only; omega) t0.1
    have x1 : ∀ x : After W0, x.W.cell? ⟨w.heap.size, 1, none⟩ = some (.slice A es.length cap) := fun x => x.cell (by have := HZ.out; simp only; omega) t0.2
    have xE : ∀ x : After W0, EdgesIn x.W x.W.heap.size A es := fun x => ((hE.below hb0).below (x.h.mono hb0.size)).more (Nat.le_trans hb0.size x.h.size)
    have XE := Lib.hid xE; clear xE t0
    refine wp_region_below (by kernel_rfl) (by kernel_rfl) ?_
    repeat (go_big_quiet_step ((first
      | (go_at_call 76; exact After.call ((specIsPath_any _ _ _ _ _ _ HM.out (XE.out _) HL.out HP.out).mono fun _ _ ⟨he, hw⟩ => ⟨he.trans (by rw [HBV.out]), hw⟩))
      | (go_at_call 37; exact After.call (l1Entry_any _ _ _ hB1 HM.out))
      | (go_at_call 58; exact After.call (l2Edge_b _ _ _ _ _ _ (XE.out _) HL.out HX1.out)))))
    refine wpQuiet_nil ?_
    rintro _ ⟨x, rfl⟩
    clear x0 x1 a1 a2 a3 a4 a5 a6 e1 e2
    go_wp2
    go_ret
    exact ⟨by rw [HQ.out]; rfl, hb0.trans (x.h.mono hb0.size)⟩
  | true =>
    go_enter Try.func52, Try.ntmps52
    go_wp2
    generalize hW0 : w.alloc (.cells #[.string B, .slice A es.length cap] 29) = W0 at hb0 t0 HZ ⊢
    clear hW0
    have x0 : ∀ x : After W0, x.W.cell? ⟨w.heap.size, 0, none⟩ = some (.string B) := fun x => x.cell (by have := HZ.out; simp only; omega) t0.1
    have x1 : ∀ x : After W0, x.W.cell? ⟨w.heap.size, 1, none⟩ = some (.slice A es.length cap) := fun x => x.cell (by have := HZ.out; simp only; omega) t0.2
    have xE : ∀ x : After W0, EdgesIn x.W x.W.heap.size A es := fun x => ((hE.below hb0).below (x.h.mono hb0.size)).more (Nat.le_trans hb0.size x.h.size)
    have XE := Lib.hid xE; clear xE t0
    refine wp_region_below (by kernel_rfl) (by kernel_rfl) ?_
    repeat (go_big_quiet_step ((first
      | (go_at_call 76; exact After.call ((specIsPath_any _ _ _ _ _ _ HM.out (XE.out _) HL.out HP.out).mono fun _ _ ⟨he, hw⟩ => ⟨he.trans (by rw [HBV.out]), hw⟩))
      | (go_at_call 37; exact After.call (l1Entry_any _ _ _ hB1 HM.out))
      | (go_at_call 77; exact After.call (l1Exit_any _ _ _ hB1 HM.out))
      | (go_at_call 58; first | with_reducible exact After.call (l2Edge_b _ _ _ _ _ _ (XE.out _) HL.out HX1.out) | with_reducible exact After.call (l2Edge_b _ _ _ _ _ _ (XE.out _) HL.out HX2.out)))))
    refine wpQuiet_nil ?_
    rintro _ ⟨x, rfl⟩
    clear x0 x1 a1 a2 a3 a4 a5 a6 e1 e2
    go_wp2
    go_ret
    exact ⟨by rw [HQ.out, ← hq2]; rfl, hb0.trans (x.h.mono hb0.size)⟩

end Go.Proofs.Ytghdjmjodgbghaa
