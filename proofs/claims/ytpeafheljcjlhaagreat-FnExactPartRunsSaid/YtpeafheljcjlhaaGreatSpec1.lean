/- Nets by the model: shape. -/
import Derived.Test.YtpeafheljcjlhaaGreatNet1
import Derived.Test.YtpeafheljcjlhaaGreatRegion
import Derived.Lib.IndexBytes
namespace Go.Proofs.YtpeafheljcjlhaaGreat
open Go.RowKit

theorem bytes_ext {a b : ByteArray} (h : a.data.toList = b.data.toList) : a = b := by
  obtain ⟨⟨a⟩⟩ := a
  obtain ⟨⟨b⟩⟩ := b
  simp at h; rw [h]

theorem bytes_one {b : ByteArray} {c : UInt8} (h : b.data.toList = [c]) : b = ⟨#[c]⟩ := bytes_ext h

/-- the exit's text -/
theorem exit_text (B b : ByteArray) (hn : B.data.toList.Nodup) (h : 0 ≤ bIdx B.data.toList b.data.toList) (hs : 1 ≤ B.size) :
    b = B.extract (B.size - 1) B.size ↔ bIdx B.data.toList b.data.toList = (B.size : Int) - 1 := by
  obtain ⟨c, hb, hm, he⟩ := bIdx_some h
  have hlen : B.data.toList.length = B.size := by simp
  have hlast : ∃ z, B.data.toList[B.size - 1]? = some z := ⟨_, List.getElem?_eq_getElem (by omega)⟩
  obtain ⟨z, hz⟩ := hlast
  have hx : (B.extract (B.size - 1) B.size).data.toList = [z] := by
    rw [Lib.extract_to_end]
    obtain ⟨hz1, hz2⟩ := List.getElem?_eq_some_iff.1 hz
    rw [List.drop_eq_getElem_cons hz1, List.drop_of_length_le (by omega), hz2]
  rw [he]
  constructor
  · intro hbx
    rw [hbx, hx] at hb
    injection hb with hb
    subst hb
    rw [indexByte_of_get hn hz]; omega
  · intro hi
    refine bytes_ext ?_
    rw [hx, hb]
    have h1 := indexByte_get hm
    rw [hi] at h1
    have h2 : ((B.size : Int) - 1).toNat = B.size - 1 := by omega
    rw [h2, hz] at h1
    injection h1 with h1
    rw [h1]

/-- the entry's text -/
theorem entry_text (B b : ByteArray) (h : 0 ≤ bIdx B.data.toList b.data.toList) (hs : 1 ≤ B.size) :
    b = B.extract 0 1 ↔ bIdx B.data.toList b.data.toList = 0 := by
  obtain ⟨c, hb, hm, he⟩ := bIdx_some h
  have hlen : B.data.toList.length = B.size := by simp
  obtain ⟨z, hz⟩ : ∃ z, B.data.toList[0]? = some z := ⟨_, List.getElem?_eq_getElem (by omega)⟩
  have hx : (B.extract 0 1).data.toList = [z] := by
    have h1 : (B.extract 0 1).data.toList = B.data.toList.take 1 := by simp
    rw [h1]
    match hB : B.data.toList, hz with
    | a :: l, hz => simp at hz; simp [hz]
  rw [he]
  constructor
  · intro hbx
    rw [hbx, hx] at hb
    injection hb with hb
    subst hb
    match hB : B.data.toList, hz with
    | a :: l, hz => simp at hz; simp [hz, Lib.indexByte]
  · intro hi
    refine bytes_ext ?_
    rw [hx, hb]
    have h1 := indexByte_get hm
    rw [hi] at h1
    simp only [Int.toNat_zero] at h1
    rw [hz] at h1
    injection h1 with h1
    rw [h1]

/-- spec.l1In -/
theorem l1In_any (a b c : Int) (w : World) :
    Calls Tryz.prog 78 #[.int .i64 a, .int .i64 b, .int .i64 c] w fun e w' => e = .returned (.bool (decide (b ≤ a) && decide (a ≤ c))) ∧ w = w' := by
  by_cases h1 : b ≤ a <;> by_cases h2 : a ≤ c
  all_goals
    go_enter Tryz.func78, Tryz.ntmps78
    go_wp2
    go_ret
    exact ⟨ret_bool (by simp [h1, h2]), rfl⟩

theorem l1In_t (a b c : Int) (w : World) (h : b ≤ a ∧ a ≤ c) :
    Calls Tryz.prog 78 #[.int .i64 a, .int .i64 b, .int .i64 c] w fun e w' => e = .returned (.bool true) ∧ w = w' :=
  (l1In_any a b c w).mono fun _ _ ⟨he, hw⟩ => ⟨by rw [he]; simp [h], hw⟩
theorem l1In_f (a b c : Int) (w : World) (h : ¬ (b ≤ a ∧ a ≤ c)) :
    Calls Tryz.prog 78 #[.int .i64 a, .int .i64 b, .int .i64 c] w fun e w' => e = .returned (.bool false) ∧ w = w' :=
  (l1In_any a b c w).mono fun _ _ ⟨he, hw⟩ => ⟨by rw [he]; simp; omega, hw⟩

/-- spec.l1Entry -/
theorem l1Entry_any (B : ByteArray) (sl : Value) (w : World) (hs : 1 ≤ B.size) (hl : B.size ≤ maxLen) :
    Calls Tryz.prog 49 #[.agg #[.string B, sl]] w fun e w' => e = .returned (.string (B.extract 0 1)) ∧ Below w.heap.size w w' := by
  unfold maxLen at hl
  go_enter Tryz.func49, Tryz.ntmps49
  go_wp2
  go_ret
  exact ⟨rfl, (Below.refl _ _).alloc (Nat.le_refl _) _⟩

/-- spec.l1Exit -/
theorem l1Exit_any (B : ByteArray) (sl : Value) (w : World) (hs : 1 ≤ B.size) (hl : B.size ≤ maxLen) :
    Calls Tryz.prog 50 #[.agg #[.string B, sl]] w fun e w' => e = .returned (.string (B.extract (B.size - 1) B.size)) ∧ Below w.heap.size w w' := by
  unfold maxLen at hl
  go_enter Tryz.func50, Tryz.ntmps50
  go_wp2
  go_ret
  exact ⟨rfl, (Below.refl _ _).alloc (Nat.le_refl _) _⟩

/-- spec.l1Block -/
theorem l1Block_any (B b : ByteArray) (sl : Value) (w : World) (hl : B.size ≤ maxLen) :
    Calls Tryz.prog 112 #[.agg #[.string B, sl], .string b] w fun e w' => e = .returned (.bool (decide (0 ≤ bIdx B.data.toList b.data.toList))) ∧ Below w.heap.size w w' := by
  by_cases h : b.size = 1
  · have h1 : ((b.size : Int) == 1) = true := by simp [h]
    have h2 : 0 < b.size := by omega
    have h3 : bIdx B.data.toList b.data.toList = Lib.indexByte B.data.toList b[0] := by
      have : b.data.toList = [b[0]] := by
        obtain ⟨⟨l⟩⟩ := b
        match l, h with
        | [c], _ => rfl
      rw [this]; simp [bIdx]
    have H3 := Lib.hid h3; clear h3
    go_enter Tryz.func112, Tryz.ntmps112
    go_wp2
    go_quiet ((go_at_call 51; exact Calls.quiet_of_same ((find_any _ _ _ hl).mono fun _ _ ⟨h, h'⟩ => ⟨h, h'.symm⟩)))
    go_wp2
    go_ret
    exact ⟨ret_bool (by rw [H3.out]), below_drewN ((Below.refl _ _).alloc (Nat.le_refl _) _) _⟩
  · have h1 : ((b.size : Int) == 1) = false := by rw [beq_eq_false_iff_ne]; omega
    have h3 : bIdx B.data.toList b.data.toList = -1 := by
      obtain ⟨⟨l⟩⟩ := b
      match l, h with
      | [], _ => rfl
      | [c], h => exact absurd rfl h
      | _ :: _ :: _, _ => rfl
    have H3 := Lib.hid h3; clear h3
    go_enter Tryz.func112, Tryz.ntmps112
    go_wp2
    go_quiet (fail)
    go_wp2
    go_ret
    exact ⟨ret_bool (by rw [H3.out]; rfl), below_drewN ((Below.refl _ _).alloc (Nat.le_refl _) _) _⟩

theorem l1Block_t (B b : ByteArray) (sl : Value) (w : World) (hl : B.size ≤ maxLen) (h : 0 ≤ bIdx B.data.toList b.data.toList) :
    Calls Tryz.prog 112 #[.agg #[.string B, sl], .string b] w fun e w' => e = .returned (.bool true) ∧ Below w.heap.size w w' :=
  (l1Block_any B b sl w hl).mono fun _ _ ⟨he, hw⟩ => ⟨by rw [he]; simp [h], hw⟩
theorem l1Block_f (B b : ByteArray) (sl : Value) (w : World) (hl : B.size ≤ maxLen) (h : ¬ 0 ≤ bIdx B.data.toList b.data.toList) :
    Calls Tryz.prog 112 #[.agg #[.string B, sl], .string b] w fun e w' => e = .returned (.bool false) ∧ Below w.heap.size w w' :=
  (l1Block_any B b sl w hl).mono fun _ _ ⟨he, hw⟩ => ⟨by rw [he]; simp; omega, hw⟩

theorem quiet_l {f : FuncId} {args : Array Value} {w : World} {n : Nat} {v : Value}
    (h : Calls Tryz.prog f args (w.drewN n) fun e w' => e = .returned v ∧ w.drewN n = w') : Calls Tryz.prog f args (w.drewN n) fun e w'' => e = .returned v ∧ ∃ m, w'' = w.drewN m :=
  h.mono fun _ _ ⟨he, hm⟩ => ⟨he, n, hm.symm⟩

theorem extract_take (B : ByteArray) (k : Nat) : (B.extract 0 k).data.toList = B.data.toList.take k := by simp

set_option maxRecDepth 100000 in
set_option maxHeartbeats 2000000 in
/-- spec.l1Shape -/
theorem l1Shape_any (B : ByteArray) (A : Option Addr) (cap : Nat) (es : List (ByteArray × ByteArray)) (w : World) (hs : B.size ≤ maxLen) (hE : EdgesIn w w.heap.size A es) (hl : es.length ≤ maxLen) :
    Calls Tryz.prog 83 #[.agg #[.string B, .slice A es.length cap]] w fun e w' => e = .returned (.bool (decB (ShapeOk B.data.toList (ebs es)))) ∧ Below w.heap.size w w' := by
  have HM := Lib.hid hs
  unfold maxLen at hl hs
  by_cases h2 : 2 ≤ (B.size : Int) ∧ (B.size : Int) ≤ 8
  case neg =>
    have HD : Hid (false = decB (ShapeOk B.data.toList (ebs es))) := Lib.hid (by
      symm; refine decB_f ?_; intro h; have h1 := h.1.1; have h3 := h.1.2.1; simp at h1 h3; omega)
    go_enter Tryz.func83, Tryz.ntmps83
    go_wp2_with (go_at_call 78; refine (l1In_f _ _ _ _ h2).mono ?_; rintro e w' ⟨rfl, rfl⟩)
    go_ret
    exact ⟨ret_bool HD.out, (Below.refl _ _).alloc (Nat.le_refl _) _⟩
  by_cases h16 : 16 < es.length
  · have HD : Hid (false = decB (ShapeOk B.data.toList (ebs es))) := Lib.hid (by
      symm; refine decB_f ?_; intro h; have := h.2.1; simp [ebs] at this; omega)
    go_enter Tryz.func83, Tryz.ntmps83
    go_wp2_with (go_at_call 78; refine (l1In_t _ _ _ _ h2).mono ?_; rintro e w' ⟨rfl, rfl⟩)
    go_ret
    exact ⟨ret_bool HD.out, (Below.refl _ _).alloc (Nat.le_refl _) _⟩
  go_enter Tryz.func83, Tryz.ntmps83
  go_wp2_with (go_at_call 78; refine (l1In_t _ _ _ _ h2).mono ?_; rintro e w' ⟨rfl, rfl⟩)
  have hb0 : Below w.heap.size w (w.alloc (.cells #[.string B, .slice A es.length cap] 31)) := (Below.refl _ _).alloc (Nat.le_refl _) _
  have hc0 : (w.alloc (.cells #[.string B, .slice A es.length cap] 31)).cell? ⟨w.heap.size, 0, none⟩ = some (.string B) := by go_simp
  have hc1 : (w.alloc (.cells #[.string B, .slice A es.length cap] 31)).cell? ⟨w.heap.size, 1, none⟩ = some (.slice A es.length cap) := by go_simp
  have hz0 : w.heap.size < (w.alloc (.cells #[.string B, .slice A es.length cap] 31)).heap.size := by simp
  go_loopw [20] (fun i wr => ∃ k : Nat, k ≤ B.size ∧ i = .int .i64 k ∧ Below w.heap.size w wr ∧ wr.cell? ⟨w.heap.size, 0, none⟩ = some (.string B) ∧ wr.cell? ⟨w.heap.size, 1, none⟩ = some (.slice A es.length cap) ∧ w.heap.size < wr.heap.size ∧
    ∀ (j : Nat) (b : UInt8), j < k → B.data.toList[j]? = some b → (65 ≤ b.toNat ∧ b.toNat ≤ 72) ∧ b ∉ B.data.toList.take j) (fun i _ => B.size - (intOf i).toNat)
  case atStart => exact ⟨0, Nat.zero_le _, rfl, hb0, hc0, hc1, hz0, by intro j b h; omega⟩
  case round =>
    obtain ⟨k, hk, rfl, hb, hB0, hB1, hz, hr⟩ := hrel
    clear hb0 hc0 hc1 hz0
    have HR := Lib.hid hr; clear hr
    by_cases hlt : k < B.size
    · have hg : B.data.toList[k]? = some B[k] := List.getElem?_eq_getElem (by simpa using hlt)
      have HG := Lib.hid hg
      have hm : B[k] ∈ B.data.toList := List.mem_of_getElem? hg
      clear hg
      have hu : (B[k].toNat : Int) < 256 := by have := B[k].toNat_lt; omega
      by_cases hrng : (65 : Int) ≤ B[k].toNat ∧ (B[k].toNat : Int) ≤ 72
      case neg =>
        have HD : Hid (false = decB (ShapeOk B.data.toList (ebs es))) := Lib.hid (by
          symm; refine decB_f ?_; intro h; have := h.1.2.2.1 _ hm; omega)
        have HRNG := Lib.hid hrng; clear hrng
        go_wp2
        go_quiet ((go_at_call 78; exact quiet_l (l1In_f _ _ _ _ HRNG.out)))
        go_wp2
        go_ret
        exact ⟨ret_bool HD.out, below_drewN hb _⟩
      by_cases hix : 0 ≤ Lib.indexByte (B.data.toList.take k) B[k]
      · have HD : Hid (false = decB (ShapeOk B.data.toList (ebs es))) := Lib.hid (by
          symm; refine decB_f ?_; intro h; exact nodup_take h.1.2.2.2 HG.out (indexByte_nonneg.1 hix))
        go_wp2
        go_quiet ((first | (go_at_call 78; exact quiet_l (l1In_t _ _ _ _ hrng)) | (go_at_call 51; exact quiet_l (find_any _ _ _ (by unfold maxLen; simp; omega)))))
        go_wp2
        go_ret
        exact ⟨ret_bool HD.out, below_drewN hb _⟩
      · go_wp2
        go_quiet ((first | (go_at_call 78; exact quiet_l (l1In_t _ _ _ _ hrng)) | (go_at_call 51; exact quiet_l (find_any _ _ _ (by unfold maxLen; simp; omega)))))
        go_wp2
        go_roundw
        case rel => exact ⟨k + 1, by omega, by go_num, below_drewN hb _, hB0, hB1, hz, fun j b hj hbb => by
          rcases Nat.lt_or_ge j k with h | h
          · exact HR.out j b h hbb
          · obtain rfl : j = k := by omega
            have := HG.out
            rw [hbb] at this
            injection this with this
            subst this
            exact ⟨by omega, fun hmem => by have := indexByte_nonneg.2 hmem; omega⟩⟩
        case measure => simp [intOf]; omega
    · have hall : BlocksOk B.data.toList := by
        have hall := fun (j : Nat) (b : UInt8) (h : B.data.toList[j]? = some b) => HR.out j b (by
          have : j < B.data.toList.length := (List.getElem?_eq_some_iff.1 h).1
          have e : B.data.toList.length = B.size := by simp
          omega) h
        refine ⟨by simp; omega, by simp; omega, fun b hb => ?_, nodup_of_take fun i b h => (hall i b h).2⟩
        obtain ⟨j, hj⟩ := List.mem_iff_getElem?.1 hb
        exact (hall j b hj).1
      have HALL := Lib.hid hall; clear hall HR
      go_wp2
      go_loopw [46] (fun i wr => ∃ k : Nat, k ≤ es.length ∧ i = .int .i64 k ∧ Below w.heap.size w wr ∧ wr.cell? ⟨w.heap.size, 0, none⟩ = some (.string B) ∧ wr.cell? ⟨w.heap.size, 1, none⟩ = some (.slice A es.length cap) ∧ w.heap.size < wr.heap.size ∧
        ∀ e ∈ (ebs es).take k, EdgeOk B.data.toList e) (fun i _ => es.length - (intOf i).toNat)
      case atStart => exact ⟨0, Nat.zero_le _, rfl, hb, hB0, hB1, hz, by simp⟩
      case round =>
        clear hb hB0 hB1 hz
        obtain ⟨k, hk, rfl, hb, hB0, hB1, hz, hr⟩ := hrel
        have HR := Lib.hid hr; clear hr
        by_cases hlt : k < es.length
        · obtain ⟨eb, eo, rfl, hlow, h1, h2⟩ := (hE.below hb) k hlt
          have hbn : Below w.heap.size w (wr.alloc (.cells #[.string es[k].1, .string es[k].2] 70)) := hb.alloc hb.size _
          have hn0 : (wr.alloc (.cells #[.string es[k].1, .string es[k].2] 70)).cell? ⟨w.heap.size, 0, none⟩ = some (.string B) := by go_simp
          have hn1 : (wr.alloc (.cells #[.string es[k].1, .string es[k].2] 70)).cell? ⟨w.heap.size, 1, none⟩ = some (.slice (some ⟨eb, eo, none⟩) es.length cap) := by go_simp
          have hn2 : (wr.alloc (.cells #[.string es[k].1, .string es[k].2] 70)).cell? ⟨wr.heap.size, 0, none⟩ = some (.string es[k].1) := by go_simp
          have hn3 : (wr.alloc (.cells #[.string es[k].1, .string es[k].2] 70)).cell? ⟨wr.heap.size, 1, none⟩ = some (.string es[k].2) := by go_simp
          have hn4 : (wr.alloc (.cells #[.string es[k].1, .string es[k].2] 70)).heap.size = wr.heap.size + 1 := by simp
          go_wp2
          generalize hW0 : wr.alloc (.cells #[.string es[k].1, .string es[k].2] 70) = W0 at hbn hn0 hn1 hn2 hn3 hn4 ⊢
          clear hW0 h1 h2
          have x0 : ∀ x : After W0, x.W.cell? ⟨w.heap.size, 0, none⟩ = some (.string B) := fun x => x.cell (by simp only; omega) hn0
          have x1 : ∀ x : After W0, x.W.cell? ⟨w.heap.size, 1, none⟩ = some (.slice (some ⟨eb, eo, none⟩) es.length cap) := fun x => x.cell (by simp only; omega) hn1
          have x2 : ∀ x : After W0, x.W.cell? ⟨wr.heap.size, 0, none⟩ = some (.string es[k].1) := fun x => x.cell (by simp only; omega) hn2
          have x3 : ∀ x : After W0, x.W.cell? ⟨wr.heap.size, 1, none⟩ = some (.string es[k].2) := fun x => x.cell (by simp only; omega) hn3
          have HN := Lib.hid hn4; clear hn4
          have hget : (ebs es)[k]? = some (es[k].1.data.toList, es[k].2.data.toList) := by simp [ebs, hlt]
          have HG := Lib.hid hget; clear hget
          by_cases c1 : 0 ≤ bIdx B.data.toList es[k].1.data.toList
          case neg =>
            have HD : Hid (false = decB (ShapeOk B.data.toList (ebs es))) := Lib.hid (by
              symm; refine decB_f ?_; intro h; exact c1 (h.2.2 _ (List.mem_of_getElem? HG.out)).1)
            have C1 := Lib.hid c1; clear c1
            refine wp_region_below (by kernel_rfl) (by kernel_rfl) ?_
            repeat (go_big_quiet_step ((go_at_call 112; exact After.call (l1Block_f _ _ _ _ HM.out C1.out))))
            refine wpQuiet_nil ?_
            rintro _ ⟨x, rfl⟩
            clear x0 x1 x2 x3
            go_wp2
            go_ret
            exact ⟨ret_bool HD.out, hbn.trans (x.h.mono hbn.size)⟩
          by_cases c2 : 0 ≤ bIdx B.data.toList es[k].2.data.toList
          case neg =>
            have HD : Hid (false = decB (ShapeOk B.data.toList (ebs es))) := Lib.hid (by
              symm; refine decB_f ?_; intro h; exact c2 (h.2.2 _ (List.mem_of_getElem? HG.out)).2.1)
            have C2 := Lib.hid c2; clear c2
            have C1 := Lib.hid c1; clear c1
            refine wp_region_below (by kernel_rfl) (by kernel_rfl) ?_
            repeat (go_big_quiet_step ((go_at_call 112; first | with_reducible exact After.call (l1Block_t _ _ _ _ HM.out C1.out) | with_reducible exact After.call (l1Block_f _ _ _ _ HM.out C2.out))))
            refine wpQuiet_nil ?_
            rintro _ ⟨x, rfl⟩
            clear x0 x1 x2 x3
            go_wp2
            go_ret
            exact ⟨ret_bool HD.out, hbn.trans (x.h.mono hbn.size)⟩
          have C2 := Lib.hid c2
          have C1 := Lib.hid c1
          have T3 := exit_text B es[k].1 HALL.out.2.2.2 c1 (by omega)
          have T4 := entry_text B es[k].2 c2 (by omega)
          by_cases c3 : es[k].1 = B.extract (B.size - 1) B.size
          case pos =>
            have HD : Hid (false = decB (ShapeOk B.data.toList (ebs es))) := Lib.hid (by
              symm; refine decB_f ?_; intro h; have h1 := (h.2.2 _ (List.mem_of_getElem? HG.out)).2.2.1; simp only at h1; have h2 := T3.1 c3; simp at h1; exact h1 h2)
            have q3 : (es[k].1.toList == (B.extract (B.size - 1) B.size).toList) = true := by rw [beq_iff_eq, c3]
            clear c1 c2 T3 T4 c3
            refine wp_region_below (by kernel_rfl) (by kernel_rfl) ?_
            repeat (go_big_quiet_step ((first | (go_at_call 112; first | with_reducible exact After.call (l1Block_t _ _ _ _ HM.out C1.out) | with_reducible exact After.call (l1Block_t _ _ _ _ HM.out C2.out)) | (go_at_call 50; exact After.call (l1Exit_any _ _ _ (by omega) HM.out))  | (go_at_call 49; exact After.call (l1Entry_any _ _ _ (by omega) HM.out)))))
            refine wpQuiet_nil ?_
            rintro _ ⟨x, rfl⟩
            clear x0 x1 x2 x3
            go_wp2
            go_ret
            exact ⟨ret_bool HD.out, hbn.trans (x.h.mono hbn.size)⟩
          have q3 : (es[k].1.toList == (B.extract (B.size - 1) B.size).toList) = false := by rw [beq_eq_false_iff_ne]; exact fun h => c3 (bytes_ext (by rw [← Lib.toList_data, ← Lib.toList_data, h]))
          by_cases c4 : es[k].2 = B.extract 0 1
          case pos =>
            have HD : Hid (false = decB (ShapeOk B.data.toList (ebs es))) := Lib.hid (by
              symm; refine decB_f ?_; intro h; exact (h.2.2 _ (List.mem_of_getElem? HG.out)).2.2.2 (T4.1 c4))
            have q4 : (es[k].2.toList == (B.extract 0 1).toList) = true := by rw [beq_iff_eq, c4]
            clear c1 c2 T3 T4 c3 c4
            refine wp_region_below (by kernel_rfl) (by kernel_rfl) ?_
            repeat (go_big_quiet_step ((first | (go_at_call 112; first | with_reducible exact After.call (l1Block_t _ _ _ _ HM.out C1.out) | with_reducible exact After.call (l1Block_t _ _ _ _ HM.out C2.out)) | (go_at_call 50; exact After.call (l1Exit_any _ _ _ (by omega) HM.out))  | (go_at_call 49; exact After.call (l1Entry_any _ _ _ (by omega) HM.out)))))
            refine wpQuiet_nil ?_
            rintro _ ⟨x, rfl⟩
            clear x0 x1 x2 x3
            go_wp2
            go_ret
            exact ⟨ret_bool HD.out, hbn.trans (x.h.mono hbn.size)⟩
          have q4 : (es[k].2.toList == (B.extract 0 1).toList) = false := by rw [beq_eq_false_iff_ne]; exact fun h => c4 (bytes_ext (by rw [← Lib.toList_data, ← Lib.toList_data, h]))
          have HOK : Hid (EdgeOk B.data.toList (es[k].1.data.toList, es[k].2.data.toList)) := Lib.hid
            ⟨c1, c2, fun h => c3 (T3.2 (by simpa using h)), fun h => c4 (T4.2 h)⟩
          clear c1 c2 T3 T4 c3 c4
          refine wp_region_below (by kernel_rfl) (by kernel_rfl) ?_
          repeat (go_big_quiet_step ((first | (go_at_call 112; first | with_reducible exact After.call (l1Block_t _ _ _ _ HM.out C1.out) | with_reducible exact After.call (l1Block_t _ _ _ _ HM.out C2.out)) | (go_at_call 50; exact After.call (l1Exit_any _ _ _ (by omega) HM.out))  | (go_at_call 49; exact After.call (l1Entry_any _ _ _ (by omega) HM.out)))))
          refine wpQuiet_nil ?_
          rintro _ ⟨x, rfl⟩
          clear x0 x1 x2 x3
          go_wp2
          have hbx := hbn.trans (x.h.mono hbn.size)
          have g0 := x.cell (p := ⟨w.heap.size, 0, none⟩) (by have := HN.out; simp only; omega) hn0
          have g1 := x.cell (p := ⟨w.heap.size, 1, none⟩) (by have := HN.out; simp only; omega) hn1
          have hz2 : w.heap.size < x.W.heap.size := by have := x.h.size; have := HN.out; omega
          go_roundw
          case rel => exact ⟨k + 1, by omega, by go_num, hbx, g0, g1, hz2, fun e he => by
            rw [List.take_add_one, HG.out] at he
            rcases List.mem_append.1 he with he | he
            · exact HR.out e he
            · simp at he; subst he; exact HOK.out⟩
          case measure => simp [intOf]; omega
        · have HD : Hid (true = decB (ShapeOk B.data.toList (ebs es))) := Lib.hid (by
            symm; refine decB_t ⟨HALL.out, by simp [ebs]; omega, fun e he => HR.out e ?_⟩
            rw [List.take_of_length_le (by simp [ebs]; omega)]; exact he)
          go_wp2
          go_ret
          exact ⟨ret_bool HD.out, hb⟩

end Go.Proofs.YtpeafheljcjlhaaGreat
