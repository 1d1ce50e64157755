/- Nets by the model: valid. -/
import Derived.Test.YtpeafheljcjlhaaGreatFrom
namespace Go.Proofs.YtpeafheljcjlhaaGreat
open Go.RowKit

theorem calls_some {P : Program} {f : FuncId} {args : Array Value} {w : World} {R : Ending → World → Prop} (h : Calls P f args w R) : ∃ e w', R e w' := by
  obtain ⟨e, w', _, hr, _⟩ := h []
  exact ⟨e, w', hr⟩

theorem from_fn (B b : ByteArray) (A : Option Addr) (cap : Nat) (es : List (ByteArray × ByteArray)) (l : List UInt8) (s : UInt8) (r : ByteArray) (hr : r.data.toList = fromAll (ebs es) s) (w : World) (hE : EdgesIn w w.heap.size A es) (hl : es.length ≤ maxLen)
    (hL : Lets l es) (hb : b.data.toList = [s]) (hs : s ∈ l) (h8 : l.length ≤ 8) :
    Calls Tryz.prog 84 #[.agg #[.string B, .slice A es.length cap], .string b, .bool false] w fun e w' => e = .returned (.string r) ∧ Below w.heap.size w w' :=
  (l1From_false B b A cap es l s w hE hl hL hb hs h8).mono fun _ _ ⟨o, he, ho, _, _, hw⟩ => ⟨by rw [he, bytes_ext (ho.trans hr.symm)], hw⟩
theorem from_bn (B b : ByteArray) (A : Option Addr) (cap : Nat) (es : List (ByteArray × ByteArray)) (l : List UInt8) (s : UInt8) (r : ByteArray) (hr : r.data.toList = fromAll (flip (ebs es)) s) (w : World) (hE : EdgesIn w w.heap.size A es) (hl : es.length ≤ maxLen)
    (hL : Lets l es) (hb : b.data.toList = [s]) (hs : s ∈ l) (h8 : l.length ≤ 8) :
    Calls Tryz.prog 84 #[.agg #[.string B, .slice A es.length cap], .string b, .bool true] w fun e w' => e = .returned (.string r) ∧ Below w.heap.size w w' :=
  (l1From_true B b A cap es l s w hE hl hL hb hs h8).mono fun _ _ ⟨o, he, ho, _, _, hw⟩ => ⟨by rw [he, bytes_ext (ho.trans hr.symm)], hw⟩

theorem from_closed {A : Option Addr} {es : List (ByteArray × ByteArray)} {l : List UInt8} {s : UInt8} {w : World} (hE : EdgesIn w w.heap.size A es) (hl : es.length ≤ maxLen) (hL : Lets l es) (hs : s ∈ l) (h8 : l.length ≤ 8) :
    (Closed (ebs es) s (fromAll (ebs es) s) ∧ ∀ x ∈ fromAll (ebs es) s, x ∈ l) ∧ Closed (flip (ebs es)) s (fromAll (flip (ebs es)) s) ∧ ∀ x ∈ fromAll (flip (ebs es)) s, x ∈ l := by
  obtain ⟨_, _, o, _, ho, h1, h2, _⟩ := calls_some (l1From_false ⟨#[]⟩ ⟨#[s]⟩ A 0 es l s w hE hl hL rfl hs h8)
  obtain ⟨_, _, o', _, ho', h1', h2', _⟩ := calls_some (l1From_true ⟨#[]⟩ ⟨#[s]⟩ A 0 es l s w hE hl hL rfl hs h8)
  rw [ho] at h1 h2
  rw [ho'] at h1' h2'
  exact ⟨⟨h1, h2⟩, h1', h2'⟩

theorem lets_of {l : List UInt8} {es : List (ByteArray × ByteArray)} (h : EdgesOk l (ebs es)) : Lets l es := by
  intro e he
  have := h.2 _ (List.mem_map_of_mem he)
  obtain ⟨x, hx, hm, _⟩ := bIdx_some this.1
  obtain ⟨y, hy, hm', _⟩ := bIdx_some this.2.1
  exact ⟨x, y, hx, hy, hm, hm'⟩

theorem entry_bytes {B : ByteArray} (h : 1 ≤ B.size) : (B.extract 0 1).data.toList = [entry B.data.toList] ∧ entry B.data.toList ∈ B.data.toList := by
  have hlen : B.data.toList.length = B.size := by simp
  rw [Lib.extract_data]
  unfold entry
  match hB : B.data.toList with
  | [] => rw [hB] at hlen; simp at hlen; omega
  | a :: l => simp
theorem exit_bytes {B : ByteArray} (h : 1 ≤ B.size) : (B.extract (B.size - 1) B.size).data.toList = [exit_ B.data.toList] ∧ exit_ B.data.toList ∈ B.data.toList := by
  have hlen : B.data.toList.length = B.size := by simp
  rw [Lib.extract_to_end]
  have hl : B.size - 1 < B.data.toList.length := by omega
  have hne : B.data.toList ≠ [] := by intro h; rw [h] at hlen; simp at hlen; omega
  have e1 : exit_ B.data.toList = B.data.toList[B.size - 1] := by
    unfold exit_
    rw [List.getLastD_eq_getLast?, List.getLast?_eq_getElem?, hlen, List.getElem?_eq_getElem hl]; rfl
  rw [List.drop_eq_getElem_cons hl, List.drop_of_length_le (by omega), e1]
  exact ⟨rfl, List.getElem_mem hl⟩

set_option maxRecDepth 100000 in
set_option maxHeartbeats 2000000 in
/-- spec.NetValid -/
theorem specValid_any (B : ByteArray) (A : Option Addr) (cap : Nat) (es : List (ByteArray × ByteArray)) (w : World) (hs : B.size ≤ maxLen) (hE : EdgesIn w w.heap.size A es) (hl : es.length ≤ maxLen) :
    Calls Tryz.prog 45 #[.agg #[.string B, .slice A es.length cap]] w fun e w' => e = .returned (.bool (decB (Valid B.data.toList (ebs es)))) ∧ Below w.heap.size w w' := by
  have HM := Lib.hid hs
  have HL := Lib.hid hl
  unfold maxLen at hl hs
  have hb0 : Below w.heap.size w (w.alloc (.cells #[.string B, .slice A es.length cap] 31)) := (Below.refl _ _).alloc (Nat.le_refl _) _
  have hc0 : (w.alloc (.cells #[.string B, .slice A es.length cap] 31)).cell? ⟨w.heap.size, 0, none⟩ = some (.string B) := by go_simp
  have hc1 : (w.alloc (.cells #[.string B, .slice A es.length cap] 31)).cell? ⟨w.heap.size, 1, none⟩ = some (.slice A es.length cap) := by go_simp
  have hz0 : (w.alloc (.cells #[.string B, .slice A es.length cap] 31)).heap.size = w.heap.size + 1 := by simp
  by_cases hsh : ShapeOk B.data.toList (ebs es)
  case neg =>
    have HD : Hid (false = decB (Valid B.data.toList (ebs es))) := Lib.hid (by symm; exact decB_f fun h => hsh h.1)
    have HSH : Hid (decB (ShapeOk B.data.toList (ebs es)) = false) := Lib.hid (decB_f hsh)
    clear hsh
    go_enter Tryz.func45, Tryz.ntmps45
    go_wp2
    generalize hW0 : w.alloc (.cells #[.string B, .slice A es.length cap] 31) = W0 at hb0 hc0 hc1 hz0 ⊢
    clear hW0
    have x0 : ∀ x : After W0, x.W.cell? ⟨w.heap.size, 0, none⟩ = some (.string B) := fun x => x.cell (by simp only; omega) hc0
    have x1 : ∀ x : After W0, x.W.cell? ⟨w.heap.size, 1, none⟩ = some (.slice A es.length cap) := fun x => x.cell (by simp only; omega) hc1
    have xE : ∀ x : After W0, EdgesIn x.W x.W.heap.size A es := fun x => ((hE.below hb0).below (x.h.mono hb0.size)).more (by have := x.h.size; have := hb0.size; omega)
    have XE := Lib.hid xE; clear xE
    have HZ := Lib.hid hz0; clear hz0
    refine wp_region_below (by kernel_rfl) (by kernel_rfl) ?_
    repeat (go_big_quiet_step ((go_at_call 83; exact After.call ((l1Shape_any _ _ _ _ _ HM.out (XE.out _) HL.out).mono fun _ _ ⟨he, hw⟩ => ⟨he.trans (by rw [HSH.out]), hw⟩))))
    refine wpQuiet_nil ?_
    rintro _ ⟨x, rfl⟩
    clear x0 x1
    go_wp2
    go_ret
    exact ⟨ret_bool HD.out, hb0.trans (x.h.mono hb0.size)⟩
  have h28 := hsh.1
  have hB1 : 2 ≤ B.size ∧ B.size ≤ 8 := by have := h28.1; have := h28.2.1; simp at *; omega
  have hL := lets_of hsh.2
  obtain ⟨e1, e2⟩ := entry_bytes (B := B) (by omega)
  obtain ⟨f1, f2⟩ := exit_bytes (B := B) (by omega)
  obtain ⟨⟨k1, k2⟩, _⟩ := from_closed hE HL.out hL e2 h28.2.1
  obtain ⟨_, k3, k4⟩ := from_closed hE HL.out hL f2 h28.2.1
  have n1 := k1.count h28.2.2.2 k2
  have n2 := k3.count h28.2.2.2 k4
  obtain ⟨r1, hr1⟩ : ∃ r : ByteArray, r.data.toList = fromAll (ebs es) (entry B.data.toList) := ⟨⟨(fromAll (ebs es) (entry B.data.toList)).toArray⟩, rfl⟩
  obtain ⟨r2, hr2⟩ : ∃ r : ByteArray, r.data.toList = fromAll (flip (ebs es)) (exit_ B.data.toList) := ⟨⟨(fromAll (flip (ebs es)) (exit_ B.data.toList)).toArray⟩, rfl⟩
  rw [← hr1] at n1
  rw [← hr2] at n2
  have m1 : (r1.size : Int) = B.size ↔ AllFrom B.data.toList (ebs es) (entry B.data.toList) := by rw [← n1]; simp; omega
  have m2 : (r2.size : Int) = B.size ↔ AllFrom B.data.toList (flip (ebs es)) (exit_ B.data.toList) := by rw [← n2]; simp; omega
  have HSH : Hid (decB (ShapeOk B.data.toList (ebs es)) = true) := Lib.hid (decB_t hsh)
  have hw1 : ∀ x : World, Below w.heap.size w x → EdgesIn x x.heap.size A es := fun x hx => (hE.below hx).more hx.size
  have F1 : Hid (∀ W : World, EdgesIn W W.heap.size A es → Calls Tryz.prog 84 #[.agg #[.string B, .slice A es.length cap], .string (B.extract 0 1), .bool false] W fun e w' => e = .returned (.string r1) ∧ Below W.heap.size W w') :=
    Lib.hid fun W h => from_fn B _ A cap es B.data.toList _ r1 hr1 W h HL.out hL e1 e2 h28.2.1
  have F2 : Hid (∀ W : World, EdgesIn W W.heap.size A es → Calls Tryz.prog 84 #[.agg #[.string B, .slice A es.length cap], .string (B.extract (B.size - 1) B.size), .bool true] W fun e w' => e = .returned (.string r2) ∧ Below W.heap.size W w') :=
    Lib.hid fun W h => from_bn B _ A cap es B.data.toList _ r2 hr2 W h HL.out hL f1 f2 h28.2.1
  have HV : Hid (Valid B.data.toList (ebs es) ↔ (r1.size : Int) = B.size ∧ (r2.size : Int) = B.size) := Lib.hid ⟨fun h => ⟨m1.2 h.2.1, m2.2 h.2.2⟩, fun h => ⟨hsh, m1.1 h.1, m2.1 h.2⟩⟩
  clear m1 m2 n1 n2 hr1 hr2 k1 k2 k3 k4 e1 e2 f1 f2 h28 hL hsh hw1
  have hB2 := hB1.1
  have hB8 := hB1.2
  clear hB1
  go_enter Tryz.func45, Tryz.ntmps45
  go_wp2
  generalize hW0 : w.alloc (.cells #[.string B, .slice A es.length cap] 31) = W0 at hb0 hc0 hc1 hz0 ⊢
  clear hW0
  have x0 : ∀ x : After W0, x.W.cell? ⟨w.heap.size, 0, none⟩ = some (.string B) := fun x => x.cell (by simp only; omega) hc0
  have x1 : ∀ x : After W0, x.W.cell? ⟨w.heap.size, 1, none⟩ = some (.slice A es.length cap) := fun x => x.cell (by simp only; omega) hc1
  have xE : ∀ x : After W0, EdgesIn x.W x.W.heap.size A es := fun x => ((hE.below hb0).below (x.h.mono hb0.size)).more (by have := x.h.size; have := hb0.size; omega)
  have XE := Lib.hid xE; clear xE
  have HZ := Lib.hid hz0; clear hz0
  by_cases c1 : (r1.size : Int) = B.size
  case neg =>
    have q1 : ((r1.size : Int) == B.size) = false := by rw [beq_eq_false_iff_ne]; exact c1
    have HD : Hid (false = decB (Valid B.data.toList (ebs es))) := Lib.hid (by symm; exact decB_f fun h => c1 (HV.out.1 h).1)
    clear c1
    refine wp_region_below (by kernel_rfl) (by kernel_rfl) ?_
    repeat (go_big_quiet_step ((first
      | (go_at_call 83; exact After.call ((l1Shape_any _ _ _ _ _ HM.out (XE.out _) HL.out).mono fun _ _ ⟨he, hw⟩ => ⟨he.trans (by rw [HSH.out]), hw⟩))
      | (go_at_call 49; exact After.call (l1Entry_any _ _ _ (by omega) HM.out))
      | (go_at_call 84; exact After.call (F1.out _ (XE.out _))))))
    refine wpQuiet_nil ?_
    rintro _ ⟨x, rfl⟩
    clear x0 x1
    go_wp2
    go_ret
    exact ⟨ret_bool HD.out, hb0.trans (x.h.mono hb0.size)⟩
  have q1 : ((r1.size : Int) == B.size) = true := by rw [beq_iff_eq]; exact c1
  have HD : Hid (((r2.size : Int) == B.size) = decB (Valid B.data.toList (ebs es))) := Lib.hid (by
    by_cases c2 : (r2.size : Int) = B.size
    · rw [beq_iff_eq.2 c2, decB_t (HV.out.2 ⟨c1, c2⟩)]
    · rw [beq_eq_false_iff_ne.2 c2, decB_f fun h => c2 (HV.out.1 h).2])
  clear c1
  refine wp_region_below (by kernel_rfl) (by kernel_rfl) ?_
  repeat (go_big_quiet_step ((first
    | (go_at_call 83; exact After.call ((l1Shape_any _ _ _ _ _ HM.out (XE.out _) HL.out).mono fun _ _ ⟨he, hw⟩ => ⟨he.trans (by rw [HSH.out]), hw⟩))
    | (go_at_call 49; exact After.call (l1Entry_any _ _ _ (by omega) HM.out))
    | (go_at_call 50; exact After.call (l1Exit_any _ _ _ (by omega) HM.out))
    | (go_at_call 84; first | with_reducible exact After.call (F1.out _ (XE.out _)) | with_reducible exact After.call (F2.out _ (XE.out _))))))
  refine wpQuiet_nil ?_
  rintro _ ⟨x, rfl⟩
  clear x0 x1
  go_wp2
  go_ret
  exact ⟨ret_bool HD.out, hb0.trans (x.h.mono hb0.size)⟩

end Go.Proofs.YtpeafheljcjlhaaGreat
