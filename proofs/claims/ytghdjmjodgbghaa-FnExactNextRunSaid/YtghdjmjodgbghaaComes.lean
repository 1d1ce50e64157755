/- Does an edge come to a block from one of some: by the program and by the model. -/
import Derived.Test.YtghdjmjodgbghaaSets
import Derived.Test.YtghdjmjodgbghaaMath
import Derived.Test.YtghdjmjodgbghaaFrom
import Derived.Test.YtghdjmjodgbghaaSpec1
namespace Go.Proofs.Ytghdjmjodgbghaa
open Go.RowKit

/-- edge number i does -/
def HitAt (es : List (ByteArray × ByteArray)) (xs : List UInt8) (c : UInt8) (i : Nat) : Prop := ∃ x ∈ xs, (ebs es)[i]? = some ([x], [c])
theorem hit_iff {es : List (ByteArray × ByteArray)} {xs : List UInt8} {c : UInt8} : EntL (ebs es) xs c ↔ ∃ i, i < es.length ∧ HitAt es xs c i := by
  constructor
  · rintro ⟨x, hx, he⟩
    obtain ⟨i, hi⟩ := List.mem_iff_getElem?.1 he
    have : i < (ebs es).length := (List.getElem?_eq_some_iff.1 hi).1
    exact ⟨i, by simpa [ebs] using this, x, hx, hi⟩
  · rintro ⟨i, _, x, hx, hi⟩
    exact ⟨x, hx, List.mem_iff_getElem?.2 ⟨i, hi⟩⟩
theorem hit_at {es : List (ByteArray × ByteArray)} {xs : List UInt8} {c x y : UInt8} {k : Nat} (hk : k < es.length) (hx : es[k].1.data.toList = [x]) (hy : es[k].2.data.toList = [y]) : HitAt es xs c k ↔ y = c ∧ x ∈ xs := by
  have he : (ebs es)[k]? = some ([x], [y]) := by
    simp only [ebs, List.getElem?_map, List.getElem?_eq_getElem hk, Option.map_some, hx, hy]
  unfold HitAt
  rw [he]
  constructor
  · rintro ⟨z, hz, e⟩
    injection e with e
    injection e with e1 e2
    injection e1 with e1; injection e2 with e2
    exact ⟨e2, e1 ▸ hz⟩
  · rintro ⟨rfl, h⟩
    exact ⟨x, h, rfl⟩

set_option maxRecDepth 100000 in
set_option maxHeartbeats 2000000 in
/-- impl.comesFrom -/
theorem comesFrom_any (B : ByteArray) (A : Option Addr) (cap : Nat) (es : List (ByteArray × ByteArray)) (l : List UInt8) (b : ByteArray) (c : UInt8) (m : Nat) (xs : List UInt8) (w : World) (hE : EdgesIn w w.heap.size A es) (hl : es.length ≤ 100) (hL : Lets l es) (hb : b.data.toList = [c]) (hm : SetAt w m (xs.map encL)) :
    Calls Try.prog 93 #[.agg #[.string B, .slice A es.length cap], .map (some m), .string b] w fun e w' => e = .returned (.bool (decB (EntL (ebs es) xs c))) ∧ Below w.heap.size w w' := by
  have hb1 : Below w.heap.size w (w.alloc (.cells #[.string B, .slice A es.length cap] 29)) := (Below.refl _ _).alloc (Nat.le_refl _) _
  have hmlt := hm.lt
  have HM := Lib.hid hm; have HLE := Lib.hid hL; have HB := Lib.hid hb
  clear hm hL hb
  go_enter Try.func93, Try.ntmps93
  go_wp2_with fail
  generalize hW1 : w.alloc (.cells #[.string B, .slice A es.length cap] 29) = w1 at hb1 ⊢
  clear hW1
  go_loopw [12] (fun i wr => ∃ k : Nat, k ≤ es.length ∧ i = .int .i64 k ∧ (∀ i, i < k → ¬ HitAt es xs c i) ∧ Below w.heap.size w wr) (fun i _ => es.length - (intOf i).toNat)
  case atStart => exact ⟨0, Nat.zero_le _, rfl, fun i hi => absurd hi (by omega), hb1⟩
  case round =>
    obtain ⟨k, hk, rfl, hno, hbw⟩ := hrel
    have HNO := Lib.hid hno
    clear hno
    by_cases hlt : k < es.length
    case neg =>
      have HQ : Hid (decB (EntL (ebs es) xs c) = false) := Lib.hid (decB_f fun h => by
        obtain ⟨i, hi, hh⟩ := hit_iff.1 h
        exact HNO.out i (by omega) hh)
      go_wp2_with fail
      go_ret
      exact ⟨by rw [HQ.out]; rfl, hbw⟩
    obtain ⟨x, y, hx, hy, _, _⟩ := HLE.out es[k] (List.getElem_mem hlt)
    have hit := hit_at (xs := xs) (c := c) hlt hx hy
    obtain ⟨eb, eo, rfl, hlow, h1, h2⟩ := (hE.below hbw) k hlt
    have hba : Below w.heap.size w (wr.alloc (.cells #[.string es[k].1, .string es[k].2] 62)) := hbw.alloc hbw.size _
    have HIT := Lib.hid hit; have HX := Lib.hid (bytes_one hx); have HBA := Lib.hid hba
    have hyc : (es[k].2.toList == b.toList) = decide (y = c) := by
      rw [Lib.toList_data, Lib.toList_data, hy, HB.out]
      by_cases h : y = c <;> simp [h]
    clear hx hit hba hy
    by_cases h : y = c
    · rw [decide_eq_true h] at hyc
      have hlk := ((HM.out.below HBA.out hmlt).lookup (P := Try.prog) (keyL Try.underlying9) (t := 74) (e := 4) Try.underlying74 (by kernel_rfl) x)
      rw [show encL x = .string es[k].1 by rw [HX.out]; rfl] at hlk
      by_cases hxs : x ∈ xs
      · rw [decB_t hxs] at hlk
        have HQ : Hid (decB (EntL (ebs es) xs c) = true) := Lib.hid (decB_t (hit_iff.2 ⟨k, hlt, HIT.out.2 ⟨h, hxs⟩⟩))
        clear h hxs
        go_wp2_with fail
        go_ret
        exact ⟨by rw [HQ.out]; rfl, HBA.out⟩
      · rw [decB_f hxs] at hlk
        have HN : Hid (∀ i, i < k + 1 → ¬ HitAt es xs c i) := Lib.hid fun i hi => by
          by_cases hik : i < k
          · exact HNO.out i hik
          · have : i = k := by omega
            subst this
            exact fun q => hxs (HIT.out.1 q).2
        clear h hxs
        go_wp2_with fail
        go_roundw
        case rel => exact ⟨k + 1, by omega, by go_num, HN.out, HBA.out⟩
        case measure => simp [intOf]; omega
    · rw [decide_eq_false h] at hyc
      have HN : Hid (∀ i, i < k + 1 → ¬ HitAt es xs c i) := Lib.hid fun i hi => by
        by_cases hik : i < k
        · exact HNO.out i hik
        · have : i = k := by omega
          subst this
          exact fun q => h (HIT.out.1 q).1
      clear h
      go_wp2_with fail
      go_roundw
      case rel => exact ⟨k + 1, by omega, by go_num, HN.out, HBA.out⟩
      case measure => simp [intOf]; omega

set_option maxRecDepth 100000 in
set_option maxHeartbeats 2000000 in
/-- spec.l2Entered -/
theorem l2Entered_any (B : ByteArray) (A : Option Addr) (cap : Nat) (es : List (ByteArray × ByteArray)) (l : List UInt8) (s b : ByteArray) (c : UInt8) (w : World) (hE : EdgesIn w w.heap.size A es) (hl : es.length ≤ 100) (hL : Lets l es) (hb : b.data.toList = [c]) (hs : s.size ≤ maxLen) :
    Calls Try.prog 64 #[.agg #[.string B, .slice A es.length cap], .string s, .string b] w fun e w' => e = .returned (.bool (decB (EntL (ebs es) s.data.toList c))) ∧ Below w.heap.size w w' := by
  have hb1 : Below w.heap.size w (w.alloc (.cells #[.string B, .slice A es.length cap] 29)) := (Below.refl _ _).alloc (Nat.le_refl _) _
  have HLE := Lib.hid hL; have HB := Lib.hid hb; have HS := Lib.hid hs
  clear hL hb hs
  go_enter Try.func64, Try.ntmps64
  go_wp2_with fail
  generalize hW1 : w.alloc (.cells #[.string B, .slice A es.length cap] 29) = w1 at hb1 ⊢
  clear hW1
  go_loopw [12] (fun i wr => ∃ k : Nat, k ≤ es.length ∧ i = .int .i64 k ∧ (∀ i, i < k → ¬ HitAt es s.data.toList c i) ∧ Below w.heap.size w wr) (fun i _ => es.length - (intOf i).toNat)
  case atStart => exact ⟨0, Nat.zero_le _, rfl, fun i hi => absurd hi (by omega), hb1⟩
  case round =>
    obtain ⟨k, hk, rfl, hno, hbw⟩ := hrel
    have HNO := Lib.hid hno
    clear hno
    by_cases hlt : k < es.length
    case neg =>
      have HQ : Hid (decB (EntL (ebs es) s.data.toList c) = false) := Lib.hid (decB_f fun h => by
        obtain ⟨i, hi, hh⟩ := hit_iff.1 h
        exact HNO.out i (by omega) hh)
      go_wp2_with fail
      go_ret
      exact ⟨by rw [HQ.out]; rfl, hbw⟩
    obtain ⟨x, y, hx, hy, _, _⟩ := HLE.out es[k] (List.getElem_mem hlt)
    have hit := hit_at (xs := s.data.toList) (c := c) hlt hx hy
    obtain ⟨eb, eo, rfl, hlow, h1, h2⟩ := (hE.below hbw) k hlt
    have hyc : (es[k].2.toList == b.toList) = decide (y = c) := by
      rw [Lib.toList_data, Lib.toList_data, hy, HB.out]
      by_cases h : y = c <;> simp [h]
    have hx1 := bytes_one hx
    rw [hx1] at h1
    have hba : Below w.heap.size w (wr.alloc (.cells #[.string ⟨#[x]⟩, .string es[k].2] 62)) := hbw.alloc hbw.size _
    have HIT := Lib.hid hit; have HBA := Lib.hid hba
    clear hx hit hba hy hx1
    obtain ⟨fi, hfi⟩ : ∃ fi, Lib.indexByte s.data.toList x = fi := ⟨_, rfl⟩
    have hiff : 0 ≤ fi ↔ x ∈ s.data.toList := by rw [← hfi]; exact indexByte_nonneg
    have HFI := Lib.hid hfi; have HIFF := Lib.hid hiff
    clear hfi hiff
    by_cases h : y = c
    · rw [decide_eq_true h] at hyc
      by_cases hxs : 0 ≤ fi
      · have HQ : Hid (decB (EntL (ebs es) s.data.toList c) = true) := Lib.hid (decB_t (hit_iff.2 ⟨k, hlt, HIT.out.2 ⟨h, HIFF.out.1 hxs⟩⟩))
        have hge : fi ≥ 0 := hxs
        clear h
        go_wp2_with (go_at_call 66; refine (find_any s x _ HS.out).mono ?_; rw [HFI.out]; rintro e wI ⟨rfl, rfl⟩)
        go_ret
        exact ⟨by rw [HQ.out]; rfl, HBA.out⟩
      · have HN : Hid (∀ i, i < k + 1 → ¬ HitAt es s.data.toList c i) := Lib.hid fun i hi => by
          by_cases hik : i < k
          · exact HNO.out i hik
          · have : i = k := by omega
            subst this
            exact fun q => hxs (HIFF.out.2 (HIT.out.1 q).2)
        have hge : ¬ fi ≥ 0 := hxs
        clear h
        go_wp2_with (go_at_call 66; refine (find_any s x _ HS.out).mono ?_; rw [HFI.out]; rintro e wI ⟨rfl, rfl⟩)
        go_roundw
        case rel => exact ⟨k + 1, by omega, by go_num, HN.out, HBA.out⟩
        case measure => simp [intOf]; omega
    · rw [decide_eq_false h] at hyc
      have HN : Hid (∀ i, i < k + 1 → ¬ HitAt es s.data.toList c i) := Lib.hid fun i hi => by
        by_cases hik : i < k
        · exact HNO.out i hik
        · have : i = k := by omega
          subst this
          exact fun q => h (HIT.out.1 q).1
      clear h
      go_wp2_with fail
      go_roundw
      case rel => exact ⟨k + 1, by omega, by go_num, HN.out, HBA.out⟩
      case measure => simp [intOf]; omega

end Go.Proofs.Ytghdjmjodgbghaa
