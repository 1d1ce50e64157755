/- Nets by the model: what can be come to. -/
import Derived.Test.YtpeafheljcjlhaaGreatSpec1
namespace Go.Proofs.YtpeafheljcjlhaaGreat
open Go.RowKit

/-- what a search has met so far -/
structure Part (l : List UInt8) (E : Eds) (s : UInt8) (out : List UInt8) : Prop where
  nodup : out.Nodup
  start : s ∈ out
  way : ∀ x ∈ out, Way E s x
  sub : ∀ x ∈ out, x ∈ l

theorem Part.len {l : List UInt8} {E : Eds} {s : UInt8} {out : List UInt8} (h : Part l E s out) : out.length ≤ l.length := nodup_len h.nodup h.sub

theorem Part.add {l : List UInt8} {E : Eds} {s x y : UInt8} {out : List UInt8} (h : Part l E s out) (hx : x ∈ out) (he : ([x], [y]) ∈ E) (hy : y ∉ out) (hl : y ∈ l) : Part l E s (out ++ [y]) := by
  refine ⟨?_, List.mem_append_left _ h.start, fun z hz => ?_, fun z hz => ?_⟩
  · rw [List.nodup_append]
    refine ⟨h.nodup, by simp, fun a ha b hb => ?_⟩
    simp at hb; subst hb; exact fun e => hy (e ▸ ha)
  · rcases List.mem_append.1 hz with hz | hz
    · exact h.way z hz
    · simp at hz; subst hz; exact .step (h.way x hx) he
  · rcases List.mem_append.1 hz with hz | hz
    · exact h.sub z hz
    · simp at hz; subst hz; exact hl

/-- all edges that leave this block have been gone along -/
def DoneAt (E : Eds) (out : List UInt8) (x : UInt8) : Prop := ∀ y, ([x], [y]) ∈ E → y ∈ out

theorem DoneAt.more {E : Eds} {out : List UInt8} {x : UInt8} (h : DoneAt E out x) (ys : List UInt8) : DoneAt E (out ++ ys) x := fun y hy => List.mem_append_left _ (h y hy)

/-- edges from one letter to one -/
def Lets (l : List UInt8) (es : List (ByteArray × ByteArray)) : Prop := ∀ e ∈ es, ∃ x y, e.1.data.toList = [x] ∧ e.2.data.toList = [y] ∧ x ∈ l ∧ y ∈ l

/-- one edge gone along from the block x -/
def fromEdge (x : UInt8) (out : List UInt8) (e : List UInt8 × List UInt8) : List UInt8 := if e.1 = [x] ∧ e.2.headD 0 ∉ out then out ++ e.2 else out
/-- all edges gone along from the block x -/
def fromRow (x : UInt8) (out : List UInt8) (E : Eds) : List UInt8 := E.foldl (fromEdge x) out
/-- the search from the block with index i on -/
def fromLoop (E : Eds) : Nat → Nat → List UInt8 → List UInt8
  | 0, _, out => out
  | n + 1, i, out => match out[i]? with
    | none => out
    | some x => fromLoop E n (i + 1) (fromRow x out E)
/-- the whole search -/
def fromAll (E : Eds) (s : UInt8) : List UInt8 := fromLoop E 9 0 [s]

theorem fromRow_snoc {x : UInt8} {out : List UInt8} {E : Eds} {j : Nat} {e : List UInt8 × List UInt8} (h : E[j]? = some e) : fromRow x out (E.take (j + 1)) = fromEdge x (fromRow x out (E.take j)) e := by
  unfold fromRow
  rw [List.take_add_one, h]; simp

theorem fromLoop_next {E : Eds} {k : Nat} {out : List UInt8} {x : UInt8} (hk : k < 9) (h : out[k]? = some x) : fromLoop E (9 - k) k out = fromLoop E (9 - (k + 1)) (k + 1) (fromRow x out E) := by
  have e : 9 - k = (9 - (k + 1)) + 1 := by omega
  rw [e]; simp [fromLoop, h]
theorem fromLoop_end {E : Eds} {k n : Nat} {out : List UInt8} (h : out.length ≤ k) : fromLoop E n k out = out := by
  cases n with
  | zero => rfl
  | succ n => simp [fromLoop, List.getElem?_eq_none h]

/-- what the search hands back -/
def FromPost (l : List UInt8) (E : Eds) (s : UInt8) (w : World) (e : Ending) (w' : World) : Prop :=
  ∃ o : ByteArray, e = .returned (.string o) ∧ o.data.toList = fromAll E s ∧ Closed E s o.data.toList ∧ (∀ x ∈ o.data.toList, x ∈ l) ∧ Below w.heap.size w w'

theorem string_ext {a b : ByteArray} (h : a.toList = b.toList) : a = b := bytes_ext (by rw [← Lib.toList_data, ← Lib.toList_data, h])
theorem append_data (a b : ByteArray) : (a ++ b).data.toList = a.data.toList ++ b.data.toList := by simp
theorem getElem_data {o : ByteArray} {i : Nat} (h : i < o.size) : o.data.toList[i]? = some o[i] := List.getElem?_eq_getElem (by simpa using h)
theorem extract_one {o : ByteArray} {i : Nat} (h : i < o.size) : (o.extract i (i + 1)).data.toList = [o[i]] := by
  rw [Lib.extract_data, Nat.add_sub_cancel_left]
  have h' : i < o.data.toList.length := by simpa using h
  rw [List.drop_eq_getElem_cons h']; simp; rfl

set_option maxRecDepth 100000 in
set_option maxHeartbeats 2000000 in
/-- spec.l1From, false -/
theorem l1From_false (B b : ByteArray) (A : Option Addr) (cap : Nat) (es : List (ByteArray × ByteArray)) (l : List UInt8) (s : UInt8) (w : World) (hE : EdgesIn w w.heap.size A es) (hl : es.length ≤ maxLen)
    (hL : Lets l es) (hb : b.data.toList = [s]) (hs : s ∈ l) (h8 : l.length ≤ 8) :
    Calls Tryz.prog 84 #[.agg #[.string B, .slice A es.length cap], .string b, .bool false] w (FromPost l (ebs es) s w) := by
  unfold maxLen at hl
  have HS := Lib.hid hb; clear hb
  go_enter Tryz.func84, Tryz.ntmps84
  go_wp2
  have hb0 : Below w.heap.size w (w.alloc (.cells #[.string B, .slice A es.length cap] 31)) := (Below.refl _ _).alloc (Nat.le_refl _) _
  have hc1 : (w.alloc (.cells #[.string B, .slice A es.length cap] 31)).cell? ⟨w.heap.size, 1, none⟩ = some (.slice A es.length cap) := by go_simp
  have hz0 : w.heap.size < (w.alloc (.cells #[.string B, .slice A es.length cap] 31)).heap.size := by simp
  go_loopw [7, 8] (fun v i wr => ∃ (o : ByteArray) (k : Nat), v = .string o ∧ i = .int .i64 k ∧ k ≤ o.size ∧ Part l (ebs es) s o.data.toList ∧ fromLoop (ebs es) (9 - k) k o.data.toList = fromAll (ebs es) s ∧ (∀ (j : Nat) (x : UInt8), j < k → o.data.toList[j]? = some x → DoneAt (ebs es) o.data.toList x) ∧
    Below w.heap.size w wr ∧ wr.cell? ⟨w.heap.size, 1, none⟩ = some (.slice A es.length cap) ∧ w.heap.size < wr.heap.size) (fun _ i _ => l.length - (intOf i).toNat)
  case atStart => exact ⟨b, 0, rfl, rfl, Nat.zero_le _, by rw [HS.out]; exact ⟨by simp, by simp, by simp; exact .refl _, by simp [hs]⟩, by rw [HS.out]; rfl, by intro j x h; omega, hb0, hc1, hz0⟩
  case round =>
    clear hb0 hc1 hz0
    obtain ⟨o, k, rfl, rfl, hk, hp, hf, hd, hbw, hB1, hz⟩ := hrel
    have HF := Lib.hid hf; clear hf
    have ho8 : o.size ≤ 8 := by have := hp.len; simp at this; omega
    have HD := Lib.hid hd; clear hd
    have HP := Lib.hid hp; clear hp
    by_cases hlt : k < o.size
    · go_wp2
      obtain ⟨wo, rfl⟩ : ∃ wo : World, wo = wr := ⟨_, rfl⟩
      go_loopw [7, 23] (fun v i wr => ∃ (p : ByteArray) (j : Nat), v = .string p ∧ i = .int .i64 j ∧ j ≤ es.length ∧ Part l (ebs es) s p.data.toList ∧ p.data.toList = fromRow o[k] o.data.toList ((ebs es).take j) ∧ (∀ (j : Nat) (x : UInt8), j < k → p.data.toList[j]? = some x → DoneAt (ebs es) p.data.toList x) ∧
        (k < p.size ∧ p.data.toList[k]? = some o[k]) ∧ (∀ y, ([o[k]], [y]) ∈ (ebs es).take j → y ∈ p.data.toList) ∧
        Below w.heap.size w wr ∧ wr.cell? ⟨w.heap.size, 1, none⟩ = some (.slice A es.length cap) ∧ w.heap.size < wr.heap.size) (fun _ i _ => es.length - (intOf i).toNat)
      case atStart => exact ⟨o, 0, rfl, rfl, Nat.zero_le _, HP.out, by simp [fromRow], HD.out, ⟨hlt, getElem_data hlt⟩, by simp, hbw, hB1, hz⟩
      case round =>
        clear hbw hB1 hz HD HP ho8
        obtain ⟨p, j, rfl, rfl, hj, hp, hr, hd, ⟨hkp, hpk⟩, hin, hbw, hB1, hz⟩ := hrel
        have HR := Lib.hid hr; clear hr
        have ho8 : p.size ≤ 8 := by have := hp.len; simp at this; omega
        have HD := Lib.hid hd; clear hd
        have HP := Lib.hid hp; clear hp
        have HIN := Lib.hid hin; clear hin
        have hpk' : p[k] = o[k] := by rw [getElem_data hkp] at hpk; exact Option.some.inj hpk
        have HPK := Lib.hid hpk'; clear hpk' hpk
        by_cases hjl : j < es.length
        · obtain ⟨eb, eo, rfl, hlow, h1, h2⟩ := (hE.below hbw) j hjl
          obtain ⟨x, y, hx, hy, hxl, hyl⟩ := hL es[j] (List.getElem_mem hjl)
          have hys : 0 < es[j].2.size := by
            have : es[j].2.data.toList.length = 1 := by rw [hy]; rfl
            simp at this; omega
          have hy0 : es[j].2[0] = y := by
            have h := getElem_data hys
            rw [hy] at h; simpa using h.symm
          have hget : (ebs es)[j]? = some ([x], [y]) := by simp [ebs, hjl, hx, hy]
          have HG := Lib.hid hget; clear hget
          have HY := Lib.hid hy0; clear hy0
          have HX := Lib.hid hx; clear hx
          have HY1 := Lib.hid hy; clear hy
          have hxeq : es[j].1.toList = (p.extract k (k + 1)).toList ↔ x = o[k] := by
            rw [Lib.toList_data, Lib.toList_data, extract_one hkp, HPK.out, HX.out]; simp
          have HX1 := Lib.hid hxeq; clear hxeq
          have hstep : Hid (∀ q : ByteArray, (∃ ys, q.data.toList = p.data.toList ++ ys) → (x = o[k] → y ∈ q.data.toList) → ∀ y, ([o[k]], [y]) ∈ (ebs es).take (j + 1) → y ∈ q.data.toList) := Lib.hid (by
            rintro q ⟨ys, hq⟩ hz' y hy'
            rw [List.take_add_one, HG.out] at hy'
            rcases List.mem_append.1 hy' with h | h
            · rw [hq]; exact List.mem_append_left _ (HIN.out y h)
            · simp at h; obtain ⟨e1, e2⟩ := h; subst e2; exact hz' e1.symm)
          by_cases hc : x = o[k]
          · have q1 : (es[j].1.toList == (p.extract k (k + 1)).toList) = true := by rw [beq_iff_eq]; exact HX1.out.2 hc
            have HC := Lib.hid hc; clear hc
            by_cases hm : y ∈ p.data.toList
            · have hi : ¬ Lib.indexByte p.data.toList es[j].2[0] < 0 := by rw [HY.out]; have := indexByte_nonneg.2 hm; omega
              go_wp2
              go_quiet (fail)
              go_wp2_with (go_at_call 51; refine (find_any _ _ _ (by unfold maxLen; omega)).mono ?_; rintro e w' ⟨rfl, rfl⟩)
              go_roundw
              case rel => exact ⟨p, j + 1, rfl, by go_num, by omega, HP.out, by rw [fromRow_snoc HG.out, ← HR.out]; simp [fromEdge, hm], HD.out, ⟨hkp, by rw [getElem_data hkp, HPK.out]⟩, hstep.out p ⟨[], by simp⟩ (fun _ => hm), below_drewN (hbw.alloc hbw.size _) _, by go_simp, by simp [World.drewN]; omega⟩
              case measure => simp [intOf]; omega
            · have hi : Lib.indexByte p.data.toList es[j].2[0] < 0 := by rw [HY.out]; have := mt indexByte_nonneg.1 hm; omega
              have hsz : es[j].2.size = 1 := by
                have : es[j].2.data.toList.length = 1 := by rw [HY1.out]; rfl
                simpa using this
              have HSZ := Lib.hid hsz; clear hsz
              have hcat : p.size + es[j].2.size ≤ 9223372036854775807 := by have := HSZ.out; omega
              have hap : (p ++ es[j].2).data.toList = p.data.toList ++ [y] := by rw [append_data, HY1.out]
              have HAP := Lib.hid hap; clear hap
              have hmem : ([o[k]], [y]) ∈ ebs es := by have := List.mem_of_getElem? HG.out; rwa [HC.out] at this
              have hok : o[k] ∈ p.data.toList := by rw [← HPK.out]; exact List.mem_of_getElem? (getElem_data hkp)
              have HN : Hid (Part l (ebs es) s (p ++ es[j].2).data.toList) := Lib.hid (by rw [HAP.out]; exact HP.out.add hok hmem hm (by assumption))
              clear hmem hok
              go_wp2
              go_quiet (fail)
              go_wp2_with (go_at_call 51; refine (find_any _ _ _ (by unfold maxLen; omega)).mono ?_; rintro e w' ⟨rfl, rfl⟩)
              go_roundw
              case rel =>
                refine ⟨p ++ es[j].2, j + 1, rfl, by go_num, by omega, HN.out, by rw [fromRow_snoc HG.out, ← HR.out, HAP.out]; simp [fromEdge, hm, HC.out], fun i x hi' hx => ?_, ⟨by simp; omega, ?_⟩, hstep.out _ ⟨_, HAP.out⟩ (fun _ => by rw [HAP.out]; simp), below_drewN (hbw.alloc hbw.size _) _, by go_simp, by simp [World.drewN]; omega⟩
                · rw [HAP.out, List.getElem?_append_left (by simp; omega)] at hx
                  rw [HAP.out]; exact (HD.out i x hi' hx).more _
                · rw [HAP.out, List.getElem?_append_left (by simp; omega), getElem_data hkp, HPK.out]
              case measure => simp [intOf]; omega
          · have q1 : (es[j].1.toList == (p.extract k (k + 1)).toList) = false := by rw [beq_eq_false_iff_ne]; exact fun h => hc (HX1.out.1 h)
            go_wp2
            go_quiet (fail)
            go_wp2
            go_roundw
            case rel => exact ⟨p, j + 1, rfl, by go_num, by omega, HP.out, by rw [fromRow_snoc HG.out, ← HR.out]; simp [fromEdge, hc], HD.out, ⟨hkp, by rw [getElem_data hkp, HPK.out]⟩, hstep.out p ⟨[], by simp⟩ (fun h => absurd h hc), below_drewN (hbw.alloc hbw.size _) _, by go_simp, by simp [World.drewN]; omega⟩
            case measure => simp [intOf]; omega
        · have HDK : Hid (∀ (j : Nat) (x : UInt8), j < k + 1 → p.data.toList[j]? = some x → DoneAt (ebs es) p.data.toList x) := Lib.hid (fun i x hi hx => by
            rcases Nat.lt_or_ge i k with h | h
            · exact HD.out i x h hx
            · obtain rfl : i = k := by omega
              rw [getElem_data hkp] at hx; injection hx with hx; subst hx
              intro y hy
              rw [HPK.out] at hy
              refine HIN.out y ?_
              rw [List.take_of_length_le (by simp [ebs]; omega)]; exact hy)
          go_wp2
          go_roundw
          case rel =>
            refine ⟨p, k + 1, rfl, by go_num, by omega, HP.out, ?_, HDK.out, hbw, hB1, hz⟩
            rw [← HF.out, fromLoop_next (by omega) (getElem_data hlt), HR.out, List.take_of_length_le (by simp [ebs]; omega)]
          case measure => have := HP.out.len; simp at this; simp [intOf]; omega
    · obtain rfl : k = o.size := by omega
      go_wp2
      go_ret
      refine ⟨o, rfl, by rw [← HF.out, fromLoop_end (by simp)], ⟨HP.out.nodup, HP.out.start, HP.out.way, fun x hx y hy => ?_⟩, HP.out.sub, hbw⟩
      obtain ⟨j, hj⟩ := List.mem_iff_getElem?.1 hx
      have : j < o.data.toList.length := (List.getElem?_eq_some_iff.1 hj).1
      exact HD.out j x (by simpa using this) hj y hy

set_option maxRecDepth 100000 in
set_option maxHeartbeats 2000000 in
/-- spec.l1From, true -/
theorem l1From_true (B b : ByteArray) (A : Option Addr) (cap : Nat) (es : List (ByteArray × ByteArray)) (l : List UInt8) (s : UInt8) (w : World) (hE : EdgesIn w w.heap.size A es) (hl : es.length ≤ maxLen)
    (hL : Lets l es) (hb : b.data.toList = [s]) (hs : s ∈ l) (h8 : l.length ≤ 8) :
    Calls Tryz.prog 84 #[.agg #[.string B, .slice A es.length cap], .string b, .bool true] w (FromPost l (flip (ebs es)) s w) := by
  unfold maxLen at hl
  have HS := Lib.hid hb; clear hb
  go_enter Tryz.func84, Tryz.ntmps84
  go_wp2
  have hb0 : Below w.heap.size w (w.alloc (.cells #[.string B, .slice A es.length cap] 31)) := (Below.refl _ _).alloc (Nat.le_refl _) _
  have hc1 : (w.alloc (.cells #[.string B, .slice A es.length cap] 31)).cell? ⟨w.heap.size, 1, none⟩ = some (.slice A es.length cap) := by go_simp
  have hz0 : w.heap.size < (w.alloc (.cells #[.string B, .slice A es.length cap] 31)).heap.size := by simp
  go_loopw [7, 8] (fun v i wr => ∃ (o : ByteArray) (k : Nat), v = .string o ∧ i = .int .i64 k ∧ k ≤ o.size ∧ Part l (flip (ebs es)) s o.data.toList ∧ fromLoop (flip (ebs es)) (9 - k) k o.data.toList = fromAll (flip (ebs es)) s ∧ (∀ (j : Nat) (x : UInt8), j < k → o.data.toList[j]? = some x → DoneAt (flip (ebs es)) o.data.toList x) ∧
    Below w.heap.size w wr ∧ wr.cell? ⟨w.heap.size, 1, none⟩ = some (.slice A es.length cap) ∧ w.heap.size < wr.heap.size) (fun _ i _ => l.length - (intOf i).toNat)
  case atStart => exact ⟨b, 0, rfl, rfl, Nat.zero_le _, by rw [HS.out]; exact ⟨by simp, by simp, by simp; exact .refl _, by simp [hs]⟩, by rw [HS.out]; rfl, by intro j x h; omega, hb0, hc1, hz0⟩
  case round =>
    clear hb0 hc1 hz0
    obtain ⟨o, k, rfl, rfl, hk, hp, hf, hd, hbw, hB1, hz⟩ := hrel
    have HF := Lib.hid hf; clear hf
    have ho8 : o.size ≤ 8 := by have := hp.len; simp at this; omega
    have HD := Lib.hid hd; clear hd
    have HP := Lib.hid hp; clear hp
    by_cases hlt : k < o.size
    · go_wp2
      obtain ⟨wo, rfl⟩ : ∃ wo : World, wo = wr := ⟨_, rfl⟩
      go_loopw [7, 23] (fun v i wr => ∃ (p : ByteArray) (j : Nat), v = .string p ∧ i = .int .i64 j ∧ j ≤ es.length ∧ Part l (flip (ebs es)) s p.data.toList ∧ p.data.toList = fromRow o[k] o.data.toList ((flip (ebs es)).take j) ∧ (∀ (j : Nat) (x : UInt8), j < k → p.data.toList[j]? = some x → DoneAt (flip (ebs es)) p.data.toList x) ∧
        (k < p.size ∧ p.data.toList[k]? = some o[k]) ∧ (∀ y, ([o[k]], [y]) ∈ (flip (ebs es)).take j → y ∈ p.data.toList) ∧
        Below w.heap.size w wr ∧ wr.cell? ⟨w.heap.size, 1, none⟩ = some (.slice A es.length cap) ∧ w.heap.size < wr.heap.size) (fun _ i _ => es.length - (intOf i).toNat)
      case atStart => exact ⟨o, 0, rfl, rfl, Nat.zero_le _, HP.out, by simp [fromRow], HD.out, ⟨hlt, getElem_data hlt⟩, by simp, hbw, hB1, hz⟩
      case round =>
        clear hbw hB1 hz HD HP ho8
        obtain ⟨p, j, rfl, rfl, hj, hp, hr, hd, ⟨hkp, hpk⟩, hin, hbw, hB1, hz⟩ := hrel
        have HR := Lib.hid hr; clear hr
        have ho8 : p.size ≤ 8 := by have := hp.len; simp at this; omega
        have HD := Lib.hid hd; clear hd
        have HP := Lib.hid hp; clear hp
        have HIN := Lib.hid hin; clear hin
        have hpk' : p[k] = o[k] := by rw [getElem_data hkp] at hpk; exact Option.some.inj hpk
        have HPK := Lib.hid hpk'; clear hpk' hpk
        by_cases hjl : j < es.length
        · obtain ⟨eb, eo, rfl, hlow, h1, h2⟩ := (hE.below hbw) j hjl
          obtain ⟨x, y, hx, hy, hxl, hyl⟩ := hL es[j] (List.getElem_mem hjl)
          have hys : 0 < es[j].1.size := by
            have : es[j].1.data.toList.length = 1 := by rw [hx]; rfl
            simp at this; omega
          have hy0 : es[j].1[0] = x := by
            have h := getElem_data hys
            rw [hx] at h; simpa using h.symm
          have hget : (flip (ebs es))[j]? = some ([y], [x]) := by simp [ebs, flip, hjl, hx, hy]
          have HG := Lib.hid hget; clear hget
          have HY := Lib.hid hy0; clear hy0
          have HX := Lib.hid hx; clear hx
          have HY1 := Lib.hid hy; clear hy
          have hxeq : es[j].2.toList = (p.extract k (k + 1)).toList ↔ y = o[k] := by
            rw [Lib.toList_data, Lib.toList_data, extract_one hkp, HPK.out, HY1.out]; simp
          have HX1 := Lib.hid hxeq; clear hxeq
          have hstep : Hid (∀ q : ByteArray, (∃ ys, q.data.toList = p.data.toList ++ ys) → (y = o[k] → x ∈ q.data.toList) → ∀ y, ([o[k]], [y]) ∈ (flip (ebs es)).take (j + 1) → y ∈ q.data.toList) := Lib.hid (by
            rintro q ⟨ys, hq⟩ hz' y hy'
            rw [List.take_add_one, HG.out] at hy'
            rcases List.mem_append.1 hy' with h | h
            · rw [hq]; exact List.mem_append_left _ (HIN.out y h)
            · simp at h; obtain ⟨e1, e2⟩ := h; subst e2; exact hz' e1.symm)
          by_cases hc : y = o[k]
          · have q1 : (es[j].2.toList == (p.extract k (k + 1)).toList) = true := by rw [beq_iff_eq]; exact HX1.out.2 hc
            have HC := Lib.hid hc; clear hc
            by_cases hm : x ∈ p.data.toList
            · have hi : ¬ Lib.indexByte p.data.toList es[j].1[0] < 0 := by rw [HY.out]; have := indexByte_nonneg.2 hm; omega
              go_wp2
              go_quiet (fail)
              go_wp2_with (go_at_call 51; refine (find_any _ _ _ (by unfold maxLen; omega)).mono ?_; rintro e w' ⟨rfl, rfl⟩)
              go_roundw
              case rel => exact ⟨p, j + 1, rfl, by go_num, by omega, HP.out, by rw [fromRow_snoc HG.out, ← HR.out]; simp [fromEdge, hm], HD.out, ⟨hkp, by rw [getElem_data hkp, HPK.out]⟩, hstep.out p ⟨[], by simp⟩ (fun _ => hm), below_drewN (hbw.alloc hbw.size _) _, by go_simp, by simp [World.drewN]; omega⟩
              case measure => simp [intOf]; omega
            · have hi : Lib.indexByte p.data.toList es[j].1[0] < 0 := by rw [HY.out]; have := mt indexByte_nonneg.1 hm; omega
              have hsz : es[j].1.size = 1 := by
                have : es[j].1.data.toList.length = 1 := by rw [HX.out]; rfl
                simpa using this
              have HSZ := Lib.hid hsz; clear hsz
              have hcat : p.size + es[j].1.size ≤ 9223372036854775807 := by have := HSZ.out; omega
              have hap : (p ++ es[j].1).data.toList = p.data.toList ++ [x] := by rw [append_data, HX.out]
              have HAP := Lib.hid hap; clear hap
              have hmem : ([o[k]], [x]) ∈ flip (ebs es) := by have := List.mem_of_getElem? HG.out; rwa [HC.out] at this
              have hok : o[k] ∈ p.data.toList := by rw [← HPK.out]; exact List.mem_of_getElem? (getElem_data hkp)
              have HN : Hid (Part l (flip (ebs es)) s (p ++ es[j].1).data.toList) := Lib.hid (by rw [HAP.out]; exact HP.out.add hok hmem hm (by assumption))
              clear hmem hok
              go_wp2
              go_quiet (fail)
              go_wp2_with (go_at_call 51; refine (find_any _ _ _ (by unfold maxLen; omega)).mono ?_; rintro e w' ⟨rfl, rfl⟩)
              go_roundw
              case rel =>
                refine ⟨p ++ es[j].1, j + 1, rfl, by go_num, by omega, HN.out, by rw [fromRow_snoc HG.out, ← HR.out, HAP.out]; simp [fromEdge, hm, HC.out], fun i x hi' hx => ?_, ⟨by simp; omega, ?_⟩, hstep.out _ ⟨_, HAP.out⟩ (fun _ => by rw [HAP.out]; simp), below_drewN (hbw.alloc hbw.size _) _, by go_simp, by simp [World.drewN]; omega⟩
                · rw [HAP.out, List.getElem?_append_left (by simp; omega)] at hx
                  rw [HAP.out]; exact (HD.out i x hi' hx).more _
                · rw [HAP.out, List.getElem?_append_left (by simp; omega), getElem_data hkp, HPK.out]
              case measure => simp [intOf]; omega
          · have q1 : (es[j].2.toList == (p.extract k (k + 1)).toList) = false := by rw [beq_eq_false_iff_ne]; exact fun h => hc (HX1.out.1 h)
            go_wp2
            go_quiet (fail)
            go_wp2
            go_roundw
            case rel => exact ⟨p, j + 1, rfl, by go_num, by omega, HP.out, by rw [fromRow_snoc HG.out, ← HR.out]; simp [fromEdge, hc], HD.out, ⟨hkp, by rw [getElem_data hkp, HPK.out]⟩, hstep.out p ⟨[], by simp⟩ (fun h => absurd h hc), below_drewN (hbw.alloc hbw.size _) _, by go_simp, by simp [World.drewN]; omega⟩
            case measure => simp [intOf]; omega
        · have HDK : Hid (∀ (j : Nat) (x : UInt8), j < k + 1 → p.data.toList[j]? = some x → DoneAt (flip (ebs es)) p.data.toList x) := Lib.hid (fun i x hi hx => by
            rcases Nat.lt_or_ge i k with h | h
            · exact HD.out i x h hx
            · obtain rfl : i = k := by omega
              rw [getElem_data hkp] at hx; injection hx with hx; subst hx
              intro y hy
              rw [HPK.out] at hy
              refine HIN.out y ?_
              rw [List.take_of_length_le (by simp [ebs, flip]; omega)]; exact hy)
          go_wp2
          go_roundw
          case rel =>
            refine ⟨p, k + 1, rfl, by go_num, by omega, HP.out, ?_, HDK.out, hbw, hB1, hz⟩
            rw [← HF.out, fromLoop_next (by omega) (getElem_data hlt), HR.out, List.take_of_length_le (by simp [ebs, flip]; omega)]
          case measure => have := HP.out.len; simp at this; simp [intOf]; omega
    · obtain rfl : k = o.size := by omega
      go_wp2
      go_ret
      refine ⟨o, rfl, by rw [← HF.out, fromLoop_end (by simp)], ⟨HP.out.nodup, HP.out.start, HP.out.way, fun x hx y hy => ?_⟩, HP.out.sub, hbw⟩
      obtain ⟨j, hj⟩ := List.mem_iff_getElem?.1 hx
      have : j < o.data.toList.length := (List.getElem?_eq_some_iff.1 hj).1
      exact HD.out j x (by simpa using this) hj y hy

end Go.Proofs.YtpeafheljcjlhaaGreat
