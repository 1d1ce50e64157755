/- Edges that lead back, by the model. -/
import Derived.Test.YtpeafheljcjlhaaGreatOrderV
import Derived.Test.YtpeafheljcjlhaaGreatNameS
import Derived.Deep.RegionHeld3
import Derived.BigQuiet
import Derived.Deep.QuietTactic
namespace Go.Proofs.YtpeafheljcjlhaaGreat
open Go.RowKit

/-- an edge leads back in an order -/
def backO (o : List UInt8) (E : Eds) (i : Nat) : Bool := match E[i]? with
  | some ([x], [y]) => decide (Lib.indexByte o y ≤ Lib.indexByte o x)
  | _ => false
theorem backO_at {o : List UInt8} {E : Eds} {i : Nat} {x y : UInt8} (h : E[i]? = some ([x], [y])) : backO o E i = decide (Lib.indexByte o y ≤ Lib.indexByte o x) := by
  unfold backO; rw [h]
/-- an edge of a net leads back -/
def backP (B : ByteArray) (es : List (ByteArray × ByteArray)) : Nat → Bool := backO (orderE B.data.toList (ebs es)) (ebs es)

set_option maxRecDepth 100000 in
set_option maxHeartbeats 1000000 in
/-- spec.l3IsBack -/
theorem l3IsBack_any (o : ByteArray) (x y : UInt8) (w : World) (ho : o.size ≤ maxLen) :
    Calls Tryz.prog 86 #[.string o, .agg #[.string ⟨#[x]⟩, .string ⟨#[y]⟩]] w fun e w' => e = .returned (.bool (decide (Lib.indexByte o.data.toList y ≤ Lib.indexByte o.data.toList x))) ∧ Below w.heap.size w w' := by
  have hs : (⟨#[x]⟩ : ByteArray).size = 1 := rfl
  have hs2 : (⟨#[y]⟩ : ByteArray).size = 1 := rfl
  go_enter Tryz.func86, Tryz.ntmps86
  go_wp2_with fail
  go_quiet ((go_at_call 51; exact Calls.quiet_of_same ((find_any _ _ _ ho).mono fun _ _ ⟨h, h'⟩ => ⟨h, h'.symm⟩)))
  go_wp2_with fail
  go_ret
  exact ⟨rfl, below_drewN ((Below.refl _ _).alloc (Nat.le_refl _) _) _⟩

set_option maxRecDepth 100000 in
set_option maxHeartbeats 2000000 in
/-- spec.l3Back -/
theorem l3Back_any (B : ByteArray) (A : Option Addr) (cap : Nat) (es : List (ByteArray × ByteArray)) (w : World) (hE : EdgesIn w w.heap.size A es) (hF : Facts B es) (hBm : B.size ≤ maxLen) :
    Calls Tryz.prog 46 #[.agg #[.string B, .slice A es.length cap]] w fun e w' => e = .returned (.string ⟨(names (backP B es) es.length).toArray⟩) ∧ Below w.heap.size w w' := by
  obtain ⟨o, ho⟩ : ∃ o : ByteArray, (⟨(orderE B.data.toList (ebs es)).toArray⟩ : ByteArray) = o := ⟨_, rfl⟩
  have hod : o.data.toList = orderE B.data.toList (ebs es) := by rw [← ho]
  have hol : o.size ≤ maxLen := by
    have h1 : o.size = (orderE B.data.toList (ebs es)).length := by rw [← hod]; simp
    have := orderE_len hF.into hF.ent hF.small
    unfold maxLen; omega
  have FO : Hid (∀ W : World, EdgesIn W W.heap.size A es → Calls Tryz.prog 85 #[.agg #[.string B, .slice A es.length cap]] W fun e w' => e = .returned (.string o) ∧ Below W.heap.size W w') := Lib.hid fun W h => by
    rw [← ho]; exact l3Order_any B A cap es W h hF hBm
  have h16 := hF.few
  have HLE := Lib.hid hF.lets; have HOD := Lib.hid hod; have HOL := Lib.hid hol
  have hb1 : Below w.heap.size w (w.alloc (.cells #[.string B, .slice A es.length cap] 31)) := (Below.refl _ _).alloc (Nat.le_refl _) _
  have t1 := Two.made w B A es.length cap 31
  have hz1 : (w.alloc (.cells #[.string B, .slice A es.length cap] 31)).heap.size = w.heap.size + 1 := by simp
  clear ho hod hol hF hBm
  go_enter Tryz.func46, Tryz.ntmps46
  go_wp2_with fail
  refine (FO.out _ ((hE.below hb1).more hb1.size)).mono ?_
  rintro e w2 ⟨rfl, hb2⟩
  have t2 := t1.below hb2 (by omega)
  have hb2' := hb1.trans (hb2.mono hb1.size)
  have hd0 := t2.1; have hd1 := t2.2
  clear hb2 t1 hb1 hz1 FO
  go_wp2_with fail
  clear hd0 hd1
  go_loopw [3, 12] (fun a c wr => ∃ (k : Nat) (s : ByteArray), k ≤ es.length ∧ c = .int .i64 k ∧ a = .string s ∧ s.data.toList = names (backP B es) k ∧ Below w.heap.size w wr) (fun _ c _ => es.length - (intOf c).toNat)
  case atStart => exact ⟨0, ⟨#[]⟩, Nat.zero_le _, rfl, rfl, rfl, hb2'⟩
  case round =>
    obtain ⟨k, s, hk, rfl, rfl, hsv, hb⟩ := hrel
    have HSV := Lib.hid hsv
    have hss : s.size ≤ k := by rw [str_size hsv]; exact names_length _ _
    clear hsv
    by_cases hlt : k < es.length
    case neg =>
      have hkn : k = es.length := by omega
      have HS : Hid (s = ⟨(names (backP B es) es.length).toArray⟩) := Lib.hid (str_ext (by rw [HSV.out, hkn]))
      go_wp2_with fail
      go_ret
      exact ⟨by rw [HS.out]; rfl, hb⟩
    obtain ⟨x, y, he, h1, h2, hxl, hyl⟩ := edge_letters HLE.out hlt
    obtain ⟨eb, eo, rfl, hlow, q1, q2⟩ := (hE.below hb) k hlt
    rw [h1] at q1
    rw [h2] at q2
    have hsz : ¬ 9223372036854775807 < s.size + (⟨#[nameOf k]⟩ : ByteArray).size := by
      have : (⟨#[nameOf k]⟩ : ByteArray).size = 1 := rfl
      omega
    have hbn : Below w.heap.size w (wr.alloc (.cells #[.string ⟨#[x]⟩, .string ⟨#[y]⟩] 70)) := hb.alloc hb.size _
    have HBN := Lib.hid hbn
    obtain ⟨v, hv⟩ : ∃ v, decide (Lib.indexByte o.data.toList y ≤ Lib.indexByte o.data.toList x) = v := ⟨_, rfl⟩
    have HP : Hid (backP B es k = v) := Lib.hid (by rw [← hv, HOD.out]; exact backO_at he)
    have HIS : Hid (∀ W : World, Calls Tryz.prog 86 #[.string o, .agg #[.string ⟨#[x]⟩, .string ⟨#[y]⟩]] W fun e w' => e = .returned (.bool v) ∧ Below W.heap.size W w') := Lib.hid fun W => by
      rw [← hv]; exact l3IsBack_any o x y W HOL.out
    clear he h1 h2 hbn hv hss
    cases v with
    | false =>
      have HN : Hid (names (backP B es) (k + 1) = names (backP B es) k) := Lib.hid (names_no HP.out)
      go_wp2_with (go_at_call 86; refine (HIS.out _).mono ?_; rintro e w3 ⟨rfl, hb3⟩)
      have HB3 := Lib.hid (HBN.out.trans (hb3.mono HBN.out.size))
      clear hb3
      go_roundw
      case rel => exact ⟨k + 1, s, by omega, by go_num, rfl, by rw [HN.out]; exact HSV.out, HB3.out⟩
      case measure => simp [intOf]; omega
    | true =>
      have HN : Hid (names (backP B es) (k + 1) = names (backP B es) k ++ [nameOf k]) := Lib.hid (names_yes HP.out)
      go_wp2_with (first
        | (go_at_call 86; refine (HIS.out _).mono ?_; rintro e w3 ⟨rfl, hb3⟩)
        | (go_at_call 52; refine (l1Name_any k (by omega) _).mono ?_; rintro e w4 ⟨rfl, hb4⟩))
      have HB4 := Lib.hid ((HBN.out.trans (hb3.mono HBN.out.size)).trans (hb4.mono (by have := HBN.out.size; have := hb3.size; omega)))
      clear hb3 hb4
      go_roundw
      case rel => exact ⟨k + 1, _, by omega, by go_num, rfl, by rw [HN.out]; exact str_snoc HSV.out, HB4.out⟩
      case measure => simp [intOf]; omega

/-- the edges that lead back, of a net that is one -/
noncomputable def backV (B : ByteArray) (es : List (ByteArray × ByteArray)) : ByteArray × Bool := textV (Valid B.data.toList (ebs es)) (names (backP B es) es.length)

end Go.Proofs.YtpeafheljcjlhaaGreat
