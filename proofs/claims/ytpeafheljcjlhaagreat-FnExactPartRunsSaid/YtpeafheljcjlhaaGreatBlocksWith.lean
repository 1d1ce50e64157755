/- Blocks whose edges are kept: impl.blocksWith, for whatever function values. -/
import Derived.Test.YtpeafheljcjlhaaGreatKept
namespace Go.Proofs.YtpeafheljcjlhaaGreat
open Go.RowKit

set_option maxRecDepth 100000 in
set_option maxHeartbeats 4000000 in
/-- impl.blocksWith -/
theorem blocksWith_any (B : ByteArray) (A : Option Addr) (cap : Nat) (es : List (ByteArray × ByteArray)) (f1 f2 : FuncId) (caps : Array Value) (E : UInt8 → ByteArray) (p : UInt8 → Bool) (w : World) (hs : B.size ≤ maxLen) (hE : EdgesIn w w.heap.size A es) (hl : es.length ≤ 1099511627776)
    (he1 : ∀ args w, (callFunc f1 args).run Tryz.prog w = .ok (.enter f1 args) w) (he2 : ∀ args w, (callFunc f2 args).run Tryz.prog w = .ok (.enter f2 args) w)
    (hk1 : Valid B.data.toList (ebs es) → ∀ (c : UInt8) (W : World), c ∈ B.data.toList → Below w.heap.size w W → Calls Tryz.prog f1 (#[.agg #[.string B, .slice A es.length cap], .string ⟨#[c]⟩] ++ #[]) W fun e W' => e = .returned (.tuple #[.string (E c), .bool true]) ∧ Below W.heap.size W W')
    (hk2 : Valid B.data.toList (ebs es) → ∀ (c : UInt8) (W : World), c ∈ B.data.toList → Below w.heap.size w W → Calls Tryz.prog f2 (#[.string (E c)] ++ caps) W fun e W' => e = .returned (.bool (p c)) ∧ Below W.heap.size W W') :
    Calls Tryz.prog 123 #[.agg #[.string B, .slice A es.length cap], .func (.func f1) #[] #[], .func (.func f2) #[] caps] w (TextPost (textV (Valid B.data.toList (ebs es)) (B.data.toList.filter p)) w) := by
  have hl2 : es.length ≤ maxLen := by unfold maxLen; omega
  have HL2 := Lib.hid hl2; have HM := Lib.hid hs; have HK1 := Lib.hid hk1; have HK2 := Lib.hid hk2
  clear hl hl2 hs hk1 hk2
  have hb1 : Below w.heap.size w (w.alloc (.cells #[.string B, .slice A es.length cap] 31)) := (Below.refl _ _).alloc (Nat.le_refl _) _
  have t1 := Two.made w B A es.length cap 31
  have hz1 : (w.alloc (.cells #[.string B, .slice A es.length cap] 31)).heap.size = w.heap.size + 1 := by simp
  by_cases hv : Valid B.data.toList (ebs es)
  case neg =>
    have HD : Hid (decB (Valid B.data.toList (ebs es)) = false) := Lib.hid (decB_f hv)
    have HN : Hid (textV (Valid B.data.toList (ebs es)) (B.data.toList.filter p) = (⟨#[]⟩, false)) := Lib.hid (textV_no hv)
    clear hv
    go_enter Tryz.func123, Tryz.ntmps123
    go_wp2_with fail
    refine (valid_any B A cap es _ HM.out ((hE.below hb1).more hb1.size) HL2.out).mono ?_
    rw [HD.out]
    rintro e w2 ⟨rfl, hb2⟩
    have hb2' := hb1.trans (hb2.mono hb1.size)
    clear hb2
    go_wp2_with fail
    go_ret2
    exact ⟨by rw [HN.out]; rfl, hb2'⟩
  have HD : Hid (decB (Valid B.data.toList (ebs es)) = true) := Lib.hid (decB_t hv)
  have HN : Hid (textV (Valid B.data.toList (ebs es)) (B.data.toList.filter p) = (⟨(B.data.toList.filter p).toArray⟩, true)) := Lib.hid (textV_yes hv)
  have hlen : B.data.toList.length = B.size := by simp
  have h8 : B.size ≤ 8 := (valid_sizes hv).1
  have K1 : Hid (∀ (c : UInt8) (W : World), c ∈ B.data.toList → Below w.heap.size w W → Calls Tryz.prog f1 #[.agg #[.string B, .slice A es.length cap], .string ⟨#[c]⟩] W fun e W' => e = .returned (.tuple #[.string (E c), .bool true]) ∧ Below W.heap.size W W') := Lib.hid (HK1.out hv)
  have K2 := Lib.hid (HK2.out hv)
  have HLEN := Lib.hid hlen
  clear hv HK1 HK2 hlen
  go_enter Tryz.func123, Tryz.ntmps123
  go_wp2_with fail
  refine (valid_any B A cap es _ HM.out ((hE.below hb1).more hb1.size) HL2.out).mono ?_
  rw [HD.out]
  rintro e w2 ⟨rfl, hb2⟩
  have t2 := t1.below hb2 (by omega)
  have hz2 : w.heap.size + 1 ≤ w2.heap.size := by have := hb2.size; omega
  have hb2' := hb1.trans (hb2.mono hb1.size)
  have hd0 := t2.1; have hd1 := t2.2
  clear hb2 t1 hb1 hz1
  go_wp2_with fail
  clear hd0 hd1
  go_loopw [8, 19] (fun a c wr => ∃ (k : Nat) (s : ByteArray), k ≤ B.size ∧ c = .int .i64 k ∧ a = .string s ∧ s.data.toList = kept p B.data.toList k ∧ Below w2.heap.size w2 wr) (fun _ c _ => B.size - (intOf c).toNat)
  case atStart => exact ⟨0, ⟨#[]⟩, Nat.zero_le _, rfl, rfl, rfl, Below.refl _ _⟩
  case round =>
    obtain ⟨k, s, hk, rfl, rfl, hsv, hb⟩ := hrel
    have HSV := Lib.hid hsv
    have tr := t2.below hb (by omega)
    have hzr := hb.size
    have hd0 := tr.1; have hd1 := tr.2
    have HB := Lib.hid hb
    have hkl := kept_length p B.data.toList k
    clear hsv tr hb
    by_cases hlt : k < B.size
    case neg =>
      have hkn : k = B.size := by omega
      have HS : Hid (s = ⟨(B.data.toList.filter p).toArray⟩) := Lib.hid (str_ext (by rw [HSV.out, kept_all p (by rw [HLEN.out]; omega)]))
      go_wp2_with fail
      go_ret2
      exact ⟨by rw [HN.out, HS.out]; rfl, hb2'.trans (HB.out.mono (by omega))⟩
    obtain ⟨c, hc⟩ : ∃ c, B.data.toList.getD k 0 = c := ⟨_, rfl⟩
    have hkey := bytes_one (letter_at hlt)
    rw [hc] at hkey
    have HKEY := Lib.hid hkey
    have HC := Lib.hid hc
    have hmem : c ∈ B.data.toList := by
      rw [← hc]
      have : k < B.data.toList.length := by rw [HLEN.out]; exact hlt
      rw [List.getD_eq_getElem?_getD, List.getElem?_eq_getElem this]
      exact List.getElem_mem this
    have hbw := hb2'.trans (HB.out.mono (by omega : w.heap.size ≤ w2.heap.size))
    have HMEM := Lib.hid hmem; have HBW := Lib.hid hbw
    have hk1 := K1.out c wr hmem hbw
    rw [← hkey] at hk1
    have HK1 := Lib.hid hk1
    have hss : s.size ≤ 8 := by rw [str_size HSV.out]; have := HLEN.out; omega
    have hsz : ¬ 9223372036854775807 < s.size + (B.extract k (k + 1)).size := by
      rw [hkey]
      have : (⟨#[c]⟩ : ByteArray).size = 1 := rfl
      omega
    clear hkey hc hmem hbw hk1 hkl hss
    go_wp2_with fail
    refine HK1.out.mono ?_
    rintro e w3 ⟨rfl, hb3⟩
    have hbw3 := HBW.out.trans (hb3.mono HBW.out.size)
    have HB3 := Lib.hid (HB.out.trans (hb3.mono (by omega)))
    have hk2 := Lib.hid (K2.out c w3 HMEM.out hbw3)
    clear hb3 hd0 hd1 hbw3
    go_wp2_with fail
    refine hk2.out.mono ?_
    rintro e w4 ⟨rfl, hb4⟩
    have HB4 := Lib.hid (HB3.out.trans (hb4.mono HB3.out.size))
    clear hb4 hk2
    have hkl : k < B.data.toList.length := by rw [HLEN.out]; exact hlt
    cases hp : p c with
    | false =>
      have HP : Hid (kept p B.data.toList (k + 1) = kept p B.data.toList k) := Lib.hid (kept_no hkl (by rw [HC.out]; exact hp))
      clear hkl hp
      go_wp2_with fail
      go_roundw
      case rel => exact ⟨k + 1, s, by omega, by go_num, rfl, by rw [HP.out]; exact HSV.out, HB4.out⟩
      case measure => simp [intOf]; omega
    | true =>
      have HP : Hid (kept p B.data.toList (k + 1) = kept p B.data.toList k ++ [c]) := Lib.hid (by have := kept_yes hkl (p := p) (by rw [HC.out]; exact hp); rw [this, HC.out])
      clear hkl hp
      go_wp2_with fail
      go_roundw
      case rel => exact ⟨k + 1, _, by omega, by go_num, rfl, by rw [HP.out, HKEY.out]; exact str_snoc HSV.out, HB4.out⟩
      case measure => simp [intOf]; omega

end Go.Proofs.YtpeafheljcjlhaaGreat
