/- Blocks that several edges come to: by the model and by the program. -/
import Derived.Test.YtcfcmlbbnpfejabBlocksWith
import Derived.Test.YtcfcmlbbnpfejabInI
import Derived.Deep.RegionHeld3
namespace Go.Proofs.Ytcfcmlbbnpfejab
open Go.RowKit

/-- several edges come to a block -/
def mergesP (es : List (ByteArray × ByteArray)) (c : UInt8) : Bool := decide (1 < (names (intoB es ⟨#[c]⟩) es.length).length)
noncomputable def mergesV (B : ByteArray) (es : List (ByteArray × ByteArray)) : ByteArray × Bool := textV (Valid B.data.toList (ebs es)) (B.data.toList.filter (mergesP es))

set_option maxRecDepth 100000 in
/-- impl.MergesOf$1 -/
theorem mergesKeep_any (E : ByteArray) (w : World) (_ : E.size ≤ maxLen) :
    Calls Try.prog 52 (#[.string E] ++ #[]) w fun e w' => e = .returned (.bool (decide (1 < E.size))) ∧ Below w.heap.size w w' := by
  go_enter Try.func52, Try.ntmps52
  go_wp2_with fail
  go_ret
  exact ⟨ret_bool (by simp; omega), Below.refl _ _⟩

set_option maxRecDepth 100000 in
set_option maxHeartbeats 1000000 in
/-- impl.MergesOf -/
theorem implMergesOf_any (B : ByteArray) (A : Option Addr) (cap : Nat) (es : List (ByteArray × ByteArray)) (w : World) (hs : B.size ≤ maxLen) (hE : EdgesIn w w.heap.size A es) (hl : es.length ≤ 1099511627776) (hS : ∀ e ∈ es, e.1.size ≤ 1099511627776 ∧ e.2.size ≤ 1099511627776) :
    Calls Try.prog 22 #[.agg #[.string B, .slice A es.length cap]] w (TextPost (mergesV B es) w) := by
  have HL := Lib.hid hl; have HM := Lib.hid hs; have HS := Lib.hid hS
  clear hl hs hS
  have hb1 : Below w.heap.size w (w.alloc (.cells #[.string B, .slice A es.length cap] 30)) := (Below.refl _ _).alloc (Nat.le_refl _) _
  go_enter Try.func22, Try.ntmps22
  go_wp2_with fail
  generalize hW1 : w.alloc (.cells #[.string B, .slice A es.length cap] 30) = w1 at hb1 ⊢
  clear hW1
  refine (blocksWith_any B A cap es 44 52 #[] (fun c => ⟨(names (intoB es ⟨#[c]⟩) es.length).toArray⟩) (mergesP es) w1 HM.out ((hE.below hb1).more hb1.size) HL.out
    (enters_of Try.func44 (by kernel_rfl) rfl) (enters_of Try.func52 (by kernel_rfl) rfl) (fun hv c W hc hb => ?_) (fun hv c W _ _ => ?_)).mono ?_
  · refine (implInOf_any B A cap es ⟨#[c]⟩ W HM.out (((hE.below hb1).below (hb.mono hb1.size)).more (Nat.le_trans hb1.size hb.size)) HL.out HS.out).mono ?_
    rintro e W' ⟨he, hb'⟩
    refine ⟨?_, hb'⟩
    rw [he]
    have : intoV B es ⟨#[c]⟩ = (⟨(names (intoB es ⟨#[c]⟩) es.length).toArray⟩, true) := textV_yes ⟨hv, indexByte_nonneg.2 hc⟩
    rw [this]
  · have h16 : es.length ≤ 16 := (valid_sizes hv).2
    have hn := names_length (intoB es ⟨#[c]⟩) es.length
    have hsz : (⟨(names (intoB es ⟨#[c]⟩) es.length).toArray⟩ : ByteArray).size = (names (intoB es ⟨#[c]⟩) es.length).length := size_mk _
    refine (mergesKeep_any _ W (by rw [hsz]; unfold maxLen; omega)).mono ?_
    rintro e W' ⟨he, hb'⟩
    exact ⟨by rw [he, hsz]; rfl, hb'⟩
  rintro e w2 ⟨rfl, hb2⟩
  obtain ⟨q, hq⟩ : ∃ q, textV (Valid B.data.toList (ebs es)) (B.data.toList.filter (mergesP es)) = q := ⟨_, rfl⟩
  have HQ : Hid (mergesV B es = q) := Lib.hid hq
  rw [hq]
  clear hq
  go_wp2_with fail
  go_ret2
  exact ⟨by rw [HQ.out]; rfl, hb1.trans (hb2.mono hb1.size)⟩

set_option maxRecDepth 100000 in
set_option maxHeartbeats 4000000 in
/-- spec.MergesOf -/
theorem specMergesOf_any (B : ByteArray) (A : Option Addr) (cap : Nat) (es : List (ByteArray × ByteArray)) (w : World) (hs : B.size ≤ maxLen) (hE : EdgesIn w w.heap.size A es) (hl : es.length ≤ 1099511627776) (_ : ∀ e ∈ es, e.1.size ≤ 1099511627776 ∧ e.2.size ≤ 1099511627776) :
    Calls Try.prog 21 #[.agg #[.string B, .slice A es.length cap]] w (TextPost (mergesV B es) w) := by
  have hl2 : es.length ≤ maxLen := by unfold maxLen; omega
  have HL2 := Lib.hid hl2; have HM := Lib.hid hs
  clear hl hl2 hs
  have hb1 : Below w.heap.size w (w.alloc (.cells #[.string B, .slice A es.length cap] 30)) := (Below.refl _ _).alloc (Nat.le_refl _) _
  have t1 := Two.made w B A es.length cap 30
  have hz1 : (w.alloc (.cells #[.string B, .slice A es.length cap] 30)).heap.size = w.heap.size + 1 := by simp
  by_cases hv : Valid B.data.toList (ebs es)
  case neg =>
    have HD : Hid (decB (Valid B.data.toList (ebs es)) = false) := Lib.hid (decB_f hv)
    have HN : Hid (mergesV B es = (⟨#[]⟩, false)) := Lib.hid (textV_no hv)
    clear hv
    go_enter Try.func21, Try.ntmps21
    go_wp2_with fail
    refine (specValid_any B A cap es _ HM.out ((hE.below hb1).more hb1.size) HL2.out).mono ?_
    rw [HD.out]
    rintro e w2 ⟨rfl, hb2⟩
    have hb2' := hb1.trans (hb2.mono hb1.size)
    clear hb2
    go_wp2_with fail
    go_ret2
    exact ⟨by rw [HN.out]; rfl, hb2'⟩
  have HD : Hid (decB (Valid B.data.toList (ebs es)) = true) := Lib.hid (decB_t hv)
  have HN : Hid (mergesV B es = (⟨(B.data.toList.filter (mergesP es)).toArray⟩, true)) := Lib.hid (textV_yes hv)
  have HLEN : Hid (B.data.toList.length = B.size) := Lib.hid (by simp)
  have h8 : B.size ≤ 8 := (valid_sizes hv).1
  have h16 : es.length ≤ 100 := by have := (valid_sizes hv).2; omega
  clear hv
  go_enter Try.func21, Try.ntmps21
  go_wp2_with fail
  refine (specValid_any B A cap es _ HM.out ((hE.below hb1).more hb1.size) HL2.out).mono ?_
  rw [HD.out]
  rintro e w2 ⟨rfl, hb2⟩
  have t2 := t1.below hb2 (by omega)
  have hz2 : w.heap.size + 1 ≤ w2.heap.size := by have := hb2.size; omega
  have hb2' := hb1.trans (hb2.mono hb1.size)
  have hd0 := t2.1; have hd1 := t2.2
  clear hb2 t1 hb1 hz1
  go_wp2_with fail
  clear hd0 hd1
  go_loopw [4, 12] (fun a c wr => ∃ (k : Nat) (s : ByteArray), k ≤ B.size ∧ c = .int .i64 k ∧ a = .string s ∧ s.data.toList = kept (mergesP es) B.data.toList k ∧ Below w2.heap.size w2 wr) (fun _ c _ => B.size - (intOf c).toNat)
  case atStart => exact ⟨0, ⟨#[]⟩, Nat.zero_le _, rfl, rfl, rfl, Below.refl _ _⟩
  case round =>
    obtain ⟨k, s, hk, rfl, rfl, hsv, hb⟩ := hrel
    have HSV := Lib.hid hsv
    have tr := t2.below hb (by omega)
    have hzr := hb.size
    have hd0 := tr.1; have hd1 := tr.2
    have HB := Lib.hid hb
    have hkl := kept_length (mergesP es) B.data.toList k
    clear hsv hb
    by_cases hlt : k < B.size
    case neg =>
      have hkn : k = B.size := by omega
      have HS : Hid (s = ⟨(B.data.toList.filter (mergesP es)).toArray⟩) := Lib.hid (str_ext (by rw [HSV.out, kept_all (mergesP es) (by rw [HLEN.out]; omega)]))
      clear tr
      go_wp2_with fail
      go_ret2
      exact ⟨by rw [HN.out, HS.out]; rfl, hb2'.trans (HB.out.mono (by omega))⟩
    obtain ⟨c, hc⟩ : ∃ c, B.data.toList.getD k 0 = c := ⟨_, rfl⟩
    have hkey := bytes_one (letter_at hlt)
    rw [hc] at hkey
    have HKEY := Lib.hid hkey
    have HC := Lib.hid hc
    have hbw := hb2'.trans (HB.out.mono (by omega : w.heap.size ≤ w2.heap.size))
    have HBW := Lib.hid hbw
    have hss : s.size ≤ 8 := by rw [str_size HSV.out]; have := HLEN.out; omega
    have hsz : ¬ 9223372036854775807 < s.size + (B.extract k (k + 1)).size := by
      rw [hkey]
      have : (⟨#[c]⟩ : ByteArray).size = 1 := rfl
      omega
    obtain ⟨r, hr⟩ : ∃ r : ByteArray, (⟨(names (intoB es ⟨#[c]⟩) es.length).toArray⟩ : ByteArray) = r := ⟨_, rfl⟩
    have hrs : r.size = (names (intoB es ⟨#[c]⟩) es.length).length := by rw [← hr, size_mk]
    have hrn := names_length (intoB es ⟨#[c]⟩) es.length
    have hr16 : r.size ≤ 100 := by omega
    have HP : Hid (mergesP es c = decide (1 < r.size)) := Lib.hid (by rw [hrs]; rfl)
    have FS : Hid (∀ W, Below wr.heap.size wr W → Calls Try.prog 51 #[.agg #[.string B, .slice A es.length cap], .string (B.extract k (k + 1))] W fun e w' => e = .returned (.string r) ∧ Below W.heap.size W w') := Lib.hid fun W h => by
      rw [hkey, ← hr]
      exact intoList_any B A cap es ⟨#[c]⟩ W (((hE.below hbw).below (h.mono hbw.size)).more (Nat.le_trans hbw.size h.size)) h16
    have hS : ∀ W, Below wr.heap.size wr W → (W.cell? ⟨w.heap.size, 0, none⟩ = some (.string B) ∧ W.cell? ⟨w.heap.size, 1, none⟩ = some (.slice A es.length cap) ∧ Below wr.heap.size wr W) :=
      fun W h => ⟨(h.cell (by simp only; omega)).trans tr.1, (h.cell (by simp only; omega)).trans tr.2, h⟩
    have HSS := Lib.hid hS
    clear hkey hc hbw hkl hss hr hrs hrn hS tr hd0 hd1
    have a1 : (0 : Int) ≤ (k : Int) := by omega
    have a2 : (k : Int) < (B.size : Int) := by omega
    have a4 : (0 : Int) ≤ (k : Int) + 1 := by omega
    have a5 : ((k : Int) + 1).toNat = k + 1 := by omega
    have a6 : (k : Int) + 1 ≤ (B.size : Int) := by omega
    have a7 : k + 1 ≤ B.size := by omega
    have a8 : (k : Int) ≤ (k : Int) + 1 := by omega
    have a3 : IntKind.i64.wrap ((k : Int) + 1) = (k : Int) + 1 := IntWalk.i64_in _ (by omega)
    go_wp2_with fail
    go_region_held3 (fun W => W.cell? ⟨w.heap.size, 0, none⟩ = some (.string B) ∧ W.cell? ⟨w.heap.size, 1, none⟩ = some (.slice A es.length cap) ∧ Below wr.heap.size wr W)
      (first
        | exact HSS.out _ (Below.refl _ _).drew
        | exact HSS.out _ ((Below.refl _ _).drew.trans hb4))
      (first
        | (go_at_call 51; refine (FS.out _ (Below.refl _ _).drew).mono ?_; rintro e w4 ⟨rfl, hb4⟩))
    rename_i hHeld
    have hbx := hHeld.2.2
    have he0 := hHeld.1
    have HB3 := Lib.hid (HB.out.trans (hbx.mono HB.out.size))
    clear hHeld a1 a2 a3 a4 a5 a6 a7 a8 HSS hbx hb4 FS
    have hkl : k < B.data.toList.length := by rw [HLEN.out]; exact hlt
    by_cases hp : 1 < r.size
    case neg =>
      have HP : Hid (kept (mergesP es) B.data.toList (k + 1) = kept (mergesP es) B.data.toList k) := Lib.hid (kept_no hkl (by rw [HC.out, HP.out]; simpa using hp))
      have hp2 : ¬ ((r.size : Int) > 1) := by omega
      clear hkl hp
      go_wp2_with fail
      go_roundw
      case rel => exact ⟨k + 1, s, by omega, by go_num, rfl, by rw [HP.out]; exact HSV.out, HB3.out⟩
      case measure => simp [intOf]; omega
    case pos =>
      have HP : Hid (kept (mergesP es) B.data.toList (k + 1) = kept (mergesP es) B.data.toList k ++ [c]) := Lib.hid (by have := kept_yes hkl (p := mergesP es) (by rw [HC.out, HP.out]; simpa using hp); rw [this, HC.out])
      have hp2 : (r.size : Int) > 1 := by omega
      clear hkl hp
      go_wp2_with fail
      go_roundw
      case rel => exact ⟨k + 1, _, by omega, by go_num, rfl, by rw [HP.out, HKEY.out]; exact str_snoc HSV.out, HB3.out⟩
      case measure => simp [intOf]; omega

end Go.Proofs.Ytcfcmlbbnpfejab
