/- The shortest path from the entry, by the model. -/
import Derived.Test.YthnpilkchfmfgaaShortS
import Derived.Deep.RegionHeld3
namespace Go.Proofs.Ythnpilkchfmfgaa
open Go.RowKit

set_option maxRecDepth 100000 in
set_option maxHeartbeats 8000000 in
/-- spec.l2To -/
theorem l2To_any (B : ByteArray) (A : Option Addr) (cap : Nat) (es : List (ByteArray × ByteArray)) (l : List UInt8) (tb : ByteArray) (s t : UInt8) (w : World) (hE : EdgesIn w w.heap.size A es) (hl : es.length ≤ 16) (hL : Lets l es) (hs : s ∈ l) (h8 : l.length ≤ 8) (hsb : (B.extract 0 1).data.toList = [s]) (hB1 : 1 ≤ B.size) (hBm : B.size ≤ maxLen) (htb' : tb = ⟨#[t]⟩) :
    Calls Try.prog 86 #[.agg #[.string B, .slice A es.length cap], .string tb] w fun e w' => e = .returned (.string ⟨(pathE (ebs es) s t).toArray⟩) ∧ Below w.heap.size w w' := by
  have hen : ∀ x y, ([x], [y]) ∈ ebs es → y ∈ l := by
    intro x y h
    simp only [ebs, List.mem_map, Prod.mk.injEq] at h
    obtain ⟨e, he, h1, h2⟩ := h
    obtain ⟨x', y', hx', hy', _, hy⟩ := hL e he
    rw [hy'] at h2
    injection h2 with h2
    subst h2; exact hy
  have HEN := Lib.hid hen; have HLE := Lib.hid hL; have HSB := Lib.hid hsb
  have HTB := Lib.hid htb'
  obtain ⟨sb, hsbe⟩ : ∃ sb, B.extract 0 1 = sb := ⟨_, rfl⟩
  rw [hsbe] at HSB
  have HENTRY : Hid (∀ W : World, Calls Try.prog 63 #[.agg #[.string B, .slice A es.length cap]] W fun e w' => e = .returned (.string sb) ∧ Below W.heap.size W w') := Lib.hid fun W => by
    rw [← hsbe]
    exact l1Entry_any B _ W hB1 hBm
  have hb1 : Below w.heap.size w (w.alloc (.cells #[.string B, .slice A es.length cap] 28)) := (Below.refl _ _).alloc (Nat.le_refl _) _
  have t1 := Two.made w B A es.length cap 28
  have hz1 : (w.alloc (.cells #[.string B, .slice A es.length cap] 28)).heap.size = w.heap.size + 1 := by simp
  have hd0 := t1.1; have hd1 := t1.2
  clear hen hL hsb hsbe htb' hB1 hBm
  go_enter Try.func86, Try.ntmps86
  go_wp2_with fail
  refine (HENTRY.out _).mono ?_
  rintro e w0 ⟨rfl, hb0⟩
  have hbA : Below w.heap.size w (w0.alloc (.cells #[.string ⟨#[]⟩] 9)) := (hb1.trans (hb0.mono hb1.size)).alloc (Nat.le_trans hb1.size hb0.size) _
  have htA : Two (w0.alloc (.cells #[.string ⟨#[]⟩] 9)) w.heap.size B A es.length cap := (t1.below hb0 (by omega)).below ((Below.refl w0.heap.size w0).alloc (Nat.le_refl _) _) (by have := hb0.size; omega)
  have hz0 : w.heap.size + 1 ≤ w0.heap.size := by have := hb0.size; omega
  have hoA : (w0.alloc (.cells #[.string ⟨#[]⟩] 9)).ownsRow (w.heap.size + 1) 9 1 (.slice (some ⟨w0.heap.size, 0, none⟩) 1 1) (bfs (ebs es) s 0).length (waysV (bfs (ebs es) s 0)) :=
    ⟨rfl, .inr ⟨_, 1, _, rfl, hz0, World.alloc_heap_new w0 (.cells #[.string ⟨#[]⟩] 9), by simp [bfs], by unfold maxLen; omega, rfl, rfl⟩⟩
  have HSEA : Hid (Sea2 w B A es.length cap (.slice (some ⟨w0.heap.size, 0, none⟩) 1 1) (bfs (ebs es) s 0) (w0.alloc (.cells #[.string ⟨#[]⟩] 9))) := Lib.hid ⟨hbA, htA, hoA, by simp; omega⟩
  clear hbA htA hoA hz0 hz1 t1 hb1 hb0 hd0 hd1
  go_wp2_with fail
  generalize hW1 : w0.alloc (.cells #[.string ⟨#[]⟩] 9) = w1 at HSEA ⊢
  clear hW1
  go_loopw [5, 6, 7] (fun a v c wr => ∃ (i : Nat) (sx : ByteArray), a = .string sx ∧ c = .int .i64 i ∧ i ≤ (bfs (ebs es) s i).length ∧ sx.data.toList = keysM (bfs (ebs es) s i) ∧ (∀ j x, j < i → (bfs (ebs es) s i)[j]? = some x → x.1 ≠ t) ∧ Sea2 w B A es.length cap v (bfs (ebs es) s i) wr) (fun _ _ c _ => 9 - (intOf c).toNat)
  case atStart => exact ⟨0, sb, rfl, rfl, Nat.zero_le _, by rw [HSB.out]; rfl, fun j x hj => absurd hj (by omega), HSEA.out⟩
  case round =>
    clear HSEA
    obtain ⟨i, sx, rfl, rfl, hi, hsx, hnt, hsea⟩ := hrel
    have hok := bfs_ok HEN.out hs i
    have hD8 : (bfs (ebs es) s i).length ≤ 8 := Nat.le_trans hok.len h8
    have HPL := Lib.hid (bfs_plen (E := ebs es) (s := s) i)
    obtain ⟨D, hD⟩ : ∃ D, bfs (ebs es) s i = D := ⟨_, rfl⟩
    have HD := Lib.hid hD
    rw [hD] at hi hsx hnt hsea hok hD8 HPL
    have hsz : sx.size = D.length := by
      have h := congrArg List.length hsx
      simpa [keysM] using h
    have HSX := Lib.hid hsx; have HNT := Lib.hid hnt; have HSEA := Lib.hid hsea; have HOK := Lib.hid hok
    clear hsx hnt hsea hok hD
    by_cases hlt : i < sx.size
    case neg =>
      have HQ : Hid (pathE (ebs es) s t = []) := Lib.hid (pathE_none (i := i) (by rw [HD.out]; omega) (by omega) (by
        rw [HD.out]
        intro hm
        simp only [keysM, List.mem_map] at hm
        obtain ⟨x, hx, hxt⟩ := hm
        obtain ⟨j, hj, hjx⟩ := List.getElem_of_mem hx
        exact HNT.out j x (by omega) (by rw [List.getElem?_eq_getElem hj, hjx]) hxt))
      have hbw := HSEA.out.below
      clear hsz
      go_wp2_with fail
      go_ret
      exact ⟨by rw [HQ.out]; rfl, hbw⟩
    obtain ⟨b, p, hgi⟩ : ∃ b p, D[i]? = some (b, p) := by
      have h : i < D.length := by omega
      exact ⟨D[i].1, D[i].2, List.getElem?_eq_getElem h⟩
    have hxb : (sx.extract i (i + 1)).data.toList = [b] := by
      rw [letter_at hlt, HSX.out]
      have : (keysM D)[i]? = some b := by simp [keysM, hgi]
      simp [List.getD, this]
    have hpl : p.length ≤ 8 := by
      have := HPL.out (b, p) (List.mem_of_getElem? hgi)
      simp only at this; omega
    have HGI := Lib.hid hgi
    have hbt : ((sx.extract i (i + 1)).toList == tb.toList) = decide (b = t) := by
      rw [Lib.toList_data, Lib.toList_data, hxb, HTB.out]
      by_cases h : b = t <;> simp [h]
    have HXB := Lib.hid hxb; have HBT := Lib.hid hbt
    have hiD0 : i < D.length := by omega
    have HSZ := Lib.hid hsz
    clear hgi hxb hbt hsz
    have a1 : (0 : Int) ≤ (i : Int) := by omega
    have a2 : (i : Int) < (sx.size : Int) := by omega
    have a4 : (0 : Int) ≤ (i : Int) + 1 := by omega
    have a5 : ((i : Int) + 1).toNat = i + 1 := by omega
    have a6 : (i : Int) + 1 ≤ (sx.size : Int) := by omega
    have a7 : i + 1 ≤ sx.size := by omega
    have a8 : (i : Int) ≤ (i : Int) + 1 := by omega
    have a3 : IntKind.i64.wrap ((i : Int) + 1) = (i : Int) + 1 := IntWalk.i64_in _ (by omega)
    have HSEA2 := HSEA; clear HSEA
    have hbt := HBT.out
    by_cases hbtc : b = t
    · rw [decide_eq_true hbtc] at hbt
      have HQ : Hid (pathE (ebs es) s t = p) := Lib.hid (pathE_of HEN.out hs (bfs_pre (ebs es) s (show i ≤ 8 by omega)) (by rw [HD.out, ← hbtc]; exact List.mem_of_getElem? HGI.out))
      have hbw := HSEA2.out.below
      obtain ⟨vg, vc, rfl⟩ := Go.Joins.ownsRow_form HSEA2.out.own (by omega)
      have hcw := HSEA2.out.own.cells (g := vg) rfl i (.string ⟨p.toArray⟩) (by simp [waysV, HGI.out])
      rw [add_none] at hcw
      have hcw' : wr.cell? ⟨vg, i, none⟩ = some (.string ⟨p.toArray⟩) := by simpa using hcw
      have hiD : (i : Int) < (D.length : Int) := by omega
      clear hbtc hcw
      go_wp2_with fail
      go_ret
      exact ⟨by rw [HQ.out]; rfl, hbw⟩
    rw [decide_eq_false hbtc] at hbt
    have HNT2 : Hid (∀ j x, j < i + 1 → D[j]? = some x → x.1 ≠ t) := Lib.hid fun j x hj hx => by
      by_cases hji : j < i
      · exact HNT.out j x hji hx
      · have : j = i := by omega
        subst this
        rw [HGI.out] at hx
        injection hx with hx
        subst hx
        exact hbtc
    clear hbtc
    -- the edges that leave the block
    obtain ⟨et, het⟩ : ∃ et : ByteArray, (⟨(names (outB es (sx.extract i (i + 1))) es.length).toArray⟩ : ByteArray) = et := ⟨_, rfl⟩
    obtain ⟨outs, houts⟩ : ∃ outs, (List.range es.length).filter (outB es (sx.extract i (i + 1))) = outs := ⟨_, rfl⟩
    have hetd : et.data.toList = outs.map nameOf := by rw [← het, ← houts]; rfl
    have hets : et.size = outs.length := by
      have h := congrArg List.length hetd
      simpa using h
    have hom : ∀ k ∈ outs, k < es.length ∧ outB es (sx.extract i (i + 1)) k = true := by
      intro k hk
      rw [← houts] at hk
      simpa using List.mem_filter.1 hk
    have HOUT : Hid (∀ W : World, EdgesIn W W.heap.size A es → Calls Try.prog 89 #[.agg #[.string B, .slice A es.length cap], .string (sx.extract i (i + 1))] W fun e w' => e = .returned (.string et) ∧ Below W.heap.size W w') := Lib.hid fun W hW => by
      have h := outList_any B A cap es (sx.extract i (i + 1)) W hW (by omega)
      rwa [het] at h
    have hel : (ebs es).length = es.length := by simp [ebs]
    have HROW : Hid (bfs (ebs es) s (i + 1) = rowO (ebs es) b p D outs) := Lib.hid (by
      rw [bfs_some (by rw [HD.out]; exact HGI.out), HD.out, hel, ← houts, rowO_filter]
      · rfl
      · intro k hk hq D'
        have hkl : k < es.length := by simpa using hk
        obtain ⟨x, y, hx, hy, _, _⟩ := HLE.out es[k] (List.getElem_mem hkl)
        have hek : (ebs es)[k]? = some ([x], [y]) := by simp only [ebs, List.getElem?_map, List.getElem?_eq_getElem hkl, Option.map_some, hx, hy]
        rw [outB_at hkl, Lib.toList_data, Lib.toList_data, hx, HXB.out] at hq
        exact stepE_no hek fun h => by rw [h.1] at hq; simp at hq)
    have hol : outs.length ≤ 16 := by
      have := names_length (outB es (sx.extract i (i + 1))) es.length
      have h2 : (names (outB es (sx.extract i (i + 1))) es.length).length = outs.length := by rw [← houts]; simp [names]
      omega
    have HOM := Lib.hid hom; have HETD := Lib.hid hetd; have HETS := Lib.hid hets
    clear het houts hetd hom hel hets
    have hS : ∀ W, Below wr.heap.size wr W → (W.cell? ⟨w.heap.size, 0, none⟩ = some (.string B) ∧ W.cell? ⟨w.heap.size, 1, none⟩ = some (.slice A es.length cap) ∧ Below wr.heap.size wr W) :=
      fun W h => ⟨(HSEA2.out.go h).two.1, (HSEA2.out.go h).two.2, h⟩
    have HSS := Lib.hid hS
    have HA : Hid (EdgesIn wr.drew wr.drew.heap.size A es) := Lib.hid ((hE.below HSEA2.out.below.drew).more HSEA2.out.below.drew.size)
    clear hS
    go_wp2_with fail
    go_region_held3 (fun W => W.cell? ⟨w.heap.size, 0, none⟩ = some (.string B) ∧ W.cell? ⟨w.heap.size, 1, none⟩ = some (.slice A es.length cap) ∧ Below wr.heap.size wr W)
      (first
        | exact HSS.out _ (Below.refl _ _).drew
        | exact HSS.out _ ((Below.refl _ _).drew.trans hb3))
      (first
        | (go_at_call 89; refine (HOUT.out _ HA.out).mono ?_; rintro e w3 ⟨rfl, hb3⟩))
    rename_i hHeld
    have HSEA3 := Lib.hid (HSEA2.out.go hHeld.2.2)
    clear hHeld HSS HA hb3 HSEA2 HOUT a1 a2 a3 a4 a5 a6 a7 a8
    go_wp2_with fail
    go_loopw [5, 6, 40] (fun a v c wi => ∃ (k : Nat) (s1 : ByteArray), k ≤ et.size ∧ a = .string s1 ∧ c = .int .i64 k ∧ s1.data.toList = keysM (rowO (ebs es) b p D (outs.take k)) ∧ Sea2 w B A es.length cap v (rowO (ebs es) b p D (outs.take k)) wi) (fun _ _ c _ => et.size - (intOf c).toNat)
    case atStart => exact ⟨0, sx, Nat.zero_le _, rfl, rfl, HSX.out, HSEA3.out⟩
    case round =>
      clear HSEA3
      obtain ⟨k, s1, hk, rfl, rfl, hs1, hsea⟩ := hrel
      obtain ⟨D1, hD1⟩ : ∃ D1, rowO (ebs es) b p D (outs.take k) = D1 := ⟨_, rfl⟩
      have hpre : D <+: D1 := by rw [← hD1]; exact rowO_pre _ _ _ _ _
      have hok1 : MetOk l D1 := by rw [← hD1]; exact rowO_ok HEN.out HOK.out _
      have hD18 : D1.length ≤ 8 := Nat.le_trans hok1.len h8
      have HD1 := Lib.hid hD1
      rw [hD1] at hs1 hsea
      have hs1z : s1.size = D1.length := by
        have h := congrArg List.length hs1
        simpa [keysM] using h
      have HS1 := Lib.hid hs1; have HSEA := Lib.hid hsea; have HPRE := Lib.hid hpre; have HS1Z := Lib.hid hs1z
      clear hD1 hs1 hsea hpre hok1 hs1z
      by_cases hlk : k < et.size
      case neg =>
        have hke : outs.take k = outs := List.take_of_length_le (by have := HETS.out; omega)
        have HD2 : Hid (bfs (ebs es) s (i + 1) = D1) := Lib.hid (by rw [HROW.out, ← HD1.out, hke])
        have HNT3 : Hid (∀ j x, j < i + 1 → D1[j]? = some x → x.1 ≠ t) := Lib.hid fun j x hj hx => by
          obtain ⟨r, hr⟩ := HPRE.out
          rw [← hr, List.getElem?_append_left (by omega)] at hx
          exact HNT2.out j x hj hx
        have hlen : i + 1 ≤ D1.length := Nat.le_trans hiD0 HPRE.out.length_le
        clear hke
        go_wp2_with fail
        go_roundw
        case rel => exact ⟨i + 1, s1, rfl, by go_num, by rw [HD2.out]; exact hlen, by rw [HD2.out]; exact HS1.out, by rw [HD2.out]; exact HNT3.out, by rw [HD2.out]; exact HSEA.out⟩
        case measure => simp [intOf]; omega
      have hko : k < outs.length := by have := HETS.out; omega
      obtain ⟨ix, hix⟩ : ∃ ix, outs[k] = ix := ⟨_, rfl⟩
      obtain ⟨hixl, hixo⟩ := HOM.out ix (by rw [← hix]; exact List.getElem_mem hko)
      have htk : outs.take (k + 1) = outs.take k ++ [ix] := by rw [List.take_succ_eq_append_getElem hko, hix]
      have hel : (et.extract k (k + 1)).data.toList = [nameOf ix] := by
        rw [letter_at hlk, HETD.out]
        simp [List.getD, hko, hix]
      obtain ⟨x, y, hx, hy, _, hyl⟩ := HLE.out es[ix] (List.getElem_mem hixl)
      have hek : (ebs es)[ix]? = some ([x], [y]) := by simp only [ebs, List.getElem?_map, List.getElem?_eq_getElem hixl, Option.map_some, hx, hy]
      have hxb : x = b := by
        rw [outB_at hixl, Lib.toList_data, Lib.toList_data, hx, HXB.out] at hixo
        simpa using hixo
      have HST : Hid (rowO (ebs es) b p D (outs.take (k + 1)) = stepE (ebs es) b p D1 ix) := Lib.hid (by rw [htk, rowO_snoc, HD1.out])
      have HEK := Lib.hid hek; have HXBB := Lib.hid hxb; have HY := Lib.hid (bytes_one hy); have HEL := Lib.hid hel
      have HX : Hid (eIdx es.length (et.extract k (k + 1)).data.toList = ix) := Lib.hid (by rw [hel]; exact eIdx_name hixl (by omega))
      have hS : ∀ W, Below wr.heap.size wr W → (W.cell? ⟨w.heap.size, 0, none⟩ = some (.string B) ∧ W.cell? ⟨w.heap.size, 1, none⟩ = some (.slice A es.length cap) ∧ Below wr.heap.size wr W) :=
        fun W h => ⟨(HSEA.out.go h).two.1, (HSEA.out.go h).two.2, h⟩
      have HSS := Lib.hid hS
      have HA : Hid (EdgesIn wr.drew wr.drew.heap.size A es) := Lib.hid ((hE.below HSEA.out.below.drew).more HSEA.out.below.drew.size)
      clear hS hix hixo htk hel hx hy hek hxb hyl
      have a1 : (0 : Int) ≤ (k : Int) := by omega
      have a2 : (k : Int) < (et.size : Int) := by omega
      have a4 : (0 : Int) ≤ (k : Int) + 1 := by omega
      have a5 : ((k : Int) + 1).toNat = k + 1 := by omega
      have a6 : (k : Int) + 1 ≤ (et.size : Int) := by omega
      have a7 : k + 1 ≤ et.size := by omega
      have a8 : (k : Int) ≤ (k : Int) + 1 := by omega
      have a3 : IntKind.i64.wrap ((k : Int) + 1) = (k : Int) + 1 := IntWalk.i64_in _ (by omega)
      have e2 := edge_to
      go_wp2_with fail
      go_region_held3 (fun W => W.cell? ⟨w.heap.size, 0, none⟩ = some (.string B) ∧ W.cell? ⟨w.heap.size, 1, none⟩ = some (.slice A es.length cap) ∧ Below wr.heap.size wr W)
        (first
          | exact HSS.out _ (Below.refl _ _).drew
          | exact HSS.out _ ((Below.refl _ _).drew.trans hb4))
        (first
          | (go_at_call 70; refine (l2Edge_any B A cap es _ ix _ HA.out (by omega) hixl HX.out).mono ?_; rw [HY.out]; rintro e w4 ⟨rfl, hb4⟩))
      rename_i hHeld
      have HSEA4 := Lib.hid (HSEA.out.go hHeld.2.2)
      clear hHeld HSS HA hb4 HSEA a1 a2 a3 a4 a5 a6 a7 a8 e2
      obtain ⟨fi, hfi⟩ : ∃ fi, Lib.indexByte s1.data.toList y = fi := ⟨_, rfl⟩
      have hiff : 0 ≤ fi ↔ y ∈ keysM D1 := by rw [← hfi, HS1.out]; exact indexByte_nonneg
      have HFI := Lib.hid hfi; have HIFF := Lib.hid hiff
      clear hfi hiff
      have hs1m : s1.size ≤ maxLen := by have := HS1Z.out; unfold maxLen; omega
      have HS1M := Lib.hid hs1m
      clear hs1m
      by_cases hf : fi < 0
      case neg =>
        have HNO : Hid (rowO (ebs es) b p D (outs.take (k + 1)) = D1) := Lib.hid (by rw [HST.out, stepE_no HEK.out fun h => h.2 (HIFF.out.1 (by omega))])
        go_wp2_with (go_at_call 61; refine (find_any s1 y _ HS1M.out).mono ?_; rw [HFI.out]; rintro e wI ⟨rfl, rfl⟩)
        go_roundw
        case rel => exact ⟨k + 1, s1, by omega, rfl, by go_num, by rw [HNO.out]; exact HS1.out, by rw [HNO.out]; exact HSEA4.out⟩
        case measure => simp [intOf]; omega
      have hyn : y ∉ keysM D1 := fun h => by have := HIFF.out.2 h; omega
      have HYES : Hid (rowO (ebs es) b p D (outs.take (k + 1)) = D1 ++ [(y, p ++ [nameL ix])]) := Lib.hid (by rw [HST.out, stepE_yes HEK.out HXBB.out hyn])
      clear hyn
      have hadd : ¬ 9223372036854775807 < s1.size + (⟨#[y]⟩ : ByteArray).size := by
        have h1 : (⟨#[y]⟩ : ByteArray).size = 1 := rfl
        have := HS1Z.out
        omega
      have hadd2 : ¬ 9223372036854775807 < s1.size + 1 := by have := HS1Z.out; omega
      go_wp2_with (go_at_call 61; refine (find_any s1 y _ HS1M.out).mono ?_; rw [HFI.out]; rintro e wI ⟨rfl, rfl⟩)
      clear hadd hadd2
      have hplen := HPRE.out.length_le
      have hz4 := HSEA4.out.size
      obtain ⟨vg, vc, rfl⟩ := Go.Joins.ownsRow_form HSEA4.out.own (by omega)
      obtain ⟨pp, hpp⟩ : ∃ pp : ByteArray, (⟨p.toArray⟩ : ByteArray) = pp := ⟨_, rfl⟩
      have hD1i : D1[i]? = some (b, p) := by
        obtain ⟨r, hr⟩ := HPRE.out
        rw [← hr, List.getElem?_append_left hiD0]
        exact HGI.out
      have HCI : Hid ((waysV D1)[i]? = some (.string pp)) := Lib.hid (by simp [waysV, hD1i, hpp])
      have hcw := HSEA4.out.own.cells (g := vg) rfl i (.string pp) HCI.out
      rw [add_none, Nat.zero_add] at hcw
      have hpps : pp.size ≤ 8 := by rw [← hpp]; show p.toArray.size ≤ 8; simpa using hpl
      have hels : (et.extract k (k + 1)).size = 1 := by
        simp; omega
      obtain ⟨np, hnp⟩ : ∃ np : ByteArray, pp ++ et.extract k (k + 1) = np := ⟨_, rfl⟩
      have HNP : Hid (np = ⟨(p ++ [nameL ix]).toArray⟩) := Lib.hid (by
        rw [← hnp]
        apply bytes_ext
        rw [Go.Joins.data_append, HEL.out, ← hpp]
        simp [nameOf, nameL])
      have hadd : ¬ 9223372036854775807 < pp.size + (et.extract k (k + 1)).size := by omega
      obtain ⟨i0, hi0, hi1, hi2, hi3⟩ := info_parts textInfo
      have HI0 := Lib.hid hi0; have HI1 := Lib.hid hi1; have HI2 := Lib.hid hi2; have HI3 := Lib.hid hi3
      have hba : Below w4.heap.size w4 (w4.alloc (.cells #[.string (pp ++ et.extract k (k + 1))] 9)).drew := ((Below.refl _ _).alloc (Nat.le_refl _) _).drew
      have HSEA5 := Lib.hid (HSEA4.out.go hba)
      have hnews : ∀ j u, [Value.string (pp ++ et.extract k (k + 1))][j]? = some u → (w4.alloc (.cells #[.string (pp ++ et.extract k (k + 1))] 9)).drew.cell? ((⟨w4.heap.size, 0, none⟩ : Addr).add j) = some u := by
        intro j u hj
        match j, hj with
        | 0, hj => simp at hj; subst hj; simp [Addr.add]
        | j + 1, hj => simp at hj
      have HNEWS := Lib.hid hnews
      have hone : ∀ u ∈ [Value.string (pp ++ et.extract k (k + 1))], u.oneCell' = true := by intro u hu; simp at hu; subst hu; rfl
      have HONE := Lib.hid hone
      have hz5 : w4.heap.size + 1 ≤ (w4.alloc (.cells #[.string (pp ++ et.extract k (k + 1))] 9)).drew.heap.size := by simp
      have HZ5 := Lib.hid hz5
      have hiD1 : (i : Int) < (D1.length : Int) := by omega
      have HNPE := Lib.hid hnp
      have hels1 : (et.extract k (k + 1)).size ≤ 1 := by omega
      have hii : (0 : Int) ≤ (i : Int) := by omega
      clear hpp hD1i hnp hi0 hi1 hi2 hi3 hba hnews hone hz5 hels
      have a1 : (0 : Int) ≤ (k : Int) := by omega
      have a2 : (k : Int) < (et.size : Int) := by omega
      have a4 : (0 : Int) ≤ (k : Int) + 1 := by omega
      have a5 : ((k : Int) + 1).toNat = k + 1 := by omega
      have a6 : (k : Int) + 1 ≤ (et.size : Int) := by omega
      have a7 : k + 1 ≤ et.size := by omega
      have a8 : (k : Int) ≤ (k : Int) + 1 := by omega
      have a3 : IntKind.i64.wrap ((k : Int) + 1) = (k : Int) + 1 := IntWalk.i64_in _ (by omega)
      have hadd1 : ¬ 9223372036854775807 < pp.size + 1 := by omega
      have hcw5 := HSEA5.out.own.cells (g := vg) rfl i (.string pp) HCI.out
      rw [add_none, Nat.zero_add] at hcw5
      go_region_held3 (fun W => W.cell? ⟨vg, i, none⟩ = some (.string pp))
        (first
          | exact hcw
          | exact hcw5
          | (exact hcw6))
        (first
          | (clear a1 a2 a3 a4 a5 a6 a7 a8
             refine step_append_kept rfl (.tmp 59) (.tmp 70) 42 rfl (w.heap.size + 1) 9 i0 (.string ⟨#[]⟩) 1 16 Try.underlying42 HI0.out HI1.out HI2.out HI3.out rfl (by decide) vg vc D1.length (waysV D1) rfl HSEA5.out.own ⟨w4.heap.size, 0, none⟩ 1 1 [.string (pp ++ et.extract k (k + 1))] rfl rfl HNEWS.out HONE.out (by unfold maxLen; omega) (by omega) (by have := HZ5.out; omega) ?_
             intro v6 w6 hown6 hgr6 hcs6
             go_must (
             have hcw6 : w6.cell? ⟨vg, i, none⟩ = some (.string pp) := by
               have := hcs6 i (.string pp) HCI.out
               rwa [add_none, Nat.zero_add] at this
             have hw6 : waysV D1 ++ [Value.string (pp ++ et.extract k (k + 1))] = waysV (D1 ++ [(y, p ++ [nameL ix])]) := by
               rw [HNPE.out, HNP.out]
               simp [waysV]
             rw [hw6] at hown6
             have HSEA6 : Hid (Sea2 w B A es.length cap v6 (D1 ++ [(y, p ++ [nameL ix])]) w6) := Lib.hid (HSEA5.out.push hgr6 (by simpa using hown6))
             clear hw6 hown6 hgr6 hcs6)))
      have HS2 : Hid ((s1 ++ ⟨#[y]⟩ : ByteArray).data.toList = keysM (D1 ++ [(y, p ++ [nameL ix])])) := Lib.hid (by rw [Go.Joins.data_append, HS1.out]; simp [keysM])
      clear hadd hadd1 hcw hcw5 hcw6
      go_wp2_with fail
      go_roundw
      case rel => exact ⟨k + 1, s1 ++ ⟨#[y]⟩, by omega, rfl, by go_num, by rw [HYES.out]; exact HS2.out, by rw [HYES.out]; exact HSEA6.out⟩
      case measure => simp [intOf]; omega

end Go.Proofs.Ythnpilkchfmfgaa
