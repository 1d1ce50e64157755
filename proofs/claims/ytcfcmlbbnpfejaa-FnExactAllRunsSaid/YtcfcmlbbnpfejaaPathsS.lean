/- All paths from a block, by the model. -/
import Derived.Test.YtcfcmlbbnpfejaaPathE
import Derived.Test.YtcfcmlbbnpfejaaOrderV
import Derived.Test.YtcfcmlbbnpfejaaTexts
import Derived.Maps.AppendAt
import Derived.BigRegion
namespace Go.Proofs.Ytcfcmlbbnpfejaa
open Go.RowKit

/-- the edges of a block alone -/
theorem rowP_outs {es : List (ByteArray × ByteArray)} {l : List UInt8} (hL : Lets l es) (g : UInt8 → List (List UInt8)) (b : UInt8) : rowP (ebs es) g b (outsOf es b) = rowP (ebs es) g b (List.range es.length) := by
  refine rowP_filter _ _ _ _ _ fun k hk hq => ?_
  have hkl : k < es.length := by simpa using hk
  obtain ⟨x, y, hx, hy, _, _⟩ := hL es[k] (List.getElem_mem hkl)
  have hek : (ebs es)[k]? = some ([x], [y]) := by simp only [ebs, List.getElem?_map, List.getElem?_eq_getElem hkl, Option.map_some, hx, hy]
  rw [outB_at hkl, Lib.toList_data, Lib.toList_data, hx] at hq
  exact stepP_no hek fun e => by subst e; simp at hq

/-- a row of texts that an append leaves alone -/
structure Other (v : Value) (A : Option Addr) (ts : List ByteArray) (W : World) : Prop where
  texts : TextsIn W W.heap.size A ts
  apart : ∀ a, A = some a → a.block < W.heap.size ∧ some a.block ≠ v.ownBlock
theorem Other.push {v v' : Value} {A : Option Addr} {ts : List ByteArray} {W W' : World} (h : Other v A ts W) (k : W.grownBy W' v.ownBlock) (hat : v'.ownBlock = v.ownBlock ∨ v'.ownBlock = some W.heap.size) : Other v' A ts W' := by
  refine ⟨(h.texts.grown_low k (Nat.le_refl _) fun a e => (h.apart a e).2).more k.size, fun a e => ?_⟩
  obtain ⟨h1, h2⟩ := h.apart a e
  refine ⟨Nat.lt_of_lt_of_le h1 k.size, ?_⟩
  rcases hat with hat | hat
  · rw [hat]; exact h2
  · rw [hat]; intro e; injection e with e; omega
theorem Other.go {v : Value} {A : Option Addr} {ts : List ByteArray} {W W' : World} (h : Other v A ts W) (k : Below W.heap.size W W') : Other v A ts W' :=
  ⟨(h.texts.below k).more k.size, fun a e => ⟨Nat.lt_of_lt_of_le (h.apart a e).1 k.size, (h.apart a e).2⟩⟩

theorem tx_append (R S : List (List UInt8)) : tx (R ++ S) = tx R ++ tx S := by simp [tx]
/-- some texts, and then others behind a letter -/
def mixT (T L : List (List UInt8)) (c : UInt8) (j : Nat) : List (List UInt8) := T ++ (L.take j).map (c :: ·)
theorem mixT_zero (T L : List (List UInt8)) (c : UInt8) : mixT T L c 0 = T := by simp [mixT]
theorem mixT_length {T L : List (List UInt8)} {c : UInt8} {j : Nat} (h : j ≤ L.length) : (mixT T L c j).length = T.length + j := by simp [mixT]; omega
theorem mixT_succ {T L : List (List UInt8)} {c : UInt8} {j : Nat} (h : j < L.length) : mixT T L c (j + 1) = mixT T L c j ++ [c :: L[j]] := by
  unfold mixT; rw [List.take_succ_eq_append_getElem h]; simp only [List.map_append, List.map_cons, List.map_nil, List.append_assoc]
theorem mixT_all {T P : List (List UInt8)} {c : UInt8} (h : (P.take 401).length ≤ 400) : mixT T (P.take 401) c (P.take 401).length = T ++ P.map (c :: ·) := by
  have hp : P.take 401 = P := List.take_of_length_le (by rw [List.length_take] at h; omega)
  unfold mixT; rw [hp, List.take_length]
theorem mixT_full {T P R : List (List UInt8)} {c : UInt8} {j : Nat} (hj : j ≤ (P.take 401).length) (h : T.length + j = 401) : (T ++ P.map (c :: ·) ++ R).take 401 = mixT T (P.take 401) c j := by
  have hl := mixT_length (T := T) (c := c) hj
  have h2 : (P.take 401).take j = P.take j := by rw [List.take_take]; congr 1; rw [List.length_take] at hj; omega
  have e : T ++ P.map (c :: ·) ++ R = mixT T (P.take 401) c j ++ ((P.drop j).map (c :: ·) ++ R) := by
    unfold mixT
    rw [h2]
    have hp : P.map (c :: ·) = (P.take j).map (c :: ·) ++ (P.drop j).map (c :: ·) := by rw [← List.map_append, List.take_append_drop]
    rw [hp]; simp only [List.append_assoc]
  rw [e, List.take_left' (by omega)]

theorem take_whole {α : Type} {l r : List α} {n : Nat} (h : (l ++ r).length ≤ n) : (l ++ r).take n = l ++ r := List.take_of_length_le h

set_option maxRecDepth 100000 in
set_option maxHeartbeats 4000000 in
/-- spec.l2From -/
theorem l2From_any (B : ByteArray) (A : Option Addr) (cap : Nat) (es : List (ByteArray × ByteArray)) (l : List UInt8) (t : UInt8) (hl : es.length ≤ 16) (hL : Lets l es) (hBm : B.size ≤ maxLen) (hB1 : 1 ≤ B.size) (hlast : B.extract (B.size - 1) B.size = ⟨#[t]⟩) : ∀ (n : Nat) (r : List UInt8) (b : UInt8) (w : World), r.length < n → r.length ≤ 7 → Topo (ebs es) (b :: r) → EdgesIn w w.heap.size A es →
    Calls Try.prog 108 #[.agg #[.string B, .slice A es.length cap], .string ⟨#[b]⟩] w (RowPost (tx ((pathsE (ebs es) t b).take 401)) w) := by
  intro n
  induction n with
  | zero => intro r b w hn; exact absurd hn (by omega)
  | succ n ih =>
    intro r b w hn h7 ht hE
    have IH := Lib.hid ih
    have HTO := Lib.hid ht
    have hb1 : Below w.heap.size w (w.alloc (.cells #[.string B, .slice A es.length cap] 25)) := (Below.refl _ _).alloc (Nat.le_refl _) _
    have t1 := Two.made w B A es.length cap 25
    have hz1 : (w.alloc (.cells #[.string B, .slice A es.length cap] 25)).heap.size = w.heap.size + 1 := by simp
    have hd0 := t1.1; have hd1 := t1.2
    have FX : Hid (∀ W : World, Calls Try.prog 115 #[.agg #[.string B, .slice A es.length cap]] W fun e w' => e = .returned (.string ⟨#[t]⟩) ∧ Below W.heap.size W w') := Lib.hid fun W => by
      have := l1Exit_any B (.slice A es.length cap) W hB1 hBm; rwa [hlast] at this
    by_cases hbt : b = t
    · subst hbt
      have HV : Hid (tx ((pathsE (ebs es) b b).take 401) = [⟨#[]⟩]) := Lib.hid (by rw [pathsE_at]; rfl)
      clear ht ih
      go_enter Try.func108, Try.ntmps108
      go_wp2_with fail
      refine (FX.out _).mono ?_
      rintro e w2 ⟨rfl, hb2⟩
      have hb2' := hb1.trans (hb2.mono hb1.size)
      clear hb2 hd0 hd1 t1
      go_wp2_with fail
      go_ret
      have hba : Below w2.heap.size w2 (w2.alloc (.cells #[.string ⟨#[]⟩] 9)) := (Below.refl _ _).alloc (Nat.le_refl _) _
      have ho : (w2.alloc (.cells #[.string ⟨#[]⟩] 9)).ownsRow w2.heap.size 9 1 (.slice (some ⟨w2.heap.size, 0, none⟩) 1 1) 1 ([(⟨#[]⟩ : ByteArray)].map Value.string) :=
        World.ownsRow_lit w2 #[.string ⟨#[]⟩] 1 (Nat.le_refl _) (by unfold maxLen; omega) rfl
      obtain ⟨A', cap', hv, h1, h2⟩ := own_texts (ts := [⟨#[]⟩]) ho
      rw [HV.out]
      exact ⟨A', cap', by rw [← hv]; rfl, h1, hb2'.trans (hba.mono hb2'.size), h2.mono hb2'.size⟩
    have HV : Hid (pathsE (ebs es) t b = rowP (ebs es) (pathsE (ebs es) t) b (outsOf es b)) := Lib.hid (by
      have hel : (ebs es).length = es.length := by simp [ebs]
      rw [pathsE_fix ht h7 hbt, hel, rowP_outs hL])
    obtain ⟨et, het⟩ : ∃ et : ByteArray, (⟨(names (outB es ⟨#[b]⟩) es.length).toArray⟩ : ByteArray) = et := ⟨_, rfl⟩
    have hetd : et.data.toList = (outsOf es b).map nameOf := by rw [← het]; rfl
    have hets : et.size = (outsOf es b).length := by rw [str_size hetd]; simp
    have hol : (outsOf es b).length ≤ 16 := by
      have := names_length (outB es ⟨#[b]⟩) es.length
      have h2 : (names (outB es ⟨#[b]⟩) es.length).length = (outsOf es b).length := by simp [names, outsOf]
      omega
    have HOUT : Hid (∀ W : World, EdgesIn W W.heap.size A es → Calls Try.prog 87 #[.agg #[.string B, .slice A es.length cap], .string ⟨#[b]⟩] W fun e w' => e = .returned (.string et) ∧ Below W.heap.size W w') := Lib.hid fun W hW => by
      have h := outList_any B A cap es ⟨#[b]⟩ W hW (by omega)
      rwa [het] at h
    have HETD := Lib.hid hetd; have HETS := Lib.hid hets
    have q1 : (b == t) = false := by simp [hbt]
    clear ht het hetd hets ih
    go_enter Try.func108, Try.ntmps108
    go_wp2_with fail
    refine (FX.out _).mono ?_
    rintro e w2 ⟨rfl, hb2⟩
    have t2 := t1.below hb2 (by omega)
    have hb2' := hb1.trans (hb2.mono hb1.size)
    have hz2 : w.heap.size + 1 ≤ w2.heap.size := by have := hb2.size; omega
    clear hb2 hd0 hd1 t1 hz1 hb1
    have hba : Below w2.heap.size w2 (w2.alloc (.cells #[] 9)) := (Below.refl _ _).alloc (Nat.le_refl _) _
    have HSEA0 : Hid (SeaV w B A es.length cap (.slice (some ⟨w2.heap.size, 0, none⟩) 0 0) [] (w2.alloc (.cells #[] 9))) :=
      Lib.hid ⟨hb2'.trans (hba.mono hb2'.size), t2.below hba (by omega), World.ownsRow_lit w2 #[] 0 hz2 (by unfold maxLen; omega) rfl, by simp; omega⟩
    have HE0 : Hid (EdgesIn (w2.alloc (.cells #[] 9)) (w2.alloc (.cells #[] 9)).heap.size A es) := Lib.hid ((hE.below HSEA0.out.below).more HSEA0.out.below.size)
    have hd0 := HSEA0.out.two.1; have hd1 := HSEA0.out.two.2
    clear hba t2 hb2'
    go_wp2_with fail
    refine (HOUT.out _ HE0.out).mono ?_
    rintro e w4 ⟨rfl, hb4⟩
    have HSEA4 := Lib.hid (HSEA0.out.go hb4)
    clear hb4 hd0 hd1 HOUT HE0 HSEA0 q1 hz2
    go_wp2_with fail
    go_loopw [5, 21] (fun v c wr => ∃ k : Nat, k ≤ et.size ∧ c = .int .i64 k ∧ (rowP (ebs es) (pathsE (ebs es) t) b ((outsOf es b).take k)).length ≤ 400 ∧ SeaV w B A es.length cap v ((tx (rowP (ebs es) (pathsE (ebs es) t) b ((outsOf es b).take k))).map Value.string) wr) (fun _ c _ => et.size - (intOf c).toNat)
    case atStart => exact ⟨0, Nat.zero_le _, rfl, by simp [rowP], HSEA4.out⟩
    case round =>
      clear HSEA4
      obtain ⟨k, hk, rfl, hT4, hsea⟩ := hrel
      obtain ⟨T, hT⟩ : ∃ T, rowP (ebs es) (pathsE (ebs es) t) b ((outsOf es b).take k) = T := ⟨_, rfl⟩
      rw [hT] at hT4 hsea
      have HT := Lib.hid hT; have HSEA := Lib.hid hsea
      clear hT
      by_cases hlt : k < et.size
      case neg =>
        have hke : (outsOf es b).take k = outsOf es b := List.take_of_length_le (by have := HETS.out; omega)
        have HS : Hid ((pathsE (ebs es) t b).take 401 = T) := Lib.hid (by rw [HV.out, ← hke, HT.out]; exact List.take_of_length_le (by omega))
        clear hke hsea
        go_wp2_with fail
        go_ret
        obtain ⟨A', cap', hv, h1, h2⟩ := own_texts (ts := tx T) (by
          have := HSEA.out.own
          rwa [List.length_map] at this)
        rw [HS.out]
        exact ⟨A', cap', by rw [← hv]; rfl, h1, HSEA.out.below, h2.mono (by omega)⟩
      have hko : k < (outsOf es b).length := by have := HETS.out; omega
      obtain ⟨ix, hix⟩ : ∃ ix, (outsOf es b)[k] = ix := ⟨_, rfl⟩
      have hmem : ix ∈ outsOf es b := hix ▸ List.getElem_mem hko
      obtain ⟨hi, y, hy, hy2, hyl⟩ := outsOf_mem hL hmem
      have hel : et.extract k (k + 1) = ⟨#[nameOf ix]⟩ := by
        have := letter_at (p := et) hlt
        rw [HETD.out] at this
        have e : ((outsOf es b).map nameOf).getD k 0 = nameOf ix := by simp [List.getD, hko, hix]
        rw [e] at this
        exact one_byte this
      have HTK : Hid (rowP (ebs es) (pathsE (ebs es) t) b ((outsOf es b).take (k + 1)) = T ++ (pathsE (ebs es) t y).map (nameOf ix :: ·)) := Lib.hid (by
        rw [List.take_succ_eq_append_getElem hko, hix, rowP_snoc, HT.out, stepP_yes hy]; rfl)
      have HALL : Hid (∃ rest, pathsE (ebs es) t b = T ++ (pathsE (ebs es) t y).map (nameOf ix :: ·) ++ rest) := Lib.hid (by
        refine ⟨rowP (ebs es) (pathsE (ebs es) t) b ((outsOf es b).drop (k + 1)), ?_⟩
        rw [← HTK.out, HV.out]
        have e : outsOf es b = (outsOf es b).take (k + 1) ++ (outsOf es b).drop (k + 1) := (List.take_append_drop _ _).symm
        unfold rowP
        rw [← List.flatMap_append, ← e])
      obtain ⟨P, hP⟩ : ∃ P, pathsE (ebs es) t y = P := ⟨_, rfl⟩
      have HP8 : Hid (∀ p ∈ P, p.length ≤ 8) := Lib.hid (by rw [← hP]; exact fun p hp => pathsE_len hp)
      have FL : Hid (∀ W : World, EdgesIn W W.heap.size A es → Calls Try.prog 108 #[.agg #[.string B, .slice A es.length cap], .string ⟨#[y]⟩] W (RowPost (tx (P.take 401)) W)) := Lib.hid fun W hW => by
        obtain ⟨a, r2, hr⟩ := List.append_of_mem (HTO.out.1 y (List.mem_of_getElem? hy))
        have h2 : Topo (ebs es) (y :: r2) := Topo.drop (a := a) (by rw [← hr]; exact HTO.out.2)
        have hlr := congrArg List.length hr
        simp at hlr
        rw [← hP]
        exact IH.out r2 y W (by omega) (by omega) h2 hW
      rw [hP] at HTK HALL
      have HY := Lib.hid hy2
      have HX : Hid (eIdx es.length (et.extract k (k + 1)).data.toList = ix) := Lib.hid (by rw [hel]; exact eIdx_name hi (by omega))
      have HEL := Lib.hid hel
      have HA : Hid (∀ W, Below wr.heap.size wr W → EdgesIn W W.heap.size A es) := Lib.hid fun W h => (hE.below (HSEA.out.go h).below).more (HSEA.out.go h).below.size
      have hS : ∀ W, Below wr.heap.size wr W → (W.cell? ⟨w.heap.size, 0, none⟩ = some (.string B) ∧ W.cell? ⟨w.heap.size, 1, none⟩ = some (.slice A es.length cap) ∧ Below wr.heap.size wr W) :=
        fun W h => ⟨(HSEA.out.go h).two.1, (HSEA.out.go h).two.2, h⟩
      have HSS := Lib.hid hS
      have a1 : (0 : Int) ≤ (k : Int) := by omega
      have a2 : (k : Int) < (et.size : Int) := by omega
      have a4 : (0 : Int) ≤ (k : Int) + 1 := by omega
      have a5 : ((k : Int) + 1).toNat = k + 1 := by omega
      have a6 : (k : Int) + 1 ≤ (et.size : Int) := by omega
      have a7 : k + 1 ≤ et.size := by omega
      have a8 : (k : Int) ≤ (k : Int) + 1 := by omega
      have a3 : IntKind.i64.wrap ((k : Int) + 1) = (k : Int) + 1 := IntWalk.i64_in _ (by omega)
      have e2 := edge_to
      clear hix hmem hy hy2 hyl hel hP hS hsea
      go_wp2_with fail
      go_region_held3 (fun W => W.cell? ⟨w.heap.size, 0, none⟩ = some (.string B) ∧ W.cell? ⟨w.heap.size, 1, none⟩ = some (.slice A es.length cap) ∧ Below wr.heap.size wr W)
        (first
          | exact HSS.out _ (Below.refl _ _).drew
          | exact HSS.out _ ((Below.refl _ _).drew.trans hb4)
          | exact HSS.out _ (((Below.refl _ _).drew.trans hb4).trans (hb5.mono hb4.size)))
        (first
          | (go_at_call 83; refine (l2Edge_any B A cap es _ ix _ (HA.out _ (Below.refl _ _).drew) (by omega) hi HX.out).mono ?_; rw [HY.out]; rintro e w4 ⟨rfl, hb4⟩)
          | (go_at_call 108; refine (FL.out _ (HA.out _ ((Below.refl _ _).drew.trans hb4))).mono ?_; rintro e w5 ⟨A5, c5, rfl, hT5, hb5, hO5⟩))
      rename_i hHeld
      have HSEA5 := Lib.hid (HSEA.out.go hHeld.2.2)
      have hoth : Other u5 A5 (tx (P.take 401)) w5 := by
        refine ⟨hT5, fun a e => ?_⟩
        rcases hO5 with ⟨_, h⟩ | ⟨g, _, _, h, hg, hlt, _⟩
        · rw [h] at e; cases e
        · rw [h] at e; injection e with e; subst e
          refine ⟨hlt, fun e => ?_⟩
          have : g < wr.heap.size := (ownBlock_lt HSEA.out.own e.symm).2
          have hz : wr.heap.size ≤ w4.heap.size := hb4.size
          omega
      have HOTH := Lib.hid hoth
      have hL4 : (P.take 401).length ≤ 401 := by rw [List.length_take]; omega
      have HMA := Lib.hid (mixT_all (T := T) (P := P) (c := nameOf ix))
      have HMF := Lib.hid (fun (R : List (List UInt8)) (j : Nat) => mixT_full (T := T) (P := P) (R := R) (c := nameOf ix) (j := j))
      have HL8 : Hid (∀ p ∈ P.take 401, p.length ≤ 8) := Lib.hid fun p hp => HP8.out p (List.mem_of_mem_take hp)
      obtain ⟨L, hL⟩ : ∃ L, P.take 401 = L := ⟨_, rfl⟩
      rw [hL] at HOTH hL4 HMA HMF HL8
      rw [hL]
      have HTXL : Hid ((tx L).length = L.length) := Lib.hid (tx_length L)
      clear hHeld hoth hT5 hb5 hO5 hb4 HSS HA FL HP8 hL e2 a1 a2 HSEA HX HY
      obtain ⟨nt, hnt⟩ : ∃ nt, et.extract k (k + 1) = nt := ⟨_, rfl⟩
      rw [tx_length, hnt]
      rw [hnt] at HEL
      have hes : nt.size = 1 := by rw [HEL.out]; rfl
      go_wp2_with fail
      go_loopw [5, 35] (fun v c wr => ∃ j : Nat, j ≤ L.length ∧ c = .int .i64 j ∧ T.length + j ≤ 400 ∧ SeaV w B A es.length cap v ((tx (mixT T L (nameOf ix) j)).map Value.string) wr ∧ Other v A5 (tx L) wr) (fun _ c _ => L.length - (intOf c).toNat)
      case atStart => exact ⟨0, Nat.zero_le _, rfl, by omega, by rw [mixT_zero]; exact HSEA5.out, HOTH.out⟩
      case round =>
        clear HSEA5 HOTH
        obtain ⟨j, hj, rfl, hTj, hsea, hoth⟩ := hrel
        have HSEA := Lib.hid hsea
        by_cases hlj : j < L.length
        case neg =>
          have hjl : j = L.length := by omega
          subst hjl
          have HTN : Hid (rowP (ebs es) (pathsE (ebs es) t) b ((outsOf es b).take (k + 1)) = mixT T L (nameOf ix) L.length) := Lib.hid (by
            rw [HTK.out]; exact (HMA.out (by omega)).symm)
          have hlen : (mixT T L (nameOf ix) L.length).length ≤ 400 := by rw [mixT_length (Nat.le_refl _)]; exact hTj
          clear hsea hoth
          go_wp2_with fail
          go_roundw
          case rel => exact ⟨k + 1, by omega, by go_num, by rw [HTN.out]; exact hlen, by rw [HTN.out]; exact HSEA.out⟩
          case measure => simp [intOf]; omega
        obtain ⟨g5, rfl, hlow, hcell⟩ := hoth.texts j (by rw [tx_length]; exact hlj)
        obtain ⟨pt, hpt⟩ : ∃ pt, (tx L)[j]'(by rw [tx_length]; exact hlj) = pt := ⟨_, rfl⟩
        rw [hpt] at hcell
        have hptd : pt.data.toList = L[j] := by rw [← hpt]; simp [tx]
        have hpt8 : pt.size ≤ 8 := by rw [str_size hptd]; exact HL8.out _ (List.getElem_mem hlj)
        obtain ⟨pp, hpp⟩ : ∃ pp : ByteArray, nt ++ pt = pp := ⟨_, rfl⟩
        have HPP := Lib.hid hpp
        have HPD : Hid ((⟨(nameOf ix :: L[j]).toArray⟩ : ByteArray) = pp) := Lib.hid (by
          refine (str_ext ?_).symm
          rw [← hpp, Go.Joins.data_append, HEL.out, hptd]; rfl)
        have hsum : ¬ 9223372036854775807 < nt.size + pt.size := by omega
        have hsum2 : nt.size + pt.size ≤ 9223372036854775807 := by omega
        have hlj2 : (j : Int) < (L.length : Int) := by omega
        have HMS : Hid ((tx (mixT T L (nameOf ix) (j + 1))).map Value.string = (tx (mixT T L (nameOf ix) j)).map Value.string ++ [.string pp]) := Lib.hid (by
          rw [mixT_succ hlj, tx_append, List.map_append, ← HPD.out]; rfl)
        have hXl : ((tx (mixT T L (nameOf ix) j)).map Value.string).length = T.length + j := by rw [List.length_map, tx_length, mixT_length hj]
        obtain ⟨X, hX⟩ : ∃ X, (tx (mixT T L (nameOf ix) j)).map Value.string = X := ⟨_, rfl⟩
        rw [hX] at HMS hXl hsea HSEA
        obtain ⟨nn, hnn⟩ : ∃ nn, T.length + j = nn := ⟨_, rfl⟩
        rw [hnn] at hXl hTj
        have HNN := Lib.hid hnn
        obtain ⟨i0, hi0, hi1, hi2, hi3⟩ := info_parts textCell
        have HI0 := Lib.hid hi0; have HI1 := Lib.hid hi1; have HI2 := Lib.hid hi2; have HI3 := Lib.hid hi3
        have hba : Below wr.heap.size wr (wr.alloc (.cells #[.string pp] 9)) := (Below.refl _ _).alloc (Nat.le_refl _) _
        have HSEA8 := Lib.hid (HSEA.out.go hba)
        have HOTH8 := Lib.hid (hoth.go hba)
        have HNEWS := Lib.hid (one_new wr (.string pp))
        have hone : ∀ u ∈ [Value.string pp], u.oneCell' = true := by intro u hu; simp at hu; subst hu; rfl
        have HONE := Lib.hid hone
        have HZ8 : Hid (w.heap.size + 1 ≤ (wr.alloc (.cells #[.string pp] 9)).heap.size) := Lib.hid HSEA8.out.size
        have HOWN8 : Hid ((wr.alloc (.cells #[.string pp] 9)).ownsRow (w.heap.size + 1) 9 1 u5 nn X) := Lib.hid (by have := HSEA8.out.own; rwa [hXl] at this)
        have HF1 : Hid (nn + 1 ≤ maxLen) := Lib.hid (by unfold maxLen; omega)
        have HF2 : Hid ((nn + 1) * 16 ≤ 140737488355328) := Lib.hid (by omega)
        have HXL := Lib.hid hXl
        clear hi0 hi1 hi2 hi3 hba hone hX hnn hpt hptd hsea hoth hXl
        by_cases hgt : 400 < nn + 1
        · have g1 : (nn : Int) + 1 > 400 := by omega
          have HRES : Hid ((pathsE (ebs es) t b).take 401 = mixT T L (nameOf ix) (j + 1)) := Lib.hid (by
            obtain ⟨R, hR⟩ := HALL.out
            rw [hR]
            exact HMF.out R (j + 1) (by omega) (by have := HNN.out; omega))
          go_wp2_with (first
            | (at_builtin
               refine wpList_append_own_at _ rfl (.tmp 39) (.tmp 47) 43 rfl (w.heap.size + 1) 9 i0 (.string ⟨#[]⟩) 1 16 Try.underlying43 HI0.out HI1.out HI2.out HI3.out rfl (by decide) _ nn X rfl HOWN8.out ⟨wr.heap.size, 0, none⟩ 1 1 [.string pp] rfl rfl HNEWS.out HONE.out HF1.out HF2.out HZ8.out ?_
               intro v9 w9 hown9 hgr9 _ hat9
               go_must (
               have HSEA9 : Hid (SeaV w B A es.length cap v9 ((tx (mixT T L (nameOf ix) (j + 1))).map Value.string) w9) := Lib.hid (HSEA8.out.push hgr9 (by rw [HMS.out]; simpa [HXL.out] using hown9))
               have HOTH9 : Hid (Other v9 (some ⟨g5, 0, none⟩) (tx L) w9) := Lib.hid (HOTH8.out.push hgr9 hat9)
               obtain ⟨g9, c9, hv9, _, _⟩ := hown9.form (by omega)
               subst hv9
               clear hown9 hgr9 hat9)))
          go_ret
          obtain ⟨A', cap', hv, h1, h2⟩ := own_texts (ts := tx (mixT T L (nameOf ix) (j + 1))) (by
            have := HSEA9.out.own
            rwa [List.length_map] at this)
          rw [HRES.out]
          refine ⟨A', cap', ?_, h1, HSEA9.out.below, h2.mono (by omega)⟩
          rw [← hv]; rfl
        have g1 : ¬ ((nn : Int) + 1 > 400) := by omega
        go_wp2_with (first
          | (at_builtin
             refine wpList_append_own_at _ rfl (.tmp 39) (.tmp 47) 43 rfl (w.heap.size + 1) 9 i0 (.string ⟨#[]⟩) 1 16 Try.underlying43 HI0.out HI1.out HI2.out HI3.out rfl (by decide) _ nn X rfl HOWN8.out ⟨wr.heap.size, 0, none⟩ 1 1 [.string pp] rfl rfl HNEWS.out HONE.out HF1.out HF2.out HZ8.out ?_
             intro v9 w9 hown9 hgr9 _ hat9
             go_must (
             have HSEA9 : Hid (SeaV w B A es.length cap v9 ((tx (mixT T L (nameOf ix) (j + 1))).map Value.string) w9) := Lib.hid (HSEA8.out.push hgr9 (by rw [HMS.out]; simpa [HXL.out] using hown9))
             have HOTH9 : Hid (Other v9 (some ⟨g5, 0, none⟩) (tx L) w9) := Lib.hid (HOTH8.out.push hgr9 hat9)
             obtain ⟨g9, c9, hv9, _, _⟩ := hown9.form (by omega)
             subst hv9
             clear hown9 hgr9 hat9)))
        go_roundw
        case rel => exact ⟨j + 1, by omega, by go_num, by have := HNN.out; omega, HSEA9.out, HOTH9.out⟩
        case measure => simp [intOf]; omega

end Go.Proofs.Ytcfcmlbbnpfejaa
