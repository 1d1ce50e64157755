/- The shortest path, by the program. -/
import Derived.Test.YtcfcmlbbnpfejaaQueue2
import Derived.Test.YtcfcmlbbnpfejaaAlong
import Derived.Test.YtcfcmlbbnpfejaaComes
import Derived.Test.YtcfcmlbbnpfejaaIter
import Derived.WalkMore
import Derived.Deep.LoopGhost
namespace Go.Proofs.Ytcfcmlbbnpfejaa
open Go.RowKit

/-- what holds while the program searches -/
structure Sea (w : World) (B : ByteArray) (A : Option Addr) (n cap : Nat) (v : Value) (D Q : Met) (wr : World) : Prop where
  below : Below w.heap.size w wr
  two : Two wr w.heap.size B A n cap
  set : SetAt wr (w.heap.size + 1) ((keysM D).map encL)
  queue : QueueW wr (w.heap.size + 2) 84 v Q
  size : w.heap.size + 2 ≤ wr.heap.size

theorem Sea.go {w wr W : World} {B : ByteArray} {A : Option Addr} {n cap : Nat} {v : Value} {D Q : Met} (h : Sea w B A n cap v D Q wr) (k : Below wr.heap.size wr W) : Sea w B A n cap v D Q W :=
  ⟨h.below.trans (k.mono h.below.size), h.two.below k (by have := h.size; omega), h.set.below k (by have := h.size; omega), h.queue.below k (Nat.le_refl _), Nat.le_trans h.size k.size⟩
theorem Sea.met {w wr W : World} {B : ByteArray} {A : Option Addr} {n cap : Nat} {v : Value} {D D' Q : Met} (h : Sea w B A n cap v D Q wr) (k : wr.grownBy W (some (w.heap.size + 1))) (hs : SetAt W (w.heap.size + 1) ((keysM D').map encL)) : Sea w B A n cap v D' Q W :=
  ⟨h.below.grown k h.below.size (fun q e => by injection e with e; omega), h.two.grown k (by have := h.size; omega) (by intro e; injection e with e; omega), hs,
    h.queue.keep fun b hb hlt _ => k.block b hlt (by intro e; injection e with e; omega), Nat.le_trans h.size k.size⟩
theorem Sea.push {w wr W : World} {B : ByteArray} {A : Option Addr} {n cap : Nat} {v v' : Value} {D Q Q' : Met} (h : Sea w B A n cap v D Q wr) (k : wr.grownBy W v.ownBlock) (hq : QueueW W (w.heap.size + 2) 84 v' Q') : Sea w B A n cap v' D Q' W := by
  have hn : ∀ c, c < w.heap.size + 2 → some c ≠ v.ownBlock := fun c hc e => by have := h.queue.own e.symm; omega
  have hset : SetAt W (w.heap.size + 1) ((keysM D).map encL) := h.set.grown k (hn _ (by omega))
  exact ⟨h.below.grown k h.below.size (fun q e => Nat.le_of_not_lt fun hq => hn q (by omega) e.symm), h.two.grown k (by have := h.size; omega) (hn _ (by omega)), hset, hq, Nat.le_trans h.size k.size⟩
theorem Sea.cut {w wr : World} {B : ByteArray} {A : Option Addr} {n cap : Nat} {v v' : Value} {D Q Q' : Met} (h : Sea w B A n cap v D Q wr) (hq : QueueW wr (w.heap.size + 2) 84 v' Q') : Sea w B A n cap v' D Q' wr :=
  ⟨h.below, h.two, h.set, hq, h.size⟩

theorem wayInfo : (Try.prog.info? 84).map (fun i => (i.zero, i.size, i.bytes)) = some (some (.agg #[.string ⟨#[]⟩, .string ⟨#[]⟩]), 2, 32) := by kernel_rfl

set_option maxRecDepth 100000 in
set_option maxHeartbeats 8000000 in
/-- impl.shortestPath -/
theorem shortestPath_any (B : ByteArray) (A : Option Addr) (cap : Nat) (es : List (ByteArray × ByteArray)) (l : List UInt8) (sb tb : ByteArray) (s t : UInt8) (w : World) (hE : EdgesIn w w.heap.size A es) (hl : es.length ≤ 16) (hL : Lets l es) (hs : s ∈ l) (h8 : l.length ≤ 8) (hsb : sb = ⟨#[s]⟩) (htb : tb = ⟨#[t]⟩) :
    Calls Try.prog 99 #[.agg #[.string B, .slice A es.length cap], .string sb, .string tb] w fun e w' => e = .returned (.string ⟨(pathE (ebs es) s t).toArray⟩) ∧ Below w.heap.size w w' := by
  have HSB := Lib.hid hsb; have HTB := Lib.hid htb; have HLE := Lib.hid hL
  have hen : ∀ x y, ([x], [y]) ∈ ebs es → y ∈ l := by
    intro x y h
    simp only [ebs, List.mem_map, Prod.mk.injEq] at h
    obtain ⟨e, he, h1, h2⟩ := h
    obtain ⟨x', y', hx', hy', _, hy⟩ := hL e he
    rw [hy'] at h2
    injection h2 with h2
    subst h2; exact hy
  have HEN := Lib.hid hen
  clear hsb htb hL hen
  have hst : (sb.toList == tb.toList) = decide (s = t) := by
    rw [Lib.toList_data, Lib.toList_data, HSB.out, HTB.out]
    by_cases h : s = t <;> simp [h]
  have hb1 : Below w.heap.size w (w.alloc (.cells #[.string B, .slice A es.length cap] 25)) := (Below.refl _ _).alloc (Nat.le_refl _) _
  by_cases hstc : s = t
  · rw [decide_eq_true hstc] at hst
    have HQ : Hid (pathE (ebs es) s t = []) := Lib.hid (pathE_of HEN.out hs (bfs_pre (ebs es) s (show 0 ≤ 8 by omega)) (by simp [bfs, hstc]))
    clear hstc
    go_enter Try.func99, Try.ntmps99
    go_wp2_with fail
    go_step3
    go_wp2_with fail
    rw [Exit.noGoto_ret]
    go_ret
    exact ⟨by rw [HQ.out]; rfl, hb1⟩
  rw [decide_eq_false hstc] at hst
  have hmm := @run_makeMap Try.prog
  have t2 : Two ((w.alloc (.cells #[.string B, .slice A es.length cap] 25)).alloc (.map #[] 0)) w.heap.size B A es.length cap := ⟨by go_simp, by go_simp⟩
  have hb2 : Below w.heap.size w ((w.alloc (.cells #[.string B, .slice A es.length cap] 25)).alloc (.map #[] 0)) := hb1.alloc (by simp) _
  have hz2 : ((w.alloc (.cells #[.string B, .slice A es.length cap] 25)).alloc (.map #[] 0)).heap.size = w.heap.size + 2 := by simp
  have hs2 : SetAt ((w.alloc (.cells #[.string B, .slice A es.length cap] 25)).alloc (.map #[] 0)) (w.heap.size + 1) (([] : List UInt8).map encL) := by
    have := SetAt.new (enc := encL) (w.alloc (.cells #[.string B, .slice A es.length cap] 25))
    rwa [World.size_alloc] at this
  have HS2 := Lib.hid hs2; have HT2 := Lib.hid t2; have HB2 := Lib.hid hb2; have HZ2 := Lib.hid hz2; have HNE := Lib.hid hstc
  clear hs2 t2 hb2 hz2 hb1 hstc
  go_enter Try.func99, Try.ntmps99
  go_wp2_with fail
  go_step3
  go_wp2_with (refine wpList_update_set rfl (.tmp 17) (.tmp 18) 73 (.inr rfl) (keyL Try.underlying9) Try.underlying73 (w.heap.size + 1) [] rfl HS2.out s (by show Value.string sb = encL s; rw [HSB.out]; rfl) (by simp) ?_; intro w3 hset3 hgr3)
  clear hmm hst
  have hz3 : w.heap.size + 2 ≤ w3.heap.size := by have := hgr3.size; have := HZ2.out; omega
  have t3 := HT2.out.grown hgr3 (by have := HZ2.out; omega) (by intro e; injection e with e; omega)
  have hb3 : Below w.heap.size w w3 := HB2.out.grown hgr3 HB2.out.size (fun q e => by injection e with e; omega)
  have hba : Below w3.heap.size w3 (w3.alloc (.cells #[.string sb, .string ⟨#[]⟩] 84)) := (Below.refl _ _).alloc (Nat.le_refl _) _
  have hq3 : QueueW (w3.alloc (.cells #[.string sb, .string ⟨#[]⟩] 84)) (w.heap.size + 2) 84 (.slice (some ⟨w3.heap.size, 0, none⟩) 1 1) [(s, [])] := by
    have h := QueueW.one w3 (w.heap.size + 2) 84 (s, []) hz3
    rw [HSB.out]
    exact h
  have HSEA : Hid (Sea w B A es.length cap (.slice (some ⟨w3.heap.size, 0, none⟩) 1 1) (bfs (ebs es) s 0) (bfs (ebs es) s 0) (w3.alloc (.cells #[.string sb, .string ⟨#[]⟩] 84))) := Lib.hid
    ⟨hb3.trans (hba.mono hb3.size), t3.below hba (by omega), (SetAt.below hset3 hba (by omega)), hq3, by simp; omega⟩
  clear hset3 hgr3 hz3 t3 hb3 hba hq3
  go_step3
  go_wp2_with fail
  generalize hW4 : w3.alloc (.cells #[.string sb, .string ⟨#[]⟩] 84) = w4 at HSEA ⊢
  clear hW4
  go_loopg [7, 9] 9 (fun g f v wr => ∃ i : Nat, i + g = 9 ∧ f = .string ⟨#[]⟩ ∧ i ≤ (bfs (ebs es) s i).length ∧ t ∉ keysM (bfs (ebs es) s i) ∧ Sea w B A es.length cap v (bfs (ebs es) s i) ((bfs (ebs es) s i).drop i) wr)
  case atStart => exact ⟨0, by omega, rfl, Nat.zero_le _, by simp [bfs, keysM]; exact fun e => HNE.out e.symm, HSEA.out⟩
  case round =>
    obtain ⟨i, hig, rfl, hi, htn, hsea⟩ := hrel
    have hok := bfs_ok HEN.out hs i
    have hD8 : (bfs (ebs es) s i).length ≤ 8 := Nat.le_trans hok.len h8
    have HPL := Lib.hid (bfs_plen (E := ebs es) (s := s) i)
    obtain ⟨D, hD⟩ : ∃ D, bfs (ebs es) s i = D := ⟨_, rfl⟩
    have HD := Lib.hid hD
    rw [hD] at hi htn hsea hok hD8 HPL
    obtain ⟨Q, hQ⟩ : ∃ Q, D.drop i = Q := ⟨_, rfl⟩
    rw [hQ] at hsea
    obtain ⟨vb, vo, vc, rfl, hvc, hvm⟩ := hsea.queue.form
    have HSEA := Lib.hid hsea; have HTN := Lib.hid htn; have HOK := Lib.hid hok
    clear hsea htn hok hD
    cases Q with
    | nil =>
      have hiD : D.length ≤ i := List.drop_eq_nil_iff.1 hQ
      have HQ : Hid (pathE (ebs es) s t = []) := Lib.hid (pathE_none (i := i) (by rw [HD.out]; exact hiD) (by omega) (by rw [HD.out]; exact HTN.out))
      have hbw := HSEA.out.below
      clear hQ
      simp only [List.length_nil] at hvc ⊢
      go_wp2_with fail
      rw [Exit.noGoto_ret]
      go_ret
      exact ⟨by rw [HQ.out]; rfl, hbw⟩
    | cons x Q =>
      obtain ⟨b, p⟩ := x
      have hgi : D[i]? = some (b, p) := by
        have h := congrArg (fun z => z[0]?) hQ
        simpa using h
      have hiD : i < D.length := (List.getElem?_eq_some_iff.1 hgi).1
      have hdr : D.drop (i + 1) = Q := by
        have h := congrArg List.tail hQ
        simpa using h
      have hpl : p.length ≤ 8 := by
        have := HPL.out (b, p) (List.mem_of_getElem? hgi)
        simp only at this; omega
      have hbk : b ∈ keysM D := List.mem_map_of_mem (f := (·.1)) (List.mem_of_getElem? hgi)
      obtain ⟨g, rfl⟩ : ∃ g, gk = g + 1 := ⟨gk - 1, by omega⟩
      have hsea := HSEA.out
      obtain ⟨hc0, hc1, hvb, hvb2⟩ := hsea.queue.first
      have hqt := hsea.queue.tail
      simp only [List.length_cons] at hvc hqt hc0 hc1 ⊢
      have hsl : ∀ W', (Instr.slice 126 (.slice (some ⟨vb, vo, none⟩) (Q.length + 1) vc) (some (.int .i64 1)) none none).run Try.prog W' = .ok (.slice (if vc = 1 then some ⟨vb, vo, none⟩ else some ⟨vb, vo + 2, none⟩) (Q.length + 1 - 1) (vc - 1)) W' := by
        intro W'
        rw [run_slice_l (P := Try.prog) (w := W') 126 (some ⟨vb, vo, none⟩) (Q.length + 1) vc (by kernel_rfl) .i64 1 (by decide) (by omega)]
        simp [sliced, go_sem]
      obtain ⟨qv, hqv⟩ : ∃ v, v = Value.slice (if vc = 1 then some ⟨vb, vo, none⟩ else some ⟨vb, vo + 2, none⟩) (Q.length + 1 - 1) (vc - 1) := ⟨_, rfl⟩
      have hqo : some wr.heap.size ≠ qv.ownBlock := by
        rw [hqv]
        split <;> (intro e; injection e with e; simp only at e; omega)
      rw [← hqv] at hsl hqt
      obtain ⟨bb, hbb⟩ : ∃ bb : ByteArray, (⟨#[b]⟩ : ByteArray) = bb := ⟨_, rfl⟩
      obtain ⟨pp, hpp⟩ : ∃ pp : ByteArray, (⟨p.toArray⟩ : ByteArray) = pp := ⟨_, rfl⟩
      rw [hbb] at hc0
      rw [hpp] at hc1
      have hpps : pp.size ≤ 8 := by rw [← hpp]; show p.toArray.size ≤ 8; simpa using hpl
      have HBB := Lib.hid hbb; have HPP := Lib.hid hpp; have HGI := Lib.hid hgi; have HDR := Lib.hid hdr; have HBK := Lib.hid hbk; have HQO := Lib.hid hqo
      have hba : Below wr.heap.size wr (wr.alloc (.cells #[.string bb, .string pp] 84)) := (Below.refl _ _).alloc (Nat.le_refl _) _
      have HSEA2 : Hid (Sea w B A es.length cap qv D Q (wr.alloc (.cells #[.string bb, .string pp] 84))) := Lib.hid ((hsea.cut hqt).go hba)
      have hd0 := HSEA2.out.two.1; have hd1 := HSEA2.out.two.2
      have hh0 : (wr.alloc (.cells #[.string bb, .string pp] 84)).cell? ⟨wr.heap.size, 0, none⟩ = some (.string bb) := by go_simp
      have hh1 : (wr.alloc (.cells #[.string bb, .string pp] 84)).cell? ⟨wr.heap.size, 1, none⟩ = some (.string pp) := by go_simp
      have hzh : wr.heap.size < (wr.alloc (.cells #[.string bb, .string pp] 84)).heap.size := by simp
      have hzm := hsea.size
      clear hqv hbb hpp hgi hdr hbk hQ hqt hsea hqo hba hvb hvb2 HSEA hpl
      go_wp2_with fail
      clear hsl hc0 hc1
      generalize hW5 : wr.alloc (.cells #[.string bb, .string pp] 84) = w5 at HSEA2 hd0 hd1 hh0 hh1 hzh ⊢
      clear hW5
      obtain ⟨hb, hhb⟩ : ∃ hb, wr.heap.size = hb := ⟨_, rfl⟩
      rw [hhb] at hh0 hh1 hzh hzm HQO ⊢
      clear hhb hd0 hd1
      have HH0 := Lib.hid hh0; have HH1 := Lib.hid hh1
      clear hh0 hh1
      go_loopg [7, 9, 34] es.length (fun g2 f v c wi => ∃ k : Nat, k + g2 = es.length ∧ f = .string ⟨#[]⟩ ∧ c = .int .i64 k ∧ t ∉ keysM (rowE (ebs es) b p D k) ∧ Sea w B A es.length cap v (rowE (ebs es) b p D k) ((rowE (ebs es) b p D k).drop (i + 1)) wi ∧
        wi.cell? ⟨hb, 0, none⟩ = some (.string bb) ∧ wi.cell? ⟨hb, 1, none⟩ = some (.string pp) ∧ some hb ≠ v.ownBlock ∧ hb < wi.heap.size)
      case atStart => exact ⟨0, by omega, rfl, rfl, HTN.out, by rw [rowE_zero, HDR.out]; exact HSEA2.out, HH0.out, HH1.out, HQO.out, hzh⟩
      case round =>
        clear HSEA2 HQO hzh HH0 HH1
        obtain ⟨k, hkg, rfl, rfl, htk, hsea, hh0, hh1, hnb, hbw⟩ := hrel
        obtain ⟨D1, hD1⟩ : ∃ D1, rowE (ebs es) b p D k = D1 := ⟨_, rfl⟩
        have HD1 := Lib.hid hD1
        rw [hD1] at htk hsea
        have HSEA := Lib.hid hsea; have HTK := Lib.hid htk; have HNB := Lib.hid hnb
        clear hD1 htk hsea hnb
        have hel : (ebs es).length = es.length := by simp [ebs]
        have HBF : Hid (bfs (ebs es) s (i + 1) = rowE (ebs es) b p D es.length) := Lib.hid (by rw [bfs_some (by rw [HD.out]; exact HGI.out), HD.out, hel])
        clear hel
        by_cases hlt : k < es.length
        case neg =>
          have hke : k = es.length := by omega
          have HD2 : Hid (bfs (ebs es) s (i + 1) = D1) := Lib.hid (by rw [HBF.out, ← hke, HD1.out])
          have hgl : i + 1 ≤ D1.length := by
            have h := (rowE_pre (ebs es) b p D (Nat.zero_le k)).length_le
            rw [rowE_zero, HD1.out] at h
            omega
          clear hh0 hh1
          go_wp2_with fail
          go_roundg g
          case measure => omega
          case rel => exact ⟨i + 1, by omega, rfl, by rw [HD2.out]; exact hgl, by rw [HD2.out]; exact HTK.out, by rw [HD2.out]; exact HSEA.out⟩
        obtain ⟨x, y, hx, hy, _, hyl⟩ := HLE.out es[k] (List.getElem_mem hlt)
        have hek : (ebs es)[k]? = some ([x], [y]) := by
          simp only [ebs, List.getElem?_map, List.getElem?_eq_getElem hlt, Option.map_some, hx, hy]
        have HST : Hid (rowE (ebs es) b p D (k + 1) = stepE (ebs es) b p D1 k) := Lib.hid (by rw [rowE_succ, HD1.out])
        have HEK := Lib.hid hek; have HX := Lib.hid (bytes_one hx); have HY := Lib.hid (bytes_one hy)
        obtain ⟨eb, eo, hAe, hlow, h1, h2⟩ := (hE.below HSEA.out.below) k hlt
        subst hAe
        have hbe : Below wr.heap.size wr (wr.alloc (.cells #[.string es[k].1, .string es[k].2] 72)) := (Below.refl _ _).alloc (Nat.le_refl _) _
        have HSEAE := Lib.hid (HSEA.out.go hbe)
        have hh0e := (hbe.cell (p := ⟨hb, 0, none⟩) hbw).trans hh0
        have hh1e := (hbe.cell (p := ⟨hb, 1, none⟩) hbw).trans hh1
        have hxb : (es[k].1.toList == bb.toList) = decide (x = b) := by
          rw [Lib.toList_data, Lib.toList_data, hx, ← HBB.out]
          by_cases h : x = b <;> simp [h]
        have hze : wr.heap.size < (wr.alloc (.cells #[.string es[k].1, .string es[k].2] 72)).heap.size := by simp
        have HZE := Lib.hid hze
        have hlk := HSEAE.out.set.lookup (P := Try.prog) (keyL Try.underlying9) (t := 73) (e := 4) Try.underlying73 (by kernel_rfl) y
        rw [show encL y = .string es[k].2 by rw [HY.out]; rfl] at hlk
        have HLK := Lib.hid hlk
        have HBE := Lib.hid hbe
        clear hx hy hek hbe hze hh0 hh1 hlk
        obtain ⟨g3, rfl⟩ : ∃ g3, gk = g3 + 1 := ⟨gk - 1, by omega⟩
        by_cases hc : x = b ∧ y ∉ keysM D1
        case neg =>
          have HNO : Hid (rowE (ebs es) b p D (k + 1) = D1) := Lib.hid (by rw [HST.out, stepE_no HEK.out hc])
          by_cases hxb' : x = b
          · have hym : y ∈ keysM D1 := Classical.byContradiction fun h => hc ⟨hxb', h⟩
            rw [decide_eq_true hxb'] at hxb
            have hxb2 : (es[k].1.toList != bb.toList) = false := by simp [bne, hxb]
            have hlk := HLK.out
            rw [decB_t hym] at hlk
            clear hc hxb' hym
            go_wp2_with fail
            go_roundg g3
            case measure => omega
            case rel => exact ⟨k + 1, by omega, rfl, by go_num, by rw [HNO.out]; exact HTK.out, by rw [HNO.out]; exact HSEAE.out, hh0e, hh1e, HNB.out, Nat.lt_trans hbw HZE.out⟩
          · rw [decide_eq_false hxb'] at hxb
            have hxb2 : (es[k].1.toList != bb.toList) = true := by simp [bne, hxb]
            clear hc hxb'
            go_wp2_with fail
            go_roundg g3
            case measure => omega
            case rel => exact ⟨k + 1, by omega, rfl, by go_num, by rw [HNO.out]; exact HTK.out, by rw [HNO.out]; exact HSEAE.out, hh0e, hh1e, HNB.out, Nat.lt_trans hbw HZE.out⟩
        obtain ⟨hxbc, hyn⟩ := hc
        have HYES : Hid (rowE (ebs es) b p D (k + 1) = D1 ++ [(y, p ++ [nameL k])]) := Lib.hid (by rw [HST.out, stepE_yes HEK.out hxbc hyn])
        rw [decide_eq_true hxbc] at hxb
        have hxb2 : (es[k].1.toList != bb.toList) = false := by simp [bne, hxb]
        have hlk := HLK.out
        rw [decB_f hyn] at hlk
        have HYN := Lib.hid hyn
        have hd0 := HSEAE.out.two.1; have hd1 := HSEAE.out.two.2
        have hiD1 : i < D1.length := by
          have h := (rowE_pre (ebs es) b p D (Nat.zero_le k)).length_le
          rw [rowE_zero, HD1.out] at h
          omega
        clear hxbc hyn
        go_wp2_with fail
        clear hlk hxb hxb2
        generalize hWE : wr.alloc (.cells #[.string es[k].1, .string es[k].2] 72) = we at HSEAE hh0e hh1e HZE HLK HBE hd0 hd1 ⊢
        clear hWE
        refine (along_any bb pp B (some ⟨eb, eo, none⟩) cap es k _ ((hE.below HSEAE.out.below).more HSEAE.out.below.size) (by omega) hlt (by omega)).mono ?_
        rintro e w6 ⟨rfl, hb6⟩
        have hhe : hb < we.heap.size := Nat.lt_trans hbw HZE.out
        have HSEA6 := Lib.hid (HSEAE.out.go hb6)
        have hh06 := (hb6.cell (p := ⟨hb, 0, none⟩) hhe).trans hh0e
        have hh16 := (hb6.cell (p := ⟨hb, 1, none⟩) hhe).trans hh1e
        have hz6 := hb6.size
        clear hb6 hh0e hh1e hd0 hd1 HLK HBE HSEAE HSEA
        obtain ⟨np, hnp⟩ : ∃ np : ByteArray, pp ++ ⟨#[nameOf k]⟩ = np := ⟨_, rfl⟩
        rw [hnp]
        have HNP : Hid (np = ⟨(p ++ [nameL k]).toArray⟩) := Lib.hid (by
          rw [← hnp]
          apply bytes_ext
          rw [Go.Joins.data_append, ← HPP.out]
          simp [nameOf, nameL])
        have hba : Below w6.heap.size w6 (w6.alloc (.cells #[.string es[k].2, .string np] 84)) := (Below.refl _ _).alloc (Nat.le_refl _) _
        have HSEA7 := Lib.hid (HSEA6.out.go hba)
        have hh07 := (hba.cell (p := ⟨hb, 0, none⟩) (by simp only; omega)).trans hh06
        have hh17 := (hba.cell (p := ⟨hb, 1, none⟩) (by simp only; omega)).trans hh16
        have hn0 : (w6.alloc (.cells #[.string es[k].2, .string np] 84)).cell? ⟨w6.heap.size, 0, none⟩ = some (.string es[k].2) := by go_simp
        have hn1 : (w6.alloc (.cells #[.string es[k].2, .string np] 84)).cell? ⟨w6.heap.size, 1, none⟩ = some (.string np) := by go_simp
        have hz7 : (w6.alloc (.cells #[.string es[k].2, .string np] 84)).heap.size = w6.heap.size + 1 := by simp
        have hyt : (es[k].2.toList == tb.toList) = decide (y = t) := by
          rw [Lib.toList_data, Lib.toList_data, HY.out, HTB.out]
          by_cases h : y = t <;> simp [h]
        clear hnp hba hh06 hh16 HSEA6
        by_cases hytc : y = t
        · rw [decide_eq_true hytc] at hyt
          have HQ : Hid (pathE (ebs es) s t = p ++ [nameL k]) := Lib.hid (by
            refine pathE_of HEN.out hs (D := rowE (ebs es) b p D (k + 1)) ?_ (by rw [HYES.out, ← hytc]; simp)
            refine (rowE_pre (ebs es) b p D (show k + 1 ≤ es.length by omega)).trans ?_
            rw [← HBF.out]
            exact bfs_pre (ebs es) s (by omega))
          have hbw7 := HSEA7.out.below
          clear hytc
          go_wp2_with fail
          (try rw [Exit.noGoto_ret])
          go_ret
          exact ⟨by rw [HQ.out, ← HNP.out]; rfl, hbw7⟩
        rw [decide_eq_false hytc] at hyt
        have HYT := Lib.hid hytc
        obtain ⟨i0, hi0, hi1, hi2, hi3⟩ := info_parts wayInfo
        have HI0 := Lib.hid hi0; have HI1 := Lib.hid hi1; have HI2 := Lib.hid hi2; have HI3 := Lib.hid hi3
        clear hytc hi0 hi1 hi2 hi3
        have tok1 : True := trivial
        go_wp2_with (first
          | (at_mapUpdate; go_must (
             refine wpList_update_set rfl (.tmp 60) (.tmp 62) 73 (.inl rfl) (keyL Try.underlying9) Try.underlying73 (w.heap.size + 1) (keysM D1) rfl HSEA7.out.set y (by show Value.string es[k].2 = encL y; rw [HY.out]; rfl) HYN.out ?_
             intro w8 hset8 hgr8
             have hkm : keysM D1 ++ [y] = keysM (D1 ++ [(y, p ++ [nameL k])]) := by simp [keysM]
             rw [hkm] at hset8
             have HSEA8 := Lib.hid (HSEA7.out.met hgr8 hset8)
             have hz8 : w6.heap.size + 1 ≤ w8.heap.size := by have := hgr8.size; omega
             have g0 := (World.cell?_of_block (a := ⟨w6.heap.size, 0, none⟩) (hgr8.block w6.heap.size (by omega) (by intro e; injection e with e; omega))).trans hn0
             have g1 := (World.cell?_of_block (a := ⟨w6.heap.size, 1, none⟩) (hgr8.block w6.heap.size (by omega) (by intro e; injection e with e; omega))).trans hn1
             have hh08 := (World.cell?_of_block (a := ⟨hb, 0, none⟩) (hgr8.block hb (by omega) (by intro e; injection e with e; omega))).trans hh07
             have hh18 := (World.cell?_of_block (a := ⟨hb, 1, none⟩) (hgr8.block hb (by omega) (by intro e; injection e with e; omega))).trans hh17
             clear hset8 hgr8 hkm hn0 hn1 hh07 hh17))
          | (at_builtin; go_must (
             have hba : Below w8.heap.size w8 (w8.alloc (.cells #[.string es[k].2, .string np] 84)) := (Below.refl _ _).alloc (Nat.le_refl _) _
             have hsea9 := HSEA8.out.go hba
             have hu : ∀ j u', [Value.string ⟨#[(y, p ++ [nameL k]).1]⟩, Value.string ⟨(y, p ++ [nameL k]).2.toArray⟩][j]? = some u' → (w8.alloc (.cells #[.string es[k].2, .string np] 84)).cell? ((⟨w8.heap.size, 0, none⟩ : Addr).add j) = some u' := by
               intro j u' hj
               rw [← HNP.out, ← HY.out] at hj
               match j, hj with
               | 0, hj => simp at hj; subst hj; simp [Addr.add]
               | 1, hj => simp at hj; subst hj; simp [Addr.add]
               | j + 2, hj => simp at hj
             have hh09 := (hba.cell (p := ⟨hb, 0, none⟩) (by simp only; omega)).trans hh08
             have hh19 := (hba.cell (p := ⟨hb, 1, none⟩) (by simp only; omega)).trans hh18
             have hzb : (w8.alloc (.cells #[.string es[k].2, .string np] 84)).heap.size = w8.heap.size + 1 := by simp
             refine wpList_append_queueW _ rfl (.tmp 63) (.tmp 65) 126 rfl (w.heap.size + 2) 84 i0 (.agg #[.string ⟨#[]⟩, .string ⟨#[]⟩]) 32 Try.underlying126 HI0.out HI1.out HI2.out HI3.out rfl _ (D1.drop (i + 1)) rfl hsea9.queue ⟨w8.heap.size, 0, none⟩ 1 (y, p ++ [nameL k]) rfl hu (by
               have h := (rowE_ok (b := b) (p := p) HEN.out HOK.out k).len
               rw [HD1.out] at h
               simp only [List.length_drop]
               omega) (by decide) hsea9.size ?_
             intro v9 w9 hq9 hgr9 hown9
             have hdrop : D1.drop (i + 1) ++ [(y, p ++ [nameL k])] = (D1 ++ [(y, p ++ [nameL k])]).drop (i + 1) := (List.drop_append_of_le_length (by omega)).symm
             rw [hdrop] at hq9
             have HSEA9 := Lib.hid (hsea9.push hgr9 hq9)
             have HH09 := Lib.hid ((World.cell?_of_block (a := ⟨hb, 0, none⟩) (hgr9.block hb (by omega) HNB.out)).trans hh09)
             have HH19 := Lib.hid ((World.cell?_of_block (a := ⟨hb, 1, none⟩) (hgr9.block hb (by omega) HNB.out)).trans hh19)
             have HNB9 : Hid (some hb ≠ v9.ownBlock) := Lib.hid fun e => by
               rcases hown9 hb e.symm with h | h
               · exact HNB.out h.symm
               · omega
             have hz9 : w8.heap.size + 1 ≤ w9.heap.size := by have := hgr9.size; omega
             clear hq9 hgr9 hown9 hdrop hsea9 hba hu hh09 hh19 hzb)))
        go_roundg g3
        case measure => omega
        case rel => exact ⟨k + 1, by omega, rfl, by go_num, by rw [HYES.out]; simp only [keysM, List.map_append, List.map_cons, List.map_nil, List.mem_append, List.mem_singleton, not_or]; exact ⟨HTK.out, fun e => HYT.out e.symm⟩, by rw [HYES.out]; exact HSEA9.out, HH09.out, HH19.out, HNB9.out, by omega⟩

end Go.Proofs.Ytcfcmlbbnpfejaa
