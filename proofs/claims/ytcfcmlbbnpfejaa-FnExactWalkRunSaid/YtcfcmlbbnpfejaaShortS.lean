/- The shortest path to the exit, by the model. -/
import Derived.Test.YtcfcmlbbnpfejaaBfs
import Derived.Test.YtcfcmlbbnpfejaaAppend
import Derived.Test.YtcfcmlbbnpfejaaPaths
import Derived.Test.YtcfcmlbbnpfejaaOutL
import Derived.Test.YtcfcmlbbnpfejaaSpec2
import Derived.Test.YtcfcmlbbnpfejaaGraph
import Derived.Deep.RegionHeld3
namespace Go.Proofs.Ytcfcmlbbnpfejaa
open Go.RowKit

theorem textInfo : (Try.prog.info? 9).map (fun i => (i.zero, i.size, i.bytes)) = some (some (.string ⟨#[]⟩), 1, 16) := by kernel_rfl

/-- the paths, as cells -/
def waysV (D : Met) : List Value := D.map fun x => .string ⟨x.2.toArray⟩

/-- what holds while the model searches -/
structure Sea2 (w : World) (B : ByteArray) (A : Option Addr) (n cap : Nat) (v : Value) (D : Met) (wr : World) : Prop where
  below : Below w.heap.size w wr
  two : Two wr w.heap.size B A n cap
  own : wr.ownsRow (w.heap.size + 1) 9 1 v D.length (waysV D)
  size : w.heap.size + 1 ≤ wr.heap.size

theorem Sea2.go {w wr W : World} {B : ByteArray} {A : Option Addr} {n cap : Nat} {v : Value} {D : Met} (h : Sea2 w B A n cap v D wr) (k : Below wr.heap.size wr W) : Sea2 w B A n cap v D W :=
  ⟨h.below.trans (k.mono h.below.size), h.two.below k (by have := h.size; omega), ownsRow_of_block h.own fun b hb => k.block b (ownBlock_lt h.own hb).2, Nat.le_trans h.size k.size⟩
theorem Sea2.push {w wr W : World} {B : ByteArray} {A : Option Addr} {n cap : Nat} {v v' : Value} {D D' : Met} (h : Sea2 w B A n cap v D wr) (k : wr.grownBy W v.ownBlock) (hq : W.ownsRow (w.heap.size + 1) 9 1 v' D'.length (waysV D')) : Sea2 w B A n cap v' D' W := by
  have hn : ∀ c, c < w.heap.size + 1 → some c ≠ v.ownBlock := fun c hc => own_block h.own hc
  exact ⟨h.below.grown k h.below.size (fun q e => Nat.le_of_not_lt fun hq => hn q (by omega) e.symm), h.two.grown k (by have := h.size; omega) (hn _ (by omega)), hq, Nat.le_trans h.size k.size⟩


section
variable {w : World} {P : Program}
/-- an append to a row of the call's own, where a region draws its order: what the row held stays where it lay -/
theorem step_append_kept {ops : Array Oper} {o : Oper} {a : Act} {K : Act → World → Prop} {Q : Exit → Act → World → Prop} {E : Prop} (hgd : o.guard = none) (s x : Operand) (t : TypeId)
    (ho : o.op = .call { callee := .builtin .append, args := #[s, x], argTypes := #[t, t] })
    (base : Nat) (e : TypeId) (i : TypeInfo) (z : Value) (size bytes : Nat) (ht : P.underlying t = some (.slice e)) (hi : P.info? e = some i) (hz : i.zero = some z)
    (hsize : i.size = size) (hby : i.bytes = bytes) (hzs : z.cells.size = size) (hsz : 0 < size)
    (g0 c0 : Nat) (n : Nat) (xs : List Value) (hs : a.eval s = .slice (some ⟨g0, 0, none⟩) n c0) (hown : w.ownsRow base e size (.slice (some ⟨g0, 0, none⟩) n c0) n xs)
    (ad : Addr) (m c : Nat) (news : List Value) (hx : a.eval x = .slice (some ad) m c) (hl : news.length = m * size) (hnews : ∀ j u, news[j]? = some u → w.cell? (ad.add j) = some u) (h1 : ∀ u ∈ news, u.oneCell' = true)
    (h63 : n + m ≤ maxLen) (hbytes : (n + m) * bytes ≤ 140737488355328) (hbase : base ≤ w.heap.size)
    (h : ∀ v' w', w'.ownsRow base e size v' (n + m) (xs ++ news) → w.grownBy w' (Value.slice (some ⟨g0, 0, none⟩) n c0).ownBlock → (∀ j u, xs[j]? = some u → w'.cell? ((⟨g0, 0, none⟩ : Addr).add j) = some u) → K (a.put o.dst v') w') :
    if Region.wanted o (yielded ops a.tmps) = true then Oper.wp P o a w K Q else E := by
  have hw : Region.wanted o (yielded ops a.tmps) = true := by simp [Region.wanted, hgd]
  rw [if_pos hw]
  obtain ⟨v', w', hr, h2, h3, -⟩ := run_append_own (P := P) w base t o.type e i z size bytes ht hi hz hsize hby hzs hsz _ n xs hown ad m c news hl hnews h1 h63 hbytes hbase
  have hk : ∀ j u, xs[j]? = some u → w'.cell? ((⟨g0, 0, none⟩ : Addr).add j) = some u := by
    have hcs := hown.cells (g := g0) rfl
    subst hsize
    subst hby
    rcases hown.2 with ⟨h, -⟩ | ⟨g, cap, cur, hv, hbg, hg, hnc, hcm, hcz, htake⟩
    · simp at h
    · injection hv with e1 e2 e3
      injection e1 with e1
      injection e1 with e1
      subst e1; subst e3
      by_cases hroom : n + m ≤ c0
      · have hfit : n * i.size + news.length ≤ cur.size := by rw [hl, hcz, ← Nat.add_mul]; exact Nat.mul_le_mul_right _ hroom
        have hr2 := run_append_room (P := P) w t o.type e i ht hi g0 n c0 cur hg ad m c news hl hnews h1 hroom hfit
        rw [hr2] at hr
        injection hr with e4 e5
        subst e4
        intro j u hj
        refine h2.cells (g := g0) rfl j u ?_
        rw [List.getElem?_append_left (List.getElem?_eq_some_iff.1 hj).1]
        exact hj
      · have hr2 := run_append_grow (P := P) w t o.type e i z ht hi hz ⟨g0, 0, none⟩ n c0 xs hown.1 hcs ad m c news hl hnews (by omega) (by simp only [maxLen] at h63; omega) (growslice_fits (by omega) hbytes)
        rw [hr2] at hr
        injection hr with e4 e5
        subst e5
        intro j u hj
        rw [← hcs j u hj]
        have hlt : g0 < w.drew.heap.size := (Array.getElem?_eq_some_iff.1 hg).1
        have hadd : ((⟨g0, 0, none⟩ : Addr).add j).block = g0 := by unfold Addr.add; split <;> simp_all
        exact (World.cell?_of_block (by rw [hadd]; exact heap_alloc_old w.drew _ hlt)).trans rfl
  unfold Oper.wp execOp
  simp only [ho, resolve, invoke, builtin, Sem.run_bind, Sem.run_pure, Result.andThen_ok, List.map_toArray, List.map_cons, List.map_nil, hs, hx, hr]
  exact h v' w' h2 h3 hk
end

set_option maxRecDepth 100000 in
set_option maxHeartbeats 8000000 in
/-- spec.l2Short -/
theorem l2Short_any (B : ByteArray) (A : Option Addr) (cap : Nat) (es : List (ByteArray × ByteArray)) (l : List UInt8) (sb : ByteArray) (s t : UInt8) (w : World) (hE : EdgesIn w w.heap.size A es) (hl : es.length ≤ 16) (hL : Lets l es) (hs : s ∈ l) (h8 : l.length ≤ 8) (hsb : sb.data.toList = [s]) (hB1 : 1 ≤ B.size) (hBm : B.size ≤ maxLen) (htb : B.extract (B.size - 1) B.size = ⟨#[t]⟩) :
    Calls Try.prog 116 #[.agg #[.string B, .slice A es.length cap], .string sb] w fun e w' => e = .returned (.string ⟨(pathE (ebs es) s t).toArray⟩) ∧ Below w.heap.size w w' := by
  have hen : ∀ x y, ([x], [y]) ∈ ebs es → y ∈ l := by
    intro x y h
    simp only [ebs, List.mem_map, Prod.mk.injEq] at h
    obtain ⟨e, he, h1, h2⟩ := h
    obtain ⟨x', y', hx', hy', _, hy⟩ := hL e he
    rw [hy'] at h2
    injection h2 with h2
    subst h2; exact hy
  have HEN := Lib.hid hen; have HLE := Lib.hid hL; have HSB := Lib.hid hsb
  obtain ⟨tb, htb'⟩ : ∃ tb : ByteArray, tb = ⟨#[t]⟩ := ⟨_, rfl⟩
  have HTB := Lib.hid htb'
  have HEXIT : Hid (∀ W : World, Calls Try.prog 115 #[.agg #[.string B, .slice A es.length cap]] W fun e w' => e = .returned (.string tb) ∧ Below W.heap.size W w') := Lib.hid fun W => by
    rw [htb', ← htb]
    exact l1Exit_any B _ W hB1 hBm
  have hbA : Below w.heap.size w ((w.alloc (.cells #[.string B, .slice A es.length cap] 25)).alloc (.cells #[.string ⟨#[]⟩] 9)) := ((Below.refl _ _).alloc (Nat.le_refl _) _).alloc (by simp) _
  have htA : Two ((w.alloc (.cells #[.string B, .slice A es.length cap] 25)).alloc (.cells #[.string ⟨#[]⟩] 9)) w.heap.size B A es.length cap := ⟨by go_simp, by go_simp⟩
  have hoA : ((w.alloc (.cells #[.string B, .slice A es.length cap] 25)).alloc (.cells #[.string ⟨#[]⟩] 9)).ownsRow (w.heap.size + 1) 9 1 (.slice (some ⟨w.heap.size + 1, 0, none⟩) 1 1) (bfs (ebs es) s 0).length (waysV (bfs (ebs es) s 0)) := by
    have hh := World.alloc_heap_new (w.alloc (.cells #[.string B, .slice A es.length cap] 25)) (.cells #[.string ⟨#[]⟩] 9)
    rw [World.size_alloc] at hh
    exact ⟨rfl, .inr ⟨_, 1, _, rfl, Nat.le_refl _, hh, by simp [bfs], by unfold maxLen; omega, rfl, rfl⟩⟩
  have HSEA : Hid (Sea2 w B A es.length cap (.slice (some ⟨w.heap.size + 1, 0, none⟩) 1 1) (bfs (ebs es) s 0) ((w.alloc (.cells #[.string B, .slice A es.length cap] 25)).alloc (.cells #[.string ⟨#[]⟩] 9))) := Lib.hid ⟨hbA, htA, hoA, by simp⟩
  clear hen hL hsb htb htb' hbA htA hoA hB1 hBm
  go_enter Try.func116, Try.ntmps116
  go_wp2_with fail
  generalize hW1 : (w.alloc (.cells #[.string B, .slice A es.length cap] 25)).alloc (.cells #[.string ⟨#[]⟩] 9) = w1 at HSEA ⊢
  clear hW1
  go_loopw [5, 6, 7] (fun a v c wr => ∃ (i : Nat) (sx : ByteArray), a = .string sx ∧ c = .int .i64 i ∧ i ≤ (bfs (ebs es) s i).length ∧ sx.data.toList = keysM (bfs (ebs es) s i) ∧ (∀ j x, j < i → (bfs (ebs es) s i)[j]? = some x → x.1 ≠ t) ∧ Sea2 w B A es.length cap v (bfs (ebs es) s i) wr) (fun _ _ c _ => 9 - (intOf c).toNat)
  case atStart => exact ⟨0, sb, rfl, rfl, Nat.zero_le _, by rw [HSB.out]; rfl, fun j x hj => absurd hj (by omega), HSEA.out⟩
  case round =>
    clear HSEA
    obtain ⟨i, sx, rfl, rfl, hi, hsx, hnt, hsea⟩ := hrel
    have hok := bfs_ok HEN.out hs i
    have hD8 : (bfs (ebs es) s i).length ≤ 8 := Nat.le_trans hok.len h8
    have HPL := Lib.hid (bfs_plen (E := ebs es) (s := s) i)
    obtain ⟨D, hD⟩ : ∃ D, bfs (ebs es) s i = D := ⟨_, rfl⟩
    have HD := Lib.hid hD
    rw [hD] at hi hsx hnt hsea hok hD8 HPL
    have hsz : sx.size = D.length := by
      have h := congrArg List.length hsx
      simpa [keysM] using h
    have HSX := Lib.hid hsx; have HNT := Lib.hid hnt; have HSEA := Lib.hid hsea; have HOK := Lib.hid hok
    clear hsx hnt hsea hok hD
    by_cases hlt : i < sx.size
    case neg =>
      have HQ : Hid (pathE (ebs es) s t = []) := Lib.hid (pathE_none (i := i) (by rw [HD.out]; omega) (by omega) (by
        rw [HD.out]
        intro hm
        simp only [keysM, List.mem_map] at hm
        obtain ⟨x, hx, hxt⟩ := hm
        obtain ⟨j, hj, hjx⟩ := List.getElem_of_mem hx
        exact HNT.out j x (by omega) (by rw [List.getElem?_eq_getElem hj, hjx]) hxt))
      have hbw := HSEA.out.below
      clear hsz
      go_wp2_with fail
      go_ret
      exact ⟨by rw [HQ.out]; rfl, hbw⟩
    obtain ⟨b, p, hgi⟩ : ∃ b p, D[i]? = some (b, p) := by
      have h : i < D.length := by omega
      exact ⟨D[i].1, D[i].2, List.getElem?_eq_getElem h⟩
    have hxb : (sx.extract i (i + 1)).data.toList = [b] := by
      rw [letter_at hlt, HSX.out]
      have : (keysM D)[i]? = some b := by simp [keysM, hgi]
      simp [List.getD, this]
    have hpl : p.length ≤ 8 := by
      have := HPL.out (b, p) (List.mem_of_getElem? hgi)
      simp only at this; omega
    have HGI := Lib.hid hgi
    have hbt : ((sx.extract i (i + 1)).toList == tb.toList) = decide (b = t) := by
      rw [Lib.toList_data, Lib.toList_data, hxb, HTB.out]
      by_cases h : b = t <;> simp [h]
    have HXB := Lib.hid hxb; have HBT := Lib.hid hbt
    have hS : ∀ W, Below wr.heap.size wr W → (W.cell? ⟨w.heap.size, 0, none⟩ = some (.string B) ∧ W.cell? ⟨w.heap.size, 1, none⟩ = some (.slice A es.length cap) ∧ Below wr.heap.size wr W) :=
      fun W h => ⟨(HSEA.out.go h).two.1, (HSEA.out.go h).two.2, h⟩
    have HSS := Lib.hid hS
    have hiD0 : i < D.length := by omega
    have HSZ := Lib.hid hsz
    clear hgi hxb hbt hS hsz
    have a1 : (0 : Int) ≤ (i : Int) := by omega
    have a2 : (i : Int) < (sx.size : Int) := by omega
    have a4 : (0 : Int) ≤ (i : Int) + 1 := by omega
    have a5 : ((i : Int) + 1).toNat = i + 1 := by omega
    have a6 : (i : Int) + 1 ≤ (sx.size : Int) := by omega
    have a7 : i + 1 ≤ sx.size := by omega
    have a8 : (i : Int) ≤ (i : Int) + 1 := by omega
    have a3 : IntKind.i64.wrap ((i : Int) + 1) = (i : Int) + 1 := IntWalk.i64_in _ (by omega)
    go_wp2_with fail
    go_region_held3 (fun W => W.cell? ⟨w.heap.size, 0, none⟩ = some (.string B) ∧ W.cell? ⟨w.heap.size, 1, none⟩ = some (.slice A es.length cap) ∧ Below wr.heap.size wr W)
      (first
        | exact HSS.out _ (Below.refl _ _).drew
        | exact HSS.out _ ((Below.refl _ _).drew.trans hb2))
      (first
        | (go_at_call 115; refine (HEXIT.out _).mono ?_; rintro e w2 ⟨rfl, hb2⟩))
    rename_i hHeld
    have HSEA2 := Lib.hid (HSEA.out.go hHeld.2.2)
    clear hHeld HSS hb2 HSEA
    have hbt := HBT.out
    by_cases hbtc : b = t
    · rw [decide_eq_true hbtc] at hbt
      rw [hbt]
      clear hbt
      have HQ : Hid (pathE (ebs es) s t = p) := Lib.hid (pathE_of HEN.out hs (bfs_pre (ebs es) s (show i ≤ 8 by omega)) (by rw [HD.out, ← hbtc]; exact List.mem_of_getElem? HGI.out))
      have hbw := HSEA2.out.below
      obtain ⟨vg, vc, rfl⟩ := Go.Joins.ownsRow_form HSEA2.out.own (by omega)
      have hcw := HSEA2.out.own.cells (g := vg) rfl i (.string ⟨p.toArray⟩) (by simp [waysV, HGI.out])
      rw [add_none] at hcw
      have hcw' : w2.cell? ⟨vg, i, none⟩ = some (.string ⟨p.toArray⟩) := by simpa using hcw
      have hiD : (i : Int) < (D.length : Int) := by omega
      clear hbtc hcw a3
      go_wp2_with fail
      go_ret
      exact ⟨by rw [HQ.out]; rfl, hbw⟩
    rw [decide_eq_false hbtc] at hbt
    rw [hbt]
    clear hbt
    have HNT2 : Hid (∀ j x, j < i + 1 → D[j]? = some x → x.1 ≠ t) := Lib.hid fun j x hj hx => by
      by_cases hji : j < i
      · exact HNT.out j x hji hx
      · have : j = i := by omega
        subst this
        rw [HGI.out] at hx
        injection hx with hx
        subst hx
        exact hbtc
    clear hbtc
    -- the edges that leave the block
    obtain ⟨et, het⟩ : ∃ et : ByteArray, (⟨(names (outB es (sx.extract i (i + 1))) es.length).toArray⟩ : ByteArray) = et := ⟨_, rfl⟩
    obtain ⟨outs, houts⟩ : ∃ outs, (List.range es.length).filter (outB es (sx.extract i (i + 1))) = outs := ⟨_, rfl⟩
    have hetd : et.data.toList = outs.map nameOf := by rw [← het, ← houts]; rfl
    have hets : et.size = outs.length := by
      have h := congrArg List.length hetd
      simpa using h
    have hom : ∀ k ∈ outs, k < es.length ∧ outB es (sx.extract i (i + 1)) k = true := by
      intro k hk
      rw [← houts] at hk
      simpa using List.mem_filter.1 hk
    have HOUT : Hid (∀ W : World, EdgesIn W W.heap.size A es → Calls Try.prog 87 #[.agg #[.string B, .slice A es.length cap], .string (sx.extract i (i + 1))] W fun e w' => e = .returned (.string et) ∧ Below W.heap.size W w') := Lib.hid fun W hW => by
      have h := outList_any B A cap es (sx.extract i (i + 1)) W hW (by omega)
      rwa [het] at h
    have hel : (ebs es).length = es.length := by simp [ebs]
    have HROW : Hid (bfs (ebs es) s (i + 1) = rowO (ebs es) b p D outs) := Lib.hid (by
      rw [bfs_some (by rw [HD.out]; exact HGI.out), HD.out, hel, ← houts, rowO_filter]
      · rfl
      · intro k hk hq D'
        have hkl : k < es.length := by simpa using hk
        obtain ⟨x, y, hx, hy, _, _⟩ := HLE.out es[k] (List.getElem_mem hkl)
        have hek : (ebs es)[k]? = some ([x], [y]) := by simp only [ebs, List.getElem?_map, List.getElem?_eq_getElem hkl, Option.map_some, hx, hy]
        rw [outB_at hkl, Lib.toList_data, Lib.toList_data, hx, HXB.out] at hq
        exact stepE_no hek fun h => by rw [h.1] at hq; simp at hq)
    have hol : outs.length ≤ 16 := by
      have := names_length (outB es (sx.extract i (i + 1))) es.length
      have h2 : (names (outB es (sx.extract i (i + 1))) es.length).length = outs.length := by rw [← houts]; simp [names]
      omega
    have HOM := Lib.hid hom; have HETD := Lib.hid hetd; have HETS := Lib.hid hets
    clear het houts hetd hom hel hets
    have hS : ∀ W, Below w2.heap.size w2 W → (W.cell? ⟨w.heap.size, 0, none⟩ = some (.string B) ∧ W.cell? ⟨w.heap.size, 1, none⟩ = some (.slice A es.length cap) ∧ Below w2.heap.size w2 W) :=
      fun W h => ⟨(HSEA2.out.go h).two.1, (HSEA2.out.go h).two.2, h⟩
    have HSS := Lib.hid hS
    have HA : Hid (EdgesIn w2.drew w2.drew.heap.size A es) := Lib.hid ((hE.below HSEA2.out.below.drew).more HSEA2.out.below.drew.size)
    clear hS
    go_wp2_with fail
    go_region_held3 (fun W => W.cell? ⟨w.heap.size, 0, none⟩ = some (.string B) ∧ W.cell? ⟨w.heap.size, 1, none⟩ = some (.slice A es.length cap) ∧ Below w2.heap.size w2 W)
      (first
        | exact HSS.out _ (Below.refl _ _).drew
        | exact HSS.out _ ((Below.refl _ _).drew.trans hb3))
      (first
        | (go_at_call 87; refine (HOUT.out _ HA.out).mono ?_; rintro e w3 ⟨rfl, hb3⟩))
    rename_i hHeld
    have HSEA3 := Lib.hid (HSEA2.out.go hHeld.2.2)
    clear hHeld HSS HA hb3 HSEA2 HOUT a1 a2 a3 a4 a5 a6 a7 a8
    go_wp2_with fail
    go_loopw [5, 6, 40] (fun a v c wi => ∃ (k : Nat) (s1 : ByteArray), k ≤ et.size ∧ a = .string s1 ∧ c = .int .i64 k ∧ s1.data.toList = keysM (rowO (ebs es) b p D (outs.take k)) ∧ Sea2 w B A es.length cap v (rowO (ebs es) b p D (outs.take k)) wi) (fun _ _ c _ => et.size - (intOf c).toNat)
    case atStart => exact ⟨0, sx, Nat.zero_le _, rfl, rfl, HSX.out, HSEA3.out⟩
    case round =>
      clear HSEA3
      obtain ⟨k, s1, hk, rfl, rfl, hs1, hsea⟩ := hrel
      obtain ⟨D1, hD1⟩ : ∃ D1, rowO (ebs es) b p D (outs.take k) = D1 := ⟨_, rfl⟩
      have hpre : D <+: D1 := by rw [← hD1]; exact rowO_pre _ _ _ _ _
      have hok1 : MetOk l D1 := by rw [← hD1]; exact rowO_ok HEN.out HOK.out _
      have hD18 : D1.length ≤ 8 := Nat.le_trans hok1.len h8
      have HD1 := Lib.hid hD1
      rw [hD1] at hs1 hsea
      have hs1z : s1.size = D1.length := by
        have h := congrArg List.length hs1
        simpa [keysM] using h
      have HS1 := Lib.hid hs1; have HSEA := Lib.hid hsea; have HPRE := Lib.hid hpre; have HS1Z := Lib.hid hs1z
      clear hD1 hs1 hsea hpre hok1 hs1z
      by_cases hlk : k < et.size
      case neg =>
        have hke : outs.take k = outs := List.take_of_length_le (by have := HETS.out; omega)
        have HD2 : Hid (bfs (ebs es) s (i + 1) = D1) := Lib.hid (by rw [HROW.out, ← HD1.out, hke])
        have HNT3 : Hid (∀ j x, j < i + 1 → D1[j]? = some x → x.1 ≠ t) := Lib.hid fun j x hj hx => by
          obtain ⟨r, hr⟩ := HPRE.out
          rw [← hr, List.getElem?_append_left (by omega)] at hx
          exact HNT2.out j x hj hx
        have hlen : i + 1 ≤ D1.length := Nat.le_trans hiD0 HPRE.out.length_le
        clear hke
        go_wp2_with fail
        go_roundw
        case rel => exact ⟨i + 1, s1, rfl, by go_num, by rw [HD2.out]; exact hlen, by rw [HD2.out]; exact HS1.out, by rw [HD2.out]; exact HNT3.out, by rw [HD2.out]; exact HSEA.out⟩
        case measure => simp [intOf]; omega
      have hko : k < outs.length := by have := HETS.out; omega
      obtain ⟨ix, hix⟩ : ∃ ix, outs[k] = ix := ⟨_, rfl⟩
      obtain ⟨hixl, hixo⟩ := HOM.out ix (by rw [← hix]; exact List.getElem_mem hko)
      have htk : outs.take (k + 1) = outs.take k ++ [ix] := by rw [List.take_succ_eq_append_getElem hko, hix]
      have hel : (et.extract k (k + 1)).data.toList = [nameOf ix] := by
        rw [letter_at hlk, HETD.out]
        simp [List.getD, hko, hix]
      obtain ⟨x, y, hx, hy, _, hyl⟩ := HLE.out es[ix] (List.getElem_mem hixl)
      have hek : (ebs es)[ix]? = some ([x], [y]) := by simp only [ebs, List.getElem?_map, List.getElem?_eq_getElem hixl, Option.map_some, hx, hy]
      have hxb : x = b := by
        rw [outB_at hixl, Lib.toList_data, Lib.toList_data, hx, HXB.out] at hixo
        simpa using hixo
      have HST : Hid (rowO (ebs es) b p D (outs.take (k + 1)) = stepE (ebs es) b p D1 ix) := Lib.hid (by rw [htk, rowO_snoc, HD1.out])
      have HEK := Lib.hid hek; have HXBB := Lib.hid hxb; have HY := Lib.hid (bytes_one hy); have HEL := Lib.hid hel
      have HX : Hid (eIdx es.length (et.extract k (k + 1)).data.toList = ix) := Lib.hid (by rw [hel]; exact eIdx_name hixl (by omega))
      have hS : ∀ W, Below wr.heap.size wr W → (W.cell? ⟨w.heap.size, 0, none⟩ = some (.string B) ∧ W.cell? ⟨w.heap.size, 1, none⟩ = some (.slice A es.length cap) ∧ Below wr.heap.size wr W) :=
        fun W h => ⟨(HSEA.out.go h).two.1, (HSEA.out.go h).two.2, h⟩
      have HSS := Lib.hid hS
      have HA : Hid (EdgesIn wr.drew wr.drew.heap.size A es) := Lib.hid ((hE.below HSEA.out.below.drew).more HSEA.out.below.drew.size)
      clear hS hix hixo htk hel hx hy hek hxb hyl
      have a1 : (0 : Int) ≤ (k : Int) := by omega
      have a2 : (k : Int) < (et.size : Int) := by omega
      have a4 : (0 : Int) ≤ (k : Int) + 1 := by omega
      have a5 : ((k : Int) + 1).toNat = k + 1 := by omega
      have a6 : (k : Int) + 1 ≤ (et.size : Int) := by omega
      have a7 : k + 1 ≤ et.size := by omega
      have a8 : (k : Int) ≤ (k : Int) + 1 := by omega
      have a3 : IntKind.i64.wrap ((k : Int) + 1) = (k : Int) + 1 := IntWalk.i64_in _ (by omega)
      have e2 := edge_to
      go_wp2_with fail
      go_region_held3 (fun W => W.cell? ⟨w.heap.size, 0, none⟩ = some (.string B) ∧ W.cell? ⟨w.heap.size, 1, none⟩ = some (.slice A es.length cap) ∧ Below wr.heap.size wr W)
        (first
          | exact HSS.out _ (Below.refl _ _).drew
          | exact HSS.out _ ((Below.refl _ _).drew.trans hb4))
        (first
          | (go_at_call 83; refine (l2Edge_any B A cap es _ ix _ HA.out (by omega) hixl HX.out).mono ?_; rw [HY.out]; rintro e w4 ⟨rfl, hb4⟩))
      rename_i hHeld
      have HSEA4 := Lib.hid (HSEA.out.go hHeld.2.2)
      clear hHeld HSS HA hb4 HSEA a1 a2 a3 a4 a5 a6 a7 a8 e2
      obtain ⟨fi, hfi⟩ : ∃ fi, Lib.indexByte s1.data.toList y = fi := ⟨_, rfl⟩
      have hiff : 0 ≤ fi ↔ y ∈ keysM D1 := by rw [← hfi, HS1.out]; exact indexByte_nonneg
      have HFI := Lib.hid hfi; have HIFF := Lib.hid hiff
      clear hfi hiff
      have hs1m : s1.size ≤ maxLen := by have := HS1Z.out; unfold maxLen; omega
      have HS1M := Lib.hid hs1m
      clear hs1m
      by_cases hf : fi < 0
      case neg =>
        have HNO : Hid (rowO (ebs es) b p D (outs.take (k + 1)) = D1) := Lib.hid (by rw [HST.out, stepE_no HEK.out fun h => h.2 (HIFF.out.1 (by omega))])
        go_wp2_with (go_at_call 137; refine (find_any s1 y _ HS1M.out).mono ?_; rw [HFI.out]; rintro e wI ⟨rfl, rfl⟩)
        go_roundw
        case rel => exact ⟨k + 1, s1, by omega, rfl, by go_num, by rw [HNO.out]; exact HS1.out, by rw [HNO.out]; exact HSEA4.out⟩
        case measure => simp [intOf]; omega
      have hyn : y ∉ keysM D1 := fun h => by have := HIFF.out.2 h; omega
      have HYES : Hid (rowO (ebs es) b p D (outs.take (k + 1)) = D1 ++ [(y, p ++ [nameL ix])]) := Lib.hid (by rw [HST.out, stepE_yes HEK.out HXBB.out hyn])
      clear hyn
      have hadd : ¬ 9223372036854775807 < s1.size + (⟨#[y]⟩ : ByteArray).size := by
        have h1 : (⟨#[y]⟩ : ByteArray).size = 1 := rfl
        have := HS1Z.out
        omega
      have hadd2 : ¬ 9223372036854775807 < s1.size + 1 := by have := HS1Z.out; omega
      go_wp2_with (go_at_call 137; refine (find_any s1 y _ HS1M.out).mono ?_; rw [HFI.out]; rintro e wI ⟨rfl, rfl⟩)
      clear hadd hadd2
      have hplen := HPRE.out.length_le
      have hz4 := HSEA4.out.size
      obtain ⟨vg, vc, rfl⟩ := Go.Joins.ownsRow_form HSEA4.out.own (by omega)
      obtain ⟨pp, hpp⟩ : ∃ pp : ByteArray, (⟨p.toArray⟩ : ByteArray) = pp := ⟨_, rfl⟩
      have hD1i : D1[i]? = some (b, p) := by
        obtain ⟨r, hr⟩ := HPRE.out
        rw [← hr, List.getElem?_append_left hiD0]
        exact HGI.out
      have HCI : Hid ((waysV D1)[i]? = some (.string pp)) := Lib.hid (by simp [waysV, hD1i, hpp])
      have hcw := HSEA4.out.own.cells (g := vg) rfl i (.string pp) HCI.out
      rw [add_none, Nat.zero_add] at hcw
      have hpps : pp.size ≤ 8 := by rw [← hpp]; show p.toArray.size ≤ 8; simpa using hpl
      have hels : (et.extract k (k + 1)).size = 1 := by
        simp; omega
      obtain ⟨np, hnp⟩ : ∃ np : ByteArray, pp ++ et.extract k (k + 1) = np := ⟨_, rfl⟩
      have HNP : Hid (np = ⟨(p ++ [nameL ix]).toArray⟩) := Lib.hid (by
        rw [← hnp]
        apply bytes_ext
        rw [Go.Joins.data_append, HEL.out, ← hpp]
        simp [nameOf, nameL])
      have hadd : ¬ 9223372036854775807 < pp.size + (et.extract k (k + 1)).size := by omega
      obtain ⟨i0, hi0, hi1, hi2, hi3⟩ := info_parts textInfo
      have HI0 := Lib.hid hi0; have HI1 := Lib.hid hi1; have HI2 := Lib.hid hi2; have HI3 := Lib.hid hi3
      have hba : Below w4.heap.size w4 (w4.alloc (.cells #[.string (pp ++ et.extract k (k + 1))] 9)).drew := ((Below.refl _ _).alloc (Nat.le_refl _) _).drew
      have HSEA5 := Lib.hid (HSEA4.out.go hba)
      have hnews : ∀ j u, [Value.string (pp ++ et.extract k (k + 1))][j]? = some u → (w4.alloc (.cells #[.string (pp ++ et.extract k (k + 1))] 9)).drew.cell? ((⟨w4.heap.size, 0, none⟩ : Addr).add j) = some u := by
        intro j u hj
        match j, hj with
        | 0, hj => simp at hj; subst hj; simp [Addr.add]
        | j + 1, hj => simp at hj
      have HNEWS := Lib.hid hnews
      have hone : ∀ u ∈ [Value.string (pp ++ et.extract k (k + 1))], u.oneCell' = true := by intro u hu; simp at hu; subst hu; rfl
      have HONE := Lib.hid hone
      have hz5 : w4.heap.size + 1 ≤ (w4.alloc (.cells #[.string (pp ++ et.extract k (k + 1))] 9)).drew.heap.size := by simp
      have HZ5 := Lib.hid hz5
      have hiD1 : (i : Int) < (D1.length : Int) := by omega
      have HNPE := Lib.hid hnp
      have hels1 : (et.extract k (k + 1)).size ≤ 1 := by omega
      have hii : (0 : Int) ≤ (i : Int) := by omega
      clear hpp hD1i hnp hi0 hi1 hi2 hi3 hba hnews hone hz5 hels
      have a1 : (0 : Int) ≤ (k : Int) := by omega
      have a2 : (k : Int) < (et.size : Int) := by omega
      have a4 : (0 : Int) ≤ (k : Int) + 1 := by omega
      have a5 : ((k : Int) + 1).toNat = k + 1 := by omega
      have a6 : (k : Int) + 1 ≤ (et.size : Int) := by omega
      have a7 : k + 1 ≤ et.size := by omega
      have a8 : (k : Int) ≤ (k : Int) + 1 := by omega
      have a3 : IntKind.i64.wrap ((k : Int) + 1) = (k : Int) + 1 := IntWalk.i64_in _ (by omega)
      have hadd1 : ¬ 9223372036854775807 < pp.size + 1 := by omega
      have hcw5 := HSEA5.out.own.cells (g := vg) rfl i (.string pp) HCI.out
      rw [add_none, Nat.zero_add] at hcw5
      go_region_held3 (fun W => W.cell? ⟨vg, i, none⟩ = some (.string pp))
        (first
          | exact hcw
          | exact hcw5
          | (exact hcw6))
        (first
          | (clear a1 a2 a3 a4 a5 a6 a7 a8
             refine step_append_kept rfl (.tmp 59) (.tmp 70) 43 rfl (w.heap.size + 1) 9 i0 (.string ⟨#[]⟩) 1 16 Try.underlying43 HI0.out HI1.out HI2.out HI3.out rfl (by decide) vg vc D1.length (waysV D1) rfl HSEA5.out.own ⟨w4.heap.size, 0, none⟩ 1 1 [.string (pp ++ et.extract k (k + 1))] rfl rfl HNEWS.out HONE.out (by unfold maxLen; omega) (by omega) (by have := HZ5.out; omega) ?_
             intro v6 w6 hown6 hgr6 hcs6
             go_must (
             have hcw6 : w6.cell? ⟨vg, i, none⟩ = some (.string pp) := by
               have := hcs6 i (.string pp) HCI.out
               rwa [add_none, Nat.zero_add] at this
             have hw6 : waysV D1 ++ [Value.string (pp ++ et.extract k (k + 1))] = waysV (D1 ++ [(y, p ++ [nameL ix])]) := by
               rw [HNPE.out, HNP.out]
               simp [waysV]
             rw [hw6] at hown6
             have HSEA6 : Hid (Sea2 w B A es.length cap v6 (D1 ++ [(y, p ++ [nameL ix])]) w6) := Lib.hid (HSEA5.out.push hgr6 (by simpa using hown6))
             clear hw6 hown6 hgr6 hcs6)))
      have HS2 : Hid ((s1 ++ ⟨#[y]⟩ : ByteArray).data.toList = keysM (D1 ++ [(y, p ++ [nameL ix])])) := Lib.hid (by rw [Go.Joins.data_append, HS1.out]; simp [keysM])
      clear hadd hadd1 hcw hcw5 hcw6
      go_wp2_with fail
      go_roundw
      case rel => exact ⟨k + 1, s1 ++ ⟨#[y]⟩, by omega, rfl, by go_num, by rw [HYES.out]; exact HS2.out, by rw [HYES.out]; exact HSEA6.out⟩
      case measure => simp [intOf]; omega

end Go.Proofs.Ytcfcmlbbnpfejaa
