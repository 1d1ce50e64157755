/- The iterator over what can be come to. -/
import Derived.Test.YtpeafheljcjlhaaGreatNodes
import Derived.Test.YtpeafheljcjlhaaGreatFrom
import Derived.Test.YtpeafheljcjlhaaGreatRange
import Derived.Test.YtpeafheljcjlhaaGreatQueue
import Derived.Shelf.Abstract
import Derived.Shelf.RegionOpen
import Derived.OwnWalkIn
import Derived.TacticsInMore
import Derived.LoopNIn
import Derived.LoopIn
import Derived.Maps.OwnIn
namespace Go.Proofs.YtpeafheljcjlhaaGreat
open Go.RowKit Go.Shelf
attribute [local go_sem] Oper.semAt_some

/-- one byte handed to a round -/
abbrev encs8 (x : UInt8) : Array Value := #[.int .u8 x.toNat]

theorem NodesAt.row {g M : Nat} {w : World} {l : List UInt8} {E : Eds} {S : Nat → List Nat} {V : Nat → Value} (h : NodesAt g M w l E S V) {i : Nat} (hi : i < l.length) :
    ∃ A c, V i = .slice A (S i).length c ∧ ∀ t k, (S i)[t]? = some k → ∃ f, A = some ⟨f, 0, none⟩ ∧ (M < f ∧ f < w.heap.size) ∧ w.cell? ⟨f, t, none⟩ = some (ptrN (g + 1) k) := by
  have ho := h.own i hi
  rcases ho.2 with ⟨h0, h1⟩ | ⟨f, cap, cur, hv, hb, hh, hn, hm, hc, ht⟩
  · refine ⟨none, 0, by rw [h0, h1], fun t k ht => ?_⟩
    have := (List.getElem?_eq_some_iff.1 ht).1
    omega
  · refine ⟨some ⟨f, 0, none⟩, cap, hv, fun t k htk => ⟨f, rfl, ownBlock_lt ho (by rw [hv]; rfl), ?_⟩⟩
    have e1 : ((S i).map (ptrN (g + 1)))[t]? = some (ptrN (g + 1) k) := by simp [htk]
    rw [← ht, List.getElem?_take] at e1
    split at e1
    · simpa [World.cell?, hh] using e1
    · cases e1

/-- what the search has met: those that have come and those that wait -/
structure Meet (l : List UInt8) (E : Eds) (s : UInt8) (pre : List UInt8) (q : List Nat) (ms : List UInt8) : Prop where
  nodup : ms.Nodup
  start : s ∈ ms
  way : ∀ x ∈ ms, Way E s x
  sub : ∀ x ∈ ms, x ∈ l
  all : ∃ qs, ms = pre ++ qs ∧ qs.map some = q.map (l[·]?)

theorem Meet.len {l : List UInt8} {E : Eds} {s : UInt8} {pre : List UInt8} {q : List Nat} {ms : List UInt8} (h : Meet l E s pre q ms) : pre.length + q.length ≤ l.length := by
  obtain ⟨qs, h1, h2⟩ := h.all
  have h3 := nodup_len h.nodup h.sub
  have h4 := congrArg List.length h2
  simp at h4
  rw [h1] at h3
  simp at h3; omega

theorem Meet.next {l : List UInt8} {E : Eds} {s : UInt8} {pre : List UInt8} {i : Nat} {q : List Nat} {ms : List UInt8} (h : Meet l E s pre (i :: q) ms) : ∃ x, l[i]? = some x ∧ x ∈ ms ∧ Meet l E s (pre ++ [x]) q ms := by
  obtain ⟨qs, h1, h2⟩ := h.all
  cases qs with
  | nil => simp at h2
  | cons x qs =>
    simp only [List.map_cons, List.cons.injEq] at h2
    exact ⟨x, h2.1.symm, by rw [h1]; simp, h.nodup, h.start, h.way, h.sub, qs, by rw [h1]; simp, h2.2⟩

theorem Meet.add {l : List UInt8} {E : Eds} {s : UInt8} {pre : List UInt8} {q : List Nat} {ms : List UInt8} (h : Meet l E s pre q ms) {x y : UInt8} {k : Nat} (hx : x ∈ ms) (he : ([x], [y]) ∈ E) (hk : l[k]? = some y) (hy : y ∉ ms) : Meet l E s pre (q ++ [k]) (ms ++ [y]) := by
  refine ⟨?_, List.mem_append_left _ h.start, fun z hz => ?_, fun z hz => ?_, ?_⟩
  · rw [List.nodup_append]
    refine ⟨h.nodup, by simp, fun a ha b hb => ?_⟩
    simp at hb; subst hb; exact fun e => hy (e ▸ ha)
  · rcases List.mem_append.1 hz with hz | hz
    · exact h.way z hz
    · simp at hz; subst hz; exact .step (h.way x hx) he
  · rcases List.mem_append.1 hz with hz | hz
    · exact h.sub z hz
    · simp at hz; subst hz; exact List.mem_of_getElem? hk
  · obtain ⟨qs, h1, h2⟩ := h.all
    exact ⟨qs ++ [y], by rw [h1]; simp, by simp [h2, hk]⟩

def setSize (w : World) (m : Nat) : Nat := match w.heap[m]? with
  | some (.map es _) => es.size
  | _ => 0
theorem setSize_of {w : World} {m : Nat} {ks : List Value} (h : SetAt w m ks) : setSize w m = ks.length := by
  obtain ⟨es, clock, hb, hk, _⟩ := h
  have := congrArg List.length hk
  simp at this
  simp [setSize, hb, this]
def sliceLen : Value → Nat
  | .slice _ n _ => n
  | _ => 0
theorem Meet.lens {l : List UInt8} {E : Eds} {s : UInt8} {pre : List UInt8} {q : List Nat} {ms : List UInt8} (h : Meet l E s pre q ms) : ms.length = pre.length + q.length := by
  obtain ⟨qs, h1, h2⟩ := h.all
  have h4 := congrArg List.length h2
  simp at h4
  rw [h1]; simp; omega

set_option maxRecDepth 100000 in
set_option maxHeartbeats 4000000 in
/-- impl.reachedFrom$1 -/
theorem reached_run (F : Fence) (n : Nat) (hF : F.fn 133) (hro : F.round = none) (hn : 1 ≤ n) (l : List UInt8) (E : Eds) (G M : Nat) (S : Nat → List Nat) (V : Nat → Value) (w : World) (hN : NodesAt G M w l E S V)
    (Bx i0 : Nat) (s : UInt8) (hs : l[i0]? = some s) (hbx : w.cell? ⟨Bx, 0, none⟩ = some (.pointer (some ⟨G + 1 + i0, 0, none⟩))) (hBx : Bx < w.heap.size) (c L : Nat) (hcG : c < G) (hL : w.heap.size ≤ L) (_ : Bx ≠ c)
    (hends : ∀ x y, ([x], [y]) ∈ E → y ∈ l) (h8 : l.length ≤ 8) (h16 : E.length ≤ 16) :
    SeqRun F n Tryz.prog 133 #[.pointer (some ⟨Bx, 0, none⟩)] encs8 (KeepBut c L) (fun xs => Closed E s xs ∧ ∀ x ∈ xs, x ∈ l) (fun xs => ∀ x ∈ xs, Way E s x) l.length w L := by
  intro J Jx W hbW hlW hJ hJx hY h0
  refine callsIn_of_wp Tryz.func133 rfl hF ?_ hro
  simp only [Tryz.ntmps133, List.size_toArray, List.length_cons, List.length_nil, Nat.reduceAdd, Nat.reduceSub, Array.replicate_succ, Array.replicate_zero, List.push_toArray, List.append_toArray, List.nil_append, List.cons_append]
  have hmm := @run_makeMap Tryz.prog
  have K8 := keyB (P := Tryz.prog) Tryz.underlying5
  have hcb : (W.alloc (.map #[] 0)).cell? ⟨Bx, 0, none⟩ = some (.pointer (some ⟨G + 1 + i0, 0, none⟩)) := by
    rw [World.cell?_alloc_lt _ _ _ (by have := hbW.size; simp only; omega)]
    exact (hbW.cell hBx).trans hbx
  have hcs : (W.alloc (.map #[] 0)).cell? ⟨G + 1 + i0, 0, none⟩ = some (.int .u8 s.toNat) := by
    have h1 := (hN.node i0 s hs)
    rw [World.cell?_alloc_lt _ _ _ (by have := hbW.size; have := h1.lt; simp only; omega)]
    refine (hbW.cell h1.lt).trans ?_
    have := h1.cell (i := 0) (by omega)
    simpa using this
  obtain ⟨w1, hrun, hset1, hg1⟩ := (SetAt.new (enc := encB) W).update K8 (t := 52) (e := 4) Tryz.underlying52 (x := s) (by simp)
  rw [show encB s = .int .u8 s.toNat from rfl] at hrun
  have hsz1 : W.heap.size + 1 ≤ w1.heap.size := by have := hg1.size; simp at this; omega
  have hne : ∀ b, b < W.heap.size → w1.heap[b]? = W.heap[b]? := fun b hb => (hg1.block b (by simp; omega) (fun e => by injection e with e; omega)).trans (Below.heap_alloc _ _ _ hb)
  have hb1 : Below W.heap.size W w1 := ⟨hg1.os, hg1.tape, hg1.output, by omega, hne⟩
  have hcb1 : w1.cell? ⟨Bx, 0, none⟩ = some (.pointer (some ⟨G + 1 + i0, 0, none⟩)) := (World.cell?_of_block (hne Bx (by have := hbW.size; omega))).trans ((hbW.cell hBx).trans hbx)
  have HNE := Lib.hid hne; have HS1 := Lib.hid hset1; have HB1 := Lib.hid hb1
  clear hne hset1 hb1 hg1
  gi_wp2
  clear hmm hrun hcb hcs
  have hq1 : QueueAt (w1.alloc (.cells #[.pointer (some ⟨G + 1 + i0, 0, none⟩)] 123)) (W.heap.size + 1) 123 (.slice (some ⟨w1.heap.size, 0, none⟩) 1 1) ([i0].map (ptrN (G + 1))) := QueueAt.one w1 _ _ _ (by omega)
  have hset2 : SetAt (w1.alloc (.cells #[.pointer (some ⟨G + 1 + i0, 0, none⟩)] 123)) W.heap.size ([s].map encB) := HS1.out.grown (row := none) ⟨rfl, rfl, rfl, by simp, fun b hb _ => Below.heap_alloc _ _ _ hb⟩ (by simp)
  have hb2 : Below W.heap.size W (w1.alloc (.cells #[.pointer (some ⟨G + 1 + i0, 0, none⟩)] 123)) := HB1.out.alloc HB1.out.size _
  have hJ2 : J [] (w1.alloc (.cells #[.pointer (some ⟨G + 1 + i0, 0, none⟩)] 123)) := hJ _ _ _ h0 hb2
  have hk2 : KeepBut c L W (w1.alloc (.cells #[.pointer (some ⟨G + 1 + i0, 0, none⟩)] 123)) := KeepBut.below hb2 (Nat.le_refl _)
  have hm2 : Meet l E s [] [i0] [s] := ⟨by simp, by simp, by simp; exact .refl _, by simp; exact List.mem_of_getElem? hs, [s], by simp, by simp [hs]⟩
  have hz2 : W.heap.size + 1 < (w1.alloc (.cells #[.pointer (some ⟨G + 1 + i0, 0, none⟩)] 123)).heap.size := by simp; omega
  gi_loopw [4] (fun v wr => ∃ (pre : List UInt8) (q : List Nat) (ms : List UInt8), QueueAt wr (W.heap.size + 1) 123 v (q.map (ptrN (G + 1))) ∧ SetAt wr W.heap.size (ms.map encB) ∧ J pre wr ∧ KeepBut c L W wr ∧ W.heap.size + 1 < wr.heap.size ∧
    Meet l E s pre q ms ∧ (∀ x ∈ pre, DoneAt E ms x)) (fun v wr => l.length - (setSize wr W.heap.size - sliceLen v))
  case atStart => exact ⟨[], [i0], [s], hq1, hset2, hJ2, hk2, hz2, hm2, by simp⟩
  case round =>
    clear hq1 hset2 hb2 hJ2 hk2 hm2 hz2 hcb1
    obtain ⟨pre, q, ms, hq, hset, hJw, hk, hz, hm, hd⟩ := hrel
    have HM := Lib.hid hm; have HD := Lib.hid hd; have HK := Lib.hid hk
    clear hm hd hk
    obtain ⟨wo, rfl⟩ : ∃ wo : World, wo = wr := ⟨_, rfl⟩
    obtain ⟨qb, qo, qc, rfl, hqc, hqm⟩ := hq.form
    have HMS : Hid (setSize wo W.heap.size = ms.length) := Lib.hid (by rw [setSize_of hset]; simp)
    cases q with
    | nil =>
      simp only [List.map_nil, List.length_nil] at hq hqc ⊢
      gi_wp2
      go_end0
      obtain ⟨qs, e1, e2⟩ := HM.out.all
      have hqs : qs = [] := by simpa using e2
      refine ⟨⟨_, rfl⟩, .inl ⟨pre, ⟨⟨?_, ?_, ?_, ?_⟩, ?_⟩, hJw⟩⟩
      all_goals (rw [hqs, List.append_nil] at e1; subst e1)
      · exact HM.out.nodup
      · exact HM.out.start
      · exact HM.out.way
      · exact fun x hx y hy => HD.out x hx y hy
      · exact HM.out.sub
    | cons i q =>
      simp only [List.map_cons, List.length_cons, List.length_map] at hq hqc ⊢
      obtain ⟨hqf, hql, hqb⟩ := hq.first
      obtain ⟨x, hx, hxm, hm'⟩ := HM.out.next
      have hkeep : ∀ b, b < w.heap.size → b ≠ c → wo.heap[b]? = w.heap[b]? := fun b h1 h2 => (HK.out.2 b (by have := hbW.size; omega) h2 (by omega)).trans (hbW.block b h1)
      have hNr := hN.keep (w' := wo) (fun b h1 h2 _ => hkeep b h2 (by omega))
      have hpx : wo.cell? ⟨G + 1 + i, 0, none⟩ = some (.int .u8 x.toNat) := by have := (hNr.node i x hx).cell (i := 0) (by omega); simpa using this
      have hlen : pre.length < l.length := by have := hm'.len; simp at this; omega
      obtain ⟨fn, tmps, assign, body, hy, hR⟩ := hY pre x wo hJw hlen
      dsimp only [encs8] at hy
      have hqf' : wo.cell? ⟨qb, qo, none⟩ = some (.pointer (some ⟨G + 1 + i, 0, none⟩)) := hqf
      have hsl : ∀ W', (Instr.slice 124 (.slice (some ⟨qb, qo, none⟩) (q.length + 1) qc) (some (.int .i64 1)) none none).run Tryz.prog W' = .ok (.slice (if qc = 1 then some ⟨qb, qo, none⟩ else some ⟨qb, qo + 1, none⟩) (q.length + 1 - 1) (qc - 1)) W' := by
        intro W'
        rw [run_slice_l (P := Tryz.prog) (w := W') 124 (some ⟨qb, qo, none⟩) (q.length + 1) qc (by kernel_rfl) .i64 1 (by decide) (by omega)]
        simp [sliced, go_sem]
      have hq' := hq.tail
      obtain ⟨qv, hqv⟩ : ∃ v, v = Value.slice (if qc = 1 then some ⟨qb, qo, none⟩ else some ⟨qb, qo + 1, none⟩) (q.length + 1 - 1) (qc - 1) := ⟨_, rfl⟩
      rw [← hqv] at hsl hq'
      have hil : i < l.length := (List.getElem?_eq_some_iff.1 hx).1
      obtain ⟨A, rc, hV, hrow⟩ := hN.row hil
      have hSl : (S i).length ≤ 16 := by have := hN.len i hil; omega
      have HQV := Lib.hid hqv; have HX := Lib.hid hx; have HM' := Lib.hid hm'; have HROW := Lib.hid hrow; have HV := Lib.hid hV
      have HXM := Lib.hid hxm
      clear hqv hx hm' hrow hV hxm hq hqf
      gi_wp2
      refine hR.mono ?_
      rintro e W3 (⟨rfl, hJ3, hk3⟩ | ⟨rfl, hJx3, _⟩)
      · have hkw : ∀ b, b < w.heap.size → b ≠ c → W3.heap[b]? = w.heap[b]? := fun b h1 h2 => (hk3.2 b (by have := HK.out.1; have := hbW.size; omega) h2 (by omega)).trans (hkeep b h1 h2)
        have hN3 := hN.keep (w' := W3) (fun b h1 h2 _ => hkw b h2 (by omega))
        have hpv : W3.cell? ⟨G + 1 + i, 1, none⟩ = some (.slice A (S i).length rc) := by
          have := (hN3.node i x HX.out).cell (i := 1) (by omega)
          rw [← HV.out]; simpa using this
        have hset3 : SetAt W3 W.heap.size (ms.map encB) := by
          obtain ⟨es', clock, hh, hr⟩ := hset
          exact ⟨es', clock, (hk3.2 _ (by omega) (by have := hN.ptrs.lt; have := hbW.size; omega) (by omega)).trans hh, hr⟩
        have hq3 : QueueAt W3 (W.heap.size + 1) 123 qv (q.map (ptrN (G + 1))) := hq'.keep (fun b h1 h2 _ => hk3.2 b h2 (by have := hN.ptrs.lt; have := hbW.size; omega) (by omega))
        have hkW3 := HK.out.trans hk3
        have hz3 : W.heap.size + 1 < W3.heap.size := by have := hk3.1; omega
        clear hkw hN3 hNr hkeep hpx hy hR hqf' hsl hset hq' hJw hk3
        gi_wp2
        gi_loopw [4, 36] (fun v idx wr => ∃ (t : Nat) (q' : List Nat) (ms' : List UInt8), idx = .int .i64 t ∧ t ≤ (S i).length ∧ QueueAt wr (W.heap.size + 1) 123 v (q'.map (ptrN (G + 1))) ∧ SetAt wr W.heap.size (ms'.map encB) ∧ J (pre ++ [x]) wr ∧ KeepBut c L W wr ∧ W.heap.size + 1 < wr.heap.size ∧
          Meet l E s (pre ++ [x]) q' ms' ∧ (∀ z ∈ pre, DoneAt E ms' z) ∧ x ∈ ms' ∧ ∀ (j k : Nat) (y : UInt8), j < t → (S i)[j]? = some k → l[k]? = some y → y ∈ ms') (fun _ idx _ => (S i).length - (intOf idx).toNat)
        case atStart => exact ⟨0, q, ms, rfl, Nat.zero_le _, hq3, hset3, hJ3, hkW3, hz3, HM'.out, HD.out, HXM.out, by intro j k y h; omega⟩
        case round =>
          clear hq3 hset3 hJ3 hkW3 hz3 hpv
          obtain ⟨t, q', ms', rfl, ht, hq', hset, hJr, hk, hzr, hm, hd, hxm, hin⟩ := hrel
          have HM2 := Lib.hid hm; have HD2 := Lib.hid hd; have HXM2 := Lib.hid hxm; have HIN := Lib.hid hin; have HK2 := Lib.hid hk
          clear hm hd hxm hin hk
          by_cases htl : t < (S i).length
          · obtain ⟨k, hk⟩ : ∃ k, (S i)[t]? = some k := ⟨_, List.getElem?_eq_getElem htl⟩
            obtain ⟨f, hA, ⟨hfM, hfb⟩, hfc⟩ := HROW.out t k hk
            have hGM := hN.mid
            obtain ⟨y, hyk, hye⟩ := (hN.succ i x HX.out k).1 (List.mem_of_getElem? hk)
            have hkw : ∀ b, b < w.heap.size → b ≠ c → wr.heap[b]? = w.heap[b]? := fun b h1 h2 => (HK2.out.2 b (by have := hbW.size; omega) h2 (by omega)).trans (hbW.block b h1)
            have hfcw : wr.cell? ⟨f, t, none⟩ = some (.pointer (some ⟨G + 1 + k, 0, none⟩)) := (World.cell?_of_block (hkw f hfb (by omega))).trans hfc
            have hNw := hN.keep (w' := wr) (fun b h1 h2 _ => hkw b h2 (by omega))
            have hky : wr.cell? ⟨G + 1 + k, 0, none⟩ = some (.int .u8 y.toNat) := by have := (hNw.node k y hyk).cell (i := 0) (by omega); simpa using this
            subst hA
            have HYK := Lib.hid hyk; have HKK := Lib.hid hk; have HYE := Lib.hid hye
            clear hyk hk hye hNw hkw hfc hGM
            by_cases hin : y ∈ ms'
            · have HQ : Hid (decB (y ∈ ms') = true) := Lib.hid (decB_t hin)
              have HY := Lib.hid hin; clear hin
              gi_wp2_with (gi_at_lookup; refine wpListIn_lookup_set rfl _ _ 52 rfl K8 Tryz.underlying52 (Tryz.zeroValue4 _) _ ms' rfl hset y rfl true HQ.out ?_)
              go_roundw
              case rel => exact ⟨t + 1, q', ms', by go_num, by omega, hq', hset, hJr, HK2.out, hzr, HM2.out, HD2.out, HXM2.out, fun j k2 z hj h1 h2 => by
                rcases Nat.lt_or_ge j t with h | h
                · exact HIN.out j k2 z h h1 h2
                · obtain rfl : j = t := by omega
                  rw [HKK.out] at h1; injection h1 with h1; subst h1
                  rw [HYK.out] at h2; injection h2 with h2; subst h2
                  exact HY.out⟩
              case measure => simp [intOf]; omega
            · have HQ : Hid (decB (y ∈ ms') = false) := Lib.hid (decB_f hin)
              have HY := Lib.hid hin; clear hin
              obtain ⟨n0, hi, hz0, hz1, hz2⟩ := info_parts nodeInfo
              have HI := Lib.hid hi; have HZ0 := Lib.hid hz0; have HZ1 := Lib.hid hz1; have HZ2 := Lib.hid hz2
              have HQL : Hid ((q'.map (ptrN (G + 1))).length < 1099511627776) := Lib.hid (by have := HM2.out.len; simp; omega)
              clear hi hz0 hz1 hz2
              gi_wp2_with (first
                | (gi_at_lookup; refine wpListIn_lookup_set rfl _ _ 52 rfl K8 Tryz.underlying52 (Tryz.zeroValue4 _) _ ms' rfl hset y rfl false HQ.out ?_)
                | (gi_at_mapUpdate; refine wpListIn_update_set rfl _ _ 52 (.inl rfl) K8 Tryz.underlying52 _ ms' rfl hset y rfl HY.out ?_; intro w2 hset2 hg2; have hs2 := hg2.size; have hq2 := (hq'.keep (w' := w2) (fun b h1 h2 _ => hg2.block b h2 (fun e => by injection e with e; omega))).keep (w' := w2.alloc (.cells #[.pointer (some ⟨G + 1 + k, 0, none⟩)] 123)) (fun b _ h2 _ => Below.heap_alloc _ _ _ h2); have hbase2 : W.heap.size + 1 ≤ (w2.alloc (.cells #[.pointer (some ⟨G + 1 + k, 0, none⟩)] 123)).heap.size := by (simp; omega))
                | (gi_at_builtin; refine wpListIn_append_queue _ rfl _ _ 124 rfl (W.heap.size + 1) 123 n0 (.pointer none) 8 Tryz.underlying124 HI.out HZ0.out HZ1.out HZ2.out rfl _ _ rfl hq2 ⟨w2.heap.size, 0, none⟩ 1 (.pointer (some ⟨G + 1 + k, 0, none⟩)) rfl (by simp) rfl HQL.out (by decide) hbase2 ?_; intro v3 w3 hq3 hg3))
              have hbel : Below W.heap.size wr w3 := ⟨hg3.os.trans hg2.os, hg3.tape.trans hg2.tape, hg3.output.trans hg2.output, by have := hg3.size; simp at this; omega, fun b hb =>
                (hg3.block b (by simp; omega) (fun e => by have := hq'.own e.symm; omega)).trans ((Below.heap_alloc _ _ _ (by omega)).trans (hg2.block b (by omega) (fun e => by injection e with e; omega)))⟩
              have hset3 : SetAt w3 W.heap.size ((ms' ++ [y]).map encB) :=
                (hset2.grown (w' := w2.alloc (.cells #[.pointer (some ⟨G + 1 + k, 0, none⟩)] 123)) (row := none) ⟨rfl, rfl, rfl, by simp, fun b hb _ => Below.heap_alloc _ _ _ hb⟩ (by simp)).grown hg3 (fun e => by have := hq'.own e.symm; omega)
              have hq3' : QueueAt w3 (W.heap.size + 1) 123 v3 ((q' ++ [k]).map (ptrN (G + 1))) := by simpa [ptrN] using hq3
              have HB := Lib.hid hbel
              clear hset2 hg2 hq2 hg3 hq3 hbel
              go_roundw
              case rel => exact ⟨t + 1, q' ++ [k], ms' ++ [y], by go_num, by omega, hq3', hset3, hJ _ _ _ hJr HB.out, ⟨by have := HK2.out.1; have := HB.out.size; omega, fun b hb h1 h2 => (HB.out.block b hb).trans (HK2.out.2 b hb h1 h2)⟩, by have := HB.out.size; omega,
                HM2.out.add HXM2.out HYE.out HYK.out HY.out, fun z hz => (HD2.out z hz).more _, List.mem_append_left _ HXM2.out, fun j k2 z hj h1 h2 => by
                  rcases Nat.lt_or_ge j t with h | h
                  · exact List.mem_append_left _ (HIN.out j k2 z h h1 h2)
                  · obtain rfl : j = t := by omega
                    rw [HKK.out] at h1; injection h1 with h1; subst h1
                    rw [HYK.out] at h2; injection h2 with h2; subst h2
                    simp⟩
              case measure => simp [intOf]; omega
          · have HDX : Hid (∀ z ∈ pre ++ [x], DoneAt E ms' z) := Lib.hid (fun z hz => by
              rcases List.mem_append.1 hz with hz | hz
              · exact HD2.out z hz
              · simp at hz; subst hz
                intro y hy
                obtain ⟨k, hk⟩ := List.mem_iff_getElem?.1 (hends _ _ hy)
                obtain ⟨j, hj⟩ := List.mem_iff_getElem?.1 ((hN.succ i z HX.out k).2 ⟨y, hk, hy⟩)
                exact HIN.out j k y (by have := (List.getElem?_eq_some_iff.1 hj).1; omega) hj hk)
            have HMS2 : Hid (setSize wr W.heap.size = ms'.length) := Lib.hid (by rw [setSize_of hset]; simp)
            obtain ⟨vb, vo, vc, hve, hvc, _⟩ := hq'.form
            have HVE := Lib.hid hve; clear hve
            gi_wp2
            go_roundw
            case rel => exact ⟨pre ++ [x], q', ms', hq', hset, hJr, HK2.out, hzr, HM2.out, HDX.out⟩
            case measure =>
              rw [HVE.out, HMS.out, HMS2.out]
              have h1 := HM.out.lens
              have h2 := HM2.out.lens
              have h3 := HM2.out.len
              simp at h1 h2 h3
              simp [sliceLen]
              omega
      · gi_wp2
        refine bodyPost_ret (results_none rfl _ _ _) rfl ?_
        exact ⟨⟨_, rfl⟩, .inr ⟨pre ++ [x], fun z hz => HM'.out.way z (by obtain ⟨qs, e1, _⟩ := HM'.out.all; rw [e1]; exact List.mem_append_left _ hz), hJx3⟩⟩

end Go.Proofs.YtpeafheljcjlhaaGreat
