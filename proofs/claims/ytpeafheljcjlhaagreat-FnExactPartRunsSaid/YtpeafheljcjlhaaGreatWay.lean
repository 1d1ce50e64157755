/- The way order by the program: a closure that recurs over a range over slices.Backward. -/
import Derived.Test.YtpeafheljcjlhaaGreatBackward
import Derived.Test.YtpeafheljcjlhaaGreatMath
import Derived.Test.YtpeafheljcjlhaaGreatSets
import Derived.Test.YtpeafheljcjlhaaGreatFrom
namespace Go.Proofs.YtpeafheljcjlhaaGreat
open Go.RowKit Go.Shelf
attribute [local go_sem] Oper.semAt_some

/-- what the closure has captured: the set, the net, itself, the order -/
def capsW (s : Nat) : Array Value := #[.pointer (some ⟨s + 3, 0, none⟩), .pointer (some ⟨s, 0, none⟩), .pointer (some ⟨s + 4, 0, none⟩), .pointer (some ⟨s + 1, 0, none⟩)]

/-- the variables of impl.wayOrder that stay -/
structure HomeW (W : World) (s : Nat) (B : ByteArray) (A : Option Addr) (n cap : Nat) : Prop where
  net : Two W s B A n cap
  set : W.cell? ⟨s + 3, 0, none⟩ = some (.map (some (s + 2)))
  go : W.cell? ⟨s + 4, 0, none⟩ = some (.func (.func 119) #[] (capsW s))
  size : s + 5 ≤ W.heap.size

/-- those that turn: what has been begun, what has been put -/
structure GoneAt (W : World) (s : Nat) (st : Gone) : Prop where
  begun : SetAt W (s + 2) (st.1.map encL)
  order : W.heap[s + 1]? = some (.cells #[.string ⟨st.2.toArray⟩] 9 (0, 0))

theorem Kept3.then {m o l : Nat} {w V V' : World} (h : Kept3 m o l w V) (hb : Below w.heap.size V V') : Kept3 m o l w V' :=
  ⟨Nat.le_trans h.1 hb.size, fun b h1 h2 h3 h4 => (hb.block b h1).trans (h.2 b h1 h2 h3 h4)⟩

theorem Kept3.weak {m o : Nat} {A B : World} (h : Kept3 m o o A B) (l : Nat) : Kept3 m o l A B := ⟨h.1, fun b h1 h2 h3 _ => h.2 b h1 h2 h3 h3⟩

theorem HomeW.keep {W W' : World} {s : Nat} {B : ByteArray} {A : Option Addr} {n cap L : Nat} (h : HomeW W s B A n cap) (k : Kept3 (s + 2) (s + 1) L W W') (hL : s + 5 ≤ L ∨ L = s + 1) : HomeW W' s B A n cap := by
  have hz := h.size
  have e : ∀ b, b < W.heap.size → b ≠ s + 2 → b ≠ s + 1 → b ≠ L → ∀ o, W'.cell? ⟨b, o, none⟩ = W.cell? ⟨b, o, none⟩ := fun b h1 h2 h3 h4 o => World.cell?_of_block (k.2 b h1 h2 h3 h4)
  exact ⟨⟨(e s (by omega) (by omega) (by omega) (by omega) _).trans h.net.1, (e s (by omega) (by omega) (by omega) (by omega) _).trans h.net.2⟩, (e _ (by omega) (by omega) (by omega) (by omega) _).trans h.set, (e _ (by omega) (by omega) (by omega) (by omega) _).trans h.go, by have := k.1; omega⟩
theorem GoneAt.below {W W' : World} {s B0 : Nat} {st : Gone} (h : GoneAt W s st) (k : Below B0 W W') (hB : s + 3 ≤ B0) : GoneAt W' s st :=
  ⟨h.begun.below k (by omega), (k.block _ (by omega)).trans h.order⟩

/-- what a call of the closure leaves -/
def WentPost (s : Nat) (st : Gone) (W : World) (e : Ending) (W' : World) : Prop :=
  (∃ v, e = .returned v) ∧ GoneAt W' s st ∧ Below s W W' ∧ Kept3 (s + 2) (s + 1) (s + 1) W W'

set_option maxRecDepth 100000 in
set_option maxHeartbeats 4000000 in
/-- impl.wayOrder$1 -/
theorem goThrough_any (s : Nat) (B : ByteArray) (A : Option Addr) (cap : Nat) (es : List (ByteArray × ByteArray)) (l : List UInt8) (hl : es.length ≤ 100) (hL : Lets l es) (hI : Into l (ebs es)) (h8 : l.length ≤ 8) : ∀ (f : Nat) (b : UInt8) (st : Gone) (W : World),
    HomeW W s B A es.length cap → EdgesIn W s A es → GoneAt W s st → GoneOk l st → b ∈ l → b ∉ st.1 → l.length ≤ st.1.length + f →
    Calls Tryz.prog 119 (#[.string ⟨#[b]⟩] ++ capsW s) W (WentPost s (visit (ebs es) f b st) W)
  | 0, b, st, W, _, _, _, hok, hb, hn, hf => by
    have h1 := nodup_len (a := b :: st.1) (b := l) (List.nodup_cons.2 ⟨hn, hok.nodup⟩) (fun x hx => by
      rcases List.mem_cons.1 hx with e | hx
      · subst e; exact hb
      · exact hok.sub x hx)
    simp at h1; omega
  | f + 1, b, st, W, hH, hE, hG, hok, hb, hn, hf => by
    have IH := Lib.hid (goThrough_any s B A cap es l hl hL hI h8 f)
    have hszH := hH.size
    have hokB := begin_ok hok hb hn
    -- the block in its box
    have hbA : Below W.heap.size W (W.alloc (.cells #[.string ⟨#[b]⟩] 9)) := (Below.refl _ _).alloc (Nat.le_refl _) _
    have cA : (W.alloc (.cells #[.string ⟨#[b]⟩] 9)).cell? ⟨W.heap.size, 0, none⟩ = some (.string ⟨#[b]⟩) := by go_simp
    have hzA : (W.alloc (.cells #[.string ⟨#[b]⟩] 9)).heap.size = W.heap.size + 1 := by simp
    have mA := (hbA.cell (p := ⟨s + 3, 0, none⟩) (by simp only; omega)).trans hH.set
    obtain ⟨w2, hrun, hset2, hg2⟩ := (hG.begun.below hbA (by omega)).update (P := Tryz.prog) (keyL Tryz.underlying9) (t := 107) (e := 4) Tryz.underlying107 (x := b) hn
    rw [show encL b = .string ⟨#[b]⟩ from rfl] at hrun
    have hz2 := hg2.size
    rw [hzA] at hz2
    have blk2 : ∀ i, i < W.heap.size + 1 → i ≠ s + 2 → w2.heap[i]? = (W.alloc (.cells #[.string ⟨#[b]⟩] 9)).heap[i]? := fun i hi hne => hg2.block i (by rw [hzA]; exact hi) (fun e => by injection e with e; exact hne e)
    have c2 : w2.cell? ⟨W.heap.size, 0, none⟩ = some (.string ⟨#[b]⟩) := (World.cell?_of_block (blk2 W.heap.size (by omega) (by omega))).trans cA
    have k2 : Kept3 (s + 2) (s + 1) (s + 1) W w2 := ⟨by omega, fun i h1 h2 h3 _ => (blk2 i (by omega) h2).trans (hbA.block i h1)⟩
    have H2 := hH.keep k2 (.inr rfl)
    have G2 : GoneAt w2 s (st.1 ++ [b], st.2) := ⟨hset2, ((blk2 _ (by omega) (by omega)).trans (hbA.block _ (by omega))).trans hG.order⟩
    have hb2 : Below s W w2 := ⟨hg2.os.trans hbA.os, hg2.tape.trans hbA.tape, hg2.output.trans hbA.output, by omega, fun i hi => (blk2 i (by omega) (by omega)).trans (hbA.block i (by omega))⟩
    have HG2 := Lib.hid G2; have HK2 := Lib.hid k2; have HB2 := Lib.hid hb2; have HH2 := Lib.hid H2
    have n1 := H2.net.2
    refine (callsIn_wide (n := 5)).1 ?_
    refine callsIn_of_wp_marks Tryz.func119 rfl trivial ?_ rfl
    simp only [capsW, Tryz.ntmps119, List.size_toArray, List.length_cons, List.length_nil, Nat.reduceAdd, Nat.reduceSub, Array.replicate_succ, Array.replicate_zero, List.push_toArray, List.append_toArray, List.nil_append, List.cons_append]
    clear hG hset2 hg2 hbA blk2 k2 G2 hb2 H2 hH
    gi_wp2_with (refine ⟨trivial, ?_⟩; gi_at_call 120; refine (callsIn_wide.2 (backward_any _ _ _ _)).mono ?_; rintro e w' ⟨rfl, rfl⟩)
    -- the loop
    have cB : (w2.alloc (.cells #[.slice A es.length cap] 29)).cell? ⟨w2.heap.size, 0, none⟩ = some (.slice A es.length cap) := by go_simp
    obtain ⟨w3, hw3⟩ : ∃ w3, w2.alloc (.cells #[.slice A es.length cap] 29) = w3 := ⟨_, rfl⟩
    have hb3 : Below w2.heap.size w2 w3 := by rw [← hw3]; exact (Below.refl _ _).alloc (Nat.le_refl _) _
    have hz3 : w3.heap.size = w2.heap.size + 1 := by rw [← hw3]; simp
    rw [hw3] at cB ⊢
    clear hw3
    have c3 : w3.cell? ⟨W.heap.size, 0, none⟩ = some (.string ⟨#[b]⟩) := (hb3.cell (p := ⟨W.heap.size, 0, none⟩) (by simp only; omega)).trans c2
    have k3 : Kept3 (s + 2) (s + 1) (s + 1) W w3 := HK2.out.trans (Kept3.below hb3 (Nat.le_refl _))
    have HH3 := Lib.hid (HH2.out.keep (Kept3.below hb3 (Nat.le_refl _) : Kept3 (s + 2) (s + 1) (s + 1) w2 w3) (.inr rfl))
    have HG3 := Lib.hid (HG2.out.below hb3 (by omega))
    have HB3 := Lib.hid (HB2.out.trans (hb3.mono (by omega)))
    have HK3 := Lib.hid k3
    have HE3 := Lib.hid (hE.below HB3.out)
    have hrunL := backward_run Fence.wide 4 trivial rfl (by decide) A cap es w2.heap.size s (s + 2) (s + 1) (w3.heap.size + 1) w3 cB (by omega) HE3.out (by omega) (by omega) (by omega) (by omega) (by omega) (by omega) hl
    have HZ := Lib.hid hz3
    have HC3 := Lib.hid c3
    clear hb3 cB k3 c2 n1 hrun mA cA hz3 c3
    refine wpIn_range_box rfl (by decide) (gf := 134) (lb := #[.pointer (some ⟨w2.heap.size, 0, none⟩)]) rfl trivial (enters_of Tryz.func134 (by kernel_rfl) rfl) hrunL
      (fun h k => h.trans k) (fun W o o' h => Kept3.put h) (Below.refl _ _) (fun _ => rfl)
      (fun pre V => GoneAt V s (looksV (ebs es) f b (st.1 ++ [b], st.2) pre) ∧ Below s W V ∧ Kept3 (s + 2) (s + 1) (s + 1) w3 V)
      (fun _ _ _ => False)
      (fun pre V V' h hb => ⟨h.1.below hb (by have := HZ.out; omega), h.2.1.trans (hb.mono (by have := HZ.out; omega)), h.2.2.then hb⟩)
      (fun _ _ _ _ h _ => h)
      ⟨HG3.out, HB3.out, Kept3.refl _ _ _ _⟩
      (fun x => .cells #[.string (edgeAt es x).1, .string (edgeAt es x).2] 70 (0, 0))
      (fun V x => Kept3.below ((Below.refl _ V).alloc (Nat.le_refl _) _) (Nat.le_refl _))
      (fun x Bx => { tmps := #[.string ⟨#[b]⟩, .pointer (some ⟨s + 3, 0, none⟩), .pointer (some ⟨s, 0, none⟩), .pointer (some ⟨s + 4, 0, none⟩), .pointer (some ⟨s + 1, 0, none⟩), .pointer (some ⟨W.heap.size, 0, none⟩), undef, .pointer (some ⟨Bx, 0, none⟩),
        .map (some (s + 2)), .string ⟨#[b]⟩, .pointer (some ⟨s, 1, none⟩), .slice A es.length cap, .func (.func 134) #[] #[.pointer (some ⟨w2.heap.size, 0, none⟩)],
        .int .i64 x, .agg #[.string (edgeAt es x).1, .string (edgeAt es x).2], undef, undef, undef, undef, undef, undef, undef, undef, undef, undef, undef, undef, undef, undef, undef, undef, undef, undef], defers := [] }) ?assign ?body ?done ?stop
    case assign =>
      intro l x V K hK
      dsimp only [encsE]
      gi_wp2
      exact hK
    case body =>
      rintro l0 pre x Bx V ⟨hGv, hBv, hKv⟩ hlen hBx hbx
      have hHv := HH3.out.keep hKv (.inr rfl)
      have hon := looksV_on hI f b hokB pre
      obtain ⟨cur, hcur⟩ : ∃ cur, looksV (ebs es) f b (st.1 ++ [b], st.2) pre = cur := ⟨_, rfl⟩
      rw [hcur] at hGv hon
      have HCUR : Hid (∀ st', lookV (ebs es) f b cur x = st' → looksV (ebs es) f b (st.1 ++ [b], st.2) (pre ++ [x]) = st') := Lib.hid fun st' h => by rw [looksV_snoc, hcur, h]
      have hcl : st.1.length + 1 ≤ cur.1.length := by
        obtain ⟨t, ht⟩ := hon.pre
        have := congrArg List.length ht
        simp at this; omega
      have hZ := HZ.out
      have cF : V.cell? ⟨Bx, 0, none⟩ = some (.string (edgeAt es x).1) := by simp [World.cell?, hbx]
      have cT : V.cell? ⟨Bx, 1, none⟩ = some (.string (edgeAt es x).2) := by simp [World.cell?, hbx]
      have cb : V.cell? ⟨W.heap.size, 0, none⟩ = some (.string ⟨#[b]⟩) := (World.cell?_of_block (hKv.2 W.heap.size (by omega) (by omega) (by omega) (by omega))).trans HC3.out
      have c3 := hHv.set
      have c4 := hHv.go
      have hlk := fun y => hGv.begun.lookup (P := Tryz.prog) (keyL Tryz.underlying9) (t := 107) (e := 4) Tryz.underlying107 (by kernel_rfl) y
      have HLK := Lib.hid hlk; have HGV := Lib.hid hGv; have HBV := Lib.hid hBv; have HKV := Lib.hid hKv; have HHV := Lib.hid hHv; have HON := Lib.hid hon
      clear hlk hGv hBv hKv hHv hon hbx hcur
      by_cases hx : x < es.length
      case neg =>
        have hed : edgeAt es x = (⟨#[]⟩, ⟨#[]⟩) := by simp [edgeAt, List.getD, List.getElem?_eq_none (show es.length ≤ x by omega)]
        have hst := HCUR.out cur (lookV_none (by simp [ebs]; omega))
        have HST := Lib.hid hst
        rw [hed] at cF cT ⊢
        have hc : ((⟨#[]⟩ : ByteArray).toList == (⟨#[b]⟩ : ByteArray).toList) = false := by simp [Lib.toList_data]
        clear hst hed
        gi_wp2
        exact ⟨fun _ _ _ => rfl, Kept3.refl _ _ _ _, by rw [HST.out]; exact HGV.out, HBV.out, HKV.out⟩
      have hed : edgeAt es x = es[x] := by simp [edgeAt, List.getD, hx]
      obtain ⟨x1, y1, e1, e2, m1, m2⟩ := hL es[x] (List.getElem_mem hx)
      have he : (ebs es)[x]? = some ([x1], [y1]) := by
        simp only [ebs, List.getElem?_map, List.getElem?_eq_getElem hx, Option.map_some, e1, e2]
      have p1 := bytes_one e1; have p2 := bytes_one e2
      rw [hed, p1] at cF
      rw [hed, p2] at cT
      rw [hed, p1, p2]
      have HE1 := Lib.hid he
      clear he e1 e2 p1 p2 hed
      by_cases hxb : x1 = b
      case neg =>
        have HST := Lib.hid (HCUR.out cur (lookV_no HE1.out hxb))
        have hc : (x1 == b) = false := by simp [hxb]
        clear hxb
        gi_wp2
        exact ⟨fun _ _ _ => rfl, Kept3.refl _ _ _ _, by rw [HST.out]; exact HGV.out, HBV.out, HKV.out⟩
      subst hxb
      have hc : ((⟨#[x1]⟩ : ByteArray).toList == (⟨#[x1]⟩ : ByteArray).toList) = true := by simp
      have hlk := HLK.out y1
      rw [show encL y1 = .string ⟨#[y1]⟩ from rfl] at hlk
      by_cases hm : y1 ∈ cur.1
      · rw [decB_t hm] at hlk
        have HST := Lib.hid (HCUR.out cur ((lookV_yes HE1.out).trans (stepV_no hm)))
        clear hm
        gi_wp2
        exact ⟨fun _ _ _ => rfl, Kept3.refl _ _ _ _, by rw [HST.out]; exact HGV.out, HBV.out, HKV.out⟩
      · rw [decB_f hm] at hlk
        have HST := Lib.hid (HCUR.out _ ((lookV_yes HE1.out).trans (stepV_yes hm)))
        have hcall := IH.out y1 cur V HHV.out (hE.below HBV.out) HGV.out HON.out.ok m2 hm (by omega)
        have HCALL := Lib.hid hcall
        clear hm hcall
        gi_wp2_with fail
        refine ⟨trivial, (CallsIn.inRound l0 (callsIn_wide.2 HCALL.out)).mono ?_⟩
        rintro e V' ⟨⟨v, rfl⟩, hG', hB', hK'⟩
        have HG' := Lib.hid hG'; have HB' := Lib.hid (HBV.out.trans hB'); have HK' := Lib.hid hK'
        clear hG' hB' hK' HLK
        gi_wp2
        exact ⟨fun i h1 h2 => HK'.out.2 i h2 (by omega) (by omega) (by omega), HK'.out.weak _, by rw [HST.out]; exact HG'.out, HB'.out, HKV.out.trans HK'.out⟩
    case done =>
      rintro D xs V hD rfl ⟨hGv, hBv, hKv⟩ hK
      have hlen : (ebs es).length = es.length := by simp [ebs]
      rw [← hlen, looksV_all] at hGv
      have hon := partV_on hI f _ hokB (tos (ebs es) b) (tos_sub hI b)
      obtain ⟨cur, hcur⟩ : ∃ cur, partV (ebs es) f (st.1 ++ [b], st.2) (tos (ebs es) b) = cur := ⟨_, rfl⟩
      have HVIS : Hid (visit (ebs es) (f + 1) b st = (cur.1, b :: cur.2)) := Lib.hid (by rw [visit_succ, hcur])
      rw [hcur] at hGv hon
      have hZ := HZ.out
      have h2 : cur.2.length ≤ 8 := by
        have h1 := nodup_len hon.ok.nodup hon.ok.sub
        have := hon.ok.len
        omega
      have cb : V.cell? ⟨W.heap.size, 0, none⟩ = some (.string ⟨#[b]⟩) := (World.cell?_of_block (hKv.2 W.heap.size (by omega) (by omega) (by omega) (by omega))).trans HC3.out
      have co : V.cell? ⟨s + 1, 0, none⟩ = some (.string ⟨cur.2.toArray⟩) := by simp [World.cell?, hGv.order]
      have fo : V.frozen? ⟨s + 1, 0, none⟩ = false := by simp [World.frozen?, hGv.order]
      have e1 : (⟨#[b]⟩ : ByteArray).size = 1 := rfl
      have e2 : (⟨cur.2.toArray⟩ : ByteArray).size = cur.2.length := by show cur.2.toArray.size = _; simp
      have a1 : ¬ 9223372036854775807 < (⟨#[b]⟩ : ByteArray).size + (⟨cur.2.toArray⟩ : ByteArray).size := by omega
      have a2 : ¬ 9223372036854775807 < 1 + (⟨cur.2.toArray⟩ : ByteArray).size := by omega
      have a3 : 1 + (⟨cur.2.toArray⟩ : ByteArray).size ≤ 9223372036854775807 := by omega
      have a4 : 1 + cur.2.length ≤ 9223372036854775807 := by omega
      have a5 : ¬ 9223372036854775807 < 1 + cur.2.length := by omega
      have HGV := Lib.hid hGv; have HBV := Lib.hid hBv; have HKV := Lib.hid hKv; have HKK := Lib.hid hK
      clear hGv hBv hKv hon hcur hK e1 e2 h2
      gi_wp2
      have hV1 : ∀ i, i ≠ s + 1 → (V.setCell ⟨s + 1, 0, none⟩ (.string (⟨#[b]⟩ ++ ⟨cur.2.toArray⟩))).heap[i]? = V.heap[i]? := fun i hi => by
        simp only [World.setCell, Array.getElem?_modify]
        rw [if_neg (fun e => hi e.symm)]
      have hVo : (V.setCell ⟨s + 1, 0, none⟩ (.string (⟨#[b]⟩ ++ ⟨cur.2.toArray⟩))).heap[s + 1]? = some (.cells #[.string ⟨(b :: cur.2).toArray⟩] 9 (0, 0)) := by
        have hj : (⟨#[b]⟩ ++ ⟨cur.2.toArray⟩ : ByteArray) = ⟨(b :: cur.2).toArray⟩ := bytes_ext (by simp)
        rw [hj]
        simp [World.setCell, Array.getElem?_modify, HGV.out.order]
      have hVb : Below s V (V.setCell ⟨s + 1, 0, none⟩ (.string (⟨#[b]⟩ ++ ⟨cur.2.toArray⟩))) := (Below.refl s V).setCell (by simp only; omega) _
      have hVz : V.heap.size ≤ (V.setCell ⟨s + 1, 0, none⟩ (.string (⟨#[b]⟩ ++ ⟨cur.2.toArray⟩))).heap.size := hVb.size
      generalize V.setCell ⟨s + 1, 0, none⟩ (.string (⟨#[b]⟩ ++ ⟨cur.2.toArray⟩)) = V1 at hV1 hVo hVb hVz ⊢
      have hKS : V1.heap[D]? = some (.deferred (some [])) := (hV1 D (by omega)).trans HKK.out
      have hD2 : ∀ o i, i ≠ D → (V1.putObj D o).heap[i]? = V1.heap[i]? := fun o i hi => World.putObj_heap_other hi
      refine ⟨by simp, .inl ⟨_, _, rfl, run_takeDeferred hKS, .tuple #[], results_none rfl _ _ _, ?_⟩⟩
      rw [HVIS.out]
      have hbp := below_put (B := s) (o' := .deferred none) hKS (by omega)
      refine ⟨⟨_, rfl⟩, ⟨?_, ?_⟩, HBV.out.trans (hVb.trans hbp), ?_⟩
      · obtain ⟨es', clock, hh, hr⟩ := HGV.out.begun
        exact ⟨es', clock, (hD2 _ _ (by omega)).trans ((hV1 _ (by omega)).trans hh), hr⟩
      · exact (hD2 _ _ (by omega)).trans hVo
      · have hWV := HK3.out.trans HKV.out
        exact ⟨Nat.le_trans hWV.1 (Nat.le_trans hVz hbp.size), fun i h1 h2 h3 h4 => (hD2 _ i (by omega)).trans ((hV1 i (by omega)).trans (hWV.2 i h1 h2 h3 h4))⟩
    case stop =>
      rintro D pre V hD _ h _
      exact h.elim

end Go.Proofs.YtpeafheljcjlhaaGreat
