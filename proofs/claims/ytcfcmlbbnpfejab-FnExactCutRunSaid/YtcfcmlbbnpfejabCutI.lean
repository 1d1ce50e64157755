/- A run, cut at edges that lead back: by the program. -/
import Derived.Test.YtcfcmlbbnpfejabCutS
import Derived.Test.YtcfcmlbbnpfejabBackI
import Derived.Test.YtcfcmlbbnpfejabIsRunI
import Derived.Laws.IdiomStrings
namespace Go.Proofs.Ytcfcmlbbnpfejab
open Go.RowKit

theorem sliceCell : (Try.prog.info? 66).map (fun i => (i.zero, i.size, i.bytes)) = some (some (.slice none 0 0), 1, 24) := by kernel_rfl

/-- a text's bytes, in a row -/
def RowB (w : World) (g : Nat) (r : ByteArray) : Prop := ∀ j, (h : j < r.size) → w.cell? ⟨g, j, none⟩ = some (.int .u8 (r[j].toNat : Int))
/-- a part of a row -/
def sub (g c : Nat) (s : Nat × Nat) : Value := .slice (if c = s.1 then some ⟨g, 0, none⟩ else some ⟨g, s.1, none⟩) (s.2 - s.1) (c - s.1)
theorem one_newT (w : World) (u : Value) (T : TypeId) : ∀ j x, [u][j]? = some x → (w.alloc (.cells #[u] T)).cell? ((⟨w.heap.size, 0, none⟩ : Addr).add j) = some x := by
  intro j x hj
  match j, hj with
  | 0, hj => simp at hj; subst hj; simp [Addr.add]
  | j + 1, hj => simp at hj

/-- what holds while a row is cut -/
structure SeaB (T : TypeId) (w : World) (v : Value) (xs : List Value) (wr : World) : Prop where
  below : Below w.heap.size w wr
  own : wr.ownsRow w.heap.size T 1 v xs.length xs
theorem SeaB.go {T : TypeId} {w wr W : World} {v : Value} {xs : List Value} (h : SeaB T w v xs wr) (k : Below wr.heap.size wr W) : SeaB T w v xs W :=
  ⟨h.below.trans (k.mono h.below.size), ownsRow_of_block h.own fun b hb => k.block b (ownBlock_lt h.own hb).2⟩
theorem SeaB.push {T : TypeId} {w wr W : World} {v v' : Value} {xs xs' : List Value} (h : SeaB T w v xs wr) (k : wr.grownBy W v.ownBlock) (hq : W.ownsRow w.heap.size T 1 v' xs'.length xs') : SeaB T w v' xs' W :=
  ⟨h.below.grown k h.below.size (fun _ e => Nat.le_of_not_lt fun hn => ownV_ne h.own hn e.symm), hq⟩

/-- the parts' places -/
def spansE (q : UInt8 → Bool) (r : ByteArray) : List (Nat × Nat) := (spans q r.data.toList r.size).1 ++ [((spans q r.data.toList r.size).2, r.size)]
theorem spansE_cut (q : UInt8 → Bool) (r : ByteArray) : (spansE q r).map (part r) = cutE q r := by simp [spansE, cutE, doneT, lastT]

/-- what is handed back -/
def SubsPost (gr capr : Nat) (L : List (Nat × Nat)) (w : World) (e : Ending) (w' : World) : Prop :=
  ∃ g c, e = .returned (.slice (some ⟨g, 0, none⟩) L.length c) ∧ g < w'.heap.size ∧ Below w.heap.size w w' ∧ ∀ j, (h : j < L.length) → w'.cell? ⟨g, j, none⟩ = some (sub gr capr L[j])

set_option maxRecDepth 100000 in
set_option maxHeartbeats 4000000 in
/-- impl.cutAt -/
theorem cutAt_any (r : ByteArray) (gr capr m : Nat) (ns : List UInt8) (q : UInt8 → Bool) (w : World) (hq : ∀ c, decB (c ∈ ns) = q c) (hm : SetAt w m (ns.map encB)) (hml : m < w.heap.size) (hB : RowB w gr r) (hgl : gr < w.heap.size) (hc : r.size ≤ capr) (hr : r.size ≤ 1048576) :
    Calls Try.prog 63 #[.slice (some ⟨gr, 0, none⟩) r.size capr, .map (some m)] w (SubsPost gr capr (spansE q r) w) := by
  have HQ := Lib.hid hq; have HM := Lib.hid hm; have HML := Lib.hid hml; have HB := Lib.hid hB; have HGL := Lib.hid hgl; have HC := Lib.hid hc; have HR := Lib.hid hr
  clear hq hm hml hB hgl hc hr
  have HSEA0 : Hid (SeaB 66 w (.slice none 0 0) [] w) := Lib.hid ⟨Below.refl _ _, World.ownsRow_nil _ _ _ _⟩
  go_enter Try.func63, Try.ntmps63
  go_wp2_with fail
  go_loopw [5, 6, 11] (fun v s c wr => ∃ k : Nat, k ≤ r.size ∧ s = .int .i64 ((spans q r.data.toList k).2 : Nat) ∧ c = .int .i64 k ∧ SeaB 66 w v ((spans q r.data.toList k).1.map (sub gr capr)) wr) (fun _ _ c _ => r.size - (intOf c).toNat)
  case atStart => exact ⟨0, Nat.zero_le _, rfl, rfl, HSEA0.out⟩
  case round =>
    clear HSEA0
    obtain ⟨k, hk, rfl, rfl, hsea⟩ := hrel
    obtain ⟨hs1, hs2, -⟩ := spans_ok q r.data.toList k
    have HY := Lib.hid (spans_yes (q := q) (l := r.data.toList) (k := k)); have HN := Lib.hid (spans_no (q := q) (l := r.data.toList) (k := k))
    have HEND : Hid (k = r.size → spansE q r = (spans q r.data.toList k).1 ++ [((spans q r.data.toList k).2, k)]) := Lib.hid (by rintro rfl; rfl)
    obtain ⟨L, hL⟩ : ∃ L, (spans q r.data.toList k).1 = L := ⟨_, rfl⟩
    obtain ⟨st, hst⟩ : ∃ st, (spans q r.data.toList k).2 = st := ⟨_, rfl⟩
    rw [hL] at hsea hs2 HY HEND
    rw [hst] at hs1 HY HEND
    rw [hst]
    have HSEA := Lib.hid hsea; have HLS := Lib.hid hL; have HST := Lib.hid hst
    have hcap := HC.out
    have hr' := HR.out
    have a1 : (st : Int) ≤ (k : Int) := by omega
    have a2 : (k : Int) ≤ (capr : Int) := by omega
    have a3 : k ≤ capr := by omega
    have a4 : (st : Int) ≤ (r.size : Int) := by omega
    have a5 : (r.size : Int) ≤ (capr : Int) := by omega
    have a6 : st ≤ r.size := by omega
    obtain ⟨i0, hi0, hi1, hi2, hi3⟩ := info_parts sliceCell
    have HI0 := Lib.hid hi0; have HI1 := Lib.hid hi1; have HI2 := Lib.hid hi2; have HI3 := Lib.hid hi3
    clear hi0 hi1 hi2 hi3 hL hst
    have HF1 : Hid (L.length + 1 ≤ maxLen) := Lib.hid (by unfold maxLen; omega)
    have HF2 : Hid ((L.length + 1) * 24 ≤ 140737488355328) := Lib.hid (by omega)
    by_cases hlt : k < r.size
    case neg =>
      have hkr : k = r.size := by omega
      subst hkr
      clear hsea
      have hba : Below wr.heap.size wr (wr.alloc (.cells #[(Value.slice (if capr = st then some ⟨gr, 0, none⟩ else some ⟨gr, st, none⟩) (r.size - st) (capr - st))] 66)) := (Below.refl _ _).alloc (Nat.le_refl _) _
      have HSEA8 := Lib.hid (HSEA.out.go hba)
      have HNEWS := Lib.hid (one_newT wr ((Value.slice (if capr = st then some ⟨gr, 0, none⟩ else some ⟨gr, st, none⟩) (r.size - st) (capr - st))) 66)
      have hone : ∀ u ∈ [(Value.slice (if capr = st then some ⟨gr, 0, none⟩ else some ⟨gr, st, none⟩) (r.size - st) (capr - st))], u.oneCell' = true := by intro u hu; simp at hu; subst hu; rfl
      have HONE := Lib.hid hone
      have HZ8 : Hid (w.heap.size ≤ (wr.alloc (.cells #[(Value.slice (if capr = st then some ⟨gr, 0, none⟩ else some ⟨gr, st, none⟩) (r.size - st) (capr - st))] 66)).heap.size) := Lib.hid HSEA8.out.below.size
      have HOWN8 : Hid ((wr.alloc (.cells #[(Value.slice (if capr = st then some ⟨gr, 0, none⟩ else some ⟨gr, st, none⟩) (r.size - st) (capr - st))] 66)).ownsRow w.heap.size 66 1 u5 L.length (L.map (sub gr capr))) := Lib.hid (by have := HSEA8.out.own; rwa [List.length_map] at this)
      clear hba hone
      have HQE := Lib.hid (HEND.out rfl)
      clear HEND HY HN
      go_wp2_with (first
        | (at_builtin
           refine wpList_append_own _ rfl (.tmp 29) (.tmp 33) 64 rfl w.heap.size 66 i0 (.slice none 0 0) 1 24 Try.underlying64 HI0.out HI1.out HI2.out HI3.out rfl (by decide) _ L.length (L.map (sub gr capr)) rfl HOWN8.out ⟨wr.heap.size, 0, none⟩ 1 1 [(Value.slice (if capr = st then some ⟨gr, 0, none⟩ else some ⟨gr, st, none⟩) (r.size - st) (capr - st))] rfl rfl HNEWS.out HONE.out HF1.out HF2.out HZ8.out ?_
           intro v9 w9 hown9 hgr9 _
           go_must (
           have HSEA9 : Hid (SeaB 66 w v9 ((spansE q r).map (sub gr capr)) w9) := Lib.hid (HSEA8.out.push hgr9 (by rw [HQE.out]; simpa [sub] using hown9))
           clear hown9 hgr9)))
      all_goals go_ret
      all_goals
        have ho := HSEA9.out.own
        rw [List.length_map] at ho
        obtain ⟨g, c, rfl, -, hlt⟩ := ho.form (by rw [HQE.out]; simp)
        refine ⟨g, c, rfl, hlt, HSEA9.out.below, fun j hj => ?_⟩
        rw [ho.cellAt j (by omega)]
        simp only [List.getElem?_map, List.getElem?_eq_getElem hj, Option.map_some]
        first | done | rfl | simp [*]
    have hcell : wr.cell? ⟨gr, k, none⟩ = some (.int .u8 (r[k].toNat : Int)) := (hsea.below.cell (by exact HGL.out)).trans (HB.out k hlt)
    have hin : (k : Int) < (r.size : Int) := by omega
    have hgd : r.data.toList.getD k 0 = r[k] := by
      have : k < r.data.toList.length := by simpa using hlt
      simp only [List.getD, List.getElem?_eq_getElem this, Option.getD_some]; rfl
    rw [hgd] at HY HN
    have HSET : Hid (SetAt wr m (ns.map encB)) := Lib.hid (HM.out.below hsea.below HML.out)
    have HQK := Lib.hid (HQ.out r[k])
    obtain ⟨rk, hrk⟩ : ∃ rk, r[k] = rk := ⟨_, rfl⟩
    rw [hrk] at hcell HY HN HQK
    clear hsea hgd hrk
    cases hv : q rk with
    | true =>
      have HSP := Lib.hid (HY.out hv)
      rw [hv] at HQK
      have hne : ¬ capr = st := by omega
      clear HY HN hv HEND
      have hba : Below wr.heap.size wr (wr.alloc (.cells #[(Value.slice (some ⟨gr, st, none⟩) (k - st) (capr - st))] 66)) := (Below.refl _ _).alloc (Nat.le_refl _) _
      have HSEA8 := Lib.hid (HSEA.out.go hba)
      have HNEWS := Lib.hid (one_newT wr ((Value.slice (some ⟨gr, st, none⟩) (k - st) (capr - st))) 66)
      have hone : ∀ u ∈ [(Value.slice (some ⟨gr, st, none⟩) (k - st) (capr - st))], u.oneCell' = true := by intro u hu; simp at hu; subst hu; rfl
      have HONE := Lib.hid hone
      have HZ8 : Hid (w.heap.size ≤ (wr.alloc (.cells #[(Value.slice (some ⟨gr, st, none⟩) (k - st) (capr - st))] 66)).heap.size) := Lib.hid HSEA8.out.below.size
      have HOWN8 : Hid ((wr.alloc (.cells #[(Value.slice (some ⟨gr, st, none⟩) (k - st) (capr - st))] 66)).ownsRow w.heap.size 66 1 u5 L.length (L.map (sub gr capr))) := Lib.hid (by have := HSEA8.out.own; rwa [List.length_map] at this)
      clear hba hone
      go_wp2_with (first
        | (at_lookup; refine wpList_lookup_set rfl _ _ 45 rfl (keyB Try.underlying5) Try.underlying45 (Try.zeroValue4 _) _ ns rfl HSET.out rk rfl true HQK.out ?_)
        | (at_builtin
           refine wpList_append_own _ rfl (.tmp 19) (.tmp 24) 64 rfl w.heap.size 66 i0 (.slice none 0 0) 1 24 Try.underlying64 HI0.out HI1.out HI2.out HI3.out rfl (by decide) _ L.length (L.map (sub gr capr)) rfl HOWN8.out ⟨wr.heap.size, 0, none⟩ 1 1 [(Value.slice (some ⟨gr, st, none⟩) (k - st) (capr - st))] rfl rfl HNEWS.out HONE.out HF1.out HF2.out HZ8.out ?_
           intro v9 w9 hown9 hgr9 _
           go_must (
           have HSEA9 : Hid (SeaB 66 w v9 ((spans q r.data.toList (k + 1)).1.map (sub gr capr)) w9) := Lib.hid (HSEA8.out.push hgr9 (by rw [HSP.out]; simpa [sub, hne] using hown9))
           clear hown9 hgr9)))
      go_roundw
      case rel => exact ⟨k + 1, by omega, by rw [HSP.out]; go_num, by go_num, HSEA9.out⟩
      case measure => simp [intOf]; omega
    | false =>
      have HSP := Lib.hid (HN.out hv)
      rw [hv] at HQK
      clear HY HN hv HEND
      go_wp2_with (at_lookup; refine wpList_lookup_set rfl _ _ 45 rfl (keyB Try.underlying5) Try.underlying45 (Try.zeroValue4 _) _ ns rfl HSET.out rk rfl false HQK.out ?_)
      go_roundw
      case rel => exact ⟨k + 1, by omega, by rw [HSP.out, HST.out], by go_num, by rw [HSP.out, HLS.out]; exact HSEA.out⟩
      case measure => simp [intOf]; omega

/-- a part of a row of bytes, as a text -/
theorem sub_text {W : World} {g c : Nat} {r : ByteArray} {s : Nat × Nat} (hB : RowB W g r) (h1 : s.1 ≤ s.2) (h2 : s.2 ≤ r.size) (h3 : r.size ≤ c) :
    (convert 66 9 (sub g c s)).run Try.prog W = .ok (.string (part r s)) W := by
  by_cases hc : c = s.1
  · have e : s.2 - s.1 = 0 := by omega
    have hp : part r s = ⟨([] : List UInt8).toArray⟩ := bytes_ext (by
      unfold part; rw [Lib.extract_data, e]; rfl)
    rw [hp]
    unfold sub
    rw [if_pos hc, e]
    exact run_convert_bytes_back (P := Try.prog) W 66 9 5 ⟨g, 0, none⟩ (c - s.1) [] Try.underlying66 Try.underlying5 Try.underlying9 (fun j hj => absurd hj (by simp))
  · have hl : ((r.data.toList.drop s.1).take (s.2 - s.1)).length = s.2 - s.1 := by
      rw [List.length_take, List.length_drop]
      have e : r.data.toList.length = r.size := by simp
      omega
    have hp : part r s = ⟨((r.data.toList.drop s.1).take (s.2 - s.1)).toArray⟩ := bytes_ext (by unfold part; rw [Lib.extract_data])
    rw [hp]
    have h := run_convert_bytes_back (P := Try.prog) W 66 9 5 ⟨g, s.1, none⟩ (c - s.1) ((r.data.toList.drop s.1).take (s.2 - s.1)) Try.underlying66 Try.underlying5 Try.underlying9 (fun j hj => by
      rw [hl] at hj
      have hlt : s.1 + j < r.size := by omega
      have e : ((⟨g, s.1, none⟩ : Addr).add j) = ⟨g, s.1 + j, none⟩ := by unfold Addr.add; split <;> simp_all
      rw [e, hB _ hlt]
      rw [List.getElem_take, List.getElem_drop]
      rfl)
    unfold sub
    rw [if_neg hc]
    rw [hl] at h
    exact h

set_option maxRecDepth 100000 in
set_option maxHeartbeats 4000000 in
/-- impl.CutRun -/
theorem implCutRun_any (B : ByteArray) (A : Option Addr) (cap : Nat) (es : List (ByteArray × ByteArray)) (r : ByteArray) (w : World) (hs : B.size ≤ maxLen) (hE : EdgesIn w w.heap.size A es) (hl : es.length ≤ 1099511627776) (hS : ∀ e ∈ es, e.1.size ≤ 1099511627776 ∧ e.2.size ≤ 1099511627776) (hr : r.size ≤ 1048576) :
    Calls Try.prog 26 #[.agg #[.string B, .slice A es.length cap], .string r] w (CutPost (cutV B es r) w) := by
  have HL := Lib.hid hl; have HM := Lib.hid hs; have HS := Lib.hid hS; have HR := Lib.hid hr
  clear hl hs hS hr
  have hb1 : Below w.heap.size w (w.alloc (.cells #[.string B, .slice A es.length cap] 30)) := (Below.refl _ _).alloc (Nat.le_refl _) _
  have t1 := Two.made w B A es.length cap 30
  have hz1 : (w.alloc (.cells #[.string B, .slice A es.length cap] 30)).heap.size = w.heap.size + 1 := by simp
  have hd0 := t1.1; have hd1 := t1.2
  obtain ⟨v, hv⟩ : ∃ v, runV B es r = v := ⟨_, rfl⟩
  have HV := Lib.hid hv
  cases v with
  | false =>
    have HQ : Hid (cutV B es r = ([], false)) := Lib.hid (if_neg (by rw [hv]; simp))
    clear hv
    go_enter Try.func26, Try.ntmps26
    go_wp2_with fail
    refine (implIsRun_any B A cap es r _ HM.out ((hE.below hb1).more hb1.size) HL.out HS.out (by have := HR.out; omega)).mono ?_
    rintro e w2 h2
    obtain ⟨rfl, hb2⟩ := h2
    rw [HV.out]
    have hb2' := hb1.trans (hb2.mono hb1.size)
    clear hb2 hd0 hd1 t1 hz1 hb1
    go_wp2_with fail
    go_ret2
    rw [HQ.out]
    exact ⟨none, 0, rfl, fun k hk => absurd hk (by simp), hb2', .inl ⟨rfl, rfl⟩⟩
  | true =>
    have hF := facts_of (valid_of_run hv)
    have HF := Lib.hid hF
    have HQ : Hid (cutV B es r = (cutE (backQ B es) r, true)) := Lib.hid (if_pos hv)
    clear hv hF
    go_enter Try.func26, Try.ntmps26
    go_wp2_with fail
    refine (implIsRun_any B A cap es r _ HM.out ((hE.below hb1).more hb1.size) HL.out HS.out (by have := HR.out; omega)).mono ?_
    rintro e w2 h2
    obtain ⟨rfl, hb2⟩ := h2
    rw [HV.out]
    have t2 := t1.below hb2 (by omega)
    have hb2' := hb1.trans (hb2.mono hb1.size)
    have hz2 : w.heap.size + 1 ≤ w2.heap.size := by have := hb2.size; omega
    clear hb2 hd0 hd1 t1 hz1 hb1
    obtain ⟨cp, hcp⟩ : ∃ cp, grownCap w2 r.size 0 5 = cp := ⟨_, rfl⟩
    have hcap : r.size ≤ cp := by rw [← hcp]; exact grownCap_ge _ _ _ _
    have hconv := run_bytes_of_string (P := Try.prog) w2 9 66 5 r Try.underlying9 Try.underlying66 Try.underlying5
    rw [hcp] at hconv
    obtain ⟨w3, hw3⟩ : ∃ w3, w2.drew.alloc (.cells (bytesRow r cp) 5 ((bytesRow r cp).size, (bytesRow r cp).size + 1)) = w3 := ⟨_, rfl⟩
    rw [hw3] at hconv
    have hb3 : Below w2.heap.size w2 w3 := by rw [← hw3]; exact (Below.refl _ _).drew.alloc (Nat.le_refl _) _
    have hz3 : w3.heap.size = w2.heap.size + 1 := by rw [← hw3]; simp
    have hB3 : RowB w3 w2.heap.size r := fun j hj => by
      rw [← hw3]
      have h := World.cell?_alloc_mark w2.drew (bytesRow r cp) 5 ((bytesRow r cp).size, (bytesRow r cp).size + 1) j
      rw [bytesRow_at r cp j hj] at h
      exact h
    clear hw3 hcp
    have t3 := t2.below hb3 (by omega)
    have hb3' := hb2'.trans (hb3.mono hb2'.size)
    obtain ⟨gr, hgr⟩ : ∃ gr, w2.heap.size = gr := ⟨_, rfl⟩
    rw [hgr] at hconv hB3 hz3 hz2
    have hd0 := t3.1; have hd1 := t3.2
    have HB3 := Lib.hid hB3; have HCAP := Lib.hid hcap
    clear hb3 t2 hgr hB3 hcap
    go_wp2_with fail
    refine (backNames_any B A cap es _ ((hE.below hb3').more hb3'.size) HF.out HM.out).mono ?_
    rintro e w4 ⟨m, rfl, hset4, hb4, hm4⟩
    have hml : m < w4.heap.size := hset4.lt
    have hB4 : RowB w4 gr r := fun j hj => (hb4.cell (by show gr < w3.heap.size; omega)).trans (HB3.out j hj)
    have hgl4 : gr < w4.heap.size := by have := hb4.size; omega
    have hb4' := hb3'.trans (hb4.mono hb3'.size)
    have HSET4 := Lib.hid hset4; have HB4 := Lib.hid hB4; have HML := Lib.hid hml; have HGL4 := Lib.hid hgl4
    clear hb4 hd0 hd1 t3 HB3 hset4 hB4 hml hgl4 hconv
    go_wp2_with fail
    refine (cutAt_any r gr cp m (names (backP B es) es.length) (backQ B es) _ (fun c => ?_) HSET4.out HML.out HB4.out HGL4.out HCAP.out HR.out).mono ?_
    · unfold backQ
      by_cases h : c ∈ names (backP B es) es.length
      · rw [decB_t h, decide_eq_true h]
      · rw [decB_f h, decide_eq_false h]
    rintro e w5 ⟨g, c, rfl, hg5, hb5, hcs⟩
    have hB5 : RowB w5 gr r := fun j hj => (hb5.cell (by exact HGL4.out)).trans (HB4.out j hj)
    have hgl5 : gr < w5.heap.size := Nat.lt_of_lt_of_le HGL4.out hb5.size
    have hb5' := hb4'.trans (hb5.mono hb4'.size)
    have hz5 : w.heap.size ≤ w5.heap.size := hb5'.size
    have HCUT := Lib.hid (spansE_cut (backQ B es) r)
    have hsp : ∀ s ∈ spansE (backQ B es) r, s.1 ≤ s.2 ∧ s.2 ≤ r.size := fun s hs => by
      obtain ⟨h1, h2, h3⟩ := spans_ok (backQ B es) r.data.toList r.size
      rcases List.mem_append.1 hs with hs | hs
      · exact h3 s hs
      · simp at hs; subst hs; exact ⟨h1, Nat.le_refl _⟩
    have hll : (spansE (backQ B es) r).length ≤ r.size + 1 := by
      have h2 := (spans_ok (backQ B es) r.data.toList r.size).2.1
      unfold spansE; simp; omega
    obtain ⟨L, hL⟩ : ∃ L, spansE (backQ B es) r = L := ⟨_, rfl⟩
    rw [hL] at HCUT hsp hll hcs
    rw [hL]
    have HSPN := Lib.hid hsp; have HCS := Lib.hid hcs; have HB5 := Lib.hid hB5; have HGL5 := Lib.hid hgl5; have HG5 := Lib.hid hg5; have HLL := Lib.hid hll; have HBW5 := Lib.hid hb5'
    have HSEA0 : Hid (SeaB 9 w5 (.slice none 0 0) [] w5) := Lib.hid ⟨Below.refl _ _, World.ownsRow_nil _ _ _ _⟩
    clear hsp hcs hB5 hgl5 hb5 hg5 hb5' hb4' hb3' hb2' HB4 HGL4 HML HSET4 hL hll hm4 hz5 hz3 hz2
    go_wp2_with fail
    go_loopw [6, 19] (fun v c wr => ∃ k : Nat, k ≤ L.length ∧ c = .int .i64 k ∧ SeaB 9 w5 v (((L.map (part r)).take k).map Value.string) wr) (fun _ c _ => L.length - (intOf c).toNat)
    case atStart => exact ⟨0, Nat.zero_le _, rfl, HSEA0.out⟩
    case round =>
      clear HSEA0
      obtain ⟨k, hk, rfl, hsea⟩ := hrel
      have HSEA := Lib.hid hsea
      have hll := HLL.out; have hr' := HR.out
      by_cases hlt : k < L.length
      case neg =>
        have hkl : k = L.length := by omega
        subst hkl
        clear hsea
        go_wp2_with fail
        go_ret2
        have hx := own_texts (ts := cutE (backQ B es) r) (by
          have := HSEA.out.own
          rw [List.take_of_length_le (by simp), HCUT.out, List.length_map] at this
          exact this)
        obtain ⟨A', cap', hv, h1, h2⟩ := hx
        rw [HQ.out]
        exact ⟨A', cap', by rw [← hv]; rfl, h1, HBW5.out.trans (HSEA.out.below.mono HBW5.out.size), h2.mono HBW5.out.size⟩
      obtain ⟨pt, hpt⟩ : ∃ pt, part r L[k] = pt := ⟨_, rfl⟩
      have hstep : (L.map (part r)).take (k + 1) = (L.map (part r)).take k ++ [pt] := by
        rw [List.take_add_one, List.getElem?_map, List.getElem?_eq_getElem hlt, Option.map_some, hpt]; rfl
      have hxl : ((L.map (part r)).take k).length = k := by simp; omega
      obtain ⟨X, hX⟩ : ∃ X, (L.map (part r)).take k = X := ⟨_, rfl⟩
      rw [hX] at hstep hxl hsea HSEA
      have hB : RowB wr gr r := fun j hj => (hsea.below.cell (by exact HGL5.out)).trans (HB5.out j hj)
      obtain ⟨p1, p2⟩ := HSPN.out L[k] (List.getElem_mem hlt)
      have hcell : wr.cell? ⟨g, k, none⟩ = some (sub gr cp L[k]) := (hsea.below.cell (by exact HG5.out)).trans (HCS.out k hlt)
      have hconv := sub_text (W := wr) (s := L[k]) hB p1 p2 HCAP.out
      rw [hpt] at hconv
      obtain ⟨ad, n1, c1, hsv⟩ : ∃ ad n1 c1, sub gr cp L[k] = .slice ad n1 c1 := ⟨_, _, _, rfl⟩
      rw [hsv] at hcell hconv
      have HSTEP := Lib.hid hstep
      have hlt2 : (k : Int) < (L.length : Int) := by omega
      obtain ⟨i0, hi0, hi1, hi2, hi3⟩ := info_parts textCell
      have HI0 := Lib.hid hi0; have HI1 := Lib.hid hi1; have HI2 := Lib.hid hi2; have HI3 := Lib.hid hi3
      have hba : Below wr.heap.size wr (wr.alloc (.cells #[.string pt] 9)) := (Below.refl _ _).alloc (Nat.le_refl _) _
      have HSEA8 := Lib.hid (HSEA.out.go hba)
      have HNEWS := Lib.hid (one_new wr (.string pt))
      have hone : ∀ u ∈ [Value.string pt], u.oneCell' = true := by intro u hu; simp at hu; subst hu; rfl
      have HONE := Lib.hid hone
      have HZ8 : Hid (w5.heap.size ≤ (wr.alloc (.cells #[.string pt] 9)).heap.size) := Lib.hid HSEA8.out.below.size
      have HOWN8 : Hid ((wr.alloc (.cells #[.string pt] 9)).ownsRow w5.heap.size 9 1 u6 k (X.map Value.string)) := Lib.hid (by have := HSEA8.out.own; rwa [List.length_map, hxl] at this)
      have HF1 : Hid (k + 1 ≤ maxLen) := Lib.hid (by unfold maxLen; omega)
      have HF2 : Hid ((k + 1) * 16 ≤ 140737488355328) := Lib.hid (by omega)
      clear hi0 hi1 hi2 hi3 hba hone hstep hxl hX hpt hB p1 p2 hsv hsea
      go_wp2_with (first
        | (at_builtin
           refine wpList_append_own _ rfl (.tmp 23) (.tmp 26) 34 rfl w5.heap.size 9 i0 (.string ⟨#[]⟩) 1 16 Try.underlying34 HI0.out HI1.out HI2.out HI3.out rfl (by decide) _ k (X.map Value.string) rfl HOWN8.out ⟨wr.heap.size, 0, none⟩ 1 1 [.string pt] rfl rfl HNEWS.out HONE.out HF1.out HF2.out HZ8.out ?_
           intro v9 w9 hown9 hgr9 _
           go_must (
           have HSEA9 : Hid (SeaB 9 w5 v9 (((L.map (part r)).take (k + 1)).map Value.string) w9) := Lib.hid (HSEA8.out.push hgr9 (by
             rw [HSTEP.out, List.map_append]
             have h := hown9
             have hxl : (X.map Value.string).length = k := by have := h.1; simp at this; simpa using this
             simpa [hxl] using h))
           clear hown9 hgr9)))
      go_roundw
      case rel => exact ⟨k + 1, by omega, by go_num, HSEA9.out⟩
      case measure => simp [intOf]; omega

end Go.Proofs.Ytcfcmlbbnpfejab
