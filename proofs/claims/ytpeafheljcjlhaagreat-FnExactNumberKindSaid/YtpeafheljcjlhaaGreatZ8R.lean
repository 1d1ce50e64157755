/- The run of a number, by both. -/
import Derived.Test.YtpeafheljcjlhaaGreatNet1
import Derived.Test.YtpeafheljcjlhaaGreatOrderV
import Derived.Test.YtpeafheljcjlhaaGreatMath
import Derived.Test.YtpeafheljcjlhaaGreatMem
import Derived.Test.YtpeafheljcjlhaaGreatNetQ
import Derived.Test.YtpeafheljcjlhaaGreatSets
import Derived.Test.YtpeafheljcjlhaaGreatFrom
import Derived.Test.YtpeafheljcjlhaaGreatSpec1
import Derived.Test.YtpeafheljcjlhaaGreatPaths
import Derived.Test.YtpeafheljcjlhaaGreatValid
import Derived.Test.YtpeafheljcjlhaaGreatSpec2
import Derived.Test.YtpeafheljcjlhaaGreatEdgeName
import Derived.Test.YtpeafheljcjlhaaGreatEntry
import Derived.Test.YtpeafheljcjlhaaGreatEndsS
import Derived.Deep.RegionHeld3
import Derived.BigRegion
import Derived.Deep.RegionWith
import Derived.Deep.DrawnRows
import Derived.Maps.OwnSet
import Derived.Laws.EntriesVeiled
namespace Go.Proofs.YtpeafheljcjlhaaGreat
open Go.RowKit

/-- one number, and all that lay is kept -/
def IntPost (v : Int) (w : World) (e : Ending) (w' : World) : Prop := e = .returned (.int .i64 v) ∧ Below w.heap.size w w'

end Go.Proofs.YtpeafheljcjlhaaGreat

namespace Go.Proofs.YtpeafheljcjlhaaGreat
open Go.RowKit

/-- a net without ways round, in words that a walk can use: in O all edges lead on -/
structure Acy (B : ByteArray) (es : List (ByteArray × ByteArray)) (O : List UInt8) : Prop where
  F : Facts B es
  topo : Topo (ebs es) O
  nd : O.Nodup
  eight : O.length ≤ 8
  sub : ∀ x ∈ O, x ∈ B.data.toList
  all : ∀ x ∈ B.data.toList, x ∈ O
  lnd : B.data.toList.Nodup
  no : ∀ y, ([exit_ B.data.toList], [y]) ∉ ebs es
  tin : exit_ B.data.toList ∈ B.data.toList
  tix : B.data.toList[B.size - 1]? = some (exit_ B.data.toList)
  out : ∀ b ∈ B.data.toList, b ≠ exit_ B.data.toList → ∃ (i : Nat) (y : UInt8), (ebs es)[i]? = some ([b], [y])

theorem no_out {B : ByteArray} {es : List (ByteArray × ByteArray)} (hv : Valid B.data.toList (ebs es)) : B.data.toList[B.size - 1]? = some (exit_ B.data.toList) ∧ ∀ y, ([exit_ B.data.toList], [y]) ∉ ebs es := by
  have hlen : B.data.toList.length = B.size := by simp
  have h2 := hv.1.1.1
  have hx : B.data.toList[B.size - 1]? = some (exit_ B.data.toList) := by
    unfold exit_
    have hne : B.data.toList ≠ [] := fun e => by rw [e] at h2; simp at h2
    rw [List.getLastD_eq_getLast?, List.getLast?_eq_some_getLast hne, Option.getD_some, List.getLast_eq_getElem, ← List.getElem?_eq_getElem, hlen]
  refine ⟨hx, fun y hy => ?_⟩
  have h3 := (hv.1.2.2 _ hy).2.2.1
  simp only [bIdx] at h3
  rw [indexByte_of_get hv.1.1.2.2.2 hx] at h3
  omega

theorem acy_of {B : ByteArray} {es : List (ByteArray × ByteArray)} (hv : Valid B.data.toList (ebs es)) (hc : ¬ Cyc B.data.toList (ebs es)) : Acy B es (orderE B.data.toList (ebs es)) := by
  have hF := facts_of hv
  obtain ⟨htopo, _⟩ := order_topo hF.into hc hF.ent hF.small
  have hosub : ∀ x ∈ orderE B.data.toList (ebs es), x ∈ B.data.toList := by
    have h0 : GoneOk B.data.toList (([], []) : Gone) := ⟨by simp, by simp, by simp⟩
    have h := visit_deep hF.into hc 8 (entry B.data.toList) [] ([], []) h0 (by simp) (by simp [Trail]) (by simpa using hF.ent) (by have := hF.small; simpa using this) ⟨by simp [Topo], by simp⟩
    have hon := visit_on hF.into 8 (entry B.data.toList) ([], []) h0 hF.ent (by simp)
    intro x hx
    have hb := hon.bal
    simp only [List.length_nil, Nat.add_zero] at hb
    have hs1 : ∀ y ∈ (visit (ebs es) 8 (entry B.data.toList) ([], [])).1, y ∈ (visit (ebs es) 8 (entry B.data.toList) ([], [])).2 := fun y hy => (h.1.cover y hy).resolve_right (by simp)
    refine hon.ok.sub x (Classical.byContradiction fun hn => ?_)
    have h2 := nodup_len (a := x :: (visit (ebs es) 8 (entry B.data.toList) ([], [])).1) (b := (visit (ebs es) 8 (entry B.data.toList) ([], [])).2) (List.nodup_cons.2 ⟨hn, hon.ok.nodup⟩) (fun y hy => by
      rcases List.mem_cons.1 hy with e | hy
      · subst e; exact hx
      · exact hs1 y hy)
    simp at h2; omega
  obtain ⟨hx, hno⟩ := no_out hv
  exact ⟨hF, htopo, order_nodup hF.into hc hF.ent hF.small, orderE_len hF.into hF.ent hF.small, hosub, fun x hx => order_all hF.into hc hF.ent hF.small (hv.2.1 x hx), hv.1.1.2.2.2, hno, List.mem_of_getElem? hx, hx, fun b hb hne => by
    have hw := hv.2.2 b hb
    cases hw with
    | refl => exact absurd rfl hne
    | step _ he =>
      obtain ⟨i, hi⟩ := List.mem_iff_getElem?.1 (mem_flip.1 he)
      exact ⟨i, _, hi⟩⟩

theorem Acy.at_ {B : ByteArray} {es : List (ByteArray × ByteArray)} {O : List UInt8} (h : Acy B es O) {b : UInt8} (hb : b ∈ B.data.toList) : ∃ r, Topo (ebs es) (b :: r) ∧ r.length ≤ 7 := topo_at h.topo h.eight (h.all b hb)
theorem ebs_len (es : List (ByteArray × ByteArray)) : (ebs es).length = es.length := by simp [ebs]

/-- what is known of the blocks: the counts of those that are done, and that of the exit -/
def tabC (E : Eds) (t : UInt8) (l done : List UInt8) (i : Nat) : Nat := match l[i]? with
  | some c => if c ∈ done ∨ c = t then cntE E t c else 0
  | none => 0
theorem tabC_in {E : Eds} {t : UInt8} {l done : List UInt8} {i : Nat} {c : UInt8} (h : l[i]? = some c) (hc : c ∈ done ∨ c = t) : tabC E t l done i = cntE E t c := by
  unfold tabC; rw [h]; simp only; rw [if_pos hc]
theorem tabC_out {E : Eds} {t : UInt8} {l done : List UInt8} {i : Nat} {c : UInt8} (h : l[i]? = some c) (hc : c ∉ done) : tabC E t l done i = if c = t then 1 else 0 := by
  unfold tabC; rw [h]; simp only
  by_cases ht : c = t
  · subst ht; rw [if_pos (.inr rfl), if_pos rfl, cntE_at]
  · rw [if_neg (fun q => q.elim hc ht), if_neg ht]
theorem tabC_cons {E : Eds} {t : UInt8} {l r : List UInt8} {b : UInt8} {h : Nat} (hn : l.Nodup) (hb : l[h]? = some b) (i : Nat) : tabC E t l (b :: r) i = if i = h then cntE E t b else tabC E t l r i := by
  by_cases hi : i = h
  · subst hi; rw [if_pos rfl, tabC_in hb (.inl (by simp))]
  · rw [if_neg hi]
    unfold tabC
    cases hc : l[i]? with
    | none => rfl
    | some c =>
      have hne : c ≠ b := fun e => hi (by
        subst e
        have h1 : i < l.length := (List.getElem?_eq_some_iff.1 hc).1
        exact (List.getElem?_inj h1 hn).1 (hc.trans hb.symm))
      simp only [List.mem_cons, hne, false_or]

end Go.Proofs.YtpeafheljcjlhaaGreat

namespace Go.Proofs.YtpeafheljcjlhaaGreat
open Go.RowKit

/-- numbers as they lie in memory -/
def IntsIn (w : World) (B : Nat) (A : Option Addr) (xs : List Int) : Prop :=
  ∀ k, (h : k < xs.length) → ∃ b o, A = some ⟨b, o, none⟩ ∧ b < B ∧ w.cell? ⟨b, o + k, none⟩ = some (.int .i64 xs[k])
theorem IntsIn.below {w w' : World} {B : Nat} {A : Option Addr} {xs : List Int} (h : IntsIn w B A xs) (hb : Below B w w') : IntsIn w' B A xs := by
  intro k hk
  obtain ⟨b, o, e, hl, h1⟩ := h k hk
  exact ⟨b, o, e, hl, (hb.cell hl).trans h1⟩
theorem IntsIn.more {w : World} {B B' : Nat} {A : Option Addr} {xs : List Int} (h : IntsIn w B A xs) (hb : B ≤ B') : IntsIn w B' A xs := by
  intro k hk
  obtain ⟨b, o, e, hl, h1⟩ := h k hk
  exact ⟨b, o, e, by omega, h1⟩

theorem intInfo : (Tryz.prog.info? 3).map (fun i => (i.zero, i.size, i.bytes)) = some (some (.int .i64 0), 1, 8) := by kernel_rfl

theorem make_ints (n : Nat) (hn : n ≤ 1099511627776) (W : World) : (Instr.makeSlice 38 (.int .i64 (n : Int)) (.int .i64 (n : Int))).run Tryz.prog W =
    .ok (.slice (some ⟨W.heap.size, 0, none⟩) n n) (W.alloc (.cells (madeCells #[.int .i64 0] n) 3)) := by
  obtain ⟨i0, hi, hz0, hz1, hz2⟩ := info_parts intInfo
  have h := run_make (P := Tryz.prog) W 38 _ i0 _ Tryz.underlying38 hi hz0 .i64 .i64 (n : Int) (n : Int) (by omega) (by omega) (by rw [hz2]; omega) (by omega)
  rw [hz1] at h
  simp only [Int.toNat_natCast, Nat.mul_one] at h
  exact h

/-- what is handed back: the same numbers, in new memory -/
def IntsPost (xs : List Int) (w : World) (e : Ending) (w' : World) : Prop :=
  ∃ g, e = .returned (.slice (some ⟨g, 0, none⟩) xs.length xs.length) ∧ IntsIn w' w'.heap.size (some ⟨g, 0, none⟩) xs ∧ Below w.heap.size w w'

end Go.Proofs.YtpeafheljcjlhaaGreat

namespace Go.Proofs.YtpeafheljcjlhaaGreat
open Go.RowKit

/-- what is handed back: a row of numbers, one for each block -/
def CountsPost (F : Nat → Nat) (n : Nat) (w : World) (e : Ending) (w' : World) : Prop :=
  ∃ g, e = .returned (.slice (some ⟨g, 0, none⟩) n n) ∧ w'.rowIs g 3 n (fun i => .int .i64 (F i : Nat)) ∧ Below w.heap.size w w'

set_option maxRecDepth 100000 in
set_option maxHeartbeats 8000000 in
/-- spec.l4Counts -/
theorem l4Counts_any (B : ByteArray) (A : Option Addr) (cap : Nat) (es : List (ByteArray × ByteArray)) (w : World) (hE : EdgesIn w w.heap.size A es) (hA : Acy B es (orderE B.data.toList (ebs es))) (hBm : B.size ≤ maxLen) :
    Calls Tryz.prog 108 #[.agg #[.string B, .slice A es.length cap]] w (CountsPost (tabC (ebs es) (exit_ B.data.toList) B.data.toList (orderE B.data.toList (ebs es))) B.size w) := by
  have h16 := hA.F.few
  have h8 := hA.F.eight
  have h1 := hA.F.one
  obtain ⟨O, hO⟩ : ∃ O, orderE B.data.toList (ebs es) = O := ⟨_, rfl⟩
  obtain ⟨o, ho⟩ : ∃ o : ByteArray, (⟨O.toArray⟩ : ByteArray) = o := ⟨_, rfl⟩
  have hod : o.data.toList = O := by rw [← ho]
  have hos : o.size = O.length := str_size hod
  have FO : Hid (∀ W : World, EdgesIn W W.heap.size A es → Calls Tryz.prog 85 #[.agg #[.string B, .slice A es.length cap]] W fun e w' => e = .returned (.string o) ∧ Below W.heap.size W w') := Lib.hid fun W h => by
    rw [← ho, ← hO]; exact l3Order_any B A cap es W h hA.F hBm
  rw [hO] at hA ⊢
  have hlen : B.data.toList.length = B.size := by simp
  obtain ⟨t, ht⟩ : ∃ t, exit_ B.data.toList = t := ⟨_, rfl⟩
  obtain ⟨l, hl⟩ : ∃ l, B.data.toList = l := ⟨_, rfl⟩
  obtain ⟨d, hd⟩ : ∃ d, B.size = d + 1 := ⟨B.size - 1, by omega⟩
  have FB : Hid (∀ (c : UInt8) (W : World), Calls Tryz.prog 51 #[.string B, .int .u8 c.toNat] W fun e w' => e = .returned (.int .i64 (Lib.indexByte l c)) ∧ W = w') := Lib.hid fun c W => by
    rw [← hl]; exact find_any B c W hBm
  have HT : Hid (Topo (ebs es) O) := Lib.hid hA.topo
  have HND : Hid O.Nodup := Lib.hid hA.nd
  have HLE : Hid (Lets l es) := Lib.hid (hl ▸ hA.F.lets)
  have HSUB : Hid (∀ x ∈ O, x ∈ l) := Lib.hid (hl ▸ hA.sub)
  have HLN : Hid l.Nodup := Lib.hid (hl ▸ hA.lnd)
  have HNO : Hid (∀ y, ([t], [y]) ∉ ebs es) := Lib.hid (ht ▸ hA.no)
  have HTIX : Hid (l[d]? = some t) := Lib.hid (by have := hA.tix; rw [ht, hl, hd] at this; simpa using this)
  have HLEN : Hid (l.length = d + 1) := Lib.hid (by rw [← hl, hlen, hd])
  have HO8 := Lib.hid hA.eight
  rw [ht, hl]
  have HOD := Lib.hid hod; have HOS := Lib.hid hos
  have a0 : IntKind.i64.wrap ((B.size : Int) - 1) = (d : Int) := by rw [IntWalk.i64_in _ (by omega)]; omega
  have a1 : (d : Int) < (B.size : Int) := by omega
  have a2 : d < B.size := by omega
  have HD := Lib.hid hd
  clear hO ho hod hos hlen ht hl hA hBm hd
  obtain ⟨W0, hW0⟩ : ∃ W0, W0 = (w.alloc (.cells #[.string B, .slice A es.length cap] 31)).alloc (.cells ((madeCells #[.int .i64 0] B.size).setIfInBounds d (.int .i64 1)) 3) := ⟨_, rfl⟩
  have hb0 : Below w.heap.size w W0 := by rw [hW0]; exact ((Below.refl _ _).alloc (Nat.le_refl _) _).alloc (by simp) _
  have t0 : Two W0 w.heap.size B A es.length cap := by rw [hW0]; exact ⟨by go_simp, by go_simp⟩
  have hz0 : W0.heap.size = w.heap.size + 2 := by rw [hW0]; simp
  have x0 : W0.rowIs (w.heap.size + 1) 3 B.size (fun i => .int .i64 ((tabC (ebs es) t l [] i : Nat) : Int)) := by
    have h := World.rowIs_alloc (w.alloc (.cells #[.string B, .slice A es.length cap] 31)) ((madeCells #[.int .i64 0] B.size).setIfInBounds d (.int .i64 1)) 3 (fun i => .int .i64 ((tabC (ebs es) t l [] i : Nat) : Int)) (fun i hi => by
      have hiB : i < B.size := by rw [Array.size_setIfInBounds, size_madeCells] at hi; exact hi
      have hi2 : i < l.length := by rw [HLEN.out, ← HD.out]; exact hiB
      have hc : l[i]? = some l[i] := List.getElem?_eq_getElem hi2
      rw [tabC_out hc (by simp), Array.getElem?_setIfInBounds]
      by_cases hid : d = i
      · subst hid
        have : l[d] = t := by have := hc.symm.trans HTIX.out; injection this
        rw [if_pos rfl, if_pos (by rw [size_madeCells]; exact hiB), if_pos this]; rfl
      · rw [if_neg hid]
        have hne : l[i] ≠ t := fun e => hid (by
          have h2 : l[d]? = l[i]? := by rw [HTIX.out, hc, e]
          exact (List.getElem?_inj (by have := HLEN.out; omega) HLN.out).1 h2)
        rw [if_neg hne]
        simp [madeCells, hiB, Nat.mod_one])
    rw [World.size_alloc, Array.size_setIfInBounds, size_madeCells] at h
    rw [hW0]; exact h
  have c0 := t0.1; have c1 := t0.2
  have c2 : (madeCells #[.int .i64 0] B.size)[d]? = some (.int .i64 0) := by simp [madeCells, a2, Nat.mod_one]
  rw [hW0] at c0 c1
  have hmk := fun W => make_ints B.size (by omega) W
  go_enter Tryz.func108, Tryz.ntmps108
  go_wp2_with fail
  rw [← hW0]
  clear hmk c0 c1 c2 hW0 a0 a1 a2
  obtain ⟨X, hX⟩ : ∃ X, w.heap.size + 1 = X := ⟨_, rfl⟩
  rw [hX] at x0 ⊢
  refine (FO.out _ ((hE.below hb0).more hb0.size)).mono ?_
  rintro e w3 ⟨rfl, hb3⟩
  have hb3' := hb0.trans (hb3.mono hb0.size)
  have t3 := t0.below hb3 (by omega)
  have x3 := x0.of_block (hb3.block X (by omega))
  have hz3 := hb3.size
  clear hb3 t0 x0 hb0 FO
  have HT3 := Lib.hid t3; have HX3 := Lib.hid x3; have HB3 := Lib.hid hb3'
  clear t3 x3 hb3'
  go_wp2_with fail
  go_loopw [5] (fun c wr => ∃ j : Nat, j ≤ o.size ∧ c = .int .i64 ((j : Int) - 1) ∧ wr.rowIs X 3 B.size (fun i => .int .i64 ((tabC (ebs es) t l (O.drop j) i : Nat) : Int)) ∧ w3.grownBy wr (some X)) (fun c _ => (intOf c + 1).toNat)
  case atStart => exact ⟨o.size, Nat.le_refl _, by first | rfl | exact congrArg (Value.int IntKind.i64) (by have := HOS.out; have := HO8.out; unfold wrap64; omega), by rw [List.drop_of_length_le (by have := HOS.out; omega)]; exact HX3.out, World.grownBy.refl _ _⟩
  case round =>
    clear HX3
    obtain ⟨j, hj, rfl, htab, hgr⟩ := hrel
    have tr := HT3.out.grown hgr (by omega) (by intro e; injection e with e; omega)
    have hbw : Below w.heap.size w wr := HB3.out.grown hgr (by omega) (fun q e => by injection e with e; omega)
    have hzr := hgr.size
    have HTAB := Lib.hid htab; have HGR := Lib.hid hgr
    clear htab hgr
    have hos := HOS.out
    cases j with
    | zero =>
      clear tr hos
      go_wp2_with fail
      go_ret
      exact ⟨X, rfl, HTAB.out, hbw⟩
    | succ j =>
      have hjl : j < o.size := by omega
      have hjO : j < O.length := by omega
      obtain ⟨b, hb⟩ : ∃ b, O[j] = b := ⟨_, rfl⟩
      have hdrop : O.drop j = b :: O.drop (j + 1) := by rw [List.drop_eq_getElem_cons hjO, hb]
      have hTj : Topo (ebs es) (b :: O.drop (j + 1)) := by
        rw [← hdrop]
        exact Topo.drop (a := O.take j) (by rw [List.take_append_drop]; exact HT.out)
      have hbl : b ∈ l := HSUB.out b (hb ▸ List.getElem_mem hjO)
      have hbn : b ∉ O.drop (j + 1) := by
        have h := HND.out
        rw [← List.take_append_drop j O, hdrop] at h
        exact (List.nodup_cons.1 (List.nodup_append.1 h).2.1).1
      have hrl : (O.drop (j + 1)).length ≤ 7 := by have := HO8.out; simp; omega
      have hkey : o.extract j (j + 1) = ⟨#[b]⟩ := by
        have := letter_at (p := o) hjl
        rw [HOD.out] at this
        have e : O.getD j 0 = b := by simp [List.getD, hjO, hb]
        rw [e] at this
        exact one_byte this
      have hby : o[j] = b := by
        have h2 : o.data.toList[j]? = some b := by rw [HOD.out, List.getElem?_eq_getElem hjO, hb]
        have h3 : o.data.toList[j]? = some o[j] := by rw [List.getElem?_eq_getElem (by simpa using hjl)]; rfl
        rw [h3] at h2; injection h2
      obtain ⟨h, hh⟩ := Int.eq_ofNat_of_zero_le (indexByte_nonneg.2 hbl)
      have hhl : h < l.length := by have := indexByte_lt (l := l) (c := b); omega
      have hlh : l[h]? = some b := by have := indexByte_get hbl; rw [hh] at this; simpa using this
      have hhB : h < B.size := by rw [HD.out, ← HLEN.out]; exact hhl
      have FH : Hid (∀ W : World, Calls Tryz.prog 51 #[.string B, .int .u8 (o[j].toNat : Int)] W fun e w' => e = .returned (.int .i64 h) ∧ W = w') := Lib.hid fun W => by
        have := FB.out b W
        rw [hh] at this
        rw [hby]; exact this
      have HDR := Lib.hid hdrop; have HTJ := Lib.hid hTj; have HBN := Lib.hid hbn; have HKEY := Lib.hid hkey; have HLH := Lib.hid hlh; have HRL := Lib.hid hrl; have HHH := Lib.hid hh
      have e1 : ((j + 1 : Nat) : Int) - 1 = (j : Int) := by omega
      rw [e1]
      have d0 := tr.1; have d1 := tr.2
      have b1 : (0 : Int) ≤ (j : Int) := by omega
      have b2 : (j : Int) < (o.size : Int) := by omega
      clear hb hdrop hTj hbl hbn hrl hkey hh hlh e1 hos hby
      go_wp2_with fail
      go_quiet ((go_at_call 51; exact Calls.quiet_of_same ((FH.out _).mono fun _ _ ⟨h, h'⟩ => ⟨h, h'.symm⟩)))
      have hgq : w3.grownBy (wr.drewN nq) (some X) := ⟨HGR.out.os, HGR.out.tape, HGR.out.output, HGR.out.size, HGR.out.block⟩
      have HXQ : Hid ((wr.drewN nq).rowIs X 3 B.size (fun i => .int .i64 ((tabC (ebs es) t l (O.drop (j + 1)) i : Nat) : Int))) := Lib.hid (HTAB.out.of_block rfl)
      have HGQ := Lib.hid hgq
      clear FH hgq
      go_wp2_with fail
      clear d0 d1 tr
      have HV : Hid (∀ k : Nat, k ≤ es.length → sumC (ebs es) (cntE (ebs es) t) b (List.range k) ≤ 4294967296) := Lib.hid fun k hk => sumC_few (by rw [ebs_len]; exact h16) HTJ.out HRL.out (by omega)
      go_loopw [37] (fun c wi => ∃ k : Nat, k ≤ es.length ∧ c = .int .i64 k ∧ wi.rowIs X 3 B.size (fun i => .int .i64 ((if i = h then (if b = t then 1 else 0) + sumC (ebs es) (cntE (ebs es) t) b (List.range k) else tabC (ebs es) t l (O.drop (j + 1)) i : Nat) : Int)) ∧ w3.grownBy wi (some X)) (fun c _ => es.length - (intOf c).toNat)
      case atStart => exact ⟨0, Nat.zero_le _, rfl, HXQ.out.congr (fun i _ => by
        by_cases hi : i = h
        · rw [if_pos hi, hi, tabC_out HLH.out HBN.out]; rfl
        · rw [if_neg hi]), HGQ.out⟩
      case round =>
        clear HXQ HGQ
        obtain ⟨k, hk, rfl, htab, hgr⟩ := hrel
        have tr := HT3.out.grown hgr (by omega) (by intro e; injection e with e; omega)
        have hbw : Below w.heap.size w wr := HB3.out.grown hgr (by omega) (fun q e => by injection e with e; omega)
        have hzr := hgr.size
        have HTAB := Lib.hid htab; have HGR := Lib.hid hgr
        clear htab hgr
        have hwr : wrap64 ((j : Int) - 1) = (j : Int) - 1 := by have := HOS.out; have := HO8.out; unfold wrap64; omega
        by_cases hlt : k < es.length
        case neg =>
          have hkn : k = es.length := by omega
          have hel : (ebs es).length = es.length := by simp [ebs]
          have HN : Hid (wr.rowIs X 3 B.size (fun i => .int .i64 ((tabC (ebs es) t l (O.drop j) i : Nat) : Int))) := Lib.hid (HTAB.out.congr (fun i _ => by
            rw [HDR.out, tabC_cons HLN.out HLH.out i, hkn, ← hel, ← cntE_all HNO.out HTJ.out HRL.out]))
          clear tr
          go_wp2_with fail
          go_roundw
          case rel => exact ⟨j, by omega, by rw [hwr], HN.out, HGR.out⟩
          case measure => simp [intOf, hwr]
        obtain ⟨x, y, he, h1, h2, hxl, hyl⟩ := edge_letters HLE.out hlt
        obtain ⟨eb, eo, rfl, hlow, q1, q2⟩ := (hE.below hbw) k hlt
        rw [h1] at q1
        rw [h2] at q2
        have HE1 := Lib.hid he
        have hba : Below wr.heap.size wr (wr.alloc (.cells #[.string ⟨#[x]⟩, .string ⟨#[y]⟩] 70)) := (Below.refl _ _).alloc (Nat.le_refl _) _
        have HBA := Lib.hid hba
        have HRS : Hid (sumC (ebs es) (cntE (ebs es) t) b (List.range (k + 1)) = sumC (ebs es) (cntE (ebs es) t) b (List.range k) + stepC (ebs es) (cntE (ebs es) t) b k) := Lib.hid (sumC_range _ _ _ _)
        clear he h1 h2 hba
        have d0 := tr.1; have d1 := tr.2
        have a4 : (0 : Int) ≤ (j : Int) + 1 := by omega
        have a5 : ((j : Int) + 1).toNat = j + 1 := by omega
        have a6 : (j : Int) + 1 ≤ (o.size : Int) := by omega
        have a7 : j + 1 ≤ o.size := by omega
        have a8 : (j : Int) ≤ (j : Int) + 1 := by omega
        have a9 : IntKind.i64.wrap ((j : Int) + 1) = (j : Int) + 1 := by have := HOS.out; have := HO8.out; exact IntWalk.i64_in _ (by omega)
        obtain ⟨ob, hob⟩ : ∃ ob : ByteArray, o.extract j (j + 1) = ob := ⟨_, rfl⟩
        have hobb : ob = ⟨#[b]⟩ := by rw [← hob, HKEY.out]
        have HWR := Lib.hid hwr
        clear hwr
        by_cases hxb : x = b
        case neg =>
          have hq : (x == b) = false := by simp [hxb]
          have HN : Hid (sumC (ebs es) (cntE (ebs es) t) b (List.range (k + 1)) = sumC (ebs es) (cntE (ebs es) t) b (List.range k)) := Lib.hid (by rw [HRS.out, stepC_no HE1.out hxb, Nat.add_zero])
          have HG6 := Lib.hid (grown_below HGR.out HBA.out)
          have HX6 := Lib.hid (HTAB.out.of_block (HBA.out.block X (by have := HTAB.out.lt; omega)))
          clear hxb tr
          go_wp2_with fail
          go_quiet (fail)
          go_wp2_with fail
          go_roundw
          case rel => exact ⟨k + 1, by omega, by go_num, by rw [HN.out]; exact HX6.out.of_block rfl, ⟨HG6.out.os, HG6.out.tape, HG6.out.output, HG6.out.size, HG6.out.block⟩⟩
          case measure => simp [intOf]; omega
        subst hxb
        have hq : (x == x) = true := by simp
        -- an edge from the block
        obtain ⟨iy, hiy⟩ := Int.eq_ofNat_of_zero_le (indexByte_nonneg.2 hyl)
        have hiyl : iy < l.length := by have := indexByte_lt (l := l) (c := y); omega
        have hly : l[iy]? = some y := by have := indexByte_get hyl; rw [hiy] at this; simpa using this
        have hiyB : iy < B.size := by rw [HD.out, ← HLEN.out]; exact hiyl
        have hyO : y ∈ O.drop (j + 1) := HTJ.out.1 y (List.mem_of_getElem? HE1.out)
        have hne : iy ≠ h := fun e => by
          subst e
          have := hly.symm.trans HLH.out
          injection this with e2
          subst e2
          exact topo_self _ _ _ (Nat.le_refl _) HTJ.out (List.mem_of_getElem? HE1.out)
        have FY : Hid (∀ W : World, Calls Tryz.prog 51 #[.string B, .int .u8 (y.toNat : Int)] W fun e w' => e = .returned (.int .i64 iy) ∧ W = w') := Lib.hid fun W => by
          have := FB.out y W
          rwa [hiy] at this
        obtain ⟨c1, hc1⟩ : ∃ c1 : Nat, ((if x = t then 1 else 0) + sumC (ebs es) (cntE (ebs es) t) x (List.range k)) = c1 := ⟨_, rfl⟩
        obtain ⟨c2, hc2⟩ : ∃ c2 : Nat, cntE (ebs es) t y = c2 := ⟨_, rfl⟩
        have hcb : c1 + c2 ≤ 8589934593 := by
          have h1 := HV.out k hk
          have h2 : cntE (ebs es) t y ≤ 268435456 := by
            obtain ⟨r2, h2, h3, _⟩ := topo_to HTJ.out HRL.out (List.mem_of_getElem? HE1.out)
            exact cntE_few (by rw [ebs_len]; exact h16) h2 h3
          rw [← hc1, ← hc2]
          split <;> omega
        have cy : wr.cell? ⟨X, iy, none⟩ = some (.int .i64 c2) := by
          rw [HTAB.out.cell hiyB, if_neg hne, tabC_in hly (.inl hyO), hc2]
        have ch : wr.cell? ⟨X, h, none⟩ = some (.int .i64 c1) := by
          rw [HTAB.out.cell hhB, if_pos rfl, hc1]
        have fh := HTAB.out.frozen h
        have HN : Hid ((if x = t then 1 else 0) + sumC (ebs es) (cntE (ebs es) t) x (List.range (k + 1)) = c1 + c2) := Lib.hid (by rw [HRS.out, stepC_yes HE1.out, ← hc1, ← hc2]; omega)
        have hba := HBA.out
        have hXr : X < wr.heap.size := HTAB.out.lt
        have z1 : IntKind.i64.wrap ((c1 : Int) + (c2 : Int)) = (c1 : Int) + (c2 : Int) := IntWalk.i64_in _ (by omega)
        have i1 : (0 : Int) ≤ (iy : Int) := by omega
        have i2 : (iy : Int) < (B.size : Int) := by omega
        have i3 : (0 : Int) ≤ (h : Int) := by omega
        have i4 : (h : Int) < (B.size : Int) := by omega
        clear hiy hiyl hly hyO hc1 hc2 hcb
        go_wp2_with fail
        go_quiet (fail)
        go_wp2_with fail
        obtain ⟨wa, hwa⟩ : ∃ wa, (wr.alloc (.cells #[.string ⟨#[x]⟩, .string ⟨#[y]⟩] 70)).drewN nq = wa := ⟨_, rfl⟩
        have tA := tr.below hba (by omega)
        have cA0 := tA.1
        have cA1 := (hba.cell (p := ⟨X, iy, none⟩) (by simp only; omega)).trans cy
        have cA2 := (hba.cell (p := ⟨X, h, none⟩) (by simp only; omega)).trans ch
        have cA3 : (wr.alloc (.cells #[.string ⟨#[x]⟩, .string ⟨#[y]⟩] 70)).cell? ⟨wr.heap.size, 1, none⟩ = some (.string ⟨#[y]⟩) := by go_simp
        have fA := (HTAB.out.of_block (hba.block X (by omega))).frozen h
        have hwX : wa.heap[X]? = wr.heap[X]? := by rw [← hwa]; exact hba.block X (by omega)
        have hwb : Below wr.heap.size wr wa := by rw [← hwa]; exact below_drewN hba nq
        rw [show ∀ p, (wr.alloc (.cells #[.string ⟨#[x]⟩, .string ⟨#[y]⟩] 70)).cell? p = wa.cell? p from fun p => by rw [← hwa]; rfl] at cA0 cA1 cA2 cA3
        rw [show ∀ p, (wr.alloc (.cells #[.string ⟨#[x]⟩, .string ⟨#[y]⟩] 70)).frozen? p = wa.frozen? p from fun p => by rw [← hwa]; rfl] at fA
        rw [hwa]
        have HWX := Lib.hid hwX; have HWB := Lib.hid hwb
        clear hwa hba tA d0 d1 q1 q2 cy ch fh tr hwX hwb a4 a5 a6 a7 a8 a9 hq hob hobb
        have hrow : (wa.setCell ⟨X, h, none⟩ (.int .i64 ((c1 : Int) + (c2 : Int)))).rowIs X 3 B.size (fun i => .int .i64 ((if i = h then (if x = t then 1 else 0) + sumC (ebs es) (cntE (ebs es) t) x (List.range (k + 1)) else tabC (ebs es) t l (O.drop (j + 1)) i : Nat) : Int)) := by
          refine ((HTAB.out.of_block HWX.out).set h (.int .i64 ((c1 : Int) + (c2 : Int)))).congr fun i hi => ?_
          by_cases hih : i = h
          · simp only [hih, if_true, HN.out]; rw [Int.natCast_add]
          · simp only [hih, if_false]
        have HROW := Lib.hid hrow
        have HG7 := Lib.hid (only_setCell_at (i := h) (u := .int .i64 ((c1 : Int) + (c2 : Int))) (grown_below HGR.out HWB.out))
        clear hrow
        go_region_with (first
            | (go_at_call 51; refine (FY.out _).mono ?_; rintro e w6 ⟨rfl, rfl⟩))
        all_goals
          go_wp2_with fail
          go_roundw
          case rel => exact ⟨k + 1, by omega, by go_num, HROW.out.of_block rfl, ⟨HG7.out.os, HG7.out.tape, HG7.out.output, HG7.out.size, HG7.out.block⟩⟩
          case measure => simp [intOf]; omega

end Go.Proofs.YtpeafheljcjlhaaGreat

namespace Go.Proofs.YtpeafheljcjlhaaGreat
open Go.RowKit

/-- edge number i does -/
def HitAt (es : List (ByteArray × ByteArray)) (xs : List UInt8) (c : UInt8) (i : Nat) : Prop := ∃ x ∈ xs, (ebs es)[i]? = some ([x], [c])
theorem hit_iff {es : List (ByteArray × ByteArray)} {xs : List UInt8} {c : UInt8} : EntL (ebs es) xs c ↔ ∃ i, i < es.length ∧ HitAt es xs c i := by
  constructor
  · rintro ⟨x, hx, he⟩
    obtain ⟨i, hi⟩ := List.mem_iff_getElem?.1 he
    have : i < (ebs es).length := (List.getElem?_eq_some_iff.1 hi).1
    exact ⟨i, by simpa [ebs] using this, x, hx, hi⟩
  · rintro ⟨i, _, x, hx, hi⟩
    exact ⟨x, hx, List.mem_iff_getElem?.2 ⟨i, hi⟩⟩
theorem hit_at {es : List (ByteArray × ByteArray)} {xs : List UInt8} {c x y : UInt8} {k : Nat} (hk : k < es.length) (hx : es[k].1.data.toList = [x]) (hy : es[k].2.data.toList = [y]) : HitAt es xs c k ↔ y = c ∧ x ∈ xs := by
  have he : (ebs es)[k]? = some ([x], [y]) := by
    simp only [ebs, List.getElem?_map, List.getElem?_eq_getElem hk, Option.map_some, hx, hy]
  unfold HitAt
  rw [he]
  constructor
  · rintro ⟨z, hz, e⟩
    injection e with e
    injection e with e1 e2
    injection e1 with e1; injection e2 with e2
    exact ⟨e2, e1 ▸ hz⟩
  · rintro ⟨rfl, h⟩
    exact ⟨x, h, rfl⟩

set_option maxRecDepth 100000 in
set_option maxHeartbeats 2000000 in
/-- impl.comesFrom -/
theorem comesFrom_any (B : ByteArray) (A : Option Addr) (cap : Nat) (es : List (ByteArray × ByteArray)) (l : List UInt8) (b : ByteArray) (c : UInt8) (m : Nat) (xs : List UInt8) (w : World) (hE : EdgesIn w w.heap.size A es) (hl : es.length ≤ 100) (hL : Lets l es) (hb : b.data.toList = [c]) (hm : SetAt w m (xs.map encL)) :
    Calls Tryz.prog 130 #[.agg #[.string B, .slice A es.length cap], .map (some m), .string b] w fun e w' => e = .returned (.bool (decB (EntL (ebs es) xs c))) ∧ Below w.heap.size w w' := by
  have hb1 : Below w.heap.size w (w.alloc (.cells #[.string B, .slice A es.length cap] 31)) := (Below.refl _ _).alloc (Nat.le_refl _) _
  have hmlt := hm.lt
  have HM := Lib.hid hm; have HLE := Lib.hid hL; have HB := Lib.hid hb
  clear hm hL hb
  go_enter Tryz.func130, Tryz.ntmps130
  go_wp2_with fail
  generalize hW1 : w.alloc (.cells #[.string B, .slice A es.length cap] 31) = w1 at hb1 ⊢
  clear hW1
  go_loopw [12] (fun i wr => ∃ k : Nat, k ≤ es.length ∧ i = .int .i64 k ∧ (∀ i, i < k → ¬ HitAt es xs c i) ∧ Below w.heap.size w wr) (fun i _ => es.length - (intOf i).toNat)
  case atStart => exact ⟨0, Nat.zero_le _, rfl, fun i hi => absurd hi (by omega), hb1⟩
  case round =>
    obtain ⟨k, hk, rfl, hno, hbw⟩ := hrel
    have HNO := Lib.hid hno
    clear hno
    by_cases hlt : k < es.length
    case neg =>
      have HQ : Hid (decB (EntL (ebs es) xs c) = false) := Lib.hid (decB_f fun h => by
        obtain ⟨i, hi, hh⟩ := hit_iff.1 h
        exact HNO.out i (by omega) hh)
      go_wp2_with fail
      go_ret
      exact ⟨by rw [HQ.out]; rfl, hbw⟩
    obtain ⟨x, y, hx, hy, _, _⟩ := HLE.out es[k] (List.getElem_mem hlt)
    have hit := hit_at (xs := xs) (c := c) hlt hx hy
    obtain ⟨eb, eo, rfl, hlow, h1, h2⟩ := (hE.below hbw) k hlt
    have hba : Below w.heap.size w (wr.alloc (.cells #[.string es[k].1, .string es[k].2] 70)) := hbw.alloc hbw.size _
    have HIT := Lib.hid hit; have HX := Lib.hid (bytes_one hx); have HBA := Lib.hid hba
    have hyc : (es[k].2.toList == b.toList) = decide (y = c) := by
      rw [Lib.toList_data, Lib.toList_data, hy, HB.out]
      by_cases h : y = c <;> simp [h]
    clear hx hit hba hy
    by_cases h : y = c
    · rw [decide_eq_true h] at hyc
      have hlk := ((HM.out.below HBA.out hmlt).lookup (P := Tryz.prog) (keyL Tryz.underlying9) (t := 107) (e := 4) Tryz.underlying107 (by kernel_rfl) x)
      rw [show encL x = .string es[k].1 by rw [HX.out]; rfl] at hlk
      by_cases hxs : x ∈ xs
      · rw [decB_t hxs] at hlk
        have HQ : Hid (decB (EntL (ebs es) xs c) = true) := Lib.hid (decB_t (hit_iff.2 ⟨k, hlt, HIT.out.2 ⟨h, hxs⟩⟩))
        clear h hxs
        go_wp2_with fail
        go_ret
        exact ⟨by rw [HQ.out]; rfl, HBA.out⟩
      · rw [decB_f hxs] at hlk
        have HN : Hid (∀ i, i < k + 1 → ¬ HitAt es xs c i) := Lib.hid fun i hi => by
          by_cases hik : i < k
          · exact HNO.out i hik
          · have : i = k := by omega
            subst this
            exact fun q => hxs (HIT.out.1 q).2
        clear h hxs
        go_wp2_with fail
        go_roundw
        case rel => exact ⟨k + 1, by omega, by go_num, HN.out, HBA.out⟩
        case measure => simp [intOf]; omega
    · rw [decide_eq_false h] at hyc
      have HN : Hid (∀ i, i < k + 1 → ¬ HitAt es xs c i) := Lib.hid fun i hi => by
        by_cases hik : i < k
        · exact HNO.out i hik
        · have : i = k := by omega
          subst this
          exact fun q => h (HIT.out.1 q).1
      clear h
      go_wp2_with fail
      go_roundw
      case rel => exact ⟨k + 1, by omega, by go_num, HN.out, HBA.out⟩
      case measure => simp [intOf]; omega

set_option maxRecDepth 100000 in
set_option maxHeartbeats 2000000 in
/-- spec.l2Entered -/
theorem l2Entered_any (B : ByteArray) (A : Option Addr) (cap : Nat) (es : List (ByteArray × ByteArray)) (l : List UInt8) (s b : ByteArray) (c : UInt8) (w : World) (hE : EdgesIn w w.heap.size A es) (hl : es.length ≤ 100) (hL : Lets l es) (hb : b.data.toList = [c]) (hs : s.size ≤ maxLen) :
    Calls Tryz.prog 107 #[.agg #[.string B, .slice A es.length cap], .string s, .string b] w fun e w' => e = .returned (.bool (decB (EntL (ebs es) s.data.toList c))) ∧ Below w.heap.size w w' := by
  have hb1 : Below w.heap.size w (w.alloc (.cells #[.string B, .slice A es.length cap] 31)) := (Below.refl _ _).alloc (Nat.le_refl _) _
  have HLE := Lib.hid hL; have HB := Lib.hid hb; have HS := Lib.hid hs
  clear hL hb hs
  go_enter Tryz.func107, Tryz.ntmps107
  go_wp2_with fail
  generalize hW1 : w.alloc (.cells #[.string B, .slice A es.length cap] 31) = w1 at hb1 ⊢
  clear hW1
  go_loopw [12] (fun i wr => ∃ k : Nat, k ≤ es.length ∧ i = .int .i64 k ∧ (∀ i, i < k → ¬ HitAt es s.data.toList c i) ∧ Below w.heap.size w wr) (fun i _ => es.length - (intOf i).toNat)
  case atStart => exact ⟨0, Nat.zero_le _, rfl, fun i hi => absurd hi (by omega), hb1⟩
  case round =>
    obtain ⟨k, hk, rfl, hno, hbw⟩ := hrel
    have HNO := Lib.hid hno
    clear hno
    by_cases hlt : k < es.length
    case neg =>
      have HQ : Hid (decB (EntL (ebs es) s.data.toList c) = false) := Lib.hid (decB_f fun h => by
        obtain ⟨i, hi, hh⟩ := hit_iff.1 h
        exact HNO.out i (by omega) hh)
      go_wp2_with fail
      go_ret
      exact ⟨by rw [HQ.out]; rfl, hbw⟩
    obtain ⟨x, y, hx, hy, _, _⟩ := HLE.out es[k] (List.getElem_mem hlt)
    have hit := hit_at (xs := s.data.toList) (c := c) hlt hx hy
    obtain ⟨eb, eo, rfl, hlow, h1, h2⟩ := (hE.below hbw) k hlt
    have hyc : (es[k].2.toList == b.toList) = decide (y = c) := by
      rw [Lib.toList_data, Lib.toList_data, hy, HB.out]
      by_cases h : y = c <;> simp [h]
    have hx1 := bytes_one hx
    rw [hx1] at h1
    have hba : Below w.heap.size w (wr.alloc (.cells #[.string ⟨#[x]⟩, .string es[k].2] 70)) := hbw.alloc hbw.size _
    have HIT := Lib.hid hit; have HBA := Lib.hid hba
    clear hx hit hba hy hx1
    obtain ⟨fi, hfi⟩ : ∃ fi, Lib.indexByte s.data.toList x = fi := ⟨_, rfl⟩
    have hiff : 0 ≤ fi ↔ x ∈ s.data.toList := by rw [← hfi]; exact indexByte_nonneg
    have HFI := Lib.hid hfi; have HIFF := Lib.hid hiff
    clear hfi hiff
    by_cases h : y = c
    · rw [decide_eq_true h] at hyc
      by_cases hxs : 0 ≤ fi
      · have HQ : Hid (decB (EntL (ebs es) s.data.toList c) = true) := Lib.hid (decB_t (hit_iff.2 ⟨k, hlt, HIT.out.2 ⟨h, HIFF.out.1 hxs⟩⟩))
        have hge : fi ≥ 0 := hxs
        clear h
        go_wp2_with (go_at_call 51; refine (find_any s x _ HS.out).mono ?_; rw [HFI.out]; rintro e wI ⟨rfl, rfl⟩)
        go_ret
        exact ⟨by rw [HQ.out]; rfl, HBA.out⟩
      · have HN : Hid (∀ i, i < k + 1 → ¬ HitAt es s.data.toList c i) := Lib.hid fun i hi => by
          by_cases hik : i < k
          · exact HNO.out i hik
          · have : i = k := by omega
            subst this
            exact fun q => hxs (HIFF.out.2 (HIT.out.1 q).2)
        have hge : ¬ fi ≥ 0 := hxs
        clear h
        go_wp2_with (go_at_call 51; refine (find_any s x _ HS.out).mono ?_; rw [HFI.out]; rintro e wI ⟨rfl, rfl⟩)
        go_roundw
        case rel => exact ⟨k + 1, by omega, by go_num, HN.out, HBA.out⟩
        case measure => simp [intOf]; omega
    · rw [decide_eq_false h] at hyc
      have HN : Hid (∀ i, i < k + 1 → ¬ HitAt es s.data.toList c i) := Lib.hid fun i hi => by
        by_cases hik : i < k
        · exact HNO.out i hik
        · have : i = k := by omega
          subst this
          exact fun q => h (HIT.out.1 q).1
      clear h
      go_wp2_with fail
      go_roundw
      case rel => exact ⟨k + 1, by omega, by go_num, HN.out, HBA.out⟩
      case measure => simp [intOf]; omega

end Go.Proofs.YtpeafheljcjlhaaGreat

namespace Go.Proofs.YtpeafheljcjlhaaGreat
open Go.RowKit

section
variable {P : Program} {w : World} {ops : Array Oper} {rest : List Oper} {o : Oper} {a : Act} {Q : Exit → Act → World → Prop} {kt e : TypeId}
/-- 'len(m)' of a set of letters -/
theorem wpList_len_set (hg : o.guard = none) (m : Operand) (t : TypeId) (hop : o.op = Op.call { callee := Callee.builtin Builtin.len, args := #[m], argTypes := #[t] }) (ht : P.underlying t = some (.map kt e))
    (b : Nat) (xs : List UInt8) (hm : a.eval m = .map (some b)) (hs : SetAt w b (xs.map encL))
    (hK : wpList P ops Q rest (a.put o.dst (.int .i64 xs.length)) w) : wpList P ops Q (o :: rest) a w := by
  refine wpList_plain hg fun K' hK' => ?_
  unfold Oper.wp
  simp [execOp, hop, resolve, invoke, builtin, hm, hs.len (P := P) ht o.type, Result.andThen]
  exact hK' _ _ hK
/-- 'delete(m, x)' of a set of letters -/
theorem wpList_delete_set (hg : o.guard = none) (m x : Operand) (t k : TypeId) (hop : o.op = Op.call { callee := Callee.builtin Builtin.delete, args := #[m, x], argTypes := #[t, k] }) (hk : P.underlying kt = some .string) (ht : P.underlying t = some (.map kt e))
    (b : Nat) (xs : List UInt8) (hm : a.eval m = .map (some b)) (hs : SetAt w b (xs.map encL)) (c : UInt8) (hx : a.eval x = encL c)
    (hK : ∀ w', SetAt w' b ((xs.erase c).map encL) → w.grownBy w' (some b) → wpList P ops Q rest (a.put o.dst (.tuple #[])) w') : wpList P ops Q (o :: rest) a w := by
  refine wpList_plain hg fun K' hK' => ?_
  obtain ⟨w', hrun, r1, r2⟩ := hs.delete (k := k) hk ht c o.type
  unfold Oper.wp
  simp [execOp, hop, resolve, invoke, builtin, hm, hx, hrun, Result.andThen]
  exact hK' _ _ (hK w' r1 r2)
end

/-- how much can go yet -/
def beforeM (b : Int) : Nat := if b < 0 then 20 else b.toNat

/-- what a pass says when it ends -/
def PassEnd (E : Eds) (xs : List UInt8) (b : Int) : Prop :=
  b = -1 ∨ ((xs.length : Int) ≤ b ∧ b ≤ 8 ∧ ((xs.length : Int) = b → SelfEnt E xs))

/-- what is handed back: a set that is empty if there is no way round -/
def LeftPost (B : ByteArray) (es : List (ByteArray × ByteArray)) (w : World) (e : Ending) (w' : World) : Prop :=
  ∃ (m : Nat) (xs : List UInt8), e = .returned (.map (some m)) ∧ SetAt w' m (xs.map encL) ∧ Below w.heap.size w w' ∧ (xs.length = 0 ↔ ¬ Cyc B.data.toList (ebs es))

set_option maxRecDepth 100000 in
set_option maxHeartbeats 4000000 in
/-- impl.leftOver -/
theorem leftOver_any (B : ByteArray) (A : Option Addr) (cap : Nat) (es : List (ByteArray × ByteArray)) (w : World) (hE : EdgesIn w w.heap.size A es) (hl : es.length ≤ 100) (hL : Lets B.data.toList es) (hn : B.data.toList.Nodup) (h8 : B.size ≤ 8) :
    Calls Tryz.prog 105 #[.agg #[.string B, .slice A es.length cap]] w (LeftPost B es w) := by
  have hmm := @run_makeMap Tryz.prog
  have hb1 : Below w.heap.size w ((w.alloc (.cells #[.string B, .slice A es.length cap] 31)).alloc (.map #[] 0)) := ((Below.refl _ _).alloc (Nat.le_refl _) _).alloc (by simp) _
  have t1 : Two ((w.alloc (.cells #[.string B, .slice A es.length cap] 31)).alloc (.map #[] 0)) w.heap.size B A es.length cap := ⟨by go_simp, by go_simp⟩
  have hz1 : ((w.alloc (.cells #[.string B, .slice A es.length cap] 31)).alloc (.map #[] 0)).heap.size = w.heap.size + 2 := by simp
  have hs1 : SetAt ((w.alloc (.cells #[.string B, .slice A es.length cap] 31)).alloc (.map #[] 0)) (w.heap.size + 1) (([] : List UInt8).map encL) := by
    have := SetAt.new (enc := encL) (w.alloc (.cells #[.string B, .slice A es.length cap] 31))
    rwa [World.size_alloc] at this
  have hlen : B.data.toList.length = B.size := by simp
  have HLEN := Lib.hid hlen; have HLE := Lib.hid hL; have HND := Lib.hid hn
  clear hlen hL hn
  go_enter Tryz.func105, Tryz.ntmps105
  go_wp2_with fail
  clear hmm
  generalize hW1 : (w.alloc (.cells #[.string B, .slice A es.length cap] 31)).alloc (.map #[] 0) = w1 at hb1 t1 hz1 hs1 ⊢
  clear hW1
  have HT1 := Lib.hid t1; have HB1 := Lib.hid hb1; have HS1 := Lib.hid hs1
  clear t1 hb1 hs1
  go_loopw [12] (fun i wr => ∃ k : Nat, k ≤ B.size ∧ i = .int .i64 k ∧ SetAt wr (w.heap.size + 1) ((B.data.toList.take k).map encL) ∧ w1.grownBy wr (some (w.heap.size + 1))) (fun i _ => B.size - (intOf i).toNat)
  case atStart => exact ⟨0, Nat.zero_le _, rfl, HS1.out, World.grownBy.refl _ _⟩
  case round =>
    clear HS1
    obtain ⟨k, hk, rfl, hset, hgr⟩ := hrel
    have tr := HT1.out.grown hgr (by omega) (by intro e; injection e with e; omega)
    have hd0 := tr.1; have hd1 := tr.2
    have HSET := Lib.hid hset; have HGR := Lib.hid hgr; have HTR := Lib.hid tr
    clear hset hgr tr
    by_cases hlt : k < B.size
    · have HKEY : Hid (B.extract k (k + 1) = ⟨#[B.data.toList.getD k 0]⟩) := Lib.hid (bytes_one (letter_at hlt))
      have HC : Hid (B.data.toList.getD k 0 ∉ B.data.toList.take k) := Lib.hid (by
        have hkl : k < B.data.toList.length := by rw [HLEN.out]; exact hlt
        have hg : B.data.toList.getD k 0 = B.data.toList[k] := by simp [List.getD, hlt]
        rw [hg]
        intro hmem
        have h := HND.out
        rw [← List.take_append_drop k B.data.toList, List.drop_eq_getElem_cons hkl] at h
        exact (List.nodup_append.1 h).2.2 _ hmem _ (by simp) rfl)
      have HTK : Hid (B.data.toList.take (k + 1) = B.data.toList.take k ++ [B.data.toList.getD k 0]) := Lib.hid (by
        have hkl : k < B.data.toList.length := by rw [HLEN.out]; exact hlt
        rw [List.take_succ_eq_append_getElem hkl]
        simp [List.getD, hlt])
      go_wp2_with (at_mapUpdate; go_must (refine wpList_update_set rfl (.tmp 15) (.tmp 21) 107 (.inl rfl) (keyL Tryz.underlying9) Tryz.underlying107 (w.heap.size + 1) _ rfl HSET.out _ (by show Value.string (B.extract k (k + 1)) = encL _; rw [HKEY.out]; rfl) HC.out ?_; intro w3 hset3 hgr3))
      have HSET3 : Hid (SetAt w3 (w.heap.size + 1) ((B.data.toList.take (k + 1)).map encL)) := Lib.hid (by rw [HTK.out]; exact hset3)
      have HGR3 := Lib.hid (HGR.out.trans hgr3)
      clear hset3 hgr3 hd0 hd1
      go_roundw
      case rel => exact ⟨k + 1, by omega, by go_num, HSET3.out, HGR3.out⟩
      case measure => simp [intOf]; omega
    have hkn : k = B.size := by omega
    subst hkn
    have hset2 : SetAt wr (w.heap.size + 1) (B.data.toList.map encL) := by
      have h := HSET.out
      rwa [List.take_of_length_le (by rw [HLEN.out]; exact Nat.le_refl _)] at h
    have hg2 := HGR.out
    clear HSET HGR hd0 hd1 HTR hlt hk
    obtain ⟨w2, rfl⟩ : ∃ w2, w2 = wr := ⟨_, rfl⟩
    have HSET2 := Lib.hid hset2; have HG2 := Lib.hid hg2
    clear hset2 hg2
    go_wp2_with fail
    go_loopw [5] (fun v wo => ∃ (b0 : Int) (xs : List UInt8), v = .int .i64 b0 ∧ SetAt wo (w.heap.size + 1) (xs.map encL) ∧ Big B.data.toList (ebs es) xs ∧ w1.grownBy wo (some (w.heap.size + 1)) ∧ PassEnd (ebs es) xs b0) (fun v _ => beforeM (intOf v))
    case atStart => exact ⟨-1, _, rfl, HSET2.out, Big.all HND.out, HG2.out, .inl rfl⟩
    case round =>
      clear HSET2 HG2
      obtain ⟨b0, xs, rfl, hset, hbig, hgr, hend⟩ := hrel
      have hx8 : xs.length ≤ 8 := by
        have h1 := nodup_len hbig.nodup hbig.sub
        rw [HLEN.out] at h1
        omega
      have HSET := Lib.hid hset; have HBIG := Lib.hid hbig; have HGR := Lib.hid hgr; have HEND := Lib.hid hend
      have hbw : Below w.heap.size w wr := HB1.out.grown hgr (by omega) (fun q e => by injection e with e; omega)
      obtain ⟨n0, hn0⟩ : ∃ n0, xs.length = n0 := ⟨_, rfl⟩
      have HN0 := Lib.hid hn0
      rw [hn0] at hx8
      clear hset hbig hgr hend hn0
      by_cases hb0 : b0 = (n0 : Int)
      · have HFIN : Hid (xs.length = 0 ↔ ¬ Cyc B.data.toList (ebs es)) := Lib.hid (by
          have hs : SelfEnt (ebs es) xs := by
            rcases HEND.out with h | ⟨_, _, h⟩
            · omega
            · exact h (by rw [HN0.out, hb0])
          rw [← HBIG.out.done hs]
          exact List.length_eq_zero_iff)
        have ht : ((b0 : Int) != (n0 : Int)) = false := by simp [hb0]
        clear hb0
        go_wp2_with (at_len; refine wpList_len_set rfl (.tmp 24) 107 rfl (kt := 9) (e := 4) Tryz.underlying107 (w.heap.size + 1) xs rfl HSET.out ?_; rw [HN0.out])
        go_ret
        exact ⟨_, xs, rfl, HSET.out, hbw, HFIN.out⟩
      · have ht : ((b0 : Int) != (n0 : Int)) = true := by simp [hb0]
        have hmeas : beforeM (n0 : Int) < beforeM b0 := by
          unfold beforeM
          rcases HEND.out with h | ⟨h1, h2, _⟩
          · rw [h, if_neg (by omega), if_pos (by decide)]
            omega
          · rw [HN0.out] at h1
            rw [if_neg (by omega), if_neg (by omega)]
            omega
        have HME := Lib.hid hmeas
        have tr := HT1.out.grown HGR.out (by omega) (by intro e; injection e with e; omega)
        have hd0 := tr.1; have hd1 := tr.2
        clear hb0 hmeas HEND tr
        go_wp2_with (at_len; first | (refine wpList_len_set rfl (.tmp 24) 107 rfl (kt := 9) (e := 4) Tryz.underlying107 (w.heap.size + 1) xs rfl HSET.out ?_; rw [HN0.out]) | (refine wpList_len_set rfl (.tmp 27) 107 rfl (kt := 9) (e := 4) Tryz.underlying107 (w.heap.size + 1) xs rfl HSET.out ?_; rw [HN0.out]))
        obtain ⟨wo, rfl⟩ : ∃ wo, wo = wr := ⟨_, rfl⟩
        clear hd0 hd1 ht
        go_loopw [32] (fun c wi => ∃ (k : Nat) (ys : List UInt8), k ≤ B.size ∧ c = .int .i64 k ∧ SetAt wi (w.heap.size + 1) (ys.map encL) ∧ Big B.data.toList (ebs es) ys ∧ w1.grownBy wi (some (w.heap.size + 1)) ∧ ys.length ≤ n0 ∧
          (ys.length = n0 → ∀ i, i < k → B.data.toList.getD i 0 ∈ ys → EntL (ebs es) ys (B.data.toList.getD i 0))) (fun c _ => B.size - (intOf c).toNat)
        case atStart => exact ⟨0, xs, Nat.zero_le _, rfl, HSET.out, HBIG.out, HGR.out, by rw [HN0.out]; exact Nat.le_refl _, fun _ i hi => absurd hi (by omega)⟩
        case round =>
          clear HSET HBIG HGR HN0 hbw
          obtain ⟨k, ys, hk, rfl, hset, hbig, hgr, hyn, hpass⟩ := hrel
          have HSET := Lib.hid hset; have HBIG := Lib.hid hbig; have HGR := Lib.hid hgr; have HPASS := Lib.hid hpass
          have tr := HT1.out.grown hgr (by omega) (by intro e; injection e with e; omega)
          have hbw : Below w.heap.size w wr := HB1.out.grown hgr (by omega) (fun q e => by injection e with e; omega)
          have hzr : w.heap.size + 2 ≤ wr.heap.size := by have := hgr.size; omega
          clear hset hbig hgr hpass
          by_cases hlt : k < B.size
          case neg =>
            have HEND : Hid (PassEnd (ebs es) ys (n0 : Int)) := Lib.hid (.inr ⟨by omega, by omega, fun he c hc => by
              obtain ⟨i, hi, hic⟩ := List.getElem_of_mem (HBIG.out.sub c hc)
              have hg : B.data.toList.getD i 0 = c := by rw [← hic, List.getD_eq_getElem?_getD, List.getElem?_eq_getElem hi]; rfl
              have := HPASS.out (by omega) i (by have := HLEN.out; omega) (by rw [hg]; exact hc)
              rwa [hg] at this⟩)
            clear tr
            go_wp2_with fail
            go_roundw
            case rel => exact ⟨n0, ys, rfl, HSET.out, HBIG.out, HGR.out, HEND.out⟩
            case measure => exact HME.out
          have hd0 := tr.1; have hd1 := tr.2
          have hkey := letter_at hlt
          obtain ⟨c, hc⟩ : ∃ c, B.data.toList.getD k 0 = c := ⟨_, rfl⟩
          rw [hc] at hkey
          have HC := Lib.hid hc; have HKEY := Lib.hid hkey
          have HA : Hid (EdgesIn wr wr.heap.size A es) := Lib.hid ((hE.below hbw).more hbw.size)
          clear hc hkey tr
          go_wp2_with fail
          refine (comesFrom_any B A cap es B.data.toList _ c (w.heap.size + 1) ys _ HA.out hl HLE.out HKEY.out HSET.out).mono ?_
          rintro e w3 ⟨rfl, hb3⟩
          have HSET3 := Lib.hid (HSET.out.below hb3 (by omega))
          have HGR3 := Lib.hid (grown_below HGR.out hb3)
          clear hd0 hd1 hb3
          by_cases hent : EntL (ebs es) ys c
          · rw [decB_t hent]
            have HP : Hid (ys.length = n0 → ∀ i, i < k + 1 → B.data.toList.getD i 0 ∈ ys → EntL (ebs es) ys (B.data.toList.getD i 0)) := Lib.hid fun he i hi hm => by
              by_cases hik : i < k
              · exact HPASS.out he i hik hm
              · have : i = k := by omega
                subst this
                rw [HC.out]; exact hent
            clear hent
            go_wp2_with fail
            go_roundw
            case rel => exact ⟨k + 1, ys, by omega, by go_num, HSET3.out, HBIG.out, HGR3.out, hyn, HP.out⟩
            case measure => simp [intOf]; omega
          · rw [decB_f hent]
            have HBIG4 := Lib.hid (HBIG.out.erase hent)
            have hlen4 : (ys.erase c).length ≤ n0 := Nat.le_trans (List.length_erase_le) hyn
            have HP : Hid ((ys.erase c).length = n0 → ∀ i, i < k + 1 → B.data.toList.getD i 0 ∈ ys.erase c → EntL (ebs es) (ys.erase c) (B.data.toList.getD i 0)) := Lib.hid fun he i hi hm => by
              by_cases hcy : c ∈ ys
              · have h1 := List.length_erase_of_mem hcy
                have h2 := List.length_pos_of_mem hcy
                omega
              · rw [List.erase_of_not_mem hcy] at he hm ⊢
                by_cases hik : i < k
                · exact HPASS.out he i hik hm
                · have : i = k := by omega
                  subst this
                  rw [HC.out] at hm
                  exact absurd hm hcy
            have HLEN4 := Lib.hid hlen4
            clear hent hlen4
            go_wp2_with (at_delete; go_must (refine wpList_delete_set rfl (.tmp 46) (.tmp 47) 107 9 rfl (kt := 9) (e := 4) Tryz.underlying9 Tryz.underlying107 (w.heap.size + 1) ys rfl HSET3.out c (by show Value.string (B.extract k (k + 1)) = encL c; rw [bytes_one HKEY.out]; rfl) ?_; intro w4 hset4 hgr4))
            have HSET4 := Lib.hid hset4
            have HGR4 := Lib.hid (HGR3.out.trans hgr4)
            clear hset4 hgr4
            go_roundw
            case rel => exact ⟨k + 1, ys.erase c, by omega, by go_num, HSET4.out, HBIG4.out, HGR4.out, HLEN4.out, HP.out⟩
            case measure => simp [intOf]; omega

end Go.Proofs.YtpeafheljcjlhaaGreat

namespace Go.Proofs.YtpeafheljcjlhaaGreat
open Go.RowKit

/-- whether a net is one and has no way round -/
noncomputable def acycV (B : ByteArray) (es : List (ByteArray × ByteArray)) : Bool := decB (Valid B.data.toList (ebs es) ∧ ¬ Cyc B.data.toList (ebs es))

set_option maxRecDepth 100000 in
set_option maxHeartbeats 2000000 in
/-- impl.IsAcyclic -/
theorem implIsAcyclic_any (B : ByteArray) (A : Option Addr) (cap : Nat) (es : List (ByteArray × ByteArray)) (w : World) (hs : B.size ≤ maxLen) (hE : EdgesIn w w.heap.size A es) (hl : es.length ≤ 1099511627776) (_ : ∀ e ∈ es, e.1.size ≤ 1099511627776 ∧ e.2.size ≤ 1099511627776) :
    Calls Tryz.prog 75 #[.agg #[.string B, .slice A es.length cap]] w (BoolPost (acycV B es) w) := by
  have hl2 : es.length ≤ maxLen := by unfold maxLen; omega
  have HL2 := Lib.hid hl2; have HM := Lib.hid hs
  clear hl hl2 hs
  have hb1 : Below w.heap.size w (w.alloc (.cells #[.string B, .slice A es.length cap] 31)) := (Below.refl _ _).alloc (Nat.le_refl _) _
  have t1 := Two.made w B A es.length cap 31
  have hz1 : (w.alloc (.cells #[.string B, .slice A es.length cap] 31)).heap.size = w.heap.size + 1 := by simp
  by_cases hv : Valid B.data.toList (ebs es)
  case neg =>
    have HD : Hid (decB (Valid B.data.toList (ebs es)) = false) := Lib.hid (decB_f hv)
    have HQ : Hid (acycV B es = false) := Lib.hid (decB_f fun h => hv h.1)
    clear hv
    go_enter Tryz.func75, Tryz.ntmps75
    go_wp2_with fail
    refine (valid_any B A cap es _ HM.out ((hE.below hb1).more hb1.size) HL2.out).mono ?_
    rw [HD.out]
    rintro e w2 ⟨rfl, hb2⟩
    have hb2' := hb1.trans (hb2.mono hb1.size)
    clear hb2 t1
    go_wp2_with fail
    go_ret
    exact ⟨by rw [HQ.out]; rfl, hb2'⟩
  have HD : Hid (decB (Valid B.data.toList (ebs es)) = true) := Lib.hid (decB_t hv)
  have HQ : Hid (acycV B es = decB (¬ Cyc B.data.toList (ebs es))) := Lib.hid (decB_congr ⟨fun h => h.2, fun h => ⟨hv, h⟩⟩)
  have h16 : es.length ≤ 100 := by have := (valid_sizes hv).2; omega
  have h8 := (valid_sizes hv).1
  have HLE := Lib.hid (lets_of hv.1.2); have HND := Lib.hid hv.1.1.2.2.2
  clear hv
  go_enter Tryz.func75, Tryz.ntmps75
  go_wp2_with fail
  refine (valid_any B A cap es _ HM.out ((hE.below hb1).more hb1.size) HL2.out).mono ?_
  rw [HD.out]
  rintro e w2 ⟨rfl, hb2⟩
  have hb2' := hb1.trans (hb2.mono hb1.size)
  have t2 := t1.below hb2 (by omega)
  have hd0 := t2.1; have hd1 := t2.2
  clear hb2 t1
  go_wp2_with fail
  refine (leftOver_any B A cap es _ ((hE.below hb2').more hb2'.size) h16 HLE.out HND.out h8).mono ?_
  rintro e w3 ⟨m, xs, rfl, hset, hb3, hiff⟩
  have hb3' := hb2'.trans (hb3.mono hb2'.size)
  obtain ⟨n, hn⟩ : ∃ n, xs.length = n := ⟨_, rfl⟩
  rw [hn] at hiff
  have hlen := hset.len (P := Tryz.prog) (t := 107) (kt := 9) (e := 4) Tryz.underlying107 3
  rw [hn] at hlen
  have HIFF := Lib.hid hiff
  clear hb3 hd0 hd1 hset hn hiff
  by_cases h0 : n = 0
  · subst h0
    have HR : Hid (decB (¬ Cyc B.data.toList (ebs es)) = true) := Lib.hid (decB_t (HIFF.out.1 rfl))
    go_wp2_with fail
    go_ret
    exact ⟨by rw [HQ.out, HR.out]; rfl, hb3'⟩
  · have hq : ((n : Int) == 0) = false := by rw [beq_eq_false_iff_ne]; omega
    have HR : Hid (decB (¬ Cyc B.data.toList (ebs es)) = false) := Lib.hid (decB_f fun h => h0 (HIFF.out.2 h))
    clear h0
    go_wp2_with fail
    go_ret
    exact ⟨by rw [HQ.out, HR.out]; rfl, hb3'⟩

end Go.Proofs.YtpeafheljcjlhaaGreat

namespace Go.Proofs.YtpeafheljcjlhaaGreat
open Go.RowKit

set_option maxRecDepth 100000 in
set_option maxHeartbeats 4000000 in
/-- spec.IsAcyclic -/
theorem specIsAcyclic_any (B : ByteArray) (A : Option Addr) (cap : Nat) (es : List (ByteArray × ByteArray)) (w : World) (hs : B.size ≤ maxLen) (hE : EdgesIn w w.heap.size A es) (hl : es.length ≤ 1099511627776) (_ : ∀ e ∈ es, e.1.size ≤ 1099511627776 ∧ e.2.size ≤ 1099511627776) :
    Calls Tryz.prog 77 #[.agg #[.string B, .slice A es.length cap]] w (BoolPost (acycV B es) w) := by
  have hl2 : es.length ≤ maxLen := by unfold maxLen; omega
  have HL2 := Lib.hid hl2; have HM := Lib.hid hs
  clear hl hl2 hs
  have hb1 : Below w.heap.size w (w.alloc (.cells #[.string B, .slice A es.length cap] 31)) := (Below.refl _ _).alloc (Nat.le_refl _) _
  have t1 := Two.made w B A es.length cap 31
  have hz1 : (w.alloc (.cells #[.string B, .slice A es.length cap] 31)).heap.size = w.heap.size + 1 := by simp
  by_cases hv : Valid B.data.toList (ebs es)
  case neg =>
    have HD : Hid (decB (Valid B.data.toList (ebs es)) = false) := Lib.hid (decB_f hv)
    have HQ : Hid (acycV B es = false) := Lib.hid (decB_f fun h => hv h.1)
    clear hv
    go_enter Tryz.func77, Tryz.ntmps77
    go_wp2_with fail
    refine (specValid_any B A cap es _ HM.out ((hE.below hb1).more hb1.size) HL2.out).mono ?_
    rw [HD.out]
    rintro e w2 ⟨rfl, hb2⟩
    have hb2' := hb1.trans (hb2.mono hb1.size)
    clear hb2 t1
    go_wp2_with fail
    go_ret
    exact ⟨by rw [HQ.out]; rfl, hb2'⟩
  have HD : Hid (decB (Valid B.data.toList (ebs es)) = true) := Lib.hid (decB_t hv)
  have HQ : Hid (acycV B es = decB (¬ Cyc B.data.toList (ebs es))) := Lib.hid (decB_congr ⟨fun h => h.2, fun h => ⟨hv, h⟩⟩)
  have h16 : es.length ≤ 100 := by have := (valid_sizes hv).2; omega
  have h8 := (valid_sizes hv).1
  have HLE := Lib.hid (lets_of hv.1.2); have HND := Lib.hid hv.1.1.2.2.2
  have HLEN : Hid (B.data.toList.length = B.size) := Lib.hid (by simp)
  clear hv
  go_enter Tryz.func77, Tryz.ntmps77
  go_wp2_with fail
  refine (specValid_any B A cap es _ HM.out ((hE.below hb1).more hb1.size) HL2.out).mono ?_
  rw [HD.out]
  rintro e w2 ⟨rfl, hb2⟩
  have hb2' := hb1.trans (hb2.mono hb1.size)
  have t2 := t1.below hb2 (by omega)
  have hz2 : w.heap.size + 1 ≤ w2.heap.size := by have := hb2.size; omega
  have hd0 := t2.1; have hd1 := t2.2
  have HT2 := Lib.hid t2; have HB2 := Lib.hid hb2'
  clear hb2 t1 t2 hb2' hz1 hb1
  go_wp2_with fail
  clear hd0 hd1
  go_loopw [3, 4] (fun a g wo => ∃ (s : ByteArray) (ag : Bool), a = .string s ∧ g = .bool ag ∧ Big B.data.toList (ebs es) s.data.toList ∧ (ag = false → SelfEnt (ebs es) s.data.toList) ∧ Below w2.heap.size w2 wo)
    (fun a g _ => (match a with | .string s => s.size | _ => 0) * 2 + (match g with | .bool true => 1 | _ => 0))
  case atStart => exact ⟨B, true, rfl, rfl, Big.all HND.out, (fun h => by cases h), Below.refl _ _⟩
  case round =>
    obtain ⟨s, ag, rfl, rfl, hbig, hag, hb⟩ := hrel
    have HBIG := Lib.hid hbig; have HAG := Lib.hid hag; have HB := Lib.hid hb
    have hs8 : s.size ≤ 8 := by
      have h1 := nodup_len hbig.nodup hbig.sub
      rw [HLEN.out] at h1
      have : s.data.toList.length = s.size := by simp
      omega
    have hzr := hb.size
    clear hbig hag hb
    cases ag with
    | false =>
      have hdone := HBIG.out.done (HAG.out rfl)
      have HR : Hid ((s.toList == []) = decB (¬ Cyc B.data.toList (ebs es))) := Lib.hid (by
        rw [Lib.toList_data]
        by_cases h : s.data.toList = []
        · rw [decB_t (hdone.1 h)]; simp [h]
        · rw [decB_f fun q => h (hdone.2 q)]
          rw [beq_eq_false_iff_ne]; exact h)
      clear hdone
      go_wp2_with fail
      go_ret
      refine ⟨?_, HB2.out.trans (HB.out.mono (by omega))⟩
      rw [HQ.out, ← HR.out]
      first | rfl | simp
    | true =>
      clear HAG
      go_wp2_with fail
      obtain ⟨wo, rfl⟩ : ∃ wo, wo = wr := ⟨_, rfl⟩
      go_loopw [3, 4, 14] (fun a g c wi => ∃ k : Nat, k ≤ s.size ∧ a = .string s ∧ g = .bool false ∧ c = .int .i64 k ∧ (∀ i, i < k → EntL (ebs es) s.data.toList (s.data.toList.getD i 0)) ∧ Below w2.heap.size w2 wi) (fun _ _ c _ => s.size - (intOf c).toNat)
      case atStart => exact ⟨0, Nat.zero_le _, rfl, rfl, rfl, (fun i hi => absurd hi (by omega)), HB.out⟩
      case round =>
        clear HB hzr
        obtain ⟨k, hk, rfl, rfl, rfl, hent, hb⟩ := hrel
        have HENT := Lib.hid hent; have HB := Lib.hid hb
        have tr := HT2.out.below hb (by omega)
        have hzr := hb.size
        clear hent hb
        by_cases hlt : k < s.size
        case neg =>
          have HSE : Hid (SelfEnt (ebs es) s.data.toList) := Lib.hid fun c hc => by
            obtain ⟨i, hi, hic⟩ := List.getElem_of_mem hc
            have hg : s.data.toList.getD i 0 = c := by rw [← hic, List.getD_eq_getElem?_getD, List.getElem?_eq_getElem hi]; rfl
            have := HENT.out i (by have h2 : s.data.toList.length = s.size := (by simp); omega)
            rwa [hg] at this
          clear tr
          go_wp2_with fail
          go_roundw
          case rel => exact ⟨s, false, rfl, rfl, HBIG.out, (fun _ => HSE.out), HB.out⟩
          case measure => simp only; omega
        have hkey := letter_at hlt
        obtain ⟨c, hc⟩ : ∃ c, s.data.toList.getD k 0 = c := ⟨_, rfl⟩
        rw [hc] at hkey
        have HC := Lib.hid hc; have HKEY := Lib.hid hkey
        have hS : ∀ W, Below wr.heap.size wr W → (W.cell? ⟨w.heap.size, 0, none⟩ = some (.string B) ∧ W.cell? ⟨w.heap.size, 1, none⟩ = some (.slice A es.length cap) ∧ Below wr.heap.size wr W) :=
          fun W h => ⟨(h.cell (by simp only; omega)).trans tr.1, (h.cell (by simp only; omega)).trans tr.2, h⟩
        have hA : EdgesIn wr.drew wr.drew.heap.size A es := by
          have hbW := (HB2.out.trans (HB.out.mono (show w.heap.size ≤ w2.heap.size by omega))).drew
          exact (hE.below hbW).more hbW.size
        have HSS := Lib.hid hS; have HA := Lib.hid hA
        clear hS hA tr hc hkey
        have a1 : (0 : Int) ≤ (k : Int) := by omega
        have a2 : (k : Int) < (s.size : Int) := by omega
        have a4 : (0 : Int) ≤ (k : Int) + 1 := by omega
        have a5 : ((k : Int) + 1).toNat = k + 1 := by omega
        have a6 : (k : Int) + 1 ≤ (s.size : Int) := by omega
        have a7 : k + 1 ≤ s.size := by omega
        have a8 : (k : Int) ≤ (k : Int) + 1 := by omega
        have a3 : IntKind.i64.wrap ((k : Int) + 1) = (k : Int) + 1 := IntWalk.i64_in _ (by omega)
        go_wp2_with fail
        go_region_held3 (fun W => W.cell? ⟨w.heap.size, 0, none⟩ = some (.string B) ∧ W.cell? ⟨w.heap.size, 1, none⟩ = some (.slice A es.length cap) ∧ Below wr.heap.size wr W)
          (first
            | exact HSS.out _ (Below.refl _ _).drew
            | exact HSS.out _ ((Below.refl _ _).drew.trans hb5))
          (first
            | (go_at_call 107; refine (l2Entered_any B A cap es B.data.toList s _ c _ HA.out h16 HLE.out HKEY.out (by unfold maxLen; omega)).mono ?_; rintro e w5 ⟨rfl, hb5⟩))
        rename_i hHeld
        have HB5 := Lib.hid (HB.out.trans (hHeld.2.2.mono hzr))
        clear hHeld HSS HA hb5
        by_cases hent : EntL (ebs es) s.data.toList c
        · rw [decB_t hent]
          have HP : Hid (∀ i, i < k + 1 → EntL (ebs es) s.data.toList (s.data.toList.getD i 0)) := Lib.hid fun i hi => by
            by_cases hik : i < k
            · exact HENT.out i hik
            · have : i = k := by omega
              subst this
              rw [HC.out]; exact hent
          clear hent a1 a2 a3 a4 a5 a6 a7 a8
          go_wp2_with fail
          go_roundw
          case rel => exact ⟨k + 1, by omega, rfl, rfl, by go_num, HP.out, HB5.out⟩
          case measure => simp [intOf]; omega
        · rw [decB_f hent]
          have hlen : s.data.toList.length = s.size := by simp
          have hgk : s.data.toList.getD k 0 = s.data.toList[k]'(by omega) := by rw [List.getD_eq_getElem?_getD, List.getElem?_eq_getElem (by omega)]; rfl
          have HBIG2 : Hid (Big B.data.toList (ebs es) (s.extract 0 k ++ s.extract (k + 1) s.size).data.toList) := Lib.hid (by
            have h := HBIG.out.cut (i := k) (by omega) (by rw [← hgk, HC.out]; exact hent)
            rw [Go.Joins.data_append, extract_take, Lib.extract_to_end]
            exact h)
          have hsz1 : (s.extract 0 k).size = k := by simp; omega
          have hsz2 : (s.extract (k + 1) s.size).size = s.size - (k + 1) := by simp
          have hadd : ¬ 9223372036854775807 < (s.extract 0 k).size + (s.extract (k + 1) s.size).size := by omega
          have HSZ : Hid ((s.extract 0 k ++ s.extract (k + 1) s.size).size = s.size - 1) := Lib.hid (by rw [ByteArray.size_append, hsz1, hsz2]; omega)
          have b1 : (k : Int) ≤ (s.size : Int) := by omega
          have b2 : k ≤ s.size := by omega
          clear hent hlen hgk hsz1 hsz2
          go_wp2_with fail
          go_quiet (fail)
          go_wp2_with fail
          go_roundw
          case rel => exact ⟨_, true, rfl, rfl, HBIG2.out, (fun h => by cases h), below_drewN HB5.out _⟩
          case measure => simp only; rw [HSZ.out]; omega

end Go.Proofs.YtpeafheljcjlhaaGreat

namespace Go.Proofs.YtpeafheljcjlhaaGreat
open Go.RowKit

theorem acy_v {B : ByteArray} {es : List (ByteArray × ByteArray)} (h : acycV B es = true) : Acy B es (orderE B.data.toList (ebs es)) := by
  obtain ⟨hv, hc⟩ := decB_iff.1 h
  exact acy_of hv hc
/-- the counts of a net without ways round -/
def cntV (B : ByteArray) (es : List (ByteArray × ByteArray)) (b : UInt8) : Int := ((cntE (ebs es) (exit_ B.data.toList) b : Nat) : Int)
noncomputable def runsV (B : ByteArray) (es : List (ByteArray × ByteArray)) : Int := if acycV B es = true then cntV B es (entry B.data.toList) else -1
noncomputable def fromV (B : ByteArray) (es : List (ByteArray × ByteArray)) (b : ByteArray) : Int := if acycV B es = true ∧ 0 ≤ bIdx B.data.toList b.data.toList then cntV B es (b.data.toList.headD 0) else -1
theorem cntV_bound {B : ByteArray} {es : List (ByteArray × ByteArray)} {O : List UInt8} (h : Acy B es O) {b : UInt8} (hb : b ∈ B.data.toList) : 0 ≤ cntV B es b ∧ cntV B es b ≤ 268435456 := by
  obtain ⟨r, h1, h2⟩ := h.at_ hb
  have := cntE_few (t := exit_ B.data.toList) (by rw [ebs_len]; exact h.F.few) h1 h2
  unfold cntV
  omega

set_option maxRecDepth 100000 in
set_option maxHeartbeats 4000000 in
/-- spec.l4Count -/
theorem l4Count_any (B : ByteArray) (A : Option Addr) (cap : Nat) (es : List (ByteArray × ByteArray)) (c : UInt8) (w : World) (hE : EdgesIn w w.heap.size A es) (hA : Acy B es (orderE B.data.toList (ebs es))) (hBm : B.size ≤ maxLen) (hc : c ∈ B.data.toList) :
    Calls Tryz.prog 79 #[.agg #[.string B, .slice A es.length cap], .string ⟨#[c]⟩] w (IntPost (cntV B es c) w) := by
  have hlen : B.data.toList.length = B.size := by simp
  obtain ⟨i, hi⟩ := Int.eq_ofNat_of_zero_le (indexByte_nonneg.2 hc)
  have hil : i < B.size := by have := indexByte_lt (l := B.data.toList) (c := c); omega
  have hli : B.data.toList[i]? = some c := by have := indexByte_get hc; rw [hi] at this; simpa using this
  have HV : Hid (((tabC (ebs es) (exit_ B.data.toList) B.data.toList (orderE B.data.toList (ebs es)) i : Nat) : Int) = cntV B es c) := Lib.hid (by rw [tabC_in hli (.inl (hA.all c hc))]; rfl)
  obtain ⟨v, hv⟩ : ∃ v, cntV B es c = v := ⟨_, rfl⟩
  rw [hv] at HV ⊢
  have FC : Hid (∀ W : World, EdgesIn W W.heap.size A es → Calls Tryz.prog 108 #[.agg #[.string B, .slice A es.length cap]] W (CountsPost (tabC (ebs es) (exit_ B.data.toList) B.data.toList (orderE B.data.toList (ebs es))) B.size W)) := Lib.hid fun W h => l4Counts_any B A cap es W h hA hBm
  have FF : Hid (∀ W : World, Calls Tryz.prog 51 #[.string B, .int .u8 (c.toNat : Int)] W fun e w' => e = .returned (.int .i64 i) ∧ W = w') := Lib.hid fun W => by
    rw [← hi]; exact find_any B c W hBm
  have hb1 : Below w.heap.size w (w.alloc (.cells #[.string B, .slice A es.length cap] 31)) := (Below.refl _ _).alloc (Nat.le_refl _) _
  have t1 := Two.made w B A es.length cap 31
  have hz1 : (w.alloc (.cells #[.string B, .slice A es.length cap] 31)).heap.size = w.heap.size + 1 := by simp
  have i1 : (0 : Int) ≤ (i : Int) := by omega
  have i2 : (i : Int) < (B.size : Int) := by omega
  clear hlen hi hli hv hA hBm hc
  go_enter Tryz.func79, Tryz.ntmps79
  go_wp2_with fail
  obtain ⟨w1, hw1⟩ : ∃ w1, w.alloc (.cells #[.string B, .slice A es.length cap] 31) = w1 := ⟨_, rfl⟩
  rw [hw1] at hb1 t1 hz1 ⊢
  clear hw1
  have HT1 := Lib.hid t1
  have HA : Hid (∀ W, Below w1.heap.size w1 W → EdgesIn W W.heap.size A es) := Lib.hid fun W h => (hE.below (hb1.trans (h.mono hb1.size))).more (hb1.trans (h.mono hb1.size)).size
  have d0 := t1.1; have d1 := t1.2
  clear t1
  go_region_with (first
      | (go_at_call 51; refine (FF.out _).mono ?_; rintro e w5 ⟨rfl, rfl⟩)
      | (go_at_call 108; go_must (refine (FC.out _ (HA.out _ (Below.refl _ _).drew)).mono ?_; rintro e w4 ⟨g, rfl, hrow4, hb4⟩; have hc4 := hrow4.cell (i := i) (by omega); have e0 := (HT1.out.below ((Below.refl _ _).drew.trans hb4) (show w.heap.size < w1.heap.size by omega)).1; have HB4 := Lib.hid ((Below.refl _ _).drew.trans hb4); clear hrow4 hb4)))
  all_goals
    go_wp2_with fail
    go_ret
    exact ⟨ret_int HV.out, hb1.trans (HB4.out.mono hb1.size)⟩

end Go.Proofs.YtpeafheljcjlhaaGreat

namespace Go.Proofs.YtpeafheljcjlhaaGreat
open Go.RowKit

theorem filter_take_at {p : Nat → Bool} {j ix : Nat} : ∀ {n : Nat} (h : j < ((List.range n).filter p).length), ((List.range n).filter p)[j] = ix → ((List.range n).filter p).take j = (List.range ix).filter p
  | 0, h, _ => by simp at h
  | n + 1, h, hx => by
    have e : (List.range (n + 1)).filter p = (List.range n).filter p ++ [n].filter p := by rw [List.range_succ, List.filter_append]
    by_cases hj : j < ((List.range n).filter p).length
    · have h2 : ((List.range n).filter p)[j] = ix := by
        rw [← hx]
        simp only [e]
        rw [List.getElem_append_left hj]
      rw [e, List.take_append_of_le_length (by omega)]
      exact filter_take_at hj h2
    · have hp : p n = true := by
        cases hq : p n with
        | true => rfl
        | false =>
          rw [e] at h
          simp [hq] at h
          exact absurd h hj
      have hl : [n].filter p = [n] := by simp [hp]
      have hjl : j = ((List.range n).filter p).length := by
        rw [e, hl] at h
        simp at h; omega
      have h3 : ix = n := by
        rw [← hx]
        simp only [e, hl]
        rw [List.getElem_append_right (by omega)]
        simp
      subst h3
      rw [e, List.take_append_of_le_length (by omega), List.take_of_length_le (by omega)]

theorem sumC_outs {es : List (ByteArray × ByteArray)} {l : List UInt8} (hL : Lets l es) (g : UInt8 → Nat) (x : UInt8) {j ix : Nat} (hj : j < (outsOf es x).length) (hx : (outsOf es x)[j] = ix) : sumC (ebs es) g x ((outsOf es x).take j) = sumC (ebs es) g x (List.range ix) := by
  have h1 := filter_take_at (p := outB es ⟨#[x]⟩) (n := es.length) (j := j) (ix := ix) hj hx
  have h2 : (outsOf es x).take j = (List.range ix).filter (outB es ⟨#[x]⟩) := h1
  rw [h2]
  have hix : ix < es.length := (outsOf_mem hL (hx ▸ List.getElem_mem hj)).1
  refine sumC_filter _ _ _ _ _ fun k hk hq => ?_
  have hkl : k < es.length := by have : k < ix := by simpa using hk
                                 omega
  obtain ⟨a, b, hek, ha, _⟩ := edge_letters hL hkl
  rw [outB_at hkl, Lib.toList_data, Lib.toList_data, ha] at hq
  exact stepC_no hek fun e => by subst e; simp at hq
theorem outs_has {es : List (ByteArray × ByteArray)} {x : UInt8} {y : List UInt8} {k : Nat} (h : (ebs es)[k]? = some ([x], y)) : k ∈ outsOf es x := by
  have hlt : k < es.length := by have := (List.getElem?_eq_some_iff.1 h).1; simpa [ebs] using this
  refine List.mem_filter.2 ⟨by simpa using hlt, ?_⟩
  rw [outB_at hlt]
  have : (es[k].1.data.toList, es[k].2.data.toList) = ([x], y) := by
    simp only [ebs, List.getElem?_map, List.getElem?_eq_getElem hlt, Option.map_some] at h
    injection h
  injection this with h2 _
  rw [Lib.toList_data, Lib.toList_data, h2]; simp

/-- a name is the letter of its place -/
theorem eIdx_text {n k : Nat} {b : ByteArray} (h : eIdx n b.data.toList = (k : Int)) (hn : n ≤ 16) : b = ⟨#[nameOf k]⟩ := by
  unfold eIdx at h
  split at h
  · rename_i c hc
    split at h
    · rename_i hr
      refine bytes_one (hc.trans ?_)
      have : c = nameOf k := UInt8.toNat_inj.1 (by rw [nameOf_toNat (by omega)]; omega)
      rw [this]
    · omega
  · omega

set_option maxRecDepth 100000 in
set_option maxHeartbeats 4000000 in
/-- spec.l4Value -/
theorem l4Value_any (B : ByteArray) (A : Option Addr) (cap : Nat) (es : List (ByteArray × ByteArray)) (k : Nat) (w : World) (hE : EdgesIn w w.heap.size A es) (hA : Acy B es (orderE B.data.toList (ebs es))) (hBm : B.size ≤ maxLen) (hk : k < es.length) :
    Calls Tryz.prog 74 #[.agg #[.string B, .slice A es.length cap], .string ⟨#[nameOf k]⟩] w (IntPost ((valE (ebs es) (exit_ B.data.toList) k : Nat) : Int) w) := by
  have h16 := hA.F.few
  obtain ⟨x, y, he, h1, h2, hxl, hyl⟩ := edge_letters hA.F.lets hk
  obtain ⟨t, ht⟩ : ∃ t, exit_ B.data.toList = t := ⟨_, rfl⟩
  have HA0 := Lib.hid hA
  have FL : Hid (∀ (i : Nat), i < es.length → ∀ W : World, EdgesIn W W.heap.size A es → Calls Tryz.prog 47 #[.agg #[.string B, .slice A es.length cap], .string ⟨#[nameOf i]⟩] W fun e w' => e = .returned (.agg #[.string (es.getD i (⟨#[]⟩, ⟨#[]⟩)).1, .string (es.getD i (⟨#[]⟩, ⟨#[]⟩)).2]) ∧ Below W.heap.size W w') := Lib.hid fun i hi W h => by
    have := l2Edge_any B A cap es ⟨#[nameOf i]⟩ i W h (by omega) hi (eIdx_name hi (by omega))
    simpa [List.getD, hi] using this
  have FO : Hid (∀ W : World, EdgesIn W W.heap.size A es → Calls Tryz.prog 104 #[.agg #[.string B, .slice A es.length cap], .string ⟨#[x]⟩] W fun e w' => e = .returned (.string ⟨(names (outB es ⟨#[x]⟩) es.length).toArray⟩) ∧ Below W.heap.size W w') := Lib.hid fun W h => outList_any B A cap es ⟨#[x]⟩ W h (by omega)
  have FC : Hid (∀ (c : UInt8), c ∈ B.data.toList → ∀ W : World, EdgesIn W W.heap.size A es → Calls Tryz.prog 79 #[.agg #[.string B, .slice A es.length cap], .string ⟨#[c]⟩] W fun e w' => e = .returned (.int .i64 ((cntE (ebs es) t c : Nat) : Int)) ∧ Below W.heap.size W w') := Lib.hid fun c hc W h => by
    have := l4Count_any B A cap es c W h hA hBm hc
    unfold cntV at this
    rw [ht] at this
    exact this
  obtain ⟨ot, hot⟩ : ∃ ot : ByteArray, (⟨(names (outB es ⟨#[x]⟩) es.length).toArray⟩ : ByteArray) = ot := ⟨_, rfl⟩
  rw [hot] at FO
  have hod : ot.data.toList = (outsOf es x).map nameOf := by rw [← hot]; rfl
  have hos : ot.size = (outsOf es x).length := by rw [str_size hod]; simp
  have HV : Hid (valE (ebs es) t k = sumC (ebs es) (cntE (ebs es) t) x (List.range k)) := Lib.hid (valE_eq he)
  have HKIN := Lib.hid (outs_has he)
  have HOD := Lib.hid hod; have HOS := Lib.hid hos
  have hge : es.getD k (⟨#[]⟩, ⟨#[]⟩) = es[k] := by simp [List.getD, hk]
  have FLk := FL.out k hk
  rw [hge, h1, h2] at FLk
  have HFLK := Lib.hid FLk
  have HE1 := Lib.hid he
  rw [ht]
  have hb1 : Below w.heap.size w (w.alloc (.cells #[.string B, .slice A es.length cap] 31)) := (Below.refl _ _).alloc (Nat.le_refl _) _
  have t1 := Two.made w B A es.length cap 31
  have hz1 : (w.alloc (.cells #[.string B, .slice A es.length cap] 31)).heap.size = w.heap.size + 1 := by simp
  have e1 := edge_from; have e2 := edge_to
  clear hot hod hos hge FLk h1 h2 he ht hA hBm
  go_enter Tryz.func74, Tryz.ntmps74
  go_wp2_with fail
  obtain ⟨w1, hw1⟩ : ∃ w1, w.alloc (.cells #[.string B, .slice A es.length cap] 31) = w1 := ⟨_, rfl⟩
  rw [hw1] at hb1 t1 hz1 ⊢
  clear hw1
  have x0 : ∀ x : After w1, x.W.cell? ⟨w.heap.size, 0, none⟩ = some (.string B) := fun x => x.cell (by simp only; omega) t1.1
  have x1 : ∀ x : After w1, x.W.cell? ⟨w.heap.size, 1, none⟩ = some (.slice A es.length cap) := fun x => x.cell (by simp only; omega) t1.2
  have xE : ∀ x : After w1, EdgesIn x.W x.W.heap.size A es := fun x => ((hE.below hb1).below (x.h.mono hb1.size)).more (Nat.le_trans hb1.size x.h.size)
  have XE := Lib.hid xE; clear xE
  refine wp_region_below (by kernel_rfl) (by kernel_rfl) ?_
  repeat (go_big_quiet_step ((first
    | (go_at_call 47; exact After.call (HFLK.out _ (XE.out _)))
    | (go_at_call 104; exact After.call (FO.out _ (XE.out _))))))
  refine wpQuiet_nil ?_
  rintro _ ⟨xw, rfl⟩
  clear x0 x1 XE
  obtain ⟨w2, hw2⟩ : ∃ w2, xw.W = w2 := ⟨_, rfl⟩
  have hb2 := xw.h
  rw [hw2] at hb2 ⊢
  clear hw2 xw
  have t2 := t1.below hb2 (by omega)
  have hb2' := hb1.trans (hb2.mono hb1.size)
  have hz2 : w.heap.size + 1 ≤ w2.heap.size := by have := hb2.size; omega
  have HTW2 := Lib.hid t2; have HB2 := Lib.hid hb2'
  clear hb2 t1 hz1 hb1 t2 hb2' HFLK FO
  have hol : (outsOf es x).length ≤ 16 := by
    have h1 := names_length (outB es ⟨#[x]⟩) es.length
    have h2 : (names (outB es ⟨#[x]⟩) es.length).length = (outsOf es x).length := by simp [names, outsOf]
    omega
  obtain ⟨r, htr, hr7⟩ := HA0.out.at_ hxl
  have HTR := Lib.hid htr
  clear htr
  go_wp2_with fail
  go_loopw [5, 16] (fun a c wr => ∃ j : Nat, j ≤ ot.size ∧ c = .int .i64 j ∧ a = .int .i64 ((sumC (ebs es) (cntE (ebs es) t) x ((outsOf es x).take j) : Nat) : Int) ∧ k ∉ (outsOf es x).take j ∧ Below w2.heap.size w2 wr) (fun _ c _ => ot.size - (intOf c).toNat)
  case atStart => exact ⟨0, Nat.zero_le _, rfl, rfl, by simp, Below.refl _ _⟩
  case round =>
    obtain ⟨j, hj, rfl, rfl, hnk, hb⟩ := hrel
    have HNK := Lib.hid hnk; have HB := Lib.hid hb
    have hzr := hb.size
    have tr := HTW2.out.below hb (by omega)
    have HTRW := Lib.hid tr
    clear hnk hb tr
    by_cases hlt : j < ot.size
    case neg =>
      exact absurd HKIN.out (by have h := HNK.out; rwa [List.take_of_length_le (by have := HOS.out; omega)] at h)
    have hjo : j < (outsOf es x).length := by have := HOS.out; omega
    obtain ⟨ix, hix⟩ : ∃ ix, (outsOf es x)[j] = ix := ⟨_, rfl⟩
    obtain ⟨hi, y2, hy, hy2, hyl2⟩ := outsOf_mem HA0.out.F.lets (hix ▸ List.getElem_mem hjo : ix ∈ outsOf es x)
    have hex : ot.extract j (j + 1) = ⟨#[nameOf ix]⟩ := by
      have := letter_at (p := ot) hlt
      rw [HOD.out] at this
      have e : ((outsOf es x).map nameOf).getD j 0 = nameOf ix := by simp [List.getD, hjo, hix]
      rw [e] at this
      exact one_byte this
    have HSO := Lib.hid (sumC_outs HA0.out.F.lets (cntE (ebs es) t) x hjo hix)
    have HTK : Hid ((outsOf es x).take (j + 1) = (outsOf es x).take j ++ [ix]) := Lib.hid (by rw [List.take_succ_eq_append_getElem hjo, hix])
    have HHY := Lib.hid hy; have HHY2 := Lib.hid hy2
    have a1 : (0 : Int) ≤ (j : Int) := by omega
    have a2 : (j : Int) < (ot.size : Int) := by omega
    have a4 : (0 : Int) ≤ (j : Int) + 1 := by omega
    have a5 : ((j : Int) + 1).toNat = j + 1 := by omega
    have a6 : (j : Int) + 1 ≤ (ot.size : Int) := by omega
    have a7 : j + 1 ≤ ot.size := by omega
    have a8 : (j : Int) ≤ (j : Int) + 1 := by omega
    have a9 : IntKind.i64.wrap ((j : Int) + 1) = (j : Int) + 1 := IntWalk.i64_in _ (by have := HOS.out; omega)
    clear hix hy hy2
    by_cases hik : ix = k
    · subst hik
      have HEND : Hid (sumC (ebs es) (cntE (ebs es) t) x ((outsOf es x).take j) = valE (ebs es) t ix) := Lib.hid (by rw [HSO.out, HV.out])
      rw [HEND.out]
      go_wp2_with fail
      go_ret
      exact ⟨rfl, HB2.out.trans (HB.out.mono (by omega))⟩
    have hq : (nameOf ix == nameOf k) = false := by
      rw [beq_eq_false_iff_ne]
      intro e
      have h1 := nameOf_toNat (k := ix) (by omega)
      have h2 := nameOf_toNat (k := k) (by omega)
      rw [e] at h1
      omega
    obtain ⟨c1, hc1⟩ : ∃ c1 : Nat, sumC (ebs es) (cntE (ebs es) t) x ((outsOf es x).take j) = c1 := ⟨_, rfl⟩
    obtain ⟨c2, hc2⟩ : ∃ c2 : Nat, cntE (ebs es) t y2 = c2 := ⟨_, rfl⟩
    have hcb : c1 + c2 ≤ 8589934592 := by
      have h1 := sumC_few (t := t) (by rw [ebs_len]; exact h16) HTR.out hr7 (show ix ≤ 16 by omega)
      obtain ⟨r2, htr2, hr72⟩ := HA0.out.at_ hyl2
      have h2 : cntE (ebs es) t y2 ≤ 268435456 := cntE_few (by rw [ebs_len]; exact h16) htr2 hr72
      rw [← HSO.out, hc1] at h1
      omega
    have HNEXT : Hid (sumC (ebs es) (cntE (ebs es) t) x ((outsOf es x).take (j + 1)) = c1 + c2) := Lib.hid (by rw [HTK.out, sumC_snoc, stepC_yes HHY.out, hc1, hc2])
    have HNK2 : Hid (k ∉ (outsOf es x).take (j + 1)) := Lib.hid (by
      rw [HTK.out]
      intro h
      rcases List.mem_append.1 h with h | h
      · exact HNK.out h
      · simp at h; exact hik h.symm)
    have FL2 : Hid (∀ W : World, EdgesIn W W.heap.size A es → Calls Tryz.prog 47 #[.agg #[.string B, .slice A es.length cap], .string ⟨#[nameOf ix]⟩] W fun e w' => e = .returned (.agg #[.string (es.getD ix (⟨#[]⟩, ⟨#[]⟩)).1, .string ⟨#[y2]⟩]) ∧ Below W.heap.size W w') := Lib.hid fun W h => by
      have := FL.out ix hi W h
      have e : (es.getD ix (⟨#[]⟩, ⟨#[]⟩)).2 = ⟨#[y2]⟩ := by rw [← HHY2.out]; simp [List.getD, hi]
      rwa [e] at this
    have FC2 : Hid (∀ W : World, EdgesIn W W.heap.size A es → Calls Tryz.prog 79 #[.agg #[.string B, .slice A es.length cap], .string ⟨#[y2]⟩] W fun e w' => e = .returned (.int .i64 (c2 : Int)) ∧ Below W.heap.size W w') := Lib.hid fun W h => by
      have := FC.out y2 hyl2 W h
      rwa [hc2] at this
    have z1 : IntKind.i64.wrap ((c1 : Int) + (c2 : Int)) = (c1 : Int) + (c2 : Int) := IntWalk.i64_in _ (by omega)
    rw [hc1]
    have hbw := HB2.out.trans (HB.out.mono (show w.heap.size ≤ w2.heap.size by omega))
    clear hc1 hc2 hcb hik hyl2
    go_wp2_with fail
    have x0 : ∀ x : After wr, x.W.cell? ⟨w.heap.size, 0, none⟩ = some (.string B) := fun x => x.cell (by simp only; omega) HTRW.out.1
    have x1 : ∀ x : After wr, x.W.cell? ⟨w.heap.size, 1, none⟩ = some (.slice A es.length cap) := fun x => x.cell (by simp only; omega) HTRW.out.2
    have xE : ∀ x : After wr, EdgesIn x.W x.W.heap.size A es := fun x => ((hE.below hbw).below (x.h.mono hbw.size)).more (Nat.le_trans hbw.size x.h.size)
    have XE := Lib.hid xE; clear xE
    refine wp_region_below (by kernel_rfl) (by kernel_rfl) ?_
    repeat (go_big_quiet_step ((first
      | (go_at_call 47; exact After.call (FL2.out _ (XE.out _)))
      | (go_at_call 79; exact After.call (FC2.out _ (XE.out _))))))
    refine wpQuiet_nil ?_
    rintro _ ⟨xw, rfl⟩
    clear x0 x1
    go_wp2_with fail
    go_roundw
    case rel => exact ⟨j + 1, by omega, by go_num, by rw [HNEXT.out, Int.natCast_add], HNK2.out, HB.out.trans (xw.h.mono (by omega))⟩
    case measure => simp [intOf]; omega

end Go.Proofs.YtpeafheljcjlhaaGreat

namespace Go.Proofs.YtpeafheljcjlhaaGreat
open Go.RowKit

theorem valE_small {B : ByteArray} {es : List (ByteArray × ByteArray)} {O : List UInt8} (h : Acy B es O) {k : Nat} (hk : k < es.length) : valE (ebs es) (exit_ B.data.toList) k ≤ 4294967296 := by
  obtain ⟨x, y, he, _, _, hx, _⟩ := edge_letters h.F.lets hk
  obtain ⟨r, h1, h2⟩ := h.at_ hx
  rw [valE_eq he]
  exact sumC_few (by rw [ebs_len]; exact h.F.few) h1 h2 (by have := h.F.few; omega)

/-- the last of some numbers that fit -/
def lastO (q : Nat → Bool) (l : List Nat) : Option Nat := (l.filter q).getLast?
theorem lastO_nil (q : Nat → Bool) : lastO q [] = none := rfl
theorem lastO_yes {q : Nat → Bool} {l : List Nat} {x : Nat} (h : q x = true) : lastO q (l ++ [x]) = some x := by simp [lastO, h]
theorem lastO_no {q : Nat → Bool} {l : List Nat} {x : Nat} (h : q x = false) : lastO q (l ++ [x]) = lastO q l := by simp [lastO, h]
theorem lastO_mem {q : Nat → Bool} {l : List Nat} {x : Nat} (h : lastO q l = some x) : x ∈ l ∧ q x = true := by
  have := List.mem_of_getLast? h
  exact List.mem_filter.1 this
theorem lastO_has {q : Nat → Bool} {l : List Nat} {x : Nat} (h : x ∈ l) (hq : q x = true) : ∃ y, lastO q l = some y := by
  have hm : x ∈ l.filter q := List.mem_filter.2 ⟨h, hq⟩
  cases hl : l.filter q with
  | nil => rw [hl] at hm; simp at hm
  | cons a r => exact ⟨_, by unfold lastO; rw [hl]; exact List.getLast?_eq_some_getLast (by simp)⟩

/-- the last edge from a block whose value is not above a number -/
def lastE (es : List (ByteArray × ByteArray)) (t b : UInt8) (m : Nat) : Option Nat := lastO (fun k => decide (valE (ebs es) t k ≤ m)) (outsOf es b)
/-- where an edge leads -/
def toE (es : List (ByteArray × ByteArray)) (k : Nat) : UInt8 := ((ebs es).getD k ([], [])).2.headD 0
/-- the edges of a run by its number, so many at most -/
def runE (es : List (ByteArray × ByteArray)) (t : UInt8) : Nat → UInt8 → Nat → List UInt8
  | 0, _, _ => []
  | f + 1, b, m => if b = t then [] else match lastE es t b m with
    | none => []
    | some k => nameOf k :: runE es t f (toE es k) (m - valE (ebs es) t k)
theorem runE_end (es : List (ByteArray × ByteArray)) (t : UInt8) (f m : Nat) : runE es t f t m = [] := by
  cases f with
  | zero => rfl
  | succ f => simp [runE]
theorem runE_go {es : List (ByteArray × ByteArray)} {t b : UInt8} {f m k : Nat} (hb : b ≠ t) (h : lastE es t b m = some k) : runE es t (f + 1) b m = nameOf k :: runE es t f (toE es k) (m - valE (ebs es) t k) := by
  rw [runE, if_neg hb, h]
theorem runE_len (es : List (ByteArray × ByteArray)) (t : UInt8) : ∀ (f : Nat) (b : UInt8) (m : Nat), (runE es t f b m).length ≤ f
  | 0, _, _ => by simp [runE]
  | f + 1, b, m => by
    unfold runE
    split
    · simp
    · split
      · simp
      · have := runE_len es t f
        simp only [List.length_cons]
        rename_i k _
        have := this (toE es k) (m - valE (ebs es) t k)
        omega

/-- there is such an edge, and it leads nearer to the exit -/
theorem lastE_some {B : ByteArray} {es : List (ByteArray × ByteArray)} {O : List UInt8} (hA : Acy B es O) {b : UInt8} (hb : b ∈ B.data.toList) (hbt : b ≠ exit_ B.data.toList) (m : Nat) :
    ∃ k, lastE es (exit_ B.data.toList) b m = some k ∧ k < es.length ∧ valE (ebs es) (exit_ B.data.toList) k ≤ m ∧ (ebs es)[k]? = some ([b], [toE es k]) ∧ toE es k ∈ B.data.toList ∧ es.getD k (⟨#[]⟩, ⟨#[]⟩) = (⟨#[b]⟩, ⟨#[toE es k]⟩) := by
  obtain ⟨i, y, hi⟩ := hA.out b hb hbt
  have hm := outs_has hi
  have hpos : 0 < (outsOf es b).length := List.length_pos_of_mem hm
  obtain ⟨k0, hk0⟩ : ∃ k0, (outsOf es b)[0] = k0 := ⟨_, rfl⟩
  have hk0m : k0 ∈ outsOf es b := hk0 ▸ List.getElem_mem hpos
  obtain ⟨hk0l, y0, hy0, _⟩ := outsOf_mem hA.F.lets hk0m
  have hv0 : valE (ebs es) (exit_ B.data.toList) k0 = 0 := by
    rw [valE_eq hy0, ← sumC_outs hA.F.lets _ b hpos hk0]
    rfl
  obtain ⟨k, hk⟩ := lastO_has (q := fun k => decide (valE (ebs es) (exit_ B.data.toList) k ≤ m)) hk0m (by simp [hv0])
  obtain ⟨h1, h2⟩ := lastO_mem hk
  obtain ⟨hkl, y2, hy2, hy3, hyl⟩ := outsOf_mem hA.F.lets h1
  have ht : toE es k = y2 := by
    unfold toE
    rw [List.getD_eq_getElem?_getD, hy2]; rfl
  obtain ⟨x, y', he, e1, e2, hx, _⟩ := edge_letters hA.F.lets hkl
  rw [hy2] at he
  injection he with he
  injection he with he1 he2
  injection he1 with he1
  subst he1
  refine ⟨k, hk, hkl, by simpa using h2, by rw [ht]; exact hy2, by rw [ht]; exact hyl, ?_⟩
  rw [ht, List.getD_eq_getElem?_getD, List.getElem?_eq_getElem hkl, Option.getD_some]
  exact Prod.ext e1 hy3

/-- the run of a number, or none -/
noncomputable def runOfV (B : ByteArray) (es : List (ByteArray × ByteArray)) (m : Int) : ByteArray × Bool :=
  if acycV B es = true ∧ 0 ≤ m ∧ m < runsV B es then (⟨(runE es (exit_ B.data.toList) 8 (entry B.data.toList) m.toNat).toArray⟩, true) else (⟨#[]⟩, false)

/-- where a walk stands: so many edges behind it, and the rest of them -/
structure RunAt (B : ByteArray) (es : List (ByteArray × ByteArray)) (t : UInt8) (tot : List UInt8) (p : ByteArray) (b : UInt8) (m : Nat) : Prop where
  sz : p.size ≤ 7
  tot : p.data.toList ++ runE es t (8 - p.size) b m = tot
  mem : b ∈ B.data.toList
  topo : ∃ r, Topo (ebs es) (b :: r) ∧ r.length ≤ 7 ∧ p.size + r.length ≤ 7
theorem RunAt.start {B : ByteArray} {es : List (ByteArray × ByteArray)} {O : List UInt8} (hA : Acy B es O) (m : Nat) : RunAt B es (exit_ B.data.toList) (runE es (exit_ B.data.toList) 8 (entry B.data.toList) m) ⟨#[]⟩ (entry B.data.toList) m := by
  obtain ⟨r, h1, h2⟩ := hA.at_ hA.F.ent
  have e0 : (⟨#[]⟩ : ByteArray).size = 0 := rfl
  exact ⟨by omega, by rw [e0]; rfl, hA.F.ent, r, h1, h2, by omega⟩
theorem RunAt.done {B : ByteArray} {es : List (ByteArray × ByteArray)} {t : UInt8} {tot : List UInt8} {p : ByteArray} {m : Nat} (h : RunAt B es t tot p t m) : p = ⟨tot.toArray⟩ := by
  have := h.tot
  rw [runE_end, List.append_nil] at this
  exact bytes_ext (by rw [this])
theorem RunAt.step {B : ByteArray} {es : List (ByteArray × ByteArray)} {tot : List UInt8} {p : ByteArray} {b : UInt8} {m k : Nat} {t : UInt8} (h : RunAt B es t tot p b m) (hbt : b ≠ t)
    (hk : lastE es t b m = some k) (he : (ebs es)[k]? = some ([b], [toE es k])) (hm : toE es k ∈ B.data.toList) : RunAt B es t tot (p ++ ⟨#[nameOf k]⟩) (toE es k) (m - valE (ebs es) t k) ∧ p.size ≤ 6 := by
  obtain ⟨r, h1, h2, h3⟩ := h.topo
  obtain ⟨r2, g1, g2, g3⟩ := topo_to h1 h2 (List.mem_of_getElem? he)
  have hz : (p ++ ⟨#[nameOf k]⟩ : ByteArray).size = p.size + 1 := by
    rw [ByteArray.size_append]; rfl
  refine ⟨⟨by rw [hz]; omega, ?_, hm, r2, g1, g2, by rw [hz]; omega⟩, by omega⟩
  have ht := h.tot
  have e : 8 - p.size = (8 - (p.size + 1)) + 1 := by omega
  rw [e, runE_go hbt hk] at ht
  rw [hz, ← ht, Go.Joins.data_append]
  simp

end Go.Proofs.YtpeafheljcjlhaaGreat

namespace Go.Proofs.YtpeafheljcjlhaaGreat
open Go.RowKit

/-- a number, or none, as the program tells it -/
def lastV : Option Nat → Int
  | none => -1
  | some k => k

set_option maxRecDepth 100000 in
set_option maxHeartbeats 2000000 in
/-- impl.lastUpTo, of int -/
theorem lastUpTo_any (X n cap m : Nat) (F : Nat → Nat) (f : FuncId) (caps : Array Value) (p : Nat → Bool) (w : World) (hn : n ≤ 16) (hX : X < w.heap.size) (hF : ∀ i, F i ≤ 4294967296)
    (hrow : ∀ i, i < n → w.cell? ⟨X, i, none⟩ = some (.int .i64 ((F i : Nat) : Int)))
    (he : ∀ args w, (callFunc f args).run Tryz.prog w = .ok (.enter f args) w)
    (hk : ∀ (i : Nat) (W : World), i < n → Below w.heap.size w W → Calls Tryz.prog f (#[.int .i64 i] ++ caps) W fun e W' => e = .returned (.bool (p i)) ∧ Below W.heap.size W W') :
    Calls Tryz.prog 109 #[.slice (some ⟨X, 0, none⟩) n cap, .int .i64 (m : Int), .func (.func f) #[] caps] w
      fun e w' => e = .returned (.int .i64 (lastV (lastO (fun k => decide (F k ≤ m)) ((List.range n).filter p)))) ∧ Below w.heap.size w w' := by
  have HK := Lib.hid hk; have HROW := Lib.hid hrow
  clear hk hrow
  go_enter Tryz.func109, Tryz.ntmps109
  go_wp2_with fail
  go_loopw [7, 12] (fun a c wr => ∃ j : Nat, j ≤ n ∧ c = .int .i64 j ∧ a = .int .i64 (lastV (lastO (fun k => decide (F k ≤ m)) ((List.range j).filter p))) ∧ Below w.heap.size w wr) (fun _ c _ => n - (intOf c).toNat)
  case atStart => exact ⟨0, Nat.zero_le _, rfl, rfl, Below.refl _ _⟩
  case round =>
    obtain ⟨j, hj, rfl, rfl, hb⟩ := hrel
    by_cases hlt : j < n
    case neg =>
      have hjn : j = n := by omega
      have HJN := Lib.hid hjn
      have h0 : ¬ ((j : Int) < (n : Int)) := by omega
      clear hlt hjn
      go_wp2_with fail
      go_ret
      exact ⟨by rw [← HJN.out]; rfl, hb⟩
    have c0 : wr.cell? ⟨X, j, none⟩ = some (.int .i64 ((F j : Nat) : Int)) := (hb.cell (by simp only; omega)).trans (HROW.out j hlt)
    have hji : (j : Int) < (n : Int) := by omega
    have HR : Hid ((List.range (j + 1)).filter p = (List.range j).filter p ++ if p j = true then [j] else []) := Lib.hid (by
      rw [List.range_succ, List.filter_append]
      congr 1
      cases hp : p j <;> simp [hp])
    have HF := Lib.hid (hF j)
    have HB := Lib.hid hb
    obtain ⟨fj, hfj⟩ : ∃ fj, F j = fj := ⟨_, rfl⟩
    rw [hfj] at c0
    have HFJ := Lib.hid hfj
    clear hb hfj
    go_wp2_with fail
    refine (HK.out j wr hlt HB.out).mono ?_
    rintro e w3 ⟨rfl, hb3⟩
    have HB3 := Lib.hid (HB.out.trans (hb3.mono HB.out.size))
    clear hb3 c0
    have z9 : IntKind.i64.wrap ((j : Int) + 1) = (j : Int) + 1 := IntWalk.i64_in _ (by omega)
    cases hp : p j with
    | false =>
      have HR2 : Hid (lastO (fun k => decide (F k ≤ m)) ((List.range (j + 1)).filter p) = lastO (fun k => decide (F k ≤ m)) ((List.range j).filter p)) := Lib.hid (by rw [HR.out, hp]; simp)
      clear hp
      go_wp2_with fail
      go_roundw
      case rel => exact ⟨j + 1, by omega, by go_num, by rw [HR2.out], HB3.out⟩
      case measure => simp [intOf]; omega
    | true =>
      by_cases hle : fj ≤ m
      · have HR2 : Hid (lastO (fun k => decide (F k ≤ m)) ((List.range (j + 1)).filter p) = some j) := Lib.hid (by rw [HR.out, hp]; simp only [if_true]; exact lastO_yes (by simp [HFJ.out, hle]))
        have hle2 : (fj : Int) ≤ (m : Int) := by omega
        clear hp hle
        go_wp2_with fail
        go_roundw
        case rel => exact ⟨j + 1, by omega, by go_num, by rw [HR2.out]; rfl, HB3.out⟩
        case measure => simp [intOf]; omega
      · have HR2 : Hid (lastO (fun k => decide (F k ≤ m)) ((List.range (j + 1)).filter p) = lastO (fun k => decide (F k ≤ m)) ((List.range j).filter p)) := Lib.hid (by rw [HR.out, hp]; simp only [if_true]; exact lastO_no (by simp [HFJ.out]; omega))
        have hle2 : ¬ ((fj : Int) ≤ (m : Int)) := by omega
        clear hp hle
        go_wp2_with fail
        go_roundw
        case rel => exact ⟨j + 1, by omega, by go_num, by rw [HR2.out], HB3.out⟩
        case measure => simp [intOf]; omega

end Go.Proofs.YtpeafheljcjlhaaGreat

namespace Go.Proofs.YtpeafheljcjlhaaGreat
open Go.RowKit

/-- the name of an edge, or none -/
def lastT : Option Nat → ByteArray
  | none => ⟨#[]⟩
  | some k => ⟨#[nameOf k]⟩
/-- how long a text is -/
def valZ : Value → Nat
  | .string s => s.size
  | _ => 0

set_option maxRecDepth 100000 in
set_option maxHeartbeats 8000000 in
/-- spec.l4Run -/
theorem l4Run_any (B : ByteArray) (A : Option Addr) (cap m0 : Nat) (es : List (ByteArray × ByteArray)) (w : World) (hE : EdgesIn w w.heap.size A es) (hA : Acy B es (orderE B.data.toList (ebs es))) (hBm : B.size ≤ maxLen) (hm0 : m0 ≤ 4294967296) :
    Calls Tryz.prog 80 #[.agg #[.string B, .slice A es.length cap], .string ⟨#[entry B.data.toList]⟩, .int .i64 (m0 : Int)] w
      fun e w' => e = .returned (.string ⟨(runE es (exit_ B.data.toList) 8 (entry B.data.toList) m0).toArray⟩) ∧ Below w.heap.size w w' := by
  have h16 := hA.F.few
  obtain ⟨t, ht⟩ : ∃ t, exit_ B.data.toList = t := ⟨_, rfl⟩
  obtain ⟨b0, hb0⟩ : ∃ b0, entry B.data.toList = b0 := ⟨_, rfl⟩
  obtain ⟨tot, htot⟩ : ∃ tot, runE es t 8 b0 m0 = tot := ⟨_, rfl⟩
  have HST : Hid (RunAt B es t tot ⟨#[]⟩ b0 m0) := Lib.hid (by
    have := RunAt.start hA m0
    rwa [ht, hb0, htot] at this)
  have HLE : Hid (∀ b, b ∈ B.data.toList → b ≠ t → ∀ m, ∃ k, lastE es t b m = some k ∧ k < es.length ∧ valE (ebs es) t k ≤ m ∧ (ebs es)[k]? = some ([b], [toE es k]) ∧ toE es k ∈ B.data.toList ∧ es.getD k (⟨#[]⟩, ⟨#[]⟩) = (⟨#[b]⟩, ⟨#[toE es k]⟩)) := Lib.hid fun b hb hbt m => by
    have := lastE_some hA hb (by rw [ht]; exact hbt) m
    rwa [ht] at this
  have HVF : Hid (∀ k, k < es.length → valE (ebs es) t k ≤ 4294967296) := Lib.hid fun k h => by rw [← ht]; exact valE_small hA h
  have HOL : Hid (∀ b ix, ix ∈ outsOf es b → ix < es.length) := Lib.hid fun b ix h => (outsOf_mem hA.F.lets h).1
  have FL : Hid (∀ (i : Nat), i < es.length → ∀ W : World, EdgesIn W W.heap.size A es → Calls Tryz.prog 47 #[.agg #[.string B, .slice A es.length cap], .string ⟨#[nameOf i]⟩] W fun e w' => e = .returned (.agg #[.string (es.getD i (⟨#[]⟩, ⟨#[]⟩)).1, .string (es.getD i (⟨#[]⟩, ⟨#[]⟩)).2]) ∧ Below W.heap.size W w') := Lib.hid fun i hi W h => by
    have := l2Edge_any B A cap es ⟨#[nameOf i]⟩ i W h (by omega) hi (eIdx_name hi (by omega))
    simpa [List.getD, hi] using this
  have FO : Hid (∀ x, ∀ W : World, EdgesIn W W.heap.size A es → Calls Tryz.prog 104 #[.agg #[.string B, .slice A es.length cap], .string ⟨#[x]⟩] W fun e w' => e = .returned (.string ⟨(names (outB es ⟨#[x]⟩) es.length).toArray⟩) ∧ Below W.heap.size W w') := Lib.hid fun x W h => outList_any B A cap es ⟨#[x]⟩ W h (by omega)
  have FV : Hid (∀ k, k < es.length → ∀ W : World, EdgesIn W W.heap.size A es → Calls Tryz.prog 74 #[.agg #[.string B, .slice A es.length cap], .string ⟨#[nameOf k]⟩] W fun e w' => e = .returned (.int .i64 ((valE (ebs es) t k : Nat) : Int)) ∧ Below W.heap.size W w') := Lib.hid fun k hk W h => by
    rw [← ht]; exact l4Value_any B A cap es k W h hA hBm hk
  have FX : Hid (∀ W : World, Calls Tryz.prog 50 #[.agg #[.string B, .slice A es.length cap]] W fun e w' => e = .returned (.string ⟨#[t]⟩) ∧ Below W.heap.size W w') := Lib.hid fun W => by
    rw [← ht, ← hA.F.last]; exact l1Exit_any B _ W hA.F.one hBm
  rw [ht, hb0, htot]
  have hb1 : Below w.heap.size w (w.alloc (.cells #[.string B, .slice A es.length cap] 31)) := (Below.refl _ _).alloc (Nat.le_refl _) _
  have t1 := Two.made w B A es.length cap 31
  have hz1 : (w.alloc (.cells #[.string B, .slice A es.length cap] 31)).heap.size = w.heap.size + 1 := by simp
  have e1 := edge_from; have e2 := edge_to
  clear hA hBm ht hb0 htot
  go_enter Tryz.func80, Tryz.ntmps80
  go_wp2_with fail
  obtain ⟨w1, hw1⟩ : ∃ w1, w.alloc (.cells #[.string B, .slice A es.length cap] 31) = w1 := ⟨_, rfl⟩
  rw [hw1] at hb1 t1 hz1 ⊢
  clear hw1
  have HT1 := Lib.hid t1; have HB1 := Lib.hid hb1
  clear t1 hb1
  go_loopw [1, 2, 7] (fun bv a pv wr => ∃ (p : ByteArray) (b : UInt8) (m : Nat), bv = .string ⟨#[b]⟩ ∧ a = .int .i64 (m : Int) ∧ pv = .string p ∧ RunAt B es t tot p b m ∧ m ≤ 4294967296 ∧ Below w1.heap.size w1 wr) (fun _ _ pv _ => 8 - valZ pv)
  case atStart => exact ⟨⟨#[]⟩, b0, m0, rfl, rfl, rfl, HST.out, hm0, Below.refl _ _⟩
  case round =>
    clear HST
    obtain ⟨p, b, m, rfl, rfl, rfl, hra, hm, hb⟩ := hrel
    have HRA := Lib.hid hra; have HB := Lib.hid hb
    have hzr := hb.size
    have hbw := HB1.out.trans (hb.mono HB1.out.size)
    have tr := HT1.out.below hb (by omega)
    have hd0 := tr.1; have hd1 := tr.2
    have HTR := Lib.hid tr
    have HBW := Lib.hid hbw
    clear hra hb hbw tr
    by_cases hbt : b = t
    · subst hbt
      go_wp2_with fail
      refine (FX.out _).mono ?_
      rintro e w2 ⟨rfl, hb2⟩
      have HB2 := Lib.hid (HBW.out.trans (hb2.mono HBW.out.size))
      clear hb2
      go_wp2_with fail
      go_ret
      exact ⟨by rw [← HRA.out.done]; rfl, HB2.out⟩
    · have hq : (b == t) = false := by simp [hbt]
      obtain ⟨k, hk, hkl, hvk, hek, hto, hes⟩ := HLE.out b HRA.out.mem hbt m
      obtain ⟨hra2, hp6⟩ := HRA.out.step hbt hk hek hto
      have HRA2 := Lib.hid hra2
      obtain ⟨ot, hot⟩ : ∃ ot : ByteArray, (⟨(names (outB es ⟨#[b]⟩) es.length).toArray⟩ : ByteArray) = ot := ⟨_, rfl⟩
      have hod : ot.data.toList = (outsOf es b).map nameOf := by rw [← hot]; rfl
      have hos : ot.size = (outsOf es b).length := by rw [str_size hod]; simp
      have hol : (outsOf es b).length ≤ 16 := by
        have h1 := names_length (outB es ⟨#[b]⟩) es.length
        have h2 : (names (outB es ⟨#[b]⟩) es.length).length = (outsOf es b).length := by simp [names, outsOf]
        omega
      have FOb := FO.out b
      rw [hot] at FOb
      have HFO := Lib.hid FOb
      have FLk := FL.out k hkl
      rw [hes] at FLk
      obtain ⟨c, hc⟩ : ∃ c, toE es k = c := ⟨_, rfl⟩
      rw [hc] at FLk HRA2
      have HFLK := Lib.hid FLk
      obtain ⟨v, hv⟩ : ∃ v, valE (ebs es) t k = v := ⟨_, rfl⟩
      have FVk := FV.out k hkl
      rw [hv] at FVk hvk
      have HFVK := Lib.hid FVk
      obtain ⟨m2, hm2⟩ : ∃ m2, m - v = m2 := ⟨_, rfl⟩
      rw [hv, hm2] at HRA2
      have hm2z : m2 ≤ 4294967296 := by omega
      have hvb : v ≤ 4294967296 := by rw [← hv]; exact HVF.out k hkl
      have z1 : IntKind.i64.wrap ((m : Int) - (v : Int)) = (m2 : Int) := by rw [IntWalk.i64_in _ (by omega)]; omega
      have HOD := Lib.hid hod; have HOS := Lib.hid hos; have HHK := Lib.hid hk; have HP6 := Lib.hid hp6
      have HM2 := Lib.hid hm2z
      clear hot hod hos FOb FLk FVk hc hv hm2 hk hek hto hes hra2 hp6 hbt hm2z hvk
      go_wp2_with fail
      refine (FX.out _).mono ?_
      rintro e w2 ⟨rfl, hb2⟩
      have hb2' := HBW.out.trans (hb2.mono HBW.out.size)
      have hz2 : w.heap.size + 1 ≤ w2.heap.size := by have := hb2.size; omega
      have t2 := HTR.out.below hb2 (by omega)
      clear hd0 hd1
      have hd0 := t2.1; have hd1 := t2.2
      have HB1w2 := Lib.hid (HB.out.trans (hb2.mono HB.out.size))
      clear hb2
      go_wp2_with fail
      refine (HFO.out _ ((hE.below hb2').more hb2'.size)).mono ?_
      rintro e w3 ⟨rfl, hb3⟩
      have hb3' := hb2'.trans (hb3.mono hb2'.size)
      have hz3 : w.heap.size + 1 ≤ w3.heap.size := by have := hb3.size; omega
      have t3 := t2.below hb3 (by omega)
      have HT3 := Lib.hid t3; have HB3 := Lib.hid hb3'
      have HB1w3 := Lib.hid (HB1w2.out.trans (hb3.mono HB1w2.out.size))
      clear hb3 t2 hb2' hd0 hd1 t3 hb3'
      go_wp2_with fail
      go_loopw [8, 20] (fun bt a wi => ∃ j : Nat, j ≤ ot.size ∧ a = .int .i64 j ∧ bt = .string (lastT (lastO (fun k => decide (valE (ebs es) t k ≤ m)) ((outsOf es b).take j))) ∧ Below w3.heap.size w3 wi) (fun _ a _ => ot.size - (intOf a).toNat)
      case atStart => exact ⟨0, Nat.zero_le _, rfl, rfl, Below.refl _ _⟩
      case round =>
        obtain ⟨j, hj, rfl, rfl, hbi⟩ := hrel
        have HBI := Lib.hid hbi
        have hzi := hbi.size
        have ti := HT3.out.below hbi (by omega)
        clear hbi
        by_cases hlt : j < ot.size
        case neg =>
          have HEND : Hid (lastT (lastO (fun k => decide (valE (ebs es) t k ≤ m)) ((outsOf es b).take j)) = ⟨#[nameOf k]⟩) := Lib.hid (by
            rw [List.take_of_length_le (by have := HOS.out; omega)]
            show lastT (lastE es t b m) = _
            rw [HHK.out]; rfl)
          rw [HEND.out]
          have hbw := HB3.out.trans (HBI.out.mono (by omega))
          have h0 : ¬ ((j : Int) < (ot.size : Int)) := by omega
          have hd0 := ti.1; have hd1 := ti.2
          clear hlt
          go_wp2_with fail
          refine (HFVK.out _ ((hE.below hbw).more hbw.size)).mono ?_
          rintro e w5 ⟨rfl, hb5⟩
          have hb5' := hbw.trans (hb5.mono hbw.size)
          have t5 := ti.below hb5 (by omega)
          have HB1w5 := Lib.hid (HB1w3.out.trans ((HBI.out.mono (by have := HB1w3.out.size; omega)).trans (hb5.mono (by have := HB1w3.out.size; omega))))
          have hz5 := hb5.size
          clear hb5 hd0 hd1
          have hd0 := t5.1; have hd1 := t5.2
          obtain ⟨p2, hp2⟩ : ∃ p2 : ByteArray, p ++ ⟨#[nameOf k]⟩ = p2 := ⟨_, rfl⟩
          have HZ2 : Hid (p2.size = p.size + 1) := Lib.hid (by rw [← hp2, ByteArray.size_append]; rfl)
          have hsz : ¬ 9223372036854775807 < p.size + 1 := by have := HP6.out; omega
          have HP2 := Lib.hid hp2
          go_wp2_with fail
          refine (HFLK.out _ ((hE.below hb5').more hb5'.size)).mono ?_
          rintro e w6 ⟨rfl, hb6⟩
          have HB1w6 := Lib.hid (HB1w5.out.trans (hb6.mono HB1w5.out.size))
          clear hb6 hd0 hd1
          go_wp2_with fail
          go_roundw
          case rel => exact ⟨p2, c, m2, rfl, rfl, by rw [← HP2.out], by rw [← HP2.out]; exact HRA2.out, HM2.out, HB1w6.out⟩
          case measure =>
            simp only [valZ]
            have := HZ2.out; have := HP6.out
            try rw [hp2]
            omega
        have hjo : j < (outsOf es b).length := by have := HOS.out; omega
        obtain ⟨ix, hix⟩ : ∃ ix, (outsOf es b)[j] = ix := ⟨_, rfl⟩
        have hil : ix < es.length := HOL.out b ix (hix ▸ List.getElem_mem hjo)
        have hex : ot.extract j (j + 1) = ⟨#[nameOf ix]⟩ := by
          have := letter_at (p := ot) hlt
          rw [HOD.out] at this
          have e : ((outsOf es b).map nameOf).getD j 0 = nameOf ix := by simp [List.getD, hjo, hix]
          rw [e] at this
          exact one_byte this
        have HTK : Hid ((outsOf es b).take (j + 1) = (outsOf es b).take j ++ [ix]) := Lib.hid (by rw [List.take_succ_eq_append_getElem hjo, hix])
        have a1 : (0 : Int) ≤ (j : Int) := by omega
        have a2 : (j : Int) < (ot.size : Int) := by omega
        have a4 : (0 : Int) ≤ (j : Int) + 1 := by omega
        have a5 : ((j : Int) + 1).toNat = j + 1 := by omega
        have a6 : (j : Int) + 1 ≤ (ot.size : Int) := by omega
        have a7 : j + 1 ≤ ot.size := by omega
        have a8 : (j : Int) ≤ (j : Int) + 1 := by omega
        have a9 : IntKind.i64.wrap ((j : Int) + 1) = (j : Int) + 1 := IntWalk.i64_in _ (by have := HOS.out; omega)
        obtain ⟨vx, hvx⟩ : ∃ vx, valE (ebs es) t ix = vx := ⟨_, rfl⟩
        have FV2 := FV.out ix hil
        rw [hvx] at FV2
        have HFV2 := Lib.hid FV2
        have HVX := Lib.hid hvx
        have hbw := HB3.out.trans (HBI.out.mono (by omega))
        clear hix hil FV2 hvx
        go_wp2_with fail
        have x0 : ∀ x : After wr, x.W.cell? ⟨w.heap.size, 0, none⟩ = some (.string B) := fun x => x.cell (by simp only; omega) ti.1
        have x1 : ∀ x : After wr, x.W.cell? ⟨w.heap.size, 1, none⟩ = some (.slice A es.length cap) := fun x => x.cell (by simp only; omega) ti.2
        have xE : ∀ x : After wr, EdgesIn x.W x.W.heap.size A es := fun x => ((hE.below hbw).below (x.h.mono hbw.size)).more (Nat.le_trans hbw.size x.h.size)
        have XE := Lib.hid xE; clear xE
        refine wp_region_below (by kernel_rfl) (by kernel_rfl) ?_
        repeat (go_big_quiet_step ((go_at_call 74; exact After.call (HFV2.out _ (XE.out _)))))
        refine wpQuiet_nil ?_
        rintro _ ⟨xw, rfl⟩
        clear x0 x1 XE
        by_cases hle : vx ≤ m
        · have HL2 : Hid (lastO (fun k => decide (valE (ebs es) t k ≤ m)) ((outsOf es b).take (j + 1)) = some ix) := Lib.hid (by rw [HTK.out]; exact lastO_yes (by simp [HVX.out, hle]))
          have hle2 : (vx : Int) ≤ (m : Int) := by omega
          clear hle
          go_wp2_with fail
          go_roundw
          case rel => exact ⟨j + 1, by omega, by go_num, by rw [HL2.out]; rfl, HBI.out.trans (xw.h.mono (by omega))⟩
          case measure => simp [intOf]; omega
        · have HL2 : Hid (lastO (fun k => decide (valE (ebs es) t k ≤ m)) ((outsOf es b).take (j + 1)) = lastO (fun k => decide (valE (ebs es) t k ≤ m)) ((outsOf es b).take j)) := Lib.hid (by rw [HTK.out]; exact lastO_no (by simp [HVX.out]; omega))
          have hle2 : ¬ ((vx : Int) ≤ (m : Int)) := by omega
          clear hle
          go_wp2_with fail
          go_roundw
          case rel => exact ⟨j + 1, by omega, by go_num, by rw [HL2.out], HBI.out.trans (xw.h.mono (by omega))⟩
          case measure => simp [intOf]; omega

end Go.Proofs.YtpeafheljcjlhaaGreat

namespace Go.Proofs.YtpeafheljcjlhaaGreat
open Go.RowKit

set_option maxRecDepth 100000 in
set_option maxHeartbeats 4000000 in
/-- spec.RunOf -/
theorem specRunOf_any (B : ByteArray) (A : Option Addr) (cap : Nat) (es : List (ByteArray × ByteArray)) (m : Int) (w : World) (hs : B.size ≤ maxLen) (hE : EdgesIn w w.heap.size A es) (hl : es.length ≤ 1099511627776) (hS : ∀ e ∈ es, e.1.size ≤ 1099511627776 ∧ e.2.size ≤ 1099511627776) :
    Calls Tryz.prog 41 #[.agg #[.string B, .slice A es.length cap], .int .i64 m] w (TextPost (runOfV B es m) w) := by
  have HL := Lib.hid hl; have HM := Lib.hid hs; have HS := Lib.hid hS
  clear hl hs hS
  have hb1 : Below w.heap.size w (w.alloc (.cells #[.string B, .slice A es.length cap] 31)) := (Below.refl _ _).alloc (Nat.le_refl _) _
  have t1 := Two.made w B A es.length cap 31
  have hz1 : (w.alloc (.cells #[.string B, .slice A es.length cap] 31)).heap.size = w.heap.size + 1 := by simp
  obtain ⟨v, hv⟩ : ∃ v, acycV B es = v := ⟨_, rfl⟩
  have FA : Hid (∀ W : World, EdgesIn W W.heap.size A es → Calls Tryz.prog 77 #[.agg #[.string B, .slice A es.length cap]] W fun e w' => e = .returned (.bool v) ∧ Below W.heap.size W w') := Lib.hid fun W h => by
    have := specIsAcyclic_any B A cap es W HM.out h HL.out HS.out
    rwa [hv] at this
  have x0 : ∀ x : After (w.alloc (.cells #[.string B, .slice A es.length cap] 31)), x.W.cell? ⟨w.heap.size, 0, none⟩ = some (.string B) := fun x => x.cell (by simp) t1.1
  have x1 : ∀ x : After (w.alloc (.cells #[.string B, .slice A es.length cap] 31)), x.W.cell? ⟨w.heap.size, 1, none⟩ = some (.slice A es.length cap) := fun x => x.cell (by simp) t1.2
  have xE : ∀ x : After (w.alloc (.cells #[.string B, .slice A es.length cap] 31)), EdgesIn x.W x.W.heap.size A es := fun x => ((hE.below hb1).below (x.h.mono hb1.size)).more (Nat.le_trans hb1.size x.h.size)
  have XE := Lib.hid xE; clear xE
  cases v with
  | false =>
    have HN : Hid (runOfV B es m = (⟨#[]⟩, false)) := Lib.hid (if_neg (by rw [hv]; simp))
    clear hv
    go_enter Tryz.func41, Tryz.ntmps41
    go_wp2_with fail
    refine wp_region_below (by kernel_rfl) (by kernel_rfl) ?_
    repeat (go_big_quiet_step ((go_at_call 77; exact After.call (FA.out _ (XE.out _)))))
    refine wpQuiet_nil ?_
    rintro _ ⟨x, rfl⟩
    clear x0 x1
    go_wp2_with fail
    go_ret2
    exact ⟨by rw [HN.out]; rfl, hb1.trans (x.h.mono hb1.size)⟩
  | true =>
    have hA := acy_v hv
    have hB1 := hA.F.one
    obtain ⟨q, hq⟩ : ∃ q, cntV B es (entry B.data.toList) = q := ⟨_, rfl⟩
    have hrn : runsV B es = q := (if_pos hv).trans hq
    have hqb := cntV_bound hA hA.F.ent
    rw [hq] at hqb
    have FC : Hid (∀ W : World, EdgesIn W W.heap.size A es → Calls Tryz.prog 79 #[.agg #[.string B, .slice A es.length cap], .string (B.extract 0 1)] W fun e w' => e = .returned (.int .i64 q) ∧ Below W.heap.size W w') := Lib.hid fun W h => by
      rw [hA.F.first, ← hq]; exact l4Count_any B A cap es _ W h hA HM.out hA.F.ent
    have z1 : IntKind.i64.wrap (q - 1) = q - 1 := IntWalk.i64_in _ (by omega)
    by_cases hin : 0 ≤ m ∧ m < q
    case neg =>
      have FI : Hid (∀ W : World, Calls Tryz.prog 78 #[.int .i64 m, .int .i64 0, .int .i64 (q - 1)] W fun e w' => e = .returned (.bool false) ∧ Below W.heap.size W w') := Lib.hid fun W => (l1In_any m 0 (q - 1) W).mono fun e w' h => by
        obtain ⟨h1, h2⟩ := h
        subst h2
        refine ⟨?_, Below.refl _ _⟩
        rw [h1]
        congr 2
        by_cases h0 : 0 ≤ m
        · have : ¬ (m ≤ q - 1) := by omega
          simp [this]
        · simp [h0]
      have HN : Hid (runOfV B es m = (⟨#[]⟩, false)) := Lib.hid (if_neg (by rw [hrn]; exact fun h => hin h.2))
      clear hv hin hA hq hrn
      go_enter Tryz.func41, Tryz.ntmps41
      go_wp2_with fail
      refine wp_region_below (by kernel_rfl) (by kernel_rfl) ?_
      repeat (go_big_quiet_step ((first
        | (go_at_call 77; exact After.call (FA.out _ (XE.out _)))
        | (go_at_call 79; exact After.call (FC.out _ (XE.out _)))
        | (go_at_call 78; exact After.call (FI.out _))
        | (go_at_call 49; exact After.call (l1Entry_any _ _ _ hB1 HM.out)))))
      refine wpQuiet_nil ?_
      rintro _ ⟨x, rfl⟩
      clear x0 x1
      go_wp2_with fail
      go_ret2
      exact ⟨by rw [HN.out]; rfl, hb1.trans (x.h.mono hb1.size)⟩
    have FI : Hid (∀ W : World, Calls Tryz.prog 78 #[.int .i64 m, .int .i64 0, .int .i64 (q - 1)] W fun e w' => e = .returned (.bool true) ∧ Below W.heap.size W w') := Lib.hid fun W => (l1In_any m 0 (q - 1) W).mono fun e w' h => by
      obtain ⟨h1, h2⟩ := h
      subst h2
      refine ⟨?_, Below.refl _ _⟩
      rw [h1]
      congr 2
      have h3 : m ≤ q - 1 := by omega
      simp [hin.1, h3]
    obtain ⟨m0, rfl⟩ : ∃ m0 : Nat, m = m0 := ⟨m.toNat, by omega⟩
    have HN : Hid (runOfV B es (m0 : Int) = (⟨(runE es (exit_ B.data.toList) 8 (entry B.data.toList) m0).toArray⟩, true)) := Lib.hid (if_pos ⟨hv, hin.1, by rw [hrn]; exact hin.2⟩)
    have FR : Hid (∀ W : World, EdgesIn W W.heap.size A es → Calls Tryz.prog 80 #[.agg #[.string B, .slice A es.length cap], .string (B.extract 0 1), .int .i64 (m0 : Int)] W
      fun e w' => e = .returned (.string ⟨(runE es (exit_ B.data.toList) 8 (entry B.data.toList) m0).toArray⟩) ∧ Below W.heap.size W w') := Lib.hid fun W h => by
      rw [hA.F.first]; exact l4Run_any B A cap m0 es W h hA HM.out (by omega)
    obtain ⟨rt, hrt⟩ : ∃ rt : ByteArray, (⟨(runE es (exit_ B.data.toList) 8 (entry B.data.toList) m0).toArray⟩ : ByteArray) = rt := ⟨_, rfl⟩
    rw [hrt] at HN FR
    clear hv hin hA hq hrn hrt
    go_enter Tryz.func41, Tryz.ntmps41
    go_wp2_with fail
    refine wp_region_below (by kernel_rfl) (by kernel_rfl) ?_
    repeat (go_big_quiet_step ((first
      | (go_at_call 77; exact After.call (FA.out _ (XE.out _)))
      | (go_at_call 79; exact After.call (FC.out _ (XE.out _)))
      | (go_at_call 78; exact After.call (FI.out _))
      | (go_at_call 49; exact After.call (l1Entry_any _ _ _ hB1 HM.out)))))
    refine wpQuiet_nil ?_
    rintro _ ⟨x, rfl⟩
    clear x0 x1 XE
    obtain ⟨w2, hw2⟩ : ∃ w2, x.W = w2 := ⟨_, rfl⟩
    have hb2 := x.h
    rw [hw2] at hb2 ⊢
    clear hw2 x
    have t2 := t1.below hb2 (by omega)
    have hb2' := hb1.trans (hb2.mono hb1.size)
    have hz2 : w.heap.size + 1 ≤ w2.heap.size := by have := hb2.size; omega
    clear hb2 t1 hz1 hb1
    go_wp2_with fail
    have x0 : ∀ x : After w2, x.W.cell? ⟨w.heap.size, 0, none⟩ = some (.string B) := fun x => x.cell (by simp only; omega) t2.1
    have x1 : ∀ x : After w2, x.W.cell? ⟨w.heap.size, 1, none⟩ = some (.slice A es.length cap) := fun x => x.cell (by simp only; omega) t2.2
    have xE : ∀ x : After w2, EdgesIn x.W x.W.heap.size A es := fun x => ((hE.below hb2').below (x.h.mono hb2'.size)).more (Nat.le_trans hb2'.size x.h.size)
    have XE := Lib.hid xE; clear xE t2
    refine wp_region_below (by kernel_rfl) (by kernel_rfl) ?_
    repeat (go_big_quiet_step ((first
      | (go_at_call 80; exact After.call (FR.out _ (XE.out _)))
      | (go_at_call 49; exact After.call (l1Entry_any _ _ _ hB1 HM.out)))))
    refine wpQuiet_nil ?_
    rintro _ ⟨x, rfl⟩
    clear x0 x1
    go_wp2_with fail
    go_ret2
    exact ⟨by rw [HN.out]; rfl, hb2'.trans (x.h.mono hb2'.size)⟩

end Go.Proofs.YtpeafheljcjlhaaGreat

namespace Go.Proofs.YtpeafheljcjlhaaGreat
open Go.RowKit Go.Instr Go.ChangeMaps

/-- what stands at a letter -/
def lookN : List (UInt8 × Int) → UInt8 → Option Int
  | [], _ => none
  | d :: D, x => if x = d.1 then some d.2 else lookN D x
def setN : List (UInt8 × Int) → UInt8 → Int → List (UInt8 × Int)
  | [], x, v => [(x, v)]
  | d :: D, x, v => if x = d.1 then (x, v) :: D else d :: setN D x v
theorem lookN_set (x : UInt8) (v : Int) (y : UInt8) : ∀ D : List (UInt8 × Int), lookN (setN D x v) y = if y = x then some v else lookN D y
  | [] => by simp [setN, lookN]
  | d :: D => by
    have ih := lookN_set x v y D
    unfold setN
    by_cases hx : x = d.1
    · rw [if_pos hx]
      simp only [lookN]
      by_cases hy : y = x
      · rw [if_pos hy, if_pos hy]
      · rw [if_neg hy, if_neg hy, if_neg (fun e => hy (e.trans hx.symm))]
    · rw [if_neg hx]
      simp only [lookN]
      by_cases hy : y = d.1
      · rw [if_pos hy, if_pos hy, if_neg (fun e => hx (e.symm.trans hy))]
      · rw [if_neg hy, if_neg hy, ih]

/-- block m is a map whose keys are letters, whose elements are numbers: what stands at each letter -/
def NumsIs (w : World) (m : Nat) (f : UInt8 → Option Int) : Prop :=
  ∃ (es : Array MapEntry) (clock : Nat) (D : List (UInt8 × Int)), w.heap[m]? = some (.map es clock) ∧ es.toList.map (·.key) = D.map (fun d => encL d.1) ∧ es.toList.map (·.val) = D.map (fun d => .int .i64 d.2) ∧ ∀ x, lookN D x = f x

theorem find_num (x : UInt8) : ∀ (es : List MapEntry) (D : List (UInt8 × Int)) (i : Nat), es.map (·.key) = D.map (fun d => encL d.1) → es.map (·.val) = D.map (fun d => .int .i64 d.2) →
    (lookN D x = none → findNow .string (encL x) es i = some none ∧ ∀ v, setN D x v = D ++ [(x, v)]) ∧
    (∀ c, lookN D x = some c → ∃ j, j < es.length ∧ findNow .string (encL x) es i = some (some (i + j, .int .i64 c)) ∧ (es[j]?.map (·.key)) = some (encL x) ∧ ∀ v, setN D x v = D.set j (x, v)) := by
  intro es
  induction es with
  | nil =>
    intro D i hk _
    cases D with
    | nil => exact ⟨fun _ => ⟨rfl, fun v => rfl⟩, fun c h => by simp [lookN] at h⟩
    | cons => simp at hk
  | cons e es ih =>
    intro D i hk hv
    cases D with
    | nil => simp at hk
    | cons d D =>
      simp only [List.map_cons, List.cons.injEq] at hk hv
      obtain ⟨h1, h2⟩ := ih D (i + 1) hk.2 hv.2
      by_cases hx : x = d.1
      · have hs : sameNow .string (encL x) e.key = some true := by
          rw [hk.1, ← hx]; simp only [sameNow, encL, beq_toListBytes]; simp
        simp only [lookN, if_pos hx, findNow, hs, setN]
        refine ⟨fun h => (by cases h), fun c hc => ⟨0, by simp, ?_, by simp [hk.1, ← hx], fun v => by simp⟩⟩
        injection hc with hc
        rw [hv.1, hc]; rfl
      · have hs : sameNow .string (encL x) e.key = some false := by
          rw [hk.1]; simp only [sameNow, encL, beq_toListBytes, Lib.toList_data]; simp [hx]
        simp only [lookN, if_neg hx, findNow, hs, setN]
        refine ⟨fun h => ⟨(h1 h).1, fun v => by rw [(h1 h).2 v]; rfl⟩, fun c hc => ?_⟩
        obtain ⟨j, q1, q2, q3, q4⟩ := h2 c hc
        exact ⟨j + 1, by simp; omega, by rw [q2, show i + 1 + j = i + (j + 1) by omega], by simpa using q3, fun v => by rw [q4 v]; rfl⟩

section
variable {P : Program} {kt : TypeId}

theorem NumsIs.lookup {t e : TypeId} {w : World} {m : Nat} {f : UInt8 → Option Int} (h : NumsIs w m f) (hk : P.underlying kt = some .string) (ht : P.underlying t = some (.map kt e)) (hz : (zeroValue e).run P w = .ok (.int .i64 0) w) (x : UInt8) :
    (Instr.lookup t (.map (some m)) (.string ⟨#[x]⟩) false).run P w = .ok (.int .i64 ((f x).getD 0)) w := by
  obtain ⟨es, clock, D, hb, h1, h2, h3⟩ := h
  obtain ⟨q1, q2⟩ := find_num x es.toList D 0 h1 h2
  have hc := (keyL (P := P) hk).check es.isEmpty x w
  rw [show (encL x) = .string ⟨#[x]⟩ from rfl] at hc
  rw [← h3 x]
  cases hl : lookN D x with
  | none =>
    have hf : (findKey kt (.string ⟨#[x]⟩) es.toList).run P w = .ok none w := by
      have := (q1 hl).1
      rw [show (encL x) = .string ⟨#[x]⟩ from rfl] at this
      simp [findKey, run_underlying hk, this]
    simp [Instr.lookup, run_underlying ht, MapKept.run_getObj_map hb, hc, hf, hz, Result.andThen]
  | some c =>
    obtain ⟨j, _, hj, _, _⟩ := q2 c hl
    have hf : (findKey kt (.string ⟨#[x]⟩) es.toList).run P w = .ok (some (0 + j, .int .i64 c)) w := by
      rw [show (encL x) = .string ⟨#[x]⟩ from rfl] at hj
      simp [findKey, run_underlying hk, hj]
    simp [Instr.lookup, run_underlying ht, MapKept.run_getObj_map hb, hc, hf, Result.andThen]

theorem NumsIs.lookup2 {t e : TypeId} {w : World} {m : Nat} {f : UInt8 → Option Int} (h : NumsIs w m f) (hk : P.underlying kt = some .string) (ht : P.underlying t = some (.map kt e)) (hz : (zeroValue e).run P w = .ok (.int .i64 0) w) (x : UInt8) :
    (Instr.lookup t (.map (some m)) (.string ⟨#[x]⟩) true).run P w = .ok (.tuple #[.int .i64 ((f x).getD 0), .bool (f x).isSome]) w := by
  obtain ⟨es, clock, D, hb, h1, h2, h3⟩ := h
  obtain ⟨q1, q2⟩ := find_num x es.toList D 0 h1 h2
  have hc := (keyL (P := P) hk).check es.isEmpty x w
  rw [show (encL x) = .string ⟨#[x]⟩ from rfl] at hc
  rw [← h3 x]
  cases hl : lookN D x with
  | none =>
    have hf : (findKey kt (.string ⟨#[x]⟩) es.toList).run P w = .ok none w := by
      have := (q1 hl).1
      rw [show (encL x) = .string ⟨#[x]⟩ from rfl] at this
      simp [findKey, run_underlying hk, this]
    simp [Instr.lookup, run_underlying ht, MapKept.run_getObj_map hb, hc, hf, hz, Result.andThen]
  | some c =>
    obtain ⟨j, _, hj, _, _⟩ := q2 c hl
    have hf : (findKey kt (.string ⟨#[x]⟩) es.toList).run P w = .ok (some (0 + j, .int .i64 c)) w := by
      rw [show (encL x) = .string ⟨#[x]⟩ from rfl] at hj
      simp [findKey, run_underlying hk, hj]
    simp [Instr.lookup, run_underlying ht, MapKept.run_getObj_map hb, hc, hf, Result.andThen]

theorem NumsIs.update {t e : TypeId} {w : World} {m : Nat} {f : UInt8 → Option Int} (h : NumsIs w m f) (hk : P.underlying kt = some .string) (ht : P.underlying t = some (.map kt e)) (x : UInt8) (v : Int) :
    ∃ w', (Instr.mapUpdate t (.map (some m)) (.string ⟨#[x]⟩) (.int .i64 v)).run P w = .ok () w' ∧ NumsIs w' m (fun y => if y = x then some v else f y) ∧ w.grownBy w' (some m) := by
  obtain ⟨es, clock, D, hb, h1, h2, h3⟩ := h
  obtain ⟨q1, q2⟩ := find_num x es.toList D 0 h1 h2
  have hc := (keyL (P := P) hk).check false x w
  rw [show (encL x) = .string ⟨#[x]⟩ from rfl] at hc
  have hlook : ∀ y, lookN (setN D x v) y = if y = x then some v else f y := fun y => by rw [lookN_set, h3]
  cases hl : lookN D x with
  | none =>
    obtain ⟨hf0, hset⟩ := q1 hl
    have hf : (findKey kt (.string ⟨#[x]⟩) es.toList).run P w = .ok none w := by
      rw [show (encL x) = .string ⟨#[x]⟩ from rfl] at hf0
      simp [findKey, run_underlying hk, hf0]
    refine ⟨setBlock w m (.map (es.push { key := .string ⟨#[x]⟩, val := .int .i64 v, born := clock }) (clock + 1)), ?_, ⟨_, _, D ++ [(x, v)], heap_setBlock_same hb _, ?_, ?_, fun y => by rw [← hset v]; exact hlook y⟩, ⟨rfl, rfl, rfl, by simp [setBlock], fun i _ hi => heap_setBlock_other hb _ (fun e => hi (by rw [e]))⟩⟩
    · simp [Instr.mapUpdate, run_underlying ht, MapKept.run_getObj_map hb, hc, hf, MapKept.run_setObj_map _ hb, Result.andThen, setBlock]
    · simp [h1, encL]
    · simp [h2]
  | some c =>
    obtain ⟨j, hjl, hj, hjk, hset⟩ := q2 c hl
    have hf : (findKey kt (.string ⟨#[x]⟩) es.toList).run P w = .ok (some (0 + j, .int .i64 c)) w := by
      rw [show (encL x) = .string ⟨#[x]⟩ from rfl] at hj
      simp [findKey, run_underlying hk, hj]
    have hold : ((es[j]?).map (·.key)).getD (.string ⟨#[x]⟩) = .string ⟨#[x]⟩ := by
      rw [Array.getElem?_toList] at hjk
      rw [hjk]; rfl
    have hst : ∀ W, (keyThatStays (.string ⟨#[x]⟩) (.string ⟨#[x]⟩)).run P W = .ok (.string ⟨#[x]⟩) W := fun W => MapKept.run_keyThatStays (d := .string) (k := .string ⟨#[x]⟩) trivial
    refine ⟨setBlock w m (.map (es.modify j fun e => { e with key := .string ⟨#[x]⟩, val := .int .i64 v }) clock), ?_, ⟨_, _, D.set j (x, v), heap_setBlock_same hb _, ?_, ?_, fun y => by rw [← hset v]; exact hlook y⟩, ⟨rfl, rfl, rfl, by simp [setBlock], fun i _ hi => heap_setBlock_other hb _ (fun e => hi (by rw [e]))⟩⟩
    · simp [Instr.mapUpdate, run_underlying ht, MapKept.run_getObj_map hb, hc, hf, hold, hst, MapKept.run_setObj_map _ hb, Result.andThen, setBlock]
    · have hlen : es.toList.length = D.length := by have := congrArg List.length h1; simpa using this
      refine List.ext_getElem? fun i => ?_
      have hi := congrArg (fun l => l[i]?) h1
      simp only [List.getElem?_map] at hi
      simp only [List.getElem?_map, Array.toList_modify, List.getElem?_modify, List.getElem?_set]
      by_cases hij : j = i
      · subst hij
        have h5 : j < D.length := by omega
        have h6 : j < es.toList.length := hjl
        simp [List.getElem?_eq_getElem h6, encL, h5]
      · simp only [if_neg hij]
        simpa using hi
    · have hlen : es.toList.length = D.length := by have := congrArg List.length h1; simpa using this
      refine List.ext_getElem? fun i => ?_
      have hi := congrArg (fun l => l[i]?) h2
      simp only [List.getElem?_map] at hi
      simp only [List.getElem?_map, Array.toList_modify, List.getElem?_modify, List.getElem?_set]
      by_cases hij : j = i
      · subst hij
        have h5 : j < D.length := by omega
        have h6 : j < es.toList.length := hjl
        simp [List.getElem?_eq_getElem h6, h5]
      · simp only [if_neg hij]
        simpa using hi

theorem NumsIs.new (w : World) : NumsIs (w.alloc (.map #[] 0)) w.heap.size (fun _ => none) := ⟨#[], 0, [], heap_alloc_new _ _, rfl, rfl, fun _ => rfl⟩
theorem NumsIs.of_block {w w' : World} {m : Nat} {f : UInt8 → Option Int} (h : NumsIs w m f) (hb : w'.heap[m]? = w.heap[m]?) : NumsIs w' m f := by
  obtain ⟨es, clock, D, h0, rest⟩ := h
  exact ⟨es, clock, D, hb.trans h0, rest⟩
theorem NumsIs.below {w w' : World} {m : Nat} {f : UInt8 → Option Int} {B : Nat} (h : NumsIs w m f) (hb : Below B w w') (hm : m < B) : NumsIs w' m f := h.of_block (hb.block m hm)
theorem NumsIs.lt {w : World} {m : Nat} {f : UInt8 → Option Int} (h : NumsIs w m f) : m < w.heap.size := by
  obtain ⟨es, clock, D, h0, _⟩ := h
  exact (Array.getElem?_eq_some_iff.1 h0).1
theorem NumsIs.grown {w w' : World} {m : Nat} {f : UInt8 → Option Int} {row : Option Nat} (h : NumsIs w m f) (hg : w.grownBy w' row) (hr : some m ≠ row) : NumsIs w' m f := h.of_block (hg.block m h.lt hr)
end

end Go.Proofs.YtpeafheljcjlhaaGreat

namespace Go.Proofs.YtpeafheljcjlhaaGreat
open Go.RowKit

set_option maxRecDepth 100000 in
set_option maxHeartbeats 2000000 in
/-- (impl.way).along -/
theorem along_any (b p B : ByteArray) (A : Option Addr) (cap : Nat) (es : List (ByteArray × ByteArray)) (k : Nat) (w : World) (hE : EdgesIn w w.heap.size A es) (hl : es.length ≤ 20) (hk : k < es.length) (hp : p.size ≤ 1048576) :
    Calls Tryz.prog 111 #[.agg #[.string b, .string p], .agg #[.string B, .slice A es.length cap], .int .i64 k] w fun e w' => e = .returned (.agg #[.string es[k].2, .string (p ++ ⟨#[nameOf k]⟩)]) ∧ Below w.heap.size w w' := by
  obtain ⟨eb, eo, rfl, hlow, h1, h2⟩ := hE k hk
  have hb1 : Below w.heap.size w ((w.alloc (.cells #[.string b, .string p] 114)).alloc (.cells #[.string B, .slice (some ⟨eb, eo, none⟩) es.length cap] 31)) := ((Below.refl _ _).alloc (Nat.le_refl _) _).alloc (by simp) _
  have c0 : ((w.alloc (.cells #[.string b, .string p] 114)).alloc (.cells #[.string B, .slice (some ⟨eb, eo, none⟩) es.length cap] 31)).cell? ⟨w.heap.size, 1, none⟩ = some (.string p) := by go_simp
  have c1 : ((w.alloc (.cells #[.string b, .string p] 114)).alloc (.cells #[.string B, .slice (some ⟨eb, eo, none⟩) es.length cap] 31)).cell? ⟨w.heap.size + 1, 1, none⟩ = some (.slice (some ⟨eb, eo, none⟩) es.length cap) := by go_simp
  have hz1 : ((w.alloc (.cells #[.string b, .string p] 114)).alloc (.cells #[.string B, .slice (some ⟨eb, eo, none⟩) es.length cap] 31)).heap.size = w.heap.size + 2 := by simp
  have g2 := (hb1.cell (p := ⟨eb, eo + k * 2 + 1, none⟩) hlow).trans h2
  clear h1 h2 hE
  go_enter Tryz.func111, Tryz.ntmps111
  go_wp2_with fail
  generalize hW1 : (w.alloc (.cells #[.string b, .string p] 114)).alloc (.cells #[.string B, .slice (some ⟨eb, eo, none⟩) es.length cap] 31) = w1 at hb1 c0 c1 hz1 g2 ⊢
  clear hW1
  have hb2 : Below (w.heap.size + 2) w1 (w1.alloc (.cells #[.string ⟨#[]⟩, .string ⟨#[]⟩] 114)) := (Below.refl _ _).alloc (by omega) _
  have hr2 : (w1.alloc (.cells #[.string ⟨#[]⟩, .string ⟨#[]⟩] 114)).rowIs (w.heap.size + 2) 114 2 (fun _ => .string ⟨#[]⟩) := by
    have h := World.rowIs_alloc w1 #[.string ⟨#[]⟩, .string ⟨#[]⟩] 114 (fun _ => .string ⟨#[]⟩) (fun i hi => by
      match i, hi with
      | 0, _ => rfl
      | 1, _ => rfl)
    rwa [hz1] at h
  generalize hW2 : w1.alloc (.cells #[.string ⟨#[]⟩, .string ⟨#[]⟩] 114) = w2 at hb2 hr2 ⊢
  clear hW2
  have hS : ∀ W, Below (w.heap.size + 2) w1 W → (W.cell? ⟨w.heap.size, 1, none⟩ = some (.string p) ∧ W.cell? ⟨w.heap.size + 1, 1, none⟩ = some (.slice (some ⟨eb, eo, none⟩) es.length cap) ∧ W.cell? ⟨eb, eo + k * 2 + 1, none⟩ = some (.string es[k].2) ∧ Below (w.heap.size + 2) w1 W) :=
    fun W h => ⟨(h.cell (by simp only; omega)).trans c0, (h.cell (by simp only; omega)).trans c1, (h.cell (by simp only; omega)).trans g2, h⟩
  have hr3 := hr2
  have q0 := hr3.cell (i := 0) (by omega); have q1 := hr3.cell (i := 1) (by omega)
  have f0 := hr3.frozen 0; have f1 := hr3.frozen 1
  have HSS := Lib.hid hS; have HB2 := Lib.hid hb2; have HB1 := Lib.hid hb1
  have hadd : ¬ 9223372036854775807 < p.size + (⟨#[nameOf k]⟩ : ByteArray).size := by
    have : (⟨#[nameOf k]⟩ : ByteArray).size = 1 := rfl
    omega
  have hadd2 : ¬ 9223372036854775807 < p.size + 1 := by omega
  have hadd3 : p.size + 1 ≤ 9223372036854775807 := by omega
  have hki : (k : Int) < (es.length : Int) := by omega
  clear hS hr2 hr3 hb2 c0 c1 g2 hb1
  go_region_held3 (fun W => W.cell? ⟨w.heap.size, 1, none⟩ = some (.string p) ∧ W.cell? ⟨w.heap.size + 1, 1, none⟩ = some (.slice (some ⟨eb, eo, none⟩) es.length cap) ∧ W.cell? ⟨eb, eo + k * 2 + 1, none⟩ = some (.string es[k].2) ∧ Below (w.heap.size + 2) w1 W)
    (first
      | exact HSS.out _ HB2.out.drew
      | exact HSS.out _ ((HB2.out.drew.setCell (by simp) _).setCell (by simp) _))
    (first
      | (go_at_call 95; refine (edgeName_any k (by omega) _).mono ?_; rintro e w4 ⟨rfl, rfl⟩))
  rename_i hHeld
  have hfin := hHeld.2.2.2
  clear hHeld
  go_wp2_with fail
  refine bodyPost_ret (v := .agg #[.string es[k].2, .string (p ++ ⟨#[nameOf k]⟩)]) (by simp [results, Tryz.results111, go_sem, q0, q1]) rfl ⟨rfl, HB1.out.trans (hfin.mono (by omega))⟩

end Go.Proofs.YtpeafheljcjlhaaGreat

namespace Go.Proofs.YtpeafheljcjlhaaGreat
open Go.RowKit

/-- a net in which all edges lead on in O, in words that a walk can use -/
structure Lead (B : ByteArray) (es : List (ByteArray × ByteArray)) (O : List UInt8) (e0 t : UInt8) : Prop where
  few : es.length ≤ 16
  lets : Lets B.data.toList es
  topo : Topo (ebs es) O
  eight : O.length ≤ 8
  ent : e0 ∈ O
  one : 1 ≤ B.size
  small : B.size ≤ 8
  first : B.extract 0 1 = ⟨#[e0]⟩
  last : B.extract (B.size - 1) B.size = ⟨#[t]⟩
  no : ∀ y, ([t], [y]) ∉ ebs es

/-- the variables of impl.countsToExit -/
structure HomeC (W : World) (N M C G : Nat) (B : ByteArray) (A : Option Addr) (n cap : Nat) : Prop where
  net : Two W N B A n cap
  map : W.cell? ⟨C, 0, none⟩ = some (.map (some M))
  go : W.cell? ⟨G, 0, none⟩ = some (.func (.func 131) #[] #[.pointer (some ⟨C, 0, none⟩), .pointer (some ⟨N, 0, none⟩), .pointer (some ⟨G, 0, none⟩)])
  n1 : N < M
  n2 : M < C
  n3 : C < G
  n4 : G < W.heap.size
theorem HomeC.keep {W W' : World} {N M C G : Nat} {B : ByteArray} {A : Option Addr} {n cap : Nat} (h : HomeC W N M C G B A n cap) (k : W.grownBy W' (some M)) : HomeC W' N M C G B A n cap := by
  have h1 := h.n1; have h2 := h.n2; have h3 := h.n3; have h4 := h.n4; have hz := k.size
  have e : ∀ b, b < W.heap.size → b ≠ M → ∀ o, W'.cell? ⟨b, o, none⟩ = W.cell? ⟨b, o, none⟩ := fun b hb hm o => World.cell?_of_block (k.block b hb (by intro e; injection e with e; exact hm e))
  exact ⟨⟨(e N (by omega) (by omega) _).trans h.net.1, (e N (by omega) (by omega) _).trans h.net.2⟩, (e C (by omega) (by omega) _).trans h.map, (e G (by omega) (by omega) _).trans h.go, h1, h2, h3, by omega⟩

/-- what the map holds: counts, of blocks that are closed under going on -/
structure Counted (E : Eds) (t : UInt8) (f : UInt8 → Option Int) : Prop where
  agree : ∀ y v, f y = some v → v = (cntE E t y : Nat)
  closed : ∀ y, f y ≠ none → ∀ z, ([y], [z]) ∈ E → f z ≠ none
  exit : f t ≠ none
theorem Counted.put {E : Eds} {t : UInt8} {f : UInt8 → Option Int} (h : Counted E t f) {b : UInt8} (hb : ∀ z, ([b], [z]) ∈ E → f z ≠ none) : Counted E t (fun y => if y = b then some ((cntE E t b : Nat) : Int) else f y) := by
  refine ⟨fun y v hy => ?_, fun y hy z hz => ?_, ?_⟩
  · by_cases e : y = b
    · subst e; simp only [if_true] at hy; injection hy with hy; exact hy.symm
    · rw [if_neg e] at hy; exact h.agree y v hy
  · by_cases e2 : z = b
    · simp [e2]
    · rw [if_neg e2]
      by_cases e : y = b
      · subst e; exact hb z hz
      · rw [if_neg e] at hy; exact h.closed y hy z hz
  · by_cases e : t = b
    · simp [e]
    · rw [if_neg e]; exact h.exit

/-- what a call of the closure leaves -/
def CountedPost (E : Eds) (t b : UInt8) (M : Nat) (f : UInt8 → Option Int) (W : World) (e : Ending) (W' : World) : Prop :=
  e = .returned (.int .i64 (cntE E t b : Nat)) ∧ ∃ f', NumsIs W' M f' ∧ Counted E t f' ∧ (∀ y, f y ≠ none → f' y ≠ none) ∧ f' b ≠ none ∧ W.grownBy W' (some M)

set_option maxRecDepth 100000 in
set_option maxHeartbeats 4000000 in
/-- impl.countsToExit$1 -/
theorem countFrom_in (N M C G : Nat) (B : ByteArray) (A : Option Addr) (cap : Nat) (es : List (ByteArray × ByteArray)) (O : List UInt8) (e0 t : UInt8) (hL : Lead B es O e0 t) : ∀ (n : Nat) (r : List UInt8) (b : UInt8) (f : UInt8 → Option Int) (W : World),
    r.length < n → r.length ≤ 7 → Topo (ebs es) (b :: r) → HomeC W N M C G B A es.length cap → EdgesIn W N A es → NumsIs W M f → Counted (ebs es) t f →
    Calls Tryz.prog 131 #[.string ⟨#[b]⟩, .pointer (some ⟨C, 0, none⟩), .pointer (some ⟨N, 0, none⟩), .pointer (some ⟨G, 0, none⟩)] W (CountedPost (ebs es) t b M f W) := by
  intro n
  induction n with
  | zero =>
    intro r b f W hn
    omega
  | succ n ih =>
    intro r b f W hn h7 ht hH hE hN hC
    have h16 := hL.few
    have IH := Lib.hid ih
    have HTO := Lib.hid ht
    have n1 := hH.n1; have n2 := hH.n2; have n3 := hH.n3; have n4 := hH.n4
    have hlk := hN.lookup2 (P := Tryz.prog) (kt := 9) (t := 109) (e := 3) Tryz.underlying9 Tryz.underlying109 (by kernel_rfl) b
    have c0 := hH.net.2; have c1 := hH.map
    have HN := Lib.hid hN; have HC := Lib.hid hC; have HH := Lib.hid hH
    clear ih ht hN hC hH
    cases hfb : f b with
    | some v =>
      have hv := HC.out.agree b v hfb
      rw [hfb] at hlk
      simp only [Option.getD_some, Option.isSome_some] at hlk
      have HFB := Lib.hid hfb; have HV := Lib.hid hv
      clear hfb hv
      go_enter Tryz.func131, Tryz.ntmps131
      go_wp2_with fail
      go_ret
      exact ⟨by rw [← HV.out]; rfl, f, HN.out, HC.out, fun _ h => h, by rw [HFB.out]; simp, World.grownBy.refl _ _⟩
    | none =>
      rw [hfb] at hlk
      simp only [Option.getD_none, Option.isSome_none] at hlk
      have HFB := Lib.hid hfb
      clear hfb
      have hbt : b ≠ t := fun e => HC.out.exit (by rw [← e]; exact HFB.out)
      have HFIX : Hid (cntE (ebs es) t b = sumC (ebs es) (cntE (ebs es) t) b (List.range es.length)) := Lib.hid (by rw [cntE_fix HTO.out h7 hbt, ebs_len])
      clear hbt
      go_enter Tryz.func131, Tryz.ntmps131
      go_wp2_with fail
      clear hlk c0 c1
      go_loopw [8, 22] (fun a c wr => ∃ (k : Nat) (fk : UInt8 → Option Int), k ≤ es.length ∧ c = .int .i64 k ∧ a = .int .i64 (sumC (ebs es) (cntE (ebs es) t) b (List.range k) : Nat) ∧ NumsIs wr M fk ∧ Counted (ebs es) t fk ∧ (∀ y, f y ≠ none → fk y ≠ none) ∧ (∀ i, i < k → ∀ z, (ebs es)[i]? = some ([b], [z]) → fk z ≠ none) ∧ W.grownBy wr (some M)) (fun _ c _ => es.length - (intOf c).toNat)
      case atStart => exact ⟨0, f, Nat.zero_le _, rfl, rfl, HN.out, HC.out, fun _ h => h, fun i hi => absurd hi (by omega), World.grownBy.refl _ _⟩
      case round =>
        obtain ⟨k, fk, hk, rfl, rfl, hnk, hck, hle, hdn, hgr⟩ := hrel
        have hHk := HH.out.keep hgr
        have hEk : EdgesIn wr N A es := hE.grown_low hgr (by omega) (fun c hc => by intro e; injection e with e; omega)
        have hzr := hgr.size
        have HNK := Lib.hid hnk; have HCK := Lib.hid hck; have HLEQ := Lib.hid hle; have HDN := Lib.hid hdn; have HGR := Lib.hid hgr
        clear hnk hck hle hdn hgr
        have c1 := hHk.map
        have c2 := hHk.go
        have HHK := Lib.hid hHk
        by_cases hlt : k < es.length
        case neg =>
          have hkn : k = es.length := by omega
          obtain ⟨c, hc⟩ : ∃ c, cntE (ebs es) t b = c := ⟨_, rfl⟩
          have HS : Hid (sumC (ebs es) (cntE (ebs es) t) b (List.range k) = c) := Lib.hid (by rw [hkn, ← HFIX.out, hc])
          obtain ⟨w2, hrun, hset2, hg2⟩ := HNK.out.update (P := Tryz.prog) (kt := 9) (t := 109) (e := 3) Tryz.underlying9 Tryz.underlying109 b (c : Int)
          have HSET : Hid (NumsIs w2 M (fun y => if y = b then some ((c : Nat) : Int) else fk y)) := Lib.hid hset2
          have HPUT : Hid (Counted (ebs es) t (fun y => if y = b then some ((c : Nat) : Int) else fk y)) := Lib.hid (by
            rw [← hc]
            refine HCK.out.put fun z hz => ?_
            obtain ⟨i, hi⟩ := List.mem_iff_getElem?.1 hz
            exact HDN.out i (by have := (List.getElem?_eq_some_iff.1 hi).1; rw [ebs_len] at this; omega) z hi)
          have HG2 := Lib.hid (HGR.out.trans hg2)
          have HCE := Lib.hid hc
          clear hset2 hg2 hc c2 hHk
          rw [HS.out]
          go_wp2_with fail
          go_ret
          refine ⟨by rw [HCE.out]; rfl, _, HSET.out, HPUT.out, fun y hy => ?_, by simp, HG2.out⟩
          by_cases e : y = b
          · simp [e]
          · rw [if_neg e]; exact HLEQ.out y hy
        obtain ⟨x, y, he, h1, h2, hxl, hyl⟩ := edge_letters hL.lets hlt
        obtain ⟨eb, eo, rfl, hlow, q1, q2⟩ := hEk k hlt
        rw [h1] at q1
        rw [h2] at q2
        have HE1 := Lib.hid he
        have hba : wr.grownBy (wr.alloc (.cells #[.string ⟨#[x]⟩, .string ⟨#[y]⟩] 70)) (some M) := World.grownBy_alloc wr _ _
        have HBA := Lib.hid hba
        have HRS : Hid (sumC (ebs es) (cntE (ebs es) t) b (List.range (k + 1)) = sumC (ebs es) (cntE (ebs es) t) b (List.range k) + stepC (ebs es) (cntE (ebs es) t) b k) := Lib.hid (sumC_range _ _ _ _)
        clear he h1 h2 hba
        by_cases hxb : x = b
        case neg =>
          have hq : (x == b) = false := by simp [hxb]
          have HN2 : Hid (sumC (ebs es) (cntE (ebs es) t) b (List.range (k + 1)) = sumC (ebs es) (cntE (ebs es) t) b (List.range k)) := Lib.hid (by rw [HRS.out, stepC_no HE1.out hxb, Nat.add_zero])
          have HG6 := Lib.hid (HGR.out.trans HBA.out)
          have HNM : Hid (NumsIs (wr.alloc (.cells #[.string ⟨#[x]⟩, .string ⟨#[y]⟩] 70)) M fk) := Lib.hid (HNK.out.of_block (Below.heap_alloc _ _ _ HNK.out.lt))
          have HDN2 : Hid (∀ i, i < k + 1 → ∀ z, (ebs es)[i]? = some ([b], [z]) → fk z ≠ none) := Lib.hid fun i hi z hz => by
            by_cases hik : i < k
            · exact HDN.out i hik z hz
            · have : i = k := by omega
              subst this
              rw [HE1.out] at hz
              injection hz with hz
              injection hz with hz _
              injection hz with hz _
              exact absurd hz hxb
          clear hxb
          go_wp2_with fail
          go_roundw
          case rel => exact ⟨k + 1, fk, by omega, by go_num, by rw [HN2.out], HNM.out, HCK.out, HLEQ.out, HDN2.out, HG6.out⟩
          case measure => simp [intOf]; omega
        subst hxb
        have hq : (x == x) = true := by simp
        obtain ⟨r2, ht2, hr7, hrl⟩ := topo_to HTO.out h7 (List.mem_of_getElem? HE1.out)
        obtain ⟨c1n, hc1⟩ : ∃ c1n : Nat, sumC (ebs es) (cntE (ebs es) t) x (List.range k) = c1n := ⟨_, rfl⟩
        have hcb : c1n + cntE (ebs es) t y ≤ 8589934593 := by
          have h2 : cntE (ebs es) t y ≤ 268435456 := cntE_few (by rw [ebs_len]; exact h16) ht2 hr7
          have h1 := sumC_few (t := t) (by rw [ebs_len]; exact h16) HTO.out h7 (show k ≤ 16 by omega)
          rw [hc1] at h1
          omega
        have HN2 : Hid (sumC (ebs es) (cntE (ebs es) t) x (List.range (k + 1)) = c1n + cntE (ebs es) t y) := Lib.hid (by rw [HRS.out, stepC_yes HE1.out, hc1])
        have hNA : NumsIs (wr.alloc (.cells #[.string ⟨#[x]⟩, .string ⟨#[y]⟩] 70)) M fk := HNK.out.of_block (Below.heap_alloc _ _ _ HNK.out.lt)
        have HCALL : Hid (Calls Tryz.prog 131 #[.string ⟨#[y]⟩, .pointer (some ⟨C, 0, none⟩), .pointer (some ⟨N, 0, none⟩), .pointer (some ⟨G, 0, none⟩)] (wr.alloc (.cells #[.string ⟨#[x]⟩, .string ⟨#[y]⟩] 70)) (CountedPost (ebs es) t y M fk (wr.alloc (.cells #[.string ⟨#[x]⟩, .string ⟨#[y]⟩] 70)))) := Lib.hid (by
          refine IH.out r2 y fk _ (by omega) hr7 ht2 (HHK.out.keep HBA.out) ?_ hNA HCK.out
          exact hEk.grown_low HBA.out (by omega) (fun c hc => by intro e; injection e with e; omega))
        obtain ⟨c2n, hc2⟩ : ∃ c2n : Nat, cntE (ebs es) t y = c2n := ⟨_, rfl⟩
        have z1 : IntKind.i64.wrap ((c1n : Int) + (c2n : Int)) = (c1n : Int) + (c2n : Int) := IntWalk.i64_in _ (by omega)
        have HC2 := Lib.hid hc2
        rw [hc1]
        clear hc1 hcb hNA ht2 hc2
        have c3 := (HHK.out.keep HBA.out).go
        go_wp2_with fail
        refine HCALL.out.mono ?_
        rintro e w5 ⟨rfl, f5, hn5, hc5, hle5, hb5, hg5⟩
        have HG5 := Lib.hid ((HGR.out.trans HBA.out).trans hg5)
        have HN5 := Lib.hid hn5; have HC5 := Lib.hid hc5; have HB5 := Lib.hid hb5
        have HLE5 : Hid (∀ y, f y ≠ none → f5 y ≠ none) := Lib.hid fun y hy => hle5 y (HLEQ.out y hy)
        have HDN5 : Hid (∀ i, i < k + 1 → ∀ z, (ebs es)[i]? = some ([x], [z]) → f5 z ≠ none) := Lib.hid fun i hi z hz => by
          by_cases hik : i < k
          · exact hle5 z (HDN.out i hik z hz)
          · have : i = k := by omega
            subst this
            rw [HE1.out] at hz
            injection hz with hz
            injection hz with _ hz
            injection hz with hz _
            subst hz
            exact HB5.out
        rw [HC2.out]
        clear hn5 hc5 hle5 hb5 hg5 c1 c2 c3 HCALL
        go_wp2_with fail
        go_roundw
        case rel => exact ⟨k + 1, f5, by omega, by go_num, by rw [HN2.out, HC2.out, Int.natCast_add], HN5.out, HC5.out, HLE5.out, HDN5.out, HG5.out⟩
        case measure => simp [intOf]; omega

theorem lead_of {B : ByteArray} {es : List (ByteArray × ByteArray)} {O : List UInt8} (h : Acy B es O) : Lead B es O (entry B.data.toList) (exit_ B.data.toList) :=
  ⟨h.F.few, h.F.lets, h.topo, h.eight, h.all _ h.F.ent, h.F.one, h.F.eight, h.F.first, h.F.last, h.no⟩

end Go.Proofs.YtpeafheljcjlhaaGreat

namespace Go.Proofs.YtpeafheljcjlhaaGreat
open Go.RowKit

/-- what is handed back: a map that has the counts of all blocks that can be come to -/
def MapPost (E : Eds) (e0 t : UInt8) (w : World) (e : Ending) (w' : World) : Prop :=
  ∃ M f, e = .returned (.map (some M)) ∧ w.heap.size ≤ M ∧ NumsIs w' M f ∧ Below w.heap.size w w' ∧ ∀ b, Way E e0 b → f b = some ((cntE E t b : Nat) : Int)

theorem counted_all {E : Eds} {t e0 : UInt8} {f : UInt8 → Option Int} (h : Counted E t f) (h0 : f e0 ≠ none) {b : UInt8} (hw : Way E e0 b) : f b = some ((cntE E t b : Nat) : Int) := by
  have hn : f b ≠ none := by
    induction hw with
    | refl => exact h0
    | step _ he ih => exact h.closed _ ih _ he
  cases hf : f b with
  | none => exact absurd hf hn
  | some v => rw [h.agree b v hf]

set_option maxRecDepth 100000 in
set_option maxHeartbeats 4000000 in
/-- impl.countsToExit -/
theorem countsToExit_any (B : ByteArray) (A : Option Addr) (cap : Nat) (es : List (ByteArray × ByteArray)) (O : List UInt8) (e0 t : UInt8) (w : World) (hE : EdgesIn w w.heap.size A es) (hL : Lead B es O e0 t) (hBm : B.size ≤ maxLen) :
    Calls Tryz.prog 106 #[.agg #[.string B, .slice A es.length cap]] w (MapPost (ebs es) e0 t w) := by
  have hB1 := hL.one
  have HM := Lib.hid hBm
  have hmm := @run_makeMap Tryz.prog
  obtain ⟨W1, hW1⟩ : ∃ W1, W1 = (w.alloc (.cells #[.string B, .slice A es.length cap] 31)).alloc (.map #[] 0) := ⟨_, rfl⟩
  have hb1 : Below w.heap.size w W1 := by rw [hW1]; exact ((Below.refl _ _).alloc (Nat.le_refl _) _).alloc (by simp) _
  have t1 : Two W1 w.heap.size B A es.length cap := by rw [hW1]; exact ⟨by go_simp, by go_simp⟩
  have hz1 : W1.heap.size = w.heap.size + 2 := by rw [hW1]; simp
  have hn1 : NumsIs W1 (w.heap.size + 1) (fun _ => none) := by
    have := NumsIs.new (w.alloc (.cells #[.string B, .slice A es.length cap] 31))
    rw [World.size_alloc] at this
    rw [hW1]; exact this
  have c0 := t1.1; have c1 := t1.2
  rw [hW1] at c0 c1
  clear hBm
  go_enter Tryz.func106, Tryz.ntmps106
  go_wp2_with fail
  rw [← hW1]
  clear hmm c0 c1 hW1
  refine (exitOf_any B _ _ hB1 HM.out).mono ?_
  rintro e w2 ⟨rfl, hb2⟩
  rw [hL.last]
  have t2 := t1.below hb2 (by omega)
  have hn2 := hn1.below hb2 (by omega)
  have hb2' := hb1.trans (hb2.mono hb1.size)
  have hz2 := hb2.size
  clear hb2 t1 hn1 hb1
  obtain ⟨w3, hrun, hset3, hg3⟩ := hn2.update (P := Tryz.prog) (kt := 9) (t := 109) (e := 3) Tryz.underlying9 Tryz.underlying109 t 1
  have HSET := Lib.hid hset3; have HG := Lib.hid hg3
  have hz3 := hg3.size
  clear hset3 hg3 hn2
  go_wp2_with fail
  clear hrun
  obtain ⟨W4, hW4⟩ : ∃ W4, (w3.alloc (.cells #[.map (some (w.heap.size + 1))] 109)).alloc (.cells #[.func (.func 131) #[] #[.pointer (some ⟨w3.heap.size, 0, none⟩), .pointer (some ⟨w.heap.size, 0, none⟩), .pointer (some ⟨w3.heap.size + 1, 0, none⟩)]] 134) = W4 := ⟨_, rfl⟩
  have hb4 : Below w3.heap.size w3 W4 := by rw [← hW4]; exact ((Below.refl _ _).alloc (Nat.le_refl _) _).alloc (by simp) _
  have hz4 : W4.heap.size = w3.heap.size + 2 := by rw [← hW4]; simp
  have m4 : W4.cell? ⟨w3.heap.size, 0, none⟩ = some (.map (some (w.heap.size + 1))) := by rw [← hW4]; clear hW4; go_simp
  have g4 : W4.cell? ⟨w3.heap.size + 1, 0, none⟩ = some (.func (.func 131) #[] #[.pointer (some ⟨w3.heap.size, 0, none⟩), .pointer (some ⟨w.heap.size, 0, none⟩), .pointer (some ⟨w3.heap.size + 1, 0, none⟩)]) := by rw [← hW4]; clear hW4; go_simp
  have t4 : Two W4 w.heap.size B A es.length cap := (t2.grown HG.out (by omega) (by intro e; injection e with e; omega)).below hb4 (by omega)
  have hH : HomeC W4 w.heap.size (w.heap.size + 1) w3.heap.size (w3.heap.size + 1) B A es.length cap := ⟨t4, m4, g4, by omega, by omega, by omega, by omega⟩
  have hbw : Below w.heap.size w W4 := (hb2'.grown HG.out (by omega) (fun q e => by injection e with e; omega)).trans (hb4.mono (by omega))
  have HN4 : Hid (NumsIs W4 (w.heap.size + 1) (fun y => if y = t then some 1 else none)) := Lib.hid (HSET.out.below hb4 (by omega))
  have HC4 : Hid (Counted (ebs es) t (fun y => if y = t then some (1 : Int) else none)) := Lib.hid (by
    refine ⟨fun y v hy => ?_, fun y hy z hz => ?_, by simp⟩
    · by_cases e : y = t
      · subst e; simp only [if_true] at hy; injection hy with hy; rw [cntE_at, ← hy]; rfl
      · rw [if_neg e] at hy; cases hy
    · by_cases e : y = t
      · subst e; exact absurd hz (hL.no z)
      · rw [if_neg e] at hy; exact absurd rfl hy)
  obtain ⟨r, htr, hr7⟩ := topo_at hL.topo hL.eight hL.ent
  have HTR := Lib.hid htr
  have HH := Lib.hid hH; have HBW := Lib.hid hbw
  rw [hW4]
  have c0 := t4.1; have c1 := t4.2
  clear hW4 hb2' t2 hb4 m4 t4 hH hbw htr HSET HG
  obtain ⟨C, hC⟩ : ∃ C, w3.heap.size = C := ⟨_, rfl⟩
  rw [hC] at g4 HH hz4 ⊢
  have hS : ∀ W, Below W4.heap.size W4 W → (W.cell? ⟨w.heap.size, 0, none⟩ = some (.string B) ∧ W.cell? ⟨w.heap.size, 1, none⟩ = some (.slice A es.length cap) ∧ W.cell? ⟨C + 1, 0, none⟩ = some (.func (.func 131) #[] #[.pointer (some ⟨C, 0, none⟩), .pointer (some ⟨w.heap.size, 0, none⟩), .pointer (some ⟨C + 1, 0, none⟩)])) :=
    fun W h => ⟨(h.cell (by simp only; omega)).trans c0, (h.cell (by simp only; omega)).trans c1, (h.cell (by simp only; omega)).trans g4⟩
  have HSS := Lib.hid hS
  have HCALL : Hid (∀ W, Below W4.heap.size W4 W → Calls Tryz.prog 131 #[.string ⟨#[e0]⟩, .pointer (some ⟨C, 0, none⟩), .pointer (some ⟨w.heap.size, 0, none⟩), .pointer (some ⟨C + 1, 0, none⟩)] W (CountedPost (ebs es) t e0 (w.heap.size + 1) (fun y => if y = t then some 1 else none) W)) := Lib.hid fun W h => by
    have hg : W4.grownBy W (some (w.heap.size + 1)) := ⟨h.os, h.tape, h.output, h.size, fun i hi _ => h.block i hi⟩
    refine countFrom_in w.heap.size (w.heap.size + 1) C (C + 1) B A cap es O e0 t hL (r.length + 1) r e0 _ W (by omega) hr7 HTR.out (HH.out.keep hg) ?_ (HN4.out.below h (by omega)) HC4.out
    exact (hE.below HBW.out).below (h.mono (by omega))
  have HFST := Lib.hid hL.first
  clear hS c0 c1 g4
  go_region_held3 (fun W => W.cell? ⟨w.heap.size, 0, none⟩ = some (.string B) ∧ W.cell? ⟨w.heap.size, 1, none⟩ = some (.slice A es.length cap) ∧ W.cell? ⟨C + 1, 0, none⟩ = some (.func (.func 131) #[] #[.pointer (some ⟨C, 0, none⟩), .pointer (some ⟨w.heap.size, 0, none⟩), .pointer (some ⟨C + 1, 0, none⟩)]))
    (first | exact HSS.out _ (Below.refl _ _).drew | exact HSS.out _ ((Below.refl _ _).drew.trans hb6) | exact hk7)
    (first
      | (go_at_call 61; refine (entryOf_any B _ _ hB1 HM.out).mono ?_; rw [HFST.out]; rintro e w6 ⟨rfl, hb6⟩)
      | (go_at_call 131; refine (HCALL.out _ ((Below.refl _ _).drew.trans hb6)).mono ?_; rintro e w7 ⟨rfl, f7, hn7, hc7, hle7, hb7, hg7⟩
         have hk7 : w7.cell? ⟨w.heap.size, 0, none⟩ = some (.string B) ∧ w7.cell? ⟨w.heap.size, 1, none⟩ = some (.slice A es.length cap) ∧ w7.cell? ⟨C + 1, 0, none⟩ = some (.func (.func 131) #[] #[.pointer (some ⟨C, 0, none⟩), .pointer (some ⟨w.heap.size, 0, none⟩), .pointer (some ⟨C + 1, 0, none⟩)]) := by
           have hx := hb6.size
           have h6 := HSS.out _ ((Below.refl _ _).drew.trans hb6)
           exact ⟨(World.cell?_of_block (hg7.block w.heap.size (by simp at hx; omega) (by intro e; injection e with e; omega))).trans h6.1, (World.cell?_of_block (hg7.block w.heap.size (by simp at hx; omega) (by intro e; injection e with e; omega))).trans h6.2.1, (World.cell?_of_block (hg7.block (C + 1) (by simp at hx; omega) (by intro e; injection e with e; omega))).trans h6.2.2⟩))
  have hbF : Below w.heap.size w w7 := by
    have h6 := HBW.out.trans (((Below.refl W4.heap.size W4).drew.trans hb6).mono (by have := HBW.out.size; omega))
    exact h6.grown hg7 h6.size (fun q e => by injection e with e; omega)
  have hcm := (World.cell?_of_block (a := ⟨C, 0, none⟩) (hg7.block C (by have := hb6.size; simp at this; omega) (by intro e; injection e with e; omega))).trans ((((Below.refl W4.heap.size W4).drew.trans hb6).cell (p := ⟨C, 0, none⟩) (by simp only; omega)).trans HH.out.map)
  have hall : ∀ b, Way (ebs es) e0 b → f7 b = some ((cntE (ebs es) t b : Nat) : Int) := fun b hb => counted_all hc7 hb7 hb
  have HALL := Lib.hid hall; have HBF := Lib.hid hbF; have HN7 := Lib.hid hn7
  clear hn7 hc7 hle7 hb7 hg7 hk7 hb6 hall hbF HSS HCALL
  go_wp2_with fail
  go_ret
  exact ⟨_, f7, rfl, by omega, HN7.out, HBF.out, HALL.out⟩

end Go.Proofs.YtpeafheljcjlhaaGreat

namespace Go.Proofs.YtpeafheljcjlhaaGreat
open Go.RowKit

set_option maxRecDepth 100000 in
set_option maxHeartbeats 4000000 in
/-- impl.CountRuns -/
theorem implCountRuns_any (B : ByteArray) (A : Option Addr) (cap : Nat) (es : List (ByteArray × ByteArray)) (w : World) (hs : B.size ≤ maxLen) (hE : EdgesIn w w.heap.size A es) (hl : es.length ≤ 1099511627776) (hS : ∀ e ∈ es, e.1.size ≤ 1099511627776 ∧ e.2.size ≤ 1099511627776) :
    Calls Tryz.prog 81 #[.agg #[.string B, .slice A es.length cap]] w (IntPost (runsV B es) w) := by
  have HL := Lib.hid hl; have HM := Lib.hid hs; have HS := Lib.hid hS
  clear hl hs hS
  have hb1 : Below w.heap.size w (w.alloc (.cells #[.string B, .slice A es.length cap] 31)) := (Below.refl _ _).alloc (Nat.le_refl _) _
  have t1 := Two.made w B A es.length cap 31
  have hz1 : (w.alloc (.cells #[.string B, .slice A es.length cap] 31)).heap.size = w.heap.size + 1 := by simp
  obtain ⟨v, hv⟩ : ∃ v, acycV B es = v := ⟨_, rfl⟩
  have FA : Hid (∀ W : World, EdgesIn W W.heap.size A es → Calls Tryz.prog 75 #[.agg #[.string B, .slice A es.length cap]] W fun e w' => e = .returned (.bool v) ∧ Below W.heap.size W w') := Lib.hid fun W h => by
    have := implIsAcyclic_any B A cap es W HM.out h HL.out HS.out
    rwa [hv] at this
  cases v with
  | false =>
    have HN : Hid (runsV B es = -1) := Lib.hid (if_neg (by rw [hv]; simp))
    clear hv
    go_enter Tryz.func81, Tryz.ntmps81
    go_wp2_with fail
    refine (FA.out _ ((hE.below hb1).more hb1.size)).mono ?_
    rintro e w2 ⟨rfl, hb2⟩
    have hb2' := hb1.trans (hb2.mono hb1.size)
    clear hb2 t1
    go_wp2_with fail
    go_ret
    exact ⟨ret_int HN.out.symm, hb2'⟩
  | true =>
    have hA := acy_v hv
    have hL := lead_of hA
    have hB1 := hA.F.one
    obtain ⟨b0, hb0⟩ : ∃ b0, entry B.data.toList = b0 := ⟨_, rfl⟩
    obtain ⟨q, hq⟩ : ∃ q, cntV B es b0 = q := ⟨_, rfl⟩
    have HN : Hid (runsV B es = q) := Lib.hid ((if_pos hv).trans (by rw [hb0]; exact hq))
    have FM : Hid (∀ W : World, EdgesIn W W.heap.size A es → Calls Tryz.prog 106 #[.agg #[.string B, .slice A es.length cap]] W (MapPost (ebs es) b0 (exit_ B.data.toList) W)) := Lib.hid fun W h => by
      rw [← hb0]; exact countsToExit_any B A cap es _ _ _ W h hL HM.out
    have FE : Hid (∀ W : World, Calls Tryz.prog 61 #[.agg #[.string B, .slice A es.length cap]] W fun e w' => e = .returned (.string ⟨#[b0]⟩) ∧ Below W.heap.size W w') := Lib.hid fun W => by
      rw [← hb0, ← hA.F.first]; exact entryOf_any B _ W hB1 HM.out
    have HQ : Hid (((cntE (ebs es) (exit_ B.data.toList) b0 : Nat) : Int) = q) := Lib.hid hq
    clear hv hA hq hL hb0
    go_enter Tryz.func81, Tryz.ntmps81
    go_wp2_with fail
    refine (FA.out _ ((hE.below hb1).more hb1.size)).mono ?_
    rintro e w2 ⟨rfl, hb2⟩
    have hb2' := hb1.trans (hb2.mono hb1.size)
    have t2 := t1.below hb2 (by omega)
    have hz2 : w.heap.size + 1 ≤ w2.heap.size := by have := hb2.size; omega
    clear hb2 t1 hz1 hb1 FA
    go_wp2_with fail
    have hS : ∀ W, Below w2.heap.size w2 W → (W.cell? ⟨w.heap.size, 0, none⟩ = some (.string B) ∧ W.cell? ⟨w.heap.size, 1, none⟩ = some (.slice A es.length cap) ∧ Below w2.heap.size w2 W) :=
      fun W h => ⟨(h.cell (by simp only; omega)).trans t2.1, (h.cell (by simp only; omega)).trans t2.2, h⟩
    have HSS := Lib.hid hS
    have HA : Hid (∀ W, Below w2.heap.size w2 W → EdgesIn W W.heap.size A es) := Lib.hid fun W h => (hE.below (hb2'.trans (h.mono hb2'.size))).more (hb2'.trans (h.mono hb2'.size)).size
    have HLK : Hid (∀ (W : World) (M : Nat) (f : UInt8 → Option Int), NumsIs W M f → (∀ b, Way (ebs es) b0 b → f b = some ((cntE (ebs es) (exit_ B.data.toList) b : Nat) : Int)) → (Instr.lookup 109 (.map (some M)) (.string ⟨#[b0]⟩) false).run Tryz.prog W = .ok (.int .i64 q) W) := Lib.hid fun W M f hn hf => by
      have := hn.lookup (P := Tryz.prog) (kt := 9) (t := 109) (e := 3) Tryz.underlying9 Tryz.underlying109 (by kernel_rfl) b0
      rw [hf b0 (.refl _), Option.getD_some, HQ.out] at this
      exact this
    clear hS t2
    go_region_held3 (fun W => W.cell? ⟨w.heap.size, 0, none⟩ = some (.string B) ∧ W.cell? ⟨w.heap.size, 1, none⟩ = some (.slice A es.length cap) ∧ Below w2.heap.size w2 W)
      (first
        | exact HSS.out _ (Below.refl _ _).drew
        | exact HSS.out _ HB4.out
        | exact HSS.out _ HB5.out)
      (first
        | (go_at_call 106
           first
             | (have q5 := HB5; clear q5
                refine (FM.out _ (HA.out _ HB5.out)).mono ?_
                rintro e w4 ⟨M, f, rfl, hM, hn4, hb4, hall⟩
                have HB4 : Hid (Below w2.heap.size w2 w4) := Lib.hid (HB5.out.trans (hb4.mono HB5.out.size))
                have hlk := HLK.out _ _ _ hn4 hall
                clear hb4 hn4 hall hM)
             | (refine (FM.out _ (HA.out _ (Below.refl _ _).drew)).mono ?_
                rintro e w4 ⟨M, f, rfl, hM, hn4, hb4, hall⟩
                have HB4 : Hid (Below w2.heap.size w2 w4) := Lib.hid ((Below.refl _ _).drew.trans hb4)
                have HN4 := Lib.hid hn4; have HALL := Lib.hid hall; have HML := Lib.hid hM
                clear hb4 hn4 hall hM))
        | (go_at_call 61
           first
             | (have q4 := HN4; clear q4
                refine (FE.out _).mono ?_
                rintro e w5 ⟨rfl, hb5⟩
                have HB5 : Hid (Below w2.heap.size w2 w5) := Lib.hid (HB4.out.trans (hb5.mono HB4.out.size))
                have hlk := HLK.out _ _ _ (HN4.out.below hb5 HN4.out.lt) HALL.out
                clear hb5)
             | (refine (FE.out _).mono ?_
                rintro e w5 ⟨rfl, hb5⟩
                have HB5 : Hid (Below w2.heap.size w2 w5) := Lib.hid ((Below.refl _ _).drew.trans hb5)
                clear hb5)))
    all_goals
      rename_i hHeld
      have HBF := Lib.hid (hb2'.trans (hHeld.2.2.mono hb2'.size))
      clear hHeld
      go_wp2_with fail
      go_ret
      exact ⟨ret_int HN.out.symm, HBF.out⟩

end Go.Proofs.YtpeafheljcjlhaaGreat

namespace Go.Proofs.YtpeafheljcjlhaaGreat
open Go.RowKit

/-- sixteen numbers -/
def arr16 (F : Nat → Nat) : Value := .agg #[.int .i64 ((F 0 : Nat) : Int), .int .i64 ((F 1 : Nat) : Int), .int .i64 ((F 2 : Nat) : Int), .int .i64 ((F 3 : Nat) : Int), .int .i64 ((F 4 : Nat) : Int), .int .i64 ((F 5 : Nat) : Int), .int .i64 ((F 6 : Nat) : Int), .int .i64 ((F 7 : Nat) : Int), .int .i64 ((F 8 : Nat) : Int), .int .i64 ((F 9 : Nat) : Int), .int .i64 ((F 10 : Nat) : Int), .int .i64 ((F 11 : Nat) : Int), .int .i64 ((F 12 : Nat) : Int), .int .i64 ((F 13 : Nat) : Int), .int .i64 ((F 14 : Nat) : Int), .int .i64 ((F 15 : Nat) : Int)]

theorem arr16_row (W : World) (F : Nat → Nat) : (W.alloc (.cells #[.int .i64 ((F 0 : Nat) : Int), .int .i64 ((F 1 : Nat) : Int), .int .i64 ((F 2 : Nat) : Int), .int .i64 ((F 3 : Nat) : Int), .int .i64 ((F 4 : Nat) : Int), .int .i64 ((F 5 : Nat) : Int), .int .i64 ((F 6 : Nat) : Int), .int .i64 ((F 7 : Nat) : Int), .int .i64 ((F 8 : Nat) : Int), .int .i64 ((F 9 : Nat) : Int), .int .i64 ((F 10 : Nat) : Int), .int .i64 ((F 11 : Nat) : Int), .int .i64 ((F 12 : Nat) : Int), .int .i64 ((F 13 : Nat) : Int), .int .i64 ((F 14 : Nat) : Int), .int .i64 ((F 15 : Nat) : Int)] 95)).rowIs W.heap.size 95 16 (fun i => .int .i64 ((F i : Nat) : Int)) := by
  refine World.rowIs_alloc W _ _ _ fun i hi => ?_
  have hi2 : i < 16 := hi
  have h : i = 0 ∨ i = 1 ∨ i = 2 ∨ i = 3 ∨ i = 4 ∨ i = 5 ∨ i = 6 ∨ i = 7 ∨ i = 8 ∨ i = 9 ∨ i = 10 ∨ i = 11 ∨ i = 12 ∨ i = 13 ∨ i = 14 ∨ i = 15 := by omega
  rcases h with rfl | rfl | rfl | rfl | rfl | rfl | rfl | rfl | rfl | rfl | rfl | rfl | rfl | rfl | rfl | rfl <;> rfl

/-- what holds while values are reckoned -/
structure ValsAt (w W : World) (R X M S : Nat) (B : ByteArray) (A : Option Addr) (n cap : Nat) (F : Nat → Nat) (f g : UInt8 → Option Int) : Prop where
  below : Below w.heap.size w W
  net : Two W w.heap.size B A n cap
  arr : W.rowIs X 95 16 (fun i => .int .i64 ((F i : Nat) : Int))
  res : W.rowIs R 95 16 (fun _ => .int .i64 0)
  cnt : NumsIs W M f
  sums : NumsIs W S g
  n1 : w.heap.size < R
  n2 : R < X
  n3 : X < M
  n4 : M < S
  n5 : S < W.heap.size
section
variable {w W W' : World} {R X M S : Nat} {B : ByteArray} {A : Option Addr} {n cap : Nat} {F : Nat → Nat} {f g : UInt8 → Option Int}
theorem ValsAt.go (h : ValsAt w W R X M S B A n cap F f g) (k : Below W.heap.size W W') : ValsAt w W' R X M S B A n cap F f g := by
  have h1 := h.n1; have h2 := h.n2; have h3 := h.n3; have h4 := h.n4; have h5 := h.n5; have hz := k.size
  exact ⟨h.below.trans (k.mono h.below.size), h.net.below k (by omega), h.arr.of_block (k.block X (by omega)), h.res.of_block (k.block R (by omega)), h.cnt.below k (by omega), h.sums.below k (by omega), h1, h2, h3, h4, by omega⟩
theorem ValsAt.set (h : ValsAt w W R X M S B A n cap F f g) {i v : Nat} : ValsAt w (W.setCell ⟨X, i, none⟩ (.int .i64 (v : Int))) R X M S B A n cap (fun j => if j = i then v else F j) f g := by
  have h1 := h.n1; have h2 := h.n2; have h3 := h.n3; have h4 := h.n4; have h5 := h.n5
  have e : ∀ b, b ≠ X → (W.setCell ⟨X, i, none⟩ (.int .i64 (v : Int))).heap[b]? = W.heap[b]? := fun b hb => Below.heap_setCell _ _ _ _ hb
  refine ⟨h.below.setCell (by simp only; omega) _, ⟨(World.cell?_of_block (e w.heap.size (by omega))).trans h.net.1, (World.cell?_of_block (e w.heap.size (by omega))).trans h.net.2⟩, ?_, h.res.of_block (e R (by omega)), h.cnt.of_block (e M (by omega)), h.sums.of_block (e S (by omega)), h1, h2, h3, h4, by simp [World.setCell]; omega⟩
  refine (h.arr.set i (.int .i64 (v : Int))).congr fun j _ => ?_
  by_cases hj : j = i
  · simp [hj]
  · simp [hj]
theorem ValsAt.upd (h : ValsAt w W R X M S B A n cap F f g) {g' : UInt8 → Option Int} (k : W.grownBy W' (some S)) (hs : NumsIs W' S g') : ValsAt w W' R X M S B A n cap F f g' := by
  have h1 := h.n1; have h2 := h.n2; have h3 := h.n3; have h4 := h.n4; have h5 := h.n5; have hz := k.size
  have e : ∀ b, b < W.heap.size → b ≠ S → W'.heap[b]? = W.heap[b]? := fun b hb hm => k.block b hb (by intro e; injection e with e; exact hm e)
  exact ⟨h.below.grown k h.below.size (fun q e => by injection e with e; omega), ⟨(World.cell?_of_block (e w.heap.size (by omega) (by omega))).trans h.net.1, (World.cell?_of_block (e w.heap.size (by omega) (by omega))).trans h.net.2⟩, h.arr.of_block (e X (by omega) (by omega)), h.res.of_block (e R (by omega) (by omega)), h.cnt.of_block (e M (by omega) (by omega)), hs, h1, h2, h3, h4, by omega⟩
end

theorem valE_out {E : Eds} {t : UInt8} {i : Nat} (h : E.length ≤ i) : valE E t i = 0 := by
  unfold valE; rw [List.getElem?_eq_none h]

set_option maxRecDepth 100000 in
set_option maxHeartbeats 8000000 in
/-- impl.edgeValues -/
theorem edgeValues_any (B : ByteArray) (A : Option Addr) (cap : Nat) (es : List (ByteArray × ByteArray)) (O : List UInt8) (e0 t : UInt8) (w : World) (hE : EdgesIn w w.heap.size A es) (hL : Lead B es O e0 t) (hBm : B.size ≤ maxLen) (hW : ∀ b ∈ B.data.toList, Way (ebs es) e0 b) (hall : ∀ b ∈ B.data.toList, b ∈ O) :
    Calls Tryz.prog 76 #[.agg #[.string B, .slice A es.length cap]] w fun e w' => e = .returned (arr16 (valE (ebs es) t)) ∧ Below w.heap.size w w' := by
  have h16 := hL.few
  have hmm := @run_makeMap Tryz.prog
  have FM : Hid (∀ W : World, EdgesIn W W.heap.size A es → Calls Tryz.prog 106 #[.agg #[.string B, .slice A es.length cap]] W (MapPost (ebs es) e0 t W)) := Lib.hid fun W h => countsToExit_any B A cap es O e0 t W h hL hBm
  obtain ⟨W1, hW1⟩ : ∃ W1, W1 = ((w.alloc (.cells #[.string B, .slice A es.length cap] 31)).alloc (.cells #[.int .i64 0, .int .i64 0, .int .i64 0, .int .i64 0, .int .i64 0, .int .i64 0, .int .i64 0, .int .i64 0, .int .i64 0, .int .i64 0, .int .i64 0, .int .i64 0, .int .i64 0, .int .i64 0, .int .i64 0, .int .i64 0] 95)).alloc (.cells #[.int .i64 0, .int .i64 0, .int .i64 0, .int .i64 0, .int .i64 0, .int .i64 0, .int .i64 0, .int .i64 0, .int .i64 0, .int .i64 0, .int .i64 0, .int .i64 0, .int .i64 0, .int .i64 0, .int .i64 0, .int .i64 0] 95) := ⟨_, rfl⟩
  have hb1 : Below w.heap.size w W1 := by rw [hW1]; exact (((Below.refl _ _).alloc (Nat.le_refl _) _).alloc (by simp) _).alloc (by simp; omega) _
  have hz1 : W1.heap.size = w.heap.size + 3 := by rw [hW1]; simp
  have b0 : W1.heap[w.heap.size]? = some (.cells #[.string B, .slice A es.length cap] 31 (0, 0)) := by
    rw [hW1]; exact alloc_old _ _ (alloc_old _ _ (heap_alloc_new _ _))
  have b1 : W1.heap[w.heap.size + 1]? = some (.cells #[.int .i64 0, .int .i64 0, .int .i64 0, .int .i64 0, .int .i64 0, .int .i64 0, .int .i64 0, .int .i64 0, .int .i64 0, .int .i64 0, .int .i64 0, .int .i64 0, .int .i64 0, .int .i64 0, .int .i64 0, .int .i64 0] 95 (0, 0)) := by
    rw [hW1]; exact alloc_old _ _ (alloc_at _ _ (by simp))
  have b2 : W1.heap[w.heap.size + 2]? = some (.cells #[.int .i64 0, .int .i64 0, .int .i64 0, .int .i64 0, .int .i64 0, .int .i64 0, .int .i64 0, .int .i64 0, .int .i64 0, .int .i64 0, .int .i64 0, .int .i64 0, .int .i64 0, .int .i64 0, .int .i64 0, .int .i64 0] 95 (0, 0)) := by
    rw [hW1]; exact alloc_at _ _ (by simp)
  have z16 : ∀ X, W1.heap[X]? = some (.cells #[.int .i64 0, .int .i64 0, .int .i64 0, .int .i64 0, .int .i64 0, .int .i64 0, .int .i64 0, .int .i64 0, .int .i64 0, .int .i64 0, .int .i64 0, .int .i64 0, .int .i64 0, .int .i64 0, .int .i64 0, .int .i64 0] 95 (0, 0)) → W1.rowIs X 95 16 (fun _ => .int .i64 0) := fun X h =>
    ⟨_, h, rfl, fun i hi => by
      have e : (#[.int .i64 0, .int .i64 0, .int .i64 0, .int .i64 0, .int .i64 0, .int .i64 0, .int .i64 0, .int .i64 0, .int .i64 0, .int .i64 0, .int .i64 0, .int .i64 0, .int .i64 0, .int .i64 0, .int .i64 0, .int .i64 0] : Array Value) = (List.replicate 16 (.int .i64 0)).toArray := rfl
      rw [e]; simp only [List.getElem?_toArray, List.getElem?_replicate, hi, if_true]⟩
  have r1 := z16 _ b1
  have x1 := z16 _ b2
  have t1 : Two W1 w.heap.size B A es.length cap := ⟨by simp [World.cell?, b0], by simp [World.cell?, b0]⟩
  have HT1 := Lib.hid t1; have HR1 := Lib.hid r1; have HX1 := Lib.hid x1; have HB1 := Lib.hid hb1
  clear z16 b0 b1 b2 r1 x1 t1 hb1
  go_enter Tryz.func76, Tryz.ntmps76
  go_wp2_with fail
  rw [← hW1]
  clear hmm hW1
  refine (FM.out _ ((hE.below HB1.out).more HB1.out.size)).mono ?_
  rintro e w2 ⟨M, f, rfl, hM, hnm, hb2, hcf⟩
  have hb2' := HB1.out.trans (hb2.mono HB1.out.size)
  have hz2 := hb2.size
  have HT2 := Lib.hid (HT1.out.below hb2 (by omega)); have HR2 := Lib.hid (HR1.out.of_block (hb2.block _ (by omega))); have HX2 := Lib.hid (HX1.out.of_block (hb2.block _ (by omega)))
  have hml := hnm.lt
  obtain ⟨W3, hW3⟩ : ∃ W3, w2.alloc (.map #[] 0) = W3 := ⟨_, rfl⟩
  have hb3 : Below w2.heap.size w2 W3 := by rw [← hW3]; exact (Below.refl _ _).alloc (Nat.le_refl _) _
  have hz3 : W3.heap.size = w2.heap.size + 1 := by rw [← hW3]; simp
  have hns : NumsIs W3 w2.heap.size (fun _ => none) := by rw [← hW3]; exact NumsIs.new w2
  have hmm := @run_makeMap Tryz.prog
  have HV : Hid (ValsAt w W3 (w.heap.size + 1) (w.heap.size + 1 + 1) M w2.heap.size B A es.length cap (fun _ => 0) f (fun _ => none)) := Lib.hid
    ⟨hb2'.trans (hb3.mono (by omega)), HT2.out.below hb3 (by omega), HX2.out.of_block (hb3.block _ (by omega)), HR2.out.of_block (hb3.block _ (by omega)), hnm.below hb3 hml, hns, by omega, by omega, by omega, by omega, by omega⟩
  have HCF : Hid (∀ b ∈ B.data.toList, f b = some ((cntE (ebs es) t b : Nat) : Int)) := Lib.hid fun b hb => hcf b (hW b hb)
  have hd1 := HV.out.net.2
  clear hb2 hb2' hnm hcf hns hb3 HT1 HR1 HX1 HB1 HT2 HR2 HX2
  go_wp2_with fail
  clear hd1 hmm hW3
  obtain ⟨S, hS⟩ : ∃ S, w2.heap.size = S := ⟨_, rfl⟩
  obtain ⟨X, hX⟩ : ∃ X, w.heap.size + 1 + 1 = X := ⟨_, rfl⟩
  obtain ⟨R, hR⟩ : ∃ R, w.heap.size + 1 = R := ⟨_, rfl⟩
  rw [hS, hX, hR] at HV
  rw [hS, hX, hR]
  clear hM hz2 hml hz3 hS hX hR hz1
  go_loopw [14] (fun c wr => ∃ (k : Nat) (g : UInt8 → Option Int), k ≤ es.length ∧ c = .int .i64 k ∧ ValsAt w wr R X M S B A es.length cap (fun i => if i < k then valE (ebs es) t i else 0) f g ∧ ∀ x, (g x).getD 0 = ((sumC (ebs es) (cntE (ebs es) t) x (List.range k) : Nat) : Int)) (fun c _ => es.length - (intOf c).toNat)
  case atStart => exact ⟨0, fun _ => none, Nat.zero_le _, rfl, HV.out, fun x => rfl⟩
  case round =>
    clear HV
    obtain ⟨k, g, hk, rfl, hv, hg⟩ := hrel
    have HG := Lib.hid hg
    have HV := Lib.hid hv
    clear hv hg
    by_cases hlt : k < es.length
    case neg =>
      have hkn : k = es.length := by omega
      have hel : (ebs es).length = es.length := ebs_len es
      have HARR : Hid (wr.rowIs X 95 16 (fun i => .int .i64 ((valE (ebs es) t i : Nat) : Int))) := Lib.hid (HV.out.arr.congr (fun i _ => by
        by_cases hi : i < k
        · rw [if_pos hi]
        · rw [if_neg hi, valE_out (by omega)]))
      have q0 := HARR.out.cell (i := 0) (by omega); have s0 := HV.out.res.cell (i := 0) (by omega); have f0 := HV.out.res.frozen 0
      have q1 := HARR.out.cell (i := 1) (by omega); have s1 := HV.out.res.cell (i := 1) (by omega); have f1 := HV.out.res.frozen 1
      have q2 := HARR.out.cell (i := 2) (by omega); have s2 := HV.out.res.cell (i := 2) (by omega); have f2 := HV.out.res.frozen 2
      have q3 := HARR.out.cell (i := 3) (by omega); have s3 := HV.out.res.cell (i := 3) (by omega); have f3 := HV.out.res.frozen 3
      have q4 := HARR.out.cell (i := 4) (by omega); have s4 := HV.out.res.cell (i := 4) (by omega); have f4 := HV.out.res.frozen 4
      have q5 := HARR.out.cell (i := 5) (by omega); have s5 := HV.out.res.cell (i := 5) (by omega); have f5 := HV.out.res.frozen 5
      have q6 := HARR.out.cell (i := 6) (by omega); have s6 := HV.out.res.cell (i := 6) (by omega); have f6 := HV.out.res.frozen 6
      have q7 := HARR.out.cell (i := 7) (by omega); have s7 := HV.out.res.cell (i := 7) (by omega); have f7 := HV.out.res.frozen 7
      have q8 := HARR.out.cell (i := 8) (by omega); have s8 := HV.out.res.cell (i := 8) (by omega); have f8 := HV.out.res.frozen 8
      have q9 := HARR.out.cell (i := 9) (by omega); have s9 := HV.out.res.cell (i := 9) (by omega); have f9 := HV.out.res.frozen 9
      have q10 := HARR.out.cell (i := 10) (by omega); have s10 := HV.out.res.cell (i := 10) (by omega); have f10 := HV.out.res.frozen 10
      have q11 := HARR.out.cell (i := 11) (by omega); have s11 := HV.out.res.cell (i := 11) (by omega); have f11 := HV.out.res.frozen 11
      have q12 := HARR.out.cell (i := 12) (by omega); have s12 := HV.out.res.cell (i := 12) (by omega); have f12 := HV.out.res.frozen 12
      have q13 := HARR.out.cell (i := 13) (by omega); have s13 := HV.out.res.cell (i := 13) (by omega); have f13 := HV.out.res.frozen 13
      have q14 := HARR.out.cell (i := 14) (by omega); have s14 := HV.out.res.cell (i := 14) (by omega); have f14 := HV.out.res.frozen 14
      have q15 := HARR.out.cell (i := 15) (by omega); have s15 := HV.out.res.cell (i := 15) (by omega); have f15 := HV.out.res.frozen 15
      obtain ⟨v0, e0⟩ : ∃ v0 : Int, ((valE (ebs es) t 0 : Nat) : Int) = v0 := ⟨_, rfl⟩
      obtain ⟨v1, e1⟩ : ∃ v1 : Int, ((valE (ebs es) t 1 : Nat) : Int) = v1 := ⟨_, rfl⟩
      obtain ⟨v2, e2⟩ : ∃ v2 : Int, ((valE (ebs es) t 2 : Nat) : Int) = v2 := ⟨_, rfl⟩
      obtain ⟨v3, e3⟩ : ∃ v3 : Int, ((valE (ebs es) t 3 : Nat) : Int) = v3 := ⟨_, rfl⟩
      obtain ⟨v4, e4⟩ : ∃ v4 : Int, ((valE (ebs es) t 4 : Nat) : Int) = v4 := ⟨_, rfl⟩
      obtain ⟨v5, e5⟩ : ∃ v5 : Int, ((valE (ebs es) t 5 : Nat) : Int) = v5 := ⟨_, rfl⟩
      obtain ⟨v6, e6⟩ : ∃ v6 : Int, ((valE (ebs es) t 6 : Nat) : Int) = v6 := ⟨_, rfl⟩
      obtain ⟨v7, e7⟩ : ∃ v7 : Int, ((valE (ebs es) t 7 : Nat) : Int) = v7 := ⟨_, rfl⟩
      obtain ⟨v8, e8⟩ : ∃ v8 : Int, ((valE (ebs es) t 8 : Nat) : Int) = v8 := ⟨_, rfl⟩
      obtain ⟨v9, e9⟩ : ∃ v9 : Int, ((valE (ebs es) t 9 : Nat) : Int) = v9 := ⟨_, rfl⟩
      obtain ⟨v10, e10⟩ : ∃ v10 : Int, ((valE (ebs es) t 10 : Nat) : Int) = v10 := ⟨_, rfl⟩
      obtain ⟨v11, e11⟩ : ∃ v11 : Int, ((valE (ebs es) t 11 : Nat) : Int) = v11 := ⟨_, rfl⟩
      obtain ⟨v12, e12⟩ : ∃ v12 : Int, ((valE (ebs es) t 12 : Nat) : Int) = v12 := ⟨_, rfl⟩
      obtain ⟨v13, e13⟩ : ∃ v13 : Int, ((valE (ebs es) t 13 : Nat) : Int) = v13 := ⟨_, rfl⟩
      obtain ⟨v14, e14⟩ : ∃ v14 : Int, ((valE (ebs es) t 14 : Nat) : Int) = v14 := ⟨_, rfl⟩
      obtain ⟨v15, e15⟩ : ∃ v15 : Int, ((valE (ebs es) t 15 : Nat) : Int) = v15 := ⟨_, rfl⟩
      rw [e0] at q0; rw [e1] at q1; rw [e2] at q2; rw [e3] at q3; rw [e4] at q4; rw [e5] at q5; rw [e6] at q6; rw [e7] at q7; rw [e8] at q8; rw [e9] at q9; rw [e10] at q10; rw [e11] at q11; rw [e12] at q12; rw [e13] at q13; rw [e14] at q14; rw [e15] at q15
      have HRES : Hid (arr16 (valE (ebs es) t) = .agg #[.int .i64 v0, .int .i64 v1, .int .i64 v2, .int .i64 v3, .int .i64 v4, .int .i64 v5, .int .i64 v6, .int .i64 v7, .int .i64 v8, .int .i64 v9, .int .i64 v10, .int .i64 v11, .int .i64 v12, .int .i64 v13, .int .i64 v14, .int .i64 v15]) := Lib.hid (by unfold arr16; rw [e0, e1, e2, e3, e4, e5, e6, e7, e8, e9, e10, e11, e12, e13, e14, e15])
      clear e0 e1 e2 e3 e4 e5 e6 e7 e8 e9 e10 e11 e12 e13 e14 e15 hel hkn
      go_wp2_with fail
      have hbR : ∀ (W : World) (k : Nat) (u : Value), Below w.heap.size w W → Below w.heap.size w (W.setCell ⟨R, k, none⟩ u) := fun W k u h => h.setCell (by have := HV.out.n1; simp only; omega) _
      refine bodyPost_ret (v := .agg #[.int .i64 v0, .int .i64 v1, .int .i64 v2, .int .i64 v3, .int .i64 v4, .int .i64 v5, .int .i64 v6, .int .i64 v7, .int .i64 v8, .int .i64 v9, .int .i64 v10, .int .i64 v11, .int .i64 v12, .int .i64 v13, .int .i64 v14, .int .i64 v15]) (by simp [results, Tryz.results76, go_sem, s0, s1, s2, s3, s4, s5, s6, s7, s8, s9, s10, s11, s12, s13, s14, s15]) rfl ⟨by rw [HRES.out], ?_⟩
      exact hbR _ _ _ (hbR _ _ _ (hbR _ _ _ (hbR _ _ _ (hbR _ _ _ (hbR _ _ _ (hbR _ _ _ (hbR _ _ _ (hbR _ _ _ (hbR _ _ _ (hbR _ _ _ (hbR _ _ _ (hbR _ _ _ (hbR _ _ _ (hbR _ _ _ (hbR _ _ _ (HV.out.below))))))))))))))))
    obtain ⟨x, y, he, h1, h2, hxl, hyl⟩ := edge_letters hL.lets hlt
    obtain ⟨eb, eo, rfl, hlow, q1, q2⟩ := (hE.below HV.out.below) k hlt
    rw [h1] at q1
    rw [h2] at q2
    have HE1 := Lib.hid he
    obtain ⟨r, htr, hr7⟩ := topo_at hL.topo hL.eight (hall x hxl)
    obtain ⟨r2, htr2, hr72⟩ := topo_at hL.topo hL.eight (hall y hyl)
    obtain ⟨c1, hc1⟩ : ∃ c1 : Nat, sumC (ebs es) (cntE (ebs es) t) x (List.range k) = c1 := ⟨_, rfl⟩
    obtain ⟨c2, hc2⟩ : ∃ c2 : Nat, cntE (ebs es) t y = c2 := ⟨_, rfl⟩
    have hcb : c1 + c2 ≤ 8589934592 := by
      have h1 := sumC_few (t := t) (by rw [ebs_len]; exact h16) htr hr7 (show k ≤ 16 by omega)
      have h2 : cntE (ebs es) t y ≤ 268435456 := cntE_few (by rw [ebs_len]; exact h16) htr2 hr72
      omega
    have HVK : Hid (valE (ebs es) t k = c1) := Lib.hid (by rw [valE_eq he, hc1])
    have HRS : Hid (∀ z, sumC (ebs es) (cntE (ebs es) t) z (List.range (k + 1)) = if z = x then c1 + c2 else sumC (ebs es) (cntE (ebs es) t) z (List.range k)) := Lib.hid fun z => by
      rw [sumC_range]
      by_cases hz : z = x
      · subst hz; rw [if_pos rfl, stepC_yes he, hc1, hc2]
      · rw [if_neg hz, stepC_no he (fun e => hz e.symm), Nat.add_zero]
    have hgx : (g x).getD 0 = (c1 : Int) := by rw [HG.out x, hc1]
    have hfy : (f y).getD 0 = (c2 : Int) := by rw [HCF.out y hyl, Option.getD_some, hc2]
    -- the edge in its box, the value stored, the sum put
    have HVA : Hid (ValsAt w (wr.alloc (.cells #[.string ⟨#[x]⟩, .string ⟨#[y]⟩] 70)) R X M S B (some ⟨eb, eo, none⟩) es.length cap (fun i => if i < k then valE (ebs es) t i else 0) f g) := Lib.hid (HV.out.go ((Below.refl _ _).alloc (Nat.le_refl _) _))
    have HVB : Hid (ValsAt w ((wr.alloc (.cells #[.string ⟨#[x]⟩, .string ⟨#[y]⟩] 70)).setCell ⟨X, k, none⟩ (.int .i64 (c1 : Int))) R X M S B (some ⟨eb, eo, none⟩) es.length cap (fun j => if j = k then c1 else if j < k then valE (ebs es) t j else 0) f g) := Lib.hid HVA.out.set
    have hk16 : k < 16 := by omega
    have hlka := HVA.out.sums.lookup (P := Tryz.prog) (kt := 9) (t := 109) (e := 3) Tryz.underlying9 Tryz.underlying109 (by kernel_rfl) x
    rw [hgx] at hlka
    have hlkb := HVB.out.sums.lookup (P := Tryz.prog) (kt := 9) (t := 109) (e := 3) Tryz.underlying9 Tryz.underlying109 (by kernel_rfl) x
    rw [hgx] at hlkb
    have hlkc := HVB.out.cnt.lookup (P := Tryz.prog) (kt := 9) (t := 109) (e := 3) Tryz.underlying9 Tryz.underlying109 (by kernel_rfl) y
    rw [hfy] at hlkc
    have ca := HVA.out.arr.cell (i := k) hk16
    have fa := HVA.out.arr.frozen k
    have i1 : (0 : Int) ≤ (k : Int) := by omega
    have i2 : (k : Int) < 16 := by omega
    have z1 : IntKind.i64.wrap ((c1 : Int) + (c2 : Int)) = (c1 : Int) + (c2 : Int) := IntWalk.i64_in _ (by omega)
    obtain ⟨w4, hrun, hset4, hg4⟩ := HVB.out.sums.update (P := Tryz.prog) (kt := 9) (t := 109) (e := 3) Tryz.underlying9 Tryz.underlying109 x ((c1 : Int) + (c2 : Int))
    have HV4 : Hid (ValsAt w w4 R X M S B (some ⟨eb, eo, none⟩) es.length cap (fun i => if i < k + 1 then valE (ebs es) t i else 0) f (fun z => if z = x then some ((c1 : Int) + (c2 : Int)) else g z)) := Lib.hid (by
      have h := HVB.out.upd hg4 hset4
      refine ⟨h.below, h.net, h.arr.congr fun i _ => ?_, h.res, h.cnt, h.sums, h.n1, h.n2, h.n3, h.n4, h.n5⟩
      by_cases hik : i = k
      · subst hik; rw [if_pos rfl, if_pos (by omega), HVK.out]
      · by_cases hi : i < k
        · rw [if_neg hik, if_pos hi, if_pos (by omega)]
        · rw [if_neg hik, if_neg hi, if_neg (by omega)])
    have HG4 : Hid (∀ z, ((fun z => if z = x then some ((c1 : Int) + (c2 : Int)) else g z) z).getD 0 = ((sumC (ebs es) (cntE (ebs es) t) z (List.range (k + 1)) : Nat) : Int)) := Lib.hid fun z => by
      rw [HRS.out z]
      by_cases hz : z = x
      · simp only [hz, if_true, Option.getD_some]; rw [Int.natCast_add]
      · simp only [hz, if_false]; exact HG.out z
    have cf : (wr.alloc (.cells #[.string ⟨#[x]⟩, .string ⟨#[y]⟩] 70)).cell? ⟨wr.heap.size, 0, none⟩ = some (.string ⟨#[x]⟩) := by go_simp
    have ct : (wr.alloc (.cells #[.string ⟨#[x]⟩, .string ⟨#[y]⟩] 70)).cell? ⟨wr.heap.size, 1, none⟩ = some (.string ⟨#[y]⟩) := by go_simp
    have hXlt : X ≠ wr.heap.size := by have := HV.out.n3; have := HV.out.n4; have := HV.out.n5; omega
    clear he h1 h2 htr htr2 hc1 hc2 hcb hgx hfy hset4 hg4
    go_wp2_with fail
    exact ⟨⟨k + 1, _, by omega, by go_num, HV4.out, HG4.out⟩, by simp [intOf]; omega⟩

end Go.Proofs.YtpeafheljcjlhaaGreat

namespace Go.Proofs.YtpeafheljcjlhaaGreat
open Go.RowKit

theorem ix16_0 (F : Nat → Nat) (w : World) : (Instr.index 95 (arr16 F) (.int .i64 ((0 : Nat) : Int))).run Tryz.prog w = .ok (.int .i64 ((F 0 : Nat) : Int)) w := by kernel_rfl
theorem ix16_1 (F : Nat → Nat) (w : World) : (Instr.index 95 (arr16 F) (.int .i64 ((1 : Nat) : Int))).run Tryz.prog w = .ok (.int .i64 ((F 1 : Nat) : Int)) w := by kernel_rfl
theorem ix16_2 (F : Nat → Nat) (w : World) : (Instr.index 95 (arr16 F) (.int .i64 ((2 : Nat) : Int))).run Tryz.prog w = .ok (.int .i64 ((F 2 : Nat) : Int)) w := by kernel_rfl
theorem ix16_3 (F : Nat → Nat) (w : World) : (Instr.index 95 (arr16 F) (.int .i64 ((3 : Nat) : Int))).run Tryz.prog w = .ok (.int .i64 ((F 3 : Nat) : Int)) w := by kernel_rfl
theorem ix16_4 (F : Nat → Nat) (w : World) : (Instr.index 95 (arr16 F) (.int .i64 ((4 : Nat) : Int))).run Tryz.prog w = .ok (.int .i64 ((F 4 : Nat) : Int)) w := by kernel_rfl
theorem ix16_5 (F : Nat → Nat) (w : World) : (Instr.index 95 (arr16 F) (.int .i64 ((5 : Nat) : Int))).run Tryz.prog w = .ok (.int .i64 ((F 5 : Nat) : Int)) w := by kernel_rfl
theorem ix16_6 (F : Nat → Nat) (w : World) : (Instr.index 95 (arr16 F) (.int .i64 ((6 : Nat) : Int))).run Tryz.prog w = .ok (.int .i64 ((F 6 : Nat) : Int)) w := by kernel_rfl
theorem ix16_7 (F : Nat → Nat) (w : World) : (Instr.index 95 (arr16 F) (.int .i64 ((7 : Nat) : Int))).run Tryz.prog w = .ok (.int .i64 ((F 7 : Nat) : Int)) w := by kernel_rfl
theorem ix16_8 (F : Nat → Nat) (w : World) : (Instr.index 95 (arr16 F) (.int .i64 ((8 : Nat) : Int))).run Tryz.prog w = .ok (.int .i64 ((F 8 : Nat) : Int)) w := by kernel_rfl
theorem ix16_9 (F : Nat → Nat) (w : World) : (Instr.index 95 (arr16 F) (.int .i64 ((9 : Nat) : Int))).run Tryz.prog w = .ok (.int .i64 ((F 9 : Nat) : Int)) w := by kernel_rfl
theorem ix16_10 (F : Nat → Nat) (w : World) : (Instr.index 95 (arr16 F) (.int .i64 ((10 : Nat) : Int))).run Tryz.prog w = .ok (.int .i64 ((F 10 : Nat) : Int)) w := by kernel_rfl
theorem ix16_11 (F : Nat → Nat) (w : World) : (Instr.index 95 (arr16 F) (.int .i64 ((11 : Nat) : Int))).run Tryz.prog w = .ok (.int .i64 ((F 11 : Nat) : Int)) w := by kernel_rfl
theorem ix16_12 (F : Nat → Nat) (w : World) : (Instr.index 95 (arr16 F) (.int .i64 ((12 : Nat) : Int))).run Tryz.prog w = .ok (.int .i64 ((F 12 : Nat) : Int)) w := by kernel_rfl
theorem ix16_13 (F : Nat → Nat) (w : World) : (Instr.index 95 (arr16 F) (.int .i64 ((13 : Nat) : Int))).run Tryz.prog w = .ok (.int .i64 ((F 13 : Nat) : Int)) w := by kernel_rfl
theorem ix16_14 (F : Nat → Nat) (w : World) : (Instr.index 95 (arr16 F) (.int .i64 ((14 : Nat) : Int))).run Tryz.prog w = .ok (.int .i64 ((F 14 : Nat) : Int)) w := by kernel_rfl
theorem ix16_15 (F : Nat → Nat) (w : World) : (Instr.index 95 (arr16 F) (.int .i64 ((15 : Nat) : Int))).run Tryz.prog w = .ok (.int .i64 ((F 15 : Nat) : Int)) w := by kernel_rfl
theorem index16 (F : Nat → Nat) {k : Nat} (hk : k < 16) (w : World) : (Instr.index 95 (arr16 F) (.int .i64 (k : Int))).run Tryz.prog w = .ok (.int .i64 ((F k : Nat) : Int)) w := by
  have h : k = 0 ∨ k = 1 ∨ k = 2 ∨ k = 3 ∨ k = 4 ∨ k = 5 ∨ k = 6 ∨ k = 7 ∨ k = 8 ∨ k = 9 ∨ k = 10 ∨ k = 11 ∨ k = 12 ∨ k = 13 ∨ k = 14 ∨ k = 15 := by omega
  rcases h with rfl | rfl | rfl | rfl | rfl | rfl | rfl | rfl | rfl | rfl | rfl | rfl | rfl | rfl | rfl | rfl
  · exact ix16_0 F w
  · exact ix16_1 F w
  · exact ix16_2 F w
  · exact ix16_3 F w
  · exact ix16_4 F w
  · exact ix16_5 F w
  · exact ix16_6 F w
  · exact ix16_7 F w
  · exact ix16_8 F w
  · exact ix16_9 F w
  · exact ix16_10 F w
  · exact ix16_11 F w
  · exact ix16_12 F w
  · exact ix16_13 F w
  · exact ix16_14 F w
  · exact ix16_15 F w

theorem values_acy {B : ByteArray} {A : Option Addr} {cap : Nat} {es : List (ByteArray × ByteArray)} (hv : acycV B es = true) (hBm : B.size ≤ maxLen) (W : World) (h : EdgesIn W W.heap.size A es) :
    Calls Tryz.prog 76 #[.agg #[.string B, .slice A es.length cap]] W fun e w' => e = .returned (arr16 (valE (ebs es) (exit_ B.data.toList))) ∧ Below W.heap.size W w' := by
  have hA := acy_v hv
  exact edgeValues_any B A cap es _ _ _ W h (lead_of hA) hBm (decB_iff.1 hv).1.2.1 hA.all

end Go.Proofs.YtpeafheljcjlhaaGreat

namespace Go.Proofs.YtpeafheljcjlhaaGreat
open Go.RowKit

set_option maxRecDepth 100000 in
set_option maxHeartbeats 1000000 in
/-- impl.edgeIndex -/
theorem edgeIndex_any (bl : Value) (A : Option Addr) (n cap : Nat) (b : ByteArray) (w : World) (_ : n ≤ 1099511627776) :
    Calls Tryz.prog 66 #[.agg #[bl, .slice A n cap], .string b] w fun e w' => e = .returned (.int .i64 (eIdx n b.data.toList)) ∧ Below w.heap.size w w' := by
  by_cases h : b.size = 1
  case neg =>
    have h1 : ((b.size : Int) != 1) = true := by simp; omega
    have HE := Lib.hid (data_not_one h n)
    clear h
    go_enter Tryz.func66, Tryz.ntmps66
    go_wp2
    go_quiet (fail)
    go_wp2
    go_ret
    exact ⟨by rw [HE.out]; rfl, below_drewN ((Below.refl _ _).alloc (Nat.le_refl _) _) _⟩
  have h1 : ((b.size : Int) != 1) = false := by simp [h]
  have h2 : 0 < b.size := by omega
  have hu : (b[0].toNat : Int) < 256 := by have := b[0].toNat_lt; omega
  have hd : eIdx n b.data.toList = if 97 ≤ b[0].toNat ∧ b[0].toNat < 97 + n then (b[0].toNat : Int) - 97 else -1 := by rw [data_one h]; rfl
  have HD := Lib.hid hd
  clear hd h
  by_cases h97 : (b[0].toNat : Int) < 97
  · have HE : Hid (eIdx n b.data.toList = -1) := Lib.hid (by rw [HD.out, if_neg (by omega)])
    go_enter Tryz.func66, Tryz.ntmps66
    go_wp2
    go_quiet (fail)
    go_wp2
    go_ret
    exact ⟨by rw [HE.out]; rfl, below_drewN ((Below.refl _ _).alloc (Nat.le_refl _) _) _⟩
  have W1 : Hid (IntKind.u8.wrap ((b[0].toNat : Int) - 97) = (b[0].toNat : Int) - 97) := Lib.hid (IntWalk.u8_in _ (by omega))
  have W2 : Hid (IntKind.i64.wrap ((b[0].toNat : Int) - 97) = (b[0].toNat : Int) - 97) := Lib.hid (IntWalk.i64_in _ (by omega))
  by_cases hge : (n : Int) ≤ (b[0].toNat : Int) - 97
  · have HE : Hid (eIdx n b.data.toList = -1) := Lib.hid (by rw [HD.out, if_neg (by omega)])
    go_enter Tryz.func66, Tryz.ntmps66
    go_wp2
    have e1 : IntKind.u8.wrap ((b[0].toNat : Int) - 97) = (b[0].toNat : Int) - 97 := W1.out
    have e2 : IntKind.i64.wrap ((b[0].toNat : Int) - 97) = (b[0].toNat : Int) - 97 := W2.out
    go_quiet (fail)
    clear e1 e2
    go_wp2
    go_ret
    exact ⟨by rw [HE.out]; rfl, below_drewN ((Below.refl _ _).alloc (Nat.le_refl _) _) _⟩
  · have HE : Hid (eIdx n b.data.toList = (b[0].toNat : Int) - 97) := Lib.hid (by rw [HD.out, if_pos (by omega)])
    go_enter Tryz.func66, Tryz.ntmps66
    go_wp2
    have e1 : IntKind.u8.wrap ((b[0].toNat : Int) - 97) = (b[0].toNat : Int) - 97 := W1.out
    have e2 : IntKind.i64.wrap ((b[0].toNat : Int) - 97) = (b[0].toNat : Int) - 97 := W2.out
    go_quiet (fail)
    clear e1 e2
    go_wp2
    go_ret
    exact ⟨by rw [HE.out]; rfl, below_drewN ((Below.refl _ _).alloc (Nat.le_refl _) _) _⟩

end Go.Proofs.YtpeafheljcjlhaaGreat

namespace Go.Proofs.YtpeafheljcjlhaaGreat
open Go.RowKit

set_option maxRecDepth 100000 in
/-- impl.runAt$1 -/
theorem runKeep_any (A : Option Addr) (cap : Nat) (es : List (ByteArray × ByteArray)) (b : ByteArray) (k g1 g2 M : Nat) (w : World) (hk : k < es.length) (hE : EdgesIn w M A es)
    (h1 : w.cell? ⟨g1, 1, none⟩ = some (.slice A es.length cap)) (h2 : w.cell? ⟨g2, 0, none⟩ = some (.string b)) :
    Calls Tryz.prog 110 (#[.int .i64 k] ++ #[.pointer (some ⟨g1, 0, none⟩), .pointer (some ⟨g2, 0, none⟩)]) w fun e w' => e = .returned (.bool (outB es b k)) ∧ Below w.heap.size w w' := by
  obtain ⟨eb, eo, rfl, hlow, q1, q2⟩ := hE k hk
  have hp := Lib.hid (outB_at (b := b) hk)
  clear hlow q2
  go_enter Tryz.func110, Tryz.ntmps110
  go_wp2_with fail
  go_quiet (fail)
  go_wp2_with fail
  go_ret
  exact ⟨ret_bool hp.out.symm, below_drewN (Below.refl _ _) _⟩

/-- how long the text in a cell is -/
def textZ : Option Value → Nat
  | some (.string s) => s.size
  | _ => 0

set_option maxRecDepth 100000 in
set_option maxHeartbeats 4000000 in
/-- impl.runAt -/
theorem runAt_any (B : ByteArray) (A : Option Addr) (cap m0 : Nat) (es : List (ByteArray × ByteArray)) (w : World) (hs : B.size ≤ maxLen) (hE : EdgesIn w w.heap.size A es) (hv : acycV B es = true) (hm0 : m0 ≤ 4294967296) :
    Calls Tryz.prog 82 #[.agg #[.string B, .slice A es.length cap], .int .i64 (m0 : Int)] w
      fun e w' => e = .returned (.string ⟨(runE es (exit_ B.data.toList) 8 (entry B.data.toList) m0).toArray⟩) ∧ Below w.heap.size w w' := by
  have hA := acy_v hv
  have h16 := hA.F.few
  have HA := Lib.hid hA
  obtain ⟨t, ht⟩ : ∃ t, exit_ B.data.toList = t := ⟨_, rfl⟩
  obtain ⟨b0, hb0⟩ : ∃ b0, entry B.data.toList = b0 := ⟨_, rfl⟩
  obtain ⟨tot, htot⟩ : ∃ tot, runE es t 8 b0 m0 = tot := ⟨_, rfl⟩
  have HST : Hid (RunAt B es t tot ⟨#[]⟩ b0 m0) := Lib.hid (by
    have := RunAt.start hA m0
    rwa [ht, hb0, htot] at this)
  have HLE : Hid (∀ b, b ∈ B.data.toList → b ≠ t → ∀ m, ∃ k, lastE es t b m = some k ∧ k < es.length ∧ valE (ebs es) t k ≤ m ∧ (ebs es)[k]? = some ([b], [toE es k]) ∧ toE es k ∈ B.data.toList ∧ es.getD k (⟨#[]⟩, ⟨#[]⟩) = (⟨#[b]⟩, ⟨#[toE es k]⟩)) := Lib.hid fun b hb hbt m => by
    have := lastE_some hA hb (by rw [ht]; exact hbt) m
    rwa [ht] at this
  have HVF : Hid (∀ k, valE (ebs es) t k ≤ 4294967296) := Lib.hid fun k => by
    rcases Nat.lt_or_ge k es.length with h | h
    · rw [← ht]; exact valE_small hA h
    · rw [valE_out (by rw [ebs_len]; exact h)]; omega
  have FV : Hid (∀ W : World, EdgesIn W W.heap.size A es → Calls Tryz.prog 76 #[.agg #[.string B, .slice A es.length cap]] W fun e w' => e = .returned (arr16 (valE (ebs es) t)) ∧ Below W.heap.size W w') := Lib.hid fun W h => by
    rw [← ht]; exact values_acy hv hs W h
  have FE : Hid (∀ W : World, Calls Tryz.prog 61 #[.agg #[.string B, .slice A es.length cap]] W fun e w' => e = .returned (.string ⟨#[b0]⟩) ∧ Below W.heap.size W w') := Lib.hid fun W => by
    rw [← hb0, ← hA.F.first]; exact entryOf_any B _ W hA.F.one hs
  have FX : Hid (∀ W : World, Calls Tryz.prog 63 #[.agg #[.string B, .slice A es.length cap]] W fun e w' => e = .returned (.string ⟨#[t]⟩) ∧ Below W.heap.size W w') := Lib.hid fun W => by
    rw [← ht, ← hA.F.last]; exact exitOf_any B _ W hA.F.one hs
  rw [ht, hb0, htot]
  have hb1 : Below w.heap.size w (w.alloc (.cells #[.string B, .slice A es.length cap] 31)) := (Below.refl _ _).alloc (Nat.le_refl _) _
  have t1 := Two.made w B A es.length cap 31
  have hz1 : (w.alloc (.cells #[.string B, .slice A es.length cap] 31)).heap.size = w.heap.size + 1 := by simp
  clear hA hv ht hb0 htot
  go_enter Tryz.func82, Tryz.ntmps82
  go_wp2_with fail
  refine (FV.out _ ((hE.below hb1).more hb1.size)).mono ?_
  rintro e w2 ⟨rfl, hb2⟩
  have hb2' := hb1.trans (hb2.mono hb1.size)
  have t2 := t1.below hb2 (by omega)
  have hz2 : w.heap.size + 1 ≤ w2.heap.size := by have := hb2.size; omega
  clear hb2 t1 hz1 hb1 FV
  obtain ⟨F, hF⟩ : ∃ F, valE (ebs es) t = F := ⟨_, rfl⟩
  rw [hF]
  have HF := Lib.hid hF
  have hrow := arr16_row w2 F
  have hb3 : Below w2.heap.size w2 (w2.alloc (.cells #[.int .i64 ((F 0 : Nat) : Int), .int .i64 ((F 1 : Nat) : Int), .int .i64 ((F 2 : Nat) : Int), .int .i64 ((F 3 : Nat) : Int), .int .i64 ((F 4 : Nat) : Int), .int .i64 ((F 5 : Nat) : Int), .int .i64 ((F 6 : Nat) : Int), .int .i64 ((F 7 : Nat) : Int), .int .i64 ((F 8 : Nat) : Int), .int .i64 ((F 9 : Nat) : Int), .int .i64 ((F 10 : Nat) : Int), .int .i64 ((F 11 : Nat) : Int), .int .i64 ((F 12 : Nat) : Int), .int .i64 ((F 13 : Nat) : Int), .int .i64 ((F 14 : Nat) : Int), .int .i64 ((F 15 : Nat) : Int)] 95)) := (Below.refl _ _).alloc (Nat.le_refl _) _
  have hz3 : (w2.alloc (.cells #[.int .i64 ((F 0 : Nat) : Int), .int .i64 ((F 1 : Nat) : Int), .int .i64 ((F 2 : Nat) : Int), .int .i64 ((F 3 : Nat) : Int), .int .i64 ((F 4 : Nat) : Int), .int .i64 ((F 5 : Nat) : Int), .int .i64 ((F 6 : Nat) : Int), .int .i64 ((F 7 : Nat) : Int), .int .i64 ((F 8 : Nat) : Int), .int .i64 ((F 9 : Nat) : Int), .int .i64 ((F 10 : Nat) : Int), .int .i64 ((F 11 : Nat) : Int), .int .i64 ((F 12 : Nat) : Int), .int .i64 ((F 13 : Nat) : Int), .int .i64 ((F 14 : Nat) : Int), .int .i64 ((F 15 : Nat) : Int)] 95)).heap.size = w2.heap.size + 1 := by simp
  have HROW := Lib.hid hrow; have HB3 := Lib.hid hb3; have HZ3 := Lib.hid hz3
  have t3 := t2.below hb3 (by omega)
  have hd0 := t3.1; have hd1 := t3.2
  have HT3 := Lib.hid t3
  clear hF hrow hb3 hz3 t2 t3
  unfold arr16
  go_wp2_with fail
  generalize hW3 : w2.alloc (.cells #[.int .i64 ((F 0 : Nat) : Int), .int .i64 ((F 1 : Nat) : Int), .int .i64 ((F 2 : Nat) : Int), .int .i64 ((F 3 : Nat) : Int), .int .i64 ((F 4 : Nat) : Int), .int .i64 ((F 5 : Nat) : Int), .int .i64 ((F 6 : Nat) : Int), .int .i64 ((F 7 : Nat) : Int), .int .i64 ((F 8 : Nat) : Int), .int .i64 ((F 9 : Nat) : Int), .int .i64 ((F 10 : Nat) : Int), .int .i64 ((F 11 : Nat) : Int), .int .i64 ((F 12 : Nat) : Int), .int .i64 ((F 13 : Nat) : Int), .int .i64 ((F 14 : Nat) : Int), .int .i64 ((F 15 : Nat) : Int)] 95) = w3 at HROW HB3 HZ3 HT3 hd0 hd1 ⊢
  clear hW3
  refine (FE.out _).mono ?_
  rintro e w4 ⟨rfl, hb4⟩
  have hb3' := hb2'.trans (HB3.out.mono hb2'.size)
  have hb4' := hb3'.trans (hb4.mono hb3'.size)
  have hz4 : w2.heap.size + 1 ≤ w4.heap.size := by have := hb4.size; have := HZ3.out; omega
  have t4 := HT3.out.below hb4 (by have := HZ3.out; omega)
  have hrow4 := HROW.out.of_block (hb4.block w2.heap.size (by have := HZ3.out; omega))
  have hba : Below w4.heap.size w4 (w4.alloc (.cells #[.string ⟨#[b0]⟩, .string ⟨#[]⟩] 114)) := (Below.refl _ _).alloc (Nat.le_refl _) _
  have hwr : (w4.alloc (.cells #[.string ⟨#[b0]⟩, .string ⟨#[]⟩] 114)).rowIs w4.heap.size 114 2 (fun i => if i = 0 then .string ⟨#[b0]⟩ else .string ⟨#[]⟩) :=
    World.rowIs_alloc w4 #[.string ⟨#[b0]⟩, .string ⟨#[]⟩] 114 _ (fun i hi => by
      match i, hi with
      | 0, _ => rfl
      | 1, _ => rfl)
  have hz5 : (w4.alloc (.cells #[.string ⟨#[b0]⟩, .string ⟨#[]⟩] 114)).heap.size = w4.heap.size + 1 := by simp
  have HT5 := Lib.hid (t4.below hba (by omega)); have HROW5 := Lib.hid (hrow4.of_block (hba.block w2.heap.size (by omega))); have HB5 := Lib.hid (hb4'.trans (hba.mono hb4'.size))
  have HWR := Lib.hid hwr
  clear hd0 hd1 HROW HB3 HZ3 HT3 hb4 hb3' t4 hrow4 hba hwr hb2' hb4' FE
  go_wp2_with fail
  generalize hW5 : w4.alloc (.cells #[.string ⟨#[b0]⟩, .string ⟨#[]⟩] 114) = w5 at HT5 HROW5 HB5 HWR hz5 ⊢
  clear hW5
  obtain ⟨X, hX⟩ : ∃ X, w2.heap.size = X := ⟨_, rfl⟩
  obtain ⟨R, hR⟩ : ∃ R, w4.heap.size = R := ⟨_, rfl⟩
  rw [hX] at HROW5 hz4 ⊢
  rw [hR] at HWR hz5 hz4 ⊢
  go_loopw [1] (fun a wr => ∃ (p : ByteArray) (b : UInt8) (m : Nat), a = .int .i64 (m : Int) ∧ RunAt B es t tot p b m ∧ m ≤ 4294967296 ∧ Below w.heap.size w wr ∧ R + 1 ≤ wr.heap.size ∧ Two wr w.heap.size B A es.length cap ∧
    wr.rowIs X 95 16 (fun i => .int .i64 ((F i : Nat) : Int)) ∧ wr.rowIs R 114 2 (fun i => if i = 0 then .string ⟨#[b]⟩ else .string p)) (fun _ wk => 8 - textZ (wk.cell? ⟨R, 1, none⟩))
  case atStart => exact ⟨⟨#[]⟩, b0, m0, rfl, HST.out, hm0, HB5.out, by omega, HT5.out, HROW5.out, HWR.out⟩
  case round =>
    clear HST HT5 HROW5 HB5 HWR
    obtain ⟨p, b, m, rfl, hra, hm, hbw, hz, t6, hr6, hw6⟩ := hrel
    have hzz := hbw.size
    have HRA := Lib.hid hra; have HBW := Lib.hid hbw; have HT6 := Lib.hid t6; have HR6 := Lib.hid hr6; have HW6 := Lib.hid hw6; have HW0 := Lib.hid hw6
    have x0 : ∀ x : After wr, x.W.cell? ⟨w.heap.size, 0, none⟩ = some (.string B) := fun x => x.cell (by simp only; omega) t6.1
    have x1 : ∀ x : After wr, x.W.cell? ⟨w.heap.size, 1, none⟩ = some (.slice A es.length cap) := fun x => x.cell (by simp only; omega) t6.2
    have hwc0 := hw6.cell (i := 0) (by omega)
    simp only [if_true] at hwc0
    have x2 : ∀ x : After wr, x.W.cell? ⟨R, 0, none⟩ = some (.string ⟨#[b]⟩) := fun x => x.cell (by simp only; omega) hwc0
    clear hra hbw t6 hr6 hw6 hwc0
    by_cases hbt : b = t
    · subst hbt
      go_wp2_with fail
      refine wp_region_below (by kernel_rfl) (by kernel_rfl) ?_
      repeat (go_big_quiet_step ((go_at_call 63; exact After.call (FX.out _))))
      refine wpQuiet_nil ?_
      rintro _ ⟨xw, rfl⟩
      clear x0 x1 x2
      have hw7 := (HW6.out.of_block (xw.h.block R (by omega)))
      have c1 := hw7.cell (i := 1) (by omega)
      have e10 : (1 : Nat) = 0 ↔ False := by simp
      simp only [e10, if_false] at c1
      clear hw7 e10
      go_wp2_with fail
      go_ret
      exact ⟨by rw [← HRA.out.done]; rfl, HBW.out.trans (xw.h.mono HBW.out.size)⟩
    · have hq : (b == t) = false := by simp [hbt]
      obtain ⟨k, hk, hkl, hvk, hek, hto, hes⟩ := HLE.out b HRA.out.mem hbt m
      obtain ⟨hra2, hp6⟩ := HRA.out.step hbt hk hek hto
      have HRA2 := Lib.hid hra2
      have HLV : Hid (lastV (lastO (fun k => decide (F k ≤ m)) ((List.range es.length).filter (outB es ⟨#[b]⟩))) = (k : Int)) := Lib.hid (by
        rw [← HF.out]
        show lastV (lastE es t b m) = _
        rw [hk]; rfl)
      obtain ⟨c, hc⟩ : ∃ c, toE es k = c := ⟨_, rfl⟩
      rw [hc] at hes HRA2
      have hes2 : es[k].2 = ⟨#[c]⟩ := by
        have := congrArg Prod.snd hes
        rwa [List.getD_eq_getElem?_getD, List.getElem?_eq_getElem hkl, Option.getD_some] at this
      have HES := Lib.hid hes2
      have HKL := Lib.hid hkl
      obtain ⟨v, hv⟩ : ∃ v, F k = v := ⟨_, rfl⟩
      have hvm : v ≤ m := by rw [← hv, ← HF.out]; exact hvk
      have HV := Lib.hid hv
      have HM2 : Hid (m - valE (ebs es) t k = m - v) := Lib.hid (by rw [HF.out, hv])
      obtain ⟨m2, hm2⟩ : ∃ m2, m - v = m2 := ⟨_, rfl⟩
      rw [HM2.out, hm2] at HRA2
      have a1 : IntKind.i64.wrap ((m : Int) - (v : Int)) = (m2 : Int) := by rw [IntWalk.i64_in _ (by omega)]; omega
      have a2 : (es.length : Int) ≤ 16 := by omega
      have a3 : es.length ≤ 16 := h16
      have HM4 : Hid (m2 ≤ 4294967296) := Lib.hid (by omega)
      have a4 : (k : Int) < 16 := by omega
      have a5 : k < 16 := by omega
      have HP6 := Lib.hid hp6
      clear hbt hk hvk hek hto hes hes2 hra2 hc hv hm2 hp6
      go_wp2_with fail
      refine wp_region_below (by kernel_rfl) (by kernel_rfl) ?_
      repeat (go_big_quiet_step ((go_at_call 63; exact After.call (FX.out _))))
      refine wpQuiet_nil ?_
      rintro _ ⟨xw, rfl⟩
      clear x0 x1 x2
      obtain ⟨w7, hw7⟩ : ∃ w7, xw.W = w7 := ⟨_, rfl⟩
      have hb7 := xw.h
      rw [hw7] at hb7 ⊢
      clear hw7 xw
      have hz7 := hb7.size
      have t7 := HT6.out.below hb7 (by omega)
      have HR7 := Lib.hid (HR6.out.of_block (hb7.block X (by omega)))
      have HW7 := Lib.hid (HW6.out.of_block (hb7.block R (by omega)))
      have HB7 := Lib.hid (HBW.out.trans (hb7.mono HBW.out.size))
      have HT7 := Lib.hid t7
      have hd1 := t7.2
      have hx7 : X < w7.heap.size := by omega
      clear hb7 t7 HT6 HR6 HW6
      go_wp2_with fail
      refine (lastUpTo_any X es.length 16 m F _ _ (outB es ⟨#[b]⟩) w7 h16 hx7 (fun i => by rw [← HF.out]; exact HVF.out i) (fun i hi => HR7.out.cell (i := i) (by omega)) (enters_of Tryz.func110 (by kernel_rfl) rfl)
        (fun i W hi hbW => runKeep_any A cap es ⟨#[b]⟩ i w.heap.size R W.heap.size W hi (((hE.below HB7.out).below (hbW.mono HB7.out.size)).more (Nat.le_trans HB7.out.size hbW.size)) ((hbW.cell (by simp only; omega)).trans HT7.out.2) ((hbW.cell (by simp only; omega)).trans (HW7.out.cell (i := 0) (by omega))))).mono ?_
      rw [HLV.out]
      rintro e w8 ⟨rfl, hb8⟩
      have hz8 := hb8.size
      have t8 := HT7.out.below hb8 (by omega)
      have hr8 := HR7.out.of_block (hb8.block X (by omega))
      have hw8 := HW7.out.of_block (hb8.block R (by omega))
      have HB8 := Lib.hid (HB7.out.trans (hb8.mono HB7.out.size))
      have d0 := t8.1; have d1 := t8.2
      have dk := hr8.cell (i := k) (by omega)
      rw [HV.out] at dk
      have dw0 := hw8.cell (i := 0) (by omega); have dw1 := hw8.cell (i := 1) (by omega)
      simp only [if_true] at dw0
      have e10 : (1 : Nat) = 0 ↔ False := by simp
      simp only [e10, if_false] at dw1
      have HT8 := Lib.hid t8; have HR8 := Lib.hid hr8; have HW8 := Lib.hid hw8
      clear hb8 hd1 hx7 HT7 HR7 HW7 HB7 e10 t8 hr8 hw8
      go_wp2_with fail
      refine (along_any ⟨#[b]⟩ p B A cap es k _ ((hE.below HB8.out).more HB8.out.size) (by omega) HKL.out (by have := HP6.out; omega)).mono ?_
      rw [HES.out]
      rintro e w9 ⟨rfl, hb9⟩
      have hz9 := hb9.size
      have hw9 := HW8.out.of_block (hb9.block R (by omega))
      have HW9 := Lib.hid hw9
      have HT9 := Lib.hid (HT8.out.below hb9 (by omega)); have HR9 := Lib.hid (HR8.out.of_block (hb9.block X (by omega))); have HB9 := Lib.hid (HB8.out.trans (hb9.mono HB8.out.size))
      have f0 := hw9.frozen 0; have f1 := hw9.frozen 1
      have g0 := hw9.cell (i := 0) (by omega); have g1 := hw9.cell (i := 1) (by omega)
      simp only [if_true] at g0
      have e10 : (1 : Nat) = 0 ↔ False := by simp
      simp only [e10, if_false] at g1
      clear hw9 hb9 e10 d0 d1 dk dw0 dw1 HT8 HR8 HW8 HB8
      obtain ⟨p2, hp2⟩ : ∃ p2 : ByteArray, p ++ ⟨#[nameOf k]⟩ = p2 := ⟨_, rfl⟩
      rw [hp2] at HRA2 ⊢
      have HZ2 : Hid (p2.size = p.size + 1) := Lib.hid (by rw [← hp2, ByteArray.size_append]; rfl)
      clear hp2
      go_wp2_with fail
      have hw10 : ((w9.setCell ⟨R, 0, none⟩ (.string ⟨#[c]⟩)).setCell ⟨R, 1, none⟩ (.string p2)).rowIs R 114 2 (fun i => if i = 0 then .string ⟨#[c]⟩ else .string p2) := ((HW9.out.set 0 _).set 1 _).congr fun i hi => by
        match i, hi with
        | 0, _ => rfl
        | 1, _ => rfl
      have hg10 : w9.grownBy ((w9.setCell ⟨R, 0, none⟩ (.string ⟨#[c]⟩)).setCell ⟨R, 1, none⟩ (.string p2)) (some R) := only_setCell_at (only_setCell_at (World.grownBy.refl w9 _))
      have hz10 : ((w9.setCell ⟨R, 0, none⟩ (.string ⟨#[c]⟩)).setCell ⟨R, 1, none⟩ (.string p2)).heap.size = w9.heap.size := by simp [World.setCell]
      have HT10 := Lib.hid (HT9.out.grown hg10 (by omega) (by intro e; injection e with e; omega))
      have HR10 := Lib.hid (HR9.out.of_block (hg10.block X (by omega) (by intro e; injection e with e; omega)))
      have HB10 := Lib.hid ((HB9.out.setCell (p := ⟨R, 0, none⟩) (by simp only; omega) (.string ⟨#[c]⟩)).setCell (p := ⟨R, 1, none⟩) (by simp only; omega) (.string p2))
      have HW10 := Lib.hid hw10
      clear hw10 hg10 f0 f1 g0 g1
      generalize hW10 : (w9.setCell ⟨R, 0, none⟩ (.string ⟨#[c]⟩)).setCell ⟨R, 1, none⟩ (.string p2) = w10 at HT10 HR10 HB10 HW10 hz10 ⊢
      clear hW10
      go_roundw
      case rel => exact ⟨p2, c, m2, rfl, HRA2.out, HM4.out, HB10.out, by omega, HT10.out, HR10.out, HW10.out⟩
      case measure =>
        have q1 : w10.cell? ⟨R, 1, none⟩ = some (.string p2) := HW10.out.cell (i := 1) (by omega)
        have q2 : wr.cell? ⟨R, 1, none⟩ = some (.string p) := HW0.out.cell (i := 1) (by omega)
        rw [q1, q2]
        simp only [textZ]
        have := HZ2.out; have := HP6.out
        omega

end Go.Proofs.YtpeafheljcjlhaaGreat

namespace Go.Proofs.YtpeafheljcjlhaaGreat
open Go.RowKit

set_option maxRecDepth 100000 in
set_option maxHeartbeats 4000000 in
/-- impl.RunOf -/
theorem implRunOf_any (B : ByteArray) (A : Option Addr) (cap : Nat) (es : List (ByteArray × ByteArray)) (m : Int) (w : World) (hs : B.size ≤ maxLen) (hE : EdgesIn w w.heap.size A es) (hl : es.length ≤ 1099511627776) (hS : ∀ e ∈ es, e.1.size ≤ 1099511627776 ∧ e.2.size ≤ 1099511627776) :
    Calls Tryz.prog 42 #[.agg #[.string B, .slice A es.length cap], .int .i64 m] w (TextPost (runOfV B es m) w) := by
  have HL := Lib.hid hl; have HM := Lib.hid hs; have HS := Lib.hid hS
  clear hl hs hS
  have hb1 : Below w.heap.size w (w.alloc (.cells #[.string B, .slice A es.length cap] 31)) := (Below.refl _ _).alloc (Nat.le_refl _) _
  have t1 := Two.made w B A es.length cap 31
  have hz1 : (w.alloc (.cells #[.string B, .slice A es.length cap] 31)).heap.size = w.heap.size + 1 := by simp
  obtain ⟨v, hv⟩ : ∃ v, acycV B es = v := ⟨_, rfl⟩
  have FA : Hid (∀ W : World, EdgesIn W W.heap.size A es → Calls Tryz.prog 75 #[.agg #[.string B, .slice A es.length cap]] W fun e w' => e = .returned (.bool v) ∧ Below W.heap.size W w') := Lib.hid fun W h => by
    have := implIsAcyclic_any B A cap es W HM.out h HL.out HS.out
    rwa [hv] at this
  cases v with
  | false =>
    have HN : Hid (runOfV B es m = (⟨#[]⟩, false)) := Lib.hid (if_neg (by rw [hv]; simp))
    clear hv
    go_enter Tryz.func42, Tryz.ntmps42
    go_wp2_with fail
    refine (FA.out _ ((hE.below hb1).more hb1.size)).mono ?_
    rintro e w2 ⟨rfl, hb2⟩
    have hb2' := hb1.trans (hb2.mono hb1.size)
    clear hb2 t1
    go_wp2_with fail
    go_ret2
    exact ⟨by rw [HN.out]; rfl, hb2'⟩
  | true =>
    obtain ⟨q, hq⟩ : ∃ q, runsV B es = q := ⟨_, rfl⟩
    have FC : Hid (∀ W : World, EdgesIn W W.heap.size A es → Calls Tryz.prog 81 #[.agg #[.string B, .slice A es.length cap]] W fun e w' => e = .returned (.int .i64 q) ∧ Below W.heap.size W w') := Lib.hid fun W h => by
      rw [← hq]; exact implCountRuns_any B A cap es W HM.out h HL.out HS.out
    by_cases h0 : m < 0
    · have HN : Hid (runOfV B es m = (⟨#[]⟩, false)) := Lib.hid (if_neg fun h => by omega)
      clear hv hq
      go_enter Tryz.func42, Tryz.ntmps42
      go_wp2_with fail
      refine (FA.out _ ((hE.below hb1).more hb1.size)).mono ?_
      rintro e w2 ⟨rfl, hb2⟩
      have hb2' := hb1.trans (hb2.mono hb1.size)
      clear hb2 t1
      go_wp2_with fail
      go_ret2
      exact ⟨by rw [HN.out]; rfl, hb2'⟩
    by_cases h1 : m ≥ q
    · have HN : Hid (runOfV B es m = (⟨#[]⟩, false)) := Lib.hid (if_neg fun h => by rw [hq] at h; omega)
      clear hv hq
      go_enter Tryz.func42, Tryz.ntmps42
      go_wp2_with fail
      refine (FA.out _ ((hE.below hb1).more hb1.size)).mono ?_
      rintro e w2 ⟨rfl, hb2⟩
      have hb2' := hb1.trans (hb2.mono hb1.size)
      have t2 := t1.below hb2 (by omega)
      have hd0 := t2.1; have hd1 := t2.2
      clear hb2 t1
      go_wp2_with fail
      refine (FC.out _ ((hE.below hb2').more hb2'.size)).mono ?_
      rintro e w3 ⟨rfl, hb3⟩
      have hb3' := hb2'.trans (hb3.mono hb2'.size)
      clear hb3 hd0 hd1
      go_wp2_with fail
      go_ret2
      exact ⟨by rw [HN.out]; rfl, hb3'⟩
    have hbd : q ≤ 268435456 := by
      have hA := acy_v hv
      have h2 := (cntV_bound hA hA.F.ent).2
      have : runsV B es = cntV B es (entry B.data.toList) := if_pos hv
      omega
    obtain ⟨m0, rfl⟩ : ∃ m0 : Nat, m = m0 := ⟨m.toNat, by omega⟩
    have HN : Hid (runOfV B es (m0 : Int) = (⟨(runE es (exit_ B.data.toList) 8 (entry B.data.toList) m0).toArray⟩, true)) := Lib.hid (if_pos ⟨hv, by omega, by omega⟩)
    have FR : Hid (∀ W : World, EdgesIn W W.heap.size A es → Calls Tryz.prog 82 #[.agg #[.string B, .slice A es.length cap], .int .i64 (m0 : Int)] W
      fun e w' => e = .returned (.string ⟨(runE es (exit_ B.data.toList) 8 (entry B.data.toList) m0).toArray⟩) ∧ Below W.heap.size W w') := Lib.hid fun W h => runAt_any B A cap m0 es W HM.out h hv (by omega)
    obtain ⟨rt, hrt⟩ : ∃ rt : ByteArray, (⟨(runE es (exit_ B.data.toList) 8 (entry B.data.toList) m0).toArray⟩ : ByteArray) = rt := ⟨_, rfl⟩
    rw [hrt] at HN FR
    clear hv hq hrt hbd
    go_enter Tryz.func42, Tryz.ntmps42
    go_wp2_with fail
    refine (FA.out _ ((hE.below hb1).more hb1.size)).mono ?_
    rintro e w2 ⟨rfl, hb2⟩
    have hb2' := hb1.trans (hb2.mono hb1.size)
    have t2 := t1.below hb2 (by omega)
    have hz2 : w.heap.size + 1 ≤ w2.heap.size := by have := hb2.size; omega
    have hd0 := t2.1; have hd1 := t2.2
    clear hb2 t1 hz1 hb1
    go_wp2_with fail
    refine (FC.out _ ((hE.below hb2').more hb2'.size)).mono ?_
    rintro e w3 ⟨rfl, hb3⟩
    have hb3' := hb2'.trans (hb3.mono hb2'.size)
    have t3 := t2.below hb3 (by omega)
    clear hb3 hd0 hd1 t2
    have hd0 := t3.1; have hd1 := t3.2
    go_wp2_with fail
    refine (FR.out _ ((hE.below hb3').more hb3'.size)).mono ?_
    rintro e w4 ⟨rfl, hb4⟩
    have hb4' := hb3'.trans (hb4.mono hb3'.size)
    clear hb4 hd0 hd1 t3
    go_wp2_with fail
    go_ret2
    exact ⟨by rw [HN.out]; rfl, hb4'⟩

end Go.Proofs.YtpeafheljcjlhaaGreat
