/- RunOf and NextRun: both sides, the law, the statement -/
import Derived.Test.YtghdjmjodgbghaaValS
import Derived.Test.YtghdjmjodgbghaaAlong
import Derived.Test.YtghdjmjodgbghaaVofI
import Derived.Test.YtghdjmjodgbghaaAcycS
import Derived.Test.YtghdjmjodgbghaaReach
import Derived.Test.YtghdjmjodgbghaaNofZ
import Derived.Test.YtghdjmjodgbghaaLaw
import Derived.Test.YtghdjmjodgbghaaRows
import Derived.Test.YtghdjmjodgbghaaOpen
import Derived.BigRegion
import Derived.WalkKit
import Derived.ProofKit
import Derived.OpenShut
import Derived.ShutString
import Derived.ChangeOld
import Derived.Below
namespace Go.Proofs.Ytghdjmjodgbghaa
open Go.RowKit

theorem valE_small {B : ByteArray} {es : List (ByteArray × ByteArray)} {O : List UInt8} (h : Acy B es O) {k : Nat} (hk : k < es.length) : valE (ebs es) (exit_ B.data.toList) k ≤ 4294967296 := by
  obtain ⟨x, y, he, _, _, hx, _⟩ := edge_letters h.F.lets hk
  obtain ⟨r, h1, h2⟩ := h.at_ hx
  rw [valE_eq he]
  exact sumC_few (by rw [ebs_len]; exact h.F.few) h1 h2 (by have := h.F.few; omega)

/-- the last of some numbers that fit -/
def lastO (q : Nat → Bool) (l : List Nat) : Option Nat := (l.filter q).getLast?
theorem lastO_nil (q : Nat → Bool) : lastO q [] = none := rfl
theorem lastO_yes {q : Nat → Bool} {l : List Nat} {x : Nat} (h : q x = true) : lastO q (l ++ [x]) = some x := by simp [lastO, h]
theorem lastO_no {q : Nat → Bool} {l : List Nat} {x : Nat} (h : q x = false) : lastO q (l ++ [x]) = lastO q l := by simp [lastO, h]
theorem lastO_mem {q : Nat → Bool} {l : List Nat} {x : Nat} (h : lastO q l = some x) : x ∈ l ∧ q x = true := by
  have := List.mem_of_getLast? h
  exact List.mem_filter.1 this
theorem lastO_has {q : Nat → Bool} {l : List Nat} {x : Nat} (h : x ∈ l) (hq : q x = true) : ∃ y, lastO q l = some y := by
  have hm : x ∈ l.filter q := List.mem_filter.2 ⟨h, hq⟩
  cases hl : l.filter q with
  | nil => rw [hl] at hm; simp at hm
  | cons a r => exact ⟨_, by unfold lastO; rw [hl]; exact List.getLast?_eq_some_getLast (by simp)⟩

/-- the last edge from a block whose value is not above a number -/
def lastE (es : List (ByteArray × ByteArray)) (t b : UInt8) (m : Nat) : Option Nat := lastO (fun k => decide (valE (ebs es) t k ≤ m)) (outsOf es b)
/-- where an edge leads -/
def toE (es : List (ByteArray × ByteArray)) (k : Nat) : UInt8 := ((ebs es).getD k ([], [])).2.headD 0
/-- the edges of a run by its number, so many at most -/
def runE (es : List (ByteArray × ByteArray)) (t : UInt8) : Nat → UInt8 → Nat → List UInt8
  | 0, _, _ => []
  | f + 1, b, m => if b = t then [] else match lastE es t b m with
    | none => []
    | some k => nameOf k :: runE es t f (toE es k) (m - valE (ebs es) t k)
theorem runE_end (es : List (ByteArray × ByteArray)) (t : UInt8) (f m : Nat) : runE es t f t m = [] := by
  cases f with
  | zero => rfl
  | succ f => simp [runE]
theorem runE_go {es : List (ByteArray × ByteArray)} {t b : UInt8} {f m k : Nat} (hb : b ≠ t) (h : lastE es t b m = some k) : runE es t (f + 1) b m = nameOf k :: runE es t f (toE es k) (m - valE (ebs es) t k) := by
  rw [runE, if_neg hb, h]
theorem runE_len (es : List (ByteArray × ByteArray)) (t : UInt8) : ∀ (f : Nat) (b : UInt8) (m : Nat), (runE es t f b m).length ≤ f
  | 0, _, _ => by simp [runE]
  | f + 1, b, m => by
    unfold runE
    split
    · simp
    · split
      · simp
      · have := runE_len es t f
        simp only [List.length_cons]
        rename_i k _
        have := this (toE es k) (m - valE (ebs es) t k)
        omega

/-- there is such an edge, and it leads nearer to the exit -/
theorem lastE_some {B : ByteArray} {es : List (ByteArray × ByteArray)} {O : List UInt8} (hA : Acy B es O) {b : UInt8} (hb : b ∈ B.data.toList) (hbt : b ≠ exit_ B.data.toList) (m : Nat) :
    ∃ k, lastE es (exit_ B.data.toList) b m = some k ∧ k < es.length ∧ valE (ebs es) (exit_ B.data.toList) k ≤ m ∧ (ebs es)[k]? = some ([b], [toE es k]) ∧ toE es k ∈ B.data.toList ∧ es.getD k (⟨#[]⟩, ⟨#[]⟩) = (⟨#[b]⟩, ⟨#[toE es k]⟩) := by
  obtain ⟨i, y, hi⟩ := hA.out b hb hbt
  have hm := outs_has hi
  have hpos : 0 < (outsOf es b).length := List.length_pos_of_mem hm
  obtain ⟨k0, hk0⟩ : ∃ k0, (outsOf es b)[0] = k0 := ⟨_, rfl⟩
  have hk0m : k0 ∈ outsOf es b := hk0 ▸ List.getElem_mem hpos
  obtain ⟨hk0l, y0, hy0, _⟩ := outsOf_mem hA.F.lets hk0m
  have hv0 : valE (ebs es) (exit_ B.data.toList) k0 = 0 := by
    rw [valE_eq hy0, ← sumC_outs hA.F.lets _ b hpos hk0]
    rfl
  obtain ⟨k, hk⟩ := lastO_has (q := fun k => decide (valE (ebs es) (exit_ B.data.toList) k ≤ m)) hk0m (by simp [hv0])
  obtain ⟨h1, h2⟩ := lastO_mem hk
  obtain ⟨hkl, y2, hy2, hy3, hyl⟩ := outsOf_mem hA.F.lets h1
  have ht : toE es k = y2 := by
    unfold toE
    rw [List.getD_eq_getElem?_getD, hy2]; rfl
  obtain ⟨x, y', he, e1, e2, hx, _⟩ := edge_letters hA.F.lets hkl
  rw [hy2] at he
  injection he with he
  injection he with he1 he2
  injection he1 with he1
  subst he1
  refine ⟨k, hk, hkl, by simpa using h2, by rw [ht]; exact hy2, by rw [ht]; exact hyl, ?_⟩
  rw [ht, List.getD_eq_getElem?_getD, List.getElem?_eq_getElem hkl, Option.getD_some]
  exact Prod.ext e1 hy3

/-- the run of a number, or none -/
noncomputable def runOfV (B : ByteArray) (es : List (ByteArray × ByteArray)) (m : Int) : ByteArray × Bool :=
  if acycV B es = true ∧ 0 ≤ m ∧ m < runsV B es then (⟨(runE es (exit_ B.data.toList) 8 (entry B.data.toList) m.toNat).toArray⟩, true) else (⟨#[]⟩, false)

/-- where a walk stands: so many edges behind it, and the rest of them -/
structure RunAt (B : ByteArray) (es : List (ByteArray × ByteArray)) (t : UInt8) (tot : List UInt8) (p : ByteArray) (b : UInt8) (m : Nat) : Prop where
  sz : p.size ≤ 7
  tot : p.data.toList ++ runE es t (8 - p.size) b m = tot
  mem : b ∈ B.data.toList
  topo : ∃ r, Topo (ebs es) (b :: r) ∧ r.length ≤ 7 ∧ p.size + r.length ≤ 7
theorem RunAt.start {B : ByteArray} {es : List (ByteArray × ByteArray)} {O : List UInt8} (hA : Acy B es O) (m : Nat) : RunAt B es (exit_ B.data.toList) (runE es (exit_ B.data.toList) 8 (entry B.data.toList) m) ⟨#[]⟩ (entry B.data.toList) m := by
  obtain ⟨r, h1, h2⟩ := hA.at_ hA.F.ent
  have e0 : (⟨#[]⟩ : ByteArray).size = 0 := rfl
  exact ⟨by omega, by rw [e0]; rfl, hA.F.ent, r, h1, h2, by omega⟩
theorem RunAt.done {B : ByteArray} {es : List (ByteArray × ByteArray)} {t : UInt8} {tot : List UInt8} {p : ByteArray} {m : Nat} (h : RunAt B es t tot p t m) : p = ⟨tot.toArray⟩ := by
  have := h.tot
  rw [runE_end, List.append_nil] at this
  exact bytes_ext (by rw [this])
theorem RunAt.step {B : ByteArray} {es : List (ByteArray × ByteArray)} {tot : List UInt8} {p : ByteArray} {b : UInt8} {m k : Nat} {t : UInt8} (h : RunAt B es t tot p b m) (hbt : b ≠ t)
    (hk : lastE es t b m = some k) (he : (ebs es)[k]? = some ([b], [toE es k])) (hm : toE es k ∈ B.data.toList) : RunAt B es t tot (p ++ ⟨#[nameOf k]⟩) (toE es k) (m - valE (ebs es) t k) ∧ p.size ≤ 6 := by
  obtain ⟨r, h1, h2, h3⟩ := h.topo
  obtain ⟨r2, g1, g2, g3⟩ := topo_to h1 h2 (List.mem_of_getElem? he)
  have hz : (p ++ ⟨#[nameOf k]⟩ : ByteArray).size = p.size + 1 := by
    rw [ByteArray.size_append]; rfl
  refine ⟨⟨by rw [hz]; omega, ?_, hm, r2, g1, g2, by rw [hz]; omega⟩, by omega⟩
  have ht := h.tot
  have e : 8 - p.size = (8 - (p.size + 1)) + 1 := by omega
  rw [e, runE_go hbt hk] at ht
  rw [hz, ← ht, Go.Joins.data_append]
  simp

end Go.Proofs.Ytghdjmjodgbghaa

namespace Go.Proofs.Ytghdjmjodgbghaa
open Go.RowKit

/-- a number, or none, as the program tells it -/
def lastV : Option Nat → Int
  | none => -1
  | some k => k

set_option maxRecDepth 100000 in
set_option maxHeartbeats 2000000 in
/-- impl.lastUpTo, of int -/
theorem lastUpTo_any (X n cap m : Nat) (F : Nat → Nat) (f : FuncId) (caps : Array Value) (p : Nat → Bool) (w : World) (hn : n ≤ 16) (hX : X < w.heap.size) (hF : ∀ i, F i ≤ 4294967296)
    (hrow : ∀ i, i < n → w.cell? ⟨X, i, none⟩ = some (.int .i64 ((F i : Nat) : Int)))
    (he : ∀ args w, (callFunc f args).run Try.prog w = .ok (.enter f args) w)
    (hk : ∀ (i : Nat) (W : World), i < n → Below w.heap.size w W → Calls Try.prog f (#[.int .i64 i] ++ caps) W fun e W' => e = .returned (.bool (p i)) ∧ Below W.heap.size W W') :
    Calls Try.prog 81 #[.slice (some ⟨X, 0, none⟩) n cap, .int .i64 (m : Int), .func (.func f) #[] caps] w
      fun e w' => e = .returned (.int .i64 (lastV (lastO (fun k => decide (F k ≤ m)) ((List.range n).filter p)))) ∧ Below w.heap.size w w' := by
  have HK := Lib.hid hk; have HROW := Lib.hid hrow
  clear hk hrow
  go_enter Try.func81, Try.ntmps81
  go_wp2_with fail
  go_loopw [7, 12] (fun a c wr => ∃ j : Nat, j ≤ n ∧ c = .int .i64 j ∧ a = .int .i64 (lastV (lastO (fun k => decide (F k ≤ m)) ((List.range j).filter p))) ∧ Below w.heap.size w wr) (fun _ c _ => n - (intOf c).toNat)
  case atStart => exact ⟨0, Nat.zero_le _, rfl, rfl, Below.refl _ _⟩
  case round =>
    obtain ⟨j, hj, rfl, rfl, hb⟩ := hrel
    by_cases hlt : j < n
    case neg =>
      have hjn : j = n := by omega
      have HJN := Lib.hid hjn
      have h0 : ¬ ((j : Int) < (n : Int)) := by omega
      clear hlt hjn
      go_wp2_with fail
      go_ret
      exact ⟨by rw [← HJN.out]; rfl, hb⟩
    have c0 : wr.cell? ⟨X, j, none⟩ = some (.int .i64 ((F j : Nat) : Int)) := (hb.cell (by simp only; omega)).trans (HROW.out j hlt)
    have hji : (j : Int) < (n : Int) := by omega
    have HR : Hid ((List.range (j + 1)).filter p = (List.range j).filter p ++ if p j = true then [j] else []) := Lib.hid (by
      rw [List.range_succ, List.filter_append]
      congr 1
      cases hp : p j <;> simp [hp])
    have HF := Lib.hid (hF j)
    have HB := Lib.hid hb
    obtain ⟨fj, hfj⟩ : ∃ fj, F j = fj := ⟨_, rfl⟩
    rw [hfj] at c0
    have HFJ := Lib.hid hfj
    clear hb hfj
    go_wp2_with fail
    refine (HK.out j wr hlt HB.out).mono ?_
    rintro e w3 ⟨rfl, hb3⟩
    have HB3 := Lib.hid (HB.out.trans (hb3.mono HB.out.size))
    clear hb3 c0
    have z9 : IntKind.i64.wrap ((j : Int) + 1) = (j : Int) + 1 := IntWalk.i64_in _ (by omega)
    cases hp : p j with
    | false =>
      have HR2 : Hid (lastO (fun k => decide (F k ≤ m)) ((List.range (j + 1)).filter p) = lastO (fun k => decide (F k ≤ m)) ((List.range j).filter p)) := Lib.hid (by rw [HR.out, hp]; simp)
      clear hp
      go_wp2_with fail
      go_roundw
      case rel => exact ⟨j + 1, by omega, by go_num, by rw [HR2.out], HB3.out⟩
      case measure => simp [intOf]; omega
    | true =>
      by_cases hle : fj ≤ m
      · have HR2 : Hid (lastO (fun k => decide (F k ≤ m)) ((List.range (j + 1)).filter p) = some j) := Lib.hid (by rw [HR.out, hp]; simp only [if_true]; exact lastO_yes (by simp [HFJ.out, hle]))
        have hle2 : (fj : Int) ≤ (m : Int) := by omega
        clear hp hle
        go_wp2_with fail
        go_roundw
        case rel => exact ⟨j + 1, by omega, by go_num, by rw [HR2.out]; rfl, HB3.out⟩
        case measure => simp [intOf]; omega
      · have HR2 : Hid (lastO (fun k => decide (F k ≤ m)) ((List.range (j + 1)).filter p) = lastO (fun k => decide (F k ≤ m)) ((List.range j).filter p)) := Lib.hid (by rw [HR.out, hp]; simp only [if_true]; exact lastO_no (by simp [HFJ.out]; omega))
        have hle2 : ¬ ((fj : Int) ≤ (m : Int)) := by omega
        clear hp hle
        go_wp2_with fail
        go_roundw
        case rel => exact ⟨j + 1, by omega, by go_num, by rw [HR2.out], HB3.out⟩
        case measure => simp [intOf]; omega

end Go.Proofs.Ytghdjmjodgbghaa

namespace Go.Proofs.Ytghdjmjodgbghaa
open Go.RowKit

set_option maxRecDepth 100000 in
/-- impl.runAt$1 -/
theorem runKeep_any (A : Option Addr) (cap : Nat) (es : List (ByteArray × ByteArray)) (b : ByteArray) (k g1 g2 M : Nat) (w : World) (hk : k < es.length) (hE : EdgesIn w M A es)
    (h1 : w.cell? ⟨g1, 1, none⟩ = some (.slice A es.length cap)) (h2 : w.cell? ⟨g2, 0, none⟩ = some (.string b)) :
    Calls Try.prog 82 (#[.int .i64 k] ++ #[.pointer (some ⟨g1, 0, none⟩), .pointer (some ⟨g2, 0, none⟩)]) w fun e w' => e = .returned (.bool (outB es b k)) ∧ Below w.heap.size w w' := by
  obtain ⟨eb, eo, rfl, hlow, q1, q2⟩ := hE k hk
  have hp := Lib.hid (outB_at (b := b) hk)
  clear hlow q2
  go_enter Try.func82, Try.ntmps82
  go_wp2_with fail
  go_quiet (fail)
  go_wp2_with fail
  go_ret
  exact ⟨ret_bool hp.out.symm, below_drewN (Below.refl _ _) _⟩

/-- how long the text in a cell is -/
def textZ : Option Value → Nat
  | some (.string s) => s.size
  | _ => 0

set_option maxRecDepth 100000 in
set_option maxHeartbeats 4000000 in
/-- impl.runAt -/
theorem runAt_any (B : ByteArray) (A : Option Addr) (cap m0 : Nat) (es : List (ByteArray × ByteArray)) (w : World) (hs : B.size ≤ maxLen) (hE : EdgesIn w w.heap.size A es) (hv : acycV B es = true) (hm0 : m0 ≤ 4294967296) :
    Calls Try.prog 57 #[.agg #[.string B, .slice A es.length cap], .int .i64 (m0 : Int)] w
      fun e w' => e = .returned (.string ⟨(runE es (exit_ B.data.toList) 8 (entry B.data.toList) m0).toArray⟩) ∧ Below w.heap.size w w' := by
  have hA := acy_v hv
  have h16 := hA.F.few
  have HA := Lib.hid hA
  obtain ⟨t, ht⟩ : ∃ t, exit_ B.data.toList = t := ⟨_, rfl⟩
  obtain ⟨b0, hb0⟩ : ∃ b0, entry B.data.toList = b0 := ⟨_, rfl⟩
  obtain ⟨tot, htot⟩ : ∃ tot, runE es t 8 b0 m0 = tot := ⟨_, rfl⟩
  have HST : Hid (RunAt B es t tot ⟨#[]⟩ b0 m0) := Lib.hid (by
    have := RunAt.start hA m0
    rwa [ht, hb0, htot] at this)
  have HLE : Hid (∀ b, b ∈ B.data.toList → b ≠ t → ∀ m, ∃ k, lastE es t b m = some k ∧ k < es.length ∧ valE (ebs es) t k ≤ m ∧ (ebs es)[k]? = some ([b], [toE es k]) ∧ toE es k ∈ B.data.toList ∧ es.getD k (⟨#[]⟩, ⟨#[]⟩) = (⟨#[b]⟩, ⟨#[toE es k]⟩)) := Lib.hid fun b hb hbt m => by
    have := lastE_some hA hb (by rw [ht]; exact hbt) m
    rwa [ht] at this
  have HVF : Hid (∀ k, valE (ebs es) t k ≤ 4294967296) := Lib.hid fun k => by
    rcases Nat.lt_or_ge k es.length with h | h
    · rw [← ht]; exact valE_small hA h
    · rw [valE_out (by rw [ebs_len]; exact h)]; omega
  have FV : Hid (∀ W : World, EdgesIn W W.heap.size A es → Calls Try.prog 48 #[.agg #[.string B, .slice A es.length cap]] W fun e w' => e = .returned (arr16 (valE (ebs es) t)) ∧ Below W.heap.size W w') := Lib.hid fun W h => by
    rw [← ht]; exact values_acy hv hs W h
  have FE : Hid (∀ W : World, Calls Try.prog 41 #[.agg #[.string B, .slice A es.length cap]] W fun e w' => e = .returned (.string ⟨#[b0]⟩) ∧ Below W.heap.size W w') := Lib.hid fun W => by
    rw [← hb0, ← hA.F.first]; exact entryOf_any B _ W hA.F.one hs
  have FX : Hid (∀ W : World, Calls Try.prog 70 #[.agg #[.string B, .slice A es.length cap]] W fun e w' => e = .returned (.string ⟨#[t]⟩) ∧ Below W.heap.size W w') := Lib.hid fun W => by
    rw [← ht, ← hA.F.last]; exact exitOf_any B _ W hA.F.one hs
  rw [ht, hb0, htot]
  have hb1 : Below w.heap.size w (w.alloc (.cells #[.string B, .slice A es.length cap] 29)) := (Below.refl _ _).alloc (Nat.le_refl _) _
  have t1 := Two.made w B A es.length cap 29
  have hz1 : (w.alloc (.cells #[.string B, .slice A es.length cap] 29)).heap.size = w.heap.size + 1 := by simp
  clear hA hv ht hb0 htot
  go_enter Try.func57, Try.ntmps57
  go_wp2_with fail
  refine (FV.out _ ((hE.below hb1).more hb1.size)).mono ?_
  rintro e w2 ⟨rfl, hb2⟩
  have hb2' := hb1.trans (hb2.mono hb1.size)
  have t2 := t1.below hb2 (by omega)
  have hz2 : w.heap.size + 1 ≤ w2.heap.size := by have := hb2.size; omega
  clear hb2 t1 hz1 hb1 FV
  obtain ⟨F, hF⟩ : ∃ F, valE (ebs es) t = F := ⟨_, rfl⟩
  rw [hF]
  have HF := Lib.hid hF
  have hrow := arr16_row w2 F
  have hb3 : Below w2.heap.size w2 (w2.alloc (.cells #[.int .i64 ((F 0 : Nat) : Int), .int .i64 ((F 1 : Nat) : Int), .int .i64 ((F 2 : Nat) : Int), .int .i64 ((F 3 : Nat) : Int), .int .i64 ((F 4 : Nat) : Int), .int .i64 ((F 5 : Nat) : Int), .int .i64 ((F 6 : Nat) : Int), .int .i64 ((F 7 : Nat) : Int), .int .i64 ((F 8 : Nat) : Int), .int .i64 ((F 9 : Nat) : Int), .int .i64 ((F 10 : Nat) : Int), .int .i64 ((F 11 : Nat) : Int), .int .i64 ((F 12 : Nat) : Int), .int .i64 ((F 13 : Nat) : Int), .int .i64 ((F 14 : Nat) : Int), .int .i64 ((F 15 : Nat) : Int)] 53)) := (Below.refl _ _).alloc (Nat.le_refl _) _
  have hz3 : (w2.alloc (.cells #[.int .i64 ((F 0 : Nat) : Int), .int .i64 ((F 1 : Nat) : Int), .int .i64 ((F 2 : Nat) : Int), .int .i64 ((F 3 : Nat) : Int), .int .i64 ((F 4 : Nat) : Int), .int .i64 ((F 5 : Nat) : Int), .int .i64 ((F 6 : Nat) : Int), .int .i64 ((F 7 : Nat) : Int), .int .i64 ((F 8 : Nat) : Int), .int .i64 ((F 9 : Nat) : Int), .int .i64 ((F 10 : Nat) : Int), .int .i64 ((F 11 : Nat) : Int), .int .i64 ((F 12 : Nat) : Int), .int .i64 ((F 13 : Nat) : Int), .int .i64 ((F 14 : Nat) : Int), .int .i64 ((F 15 : Nat) : Int)] 53)).heap.size = w2.heap.size + 1 := by simp
  have HROW := Lib.hid hrow; have HB3 := Lib.hid hb3; have HZ3 := Lib.hid hz3
  have t3 := t2.below hb3 (by omega)
  have hd0 := t3.1; have hd1 := t3.2
  have HT3 := Lib.hid t3
  clear hF hrow hb3 hz3 t2 t3
  unfold arr16
  go_wp2_with fail
  generalize hW3 : w2.alloc (.cells #[.int .i64 ((F 0 : Nat) : Int), .int .i64 ((F 1 : Nat) : Int), .int .i64 ((F 2 : Nat) : Int), .int .i64 ((F 3 : Nat) : Int), .int .i64 ((F 4 : Nat) : Int), .int .i64 ((F 5 : Nat) : Int), .int .i64 ((F 6 : Nat) : Int), .int .i64 ((F 7 : Nat) : Int), .int .i64 ((F 8 : Nat) : Int), .int .i64 ((F 9 : Nat) : Int), .int .i64 ((F 10 : Nat) : Int), .int .i64 ((F 11 : Nat) : Int), .int .i64 ((F 12 : Nat) : Int), .int .i64 ((F 13 : Nat) : Int), .int .i64 ((F 14 : Nat) : Int), .int .i64 ((F 15 : Nat) : Int)] 53) = w3 at HROW HB3 HZ3 HT3 hd0 hd1 ⊢
  clear hW3
  refine (FE.out _).mono ?_
  rintro e w4 ⟨rfl, hb4⟩
  have hb3' := hb2'.trans (HB3.out.mono hb2'.size)
  have hb4' := hb3'.trans (hb4.mono hb3'.size)
  have hz4 : w2.heap.size + 1 ≤ w4.heap.size := by have := hb4.size; have := HZ3.out; omega
  have t4 := HT3.out.below hb4 (by have := HZ3.out; omega)
  have hrow4 := HROW.out.of_block (hb4.block w2.heap.size (by have := HZ3.out; omega))
  have hba : Below w4.heap.size w4 (w4.alloc (.cells #[.string ⟨#[b0]⟩, .string ⟨#[]⟩] 83)) := (Below.refl _ _).alloc (Nat.le_refl _) _
  have hwr : (w4.alloc (.cells #[.string ⟨#[b0]⟩, .string ⟨#[]⟩] 83)).rowIs w4.heap.size 83 2 (fun i => if i = 0 then .string ⟨#[b0]⟩ else .string ⟨#[]⟩) :=
    World.rowIs_alloc w4 #[.string ⟨#[b0]⟩, .string ⟨#[]⟩] 83 _ (fun i hi => by
      match i, hi with
      | 0, _ => rfl
      | 1, _ => rfl)
  have hz5 : (w4.alloc (.cells #[.string ⟨#[b0]⟩, .string ⟨#[]⟩] 83)).heap.size = w4.heap.size + 1 := by simp
  have HT5 := Lib.hid (t4.below hba (by omega)); have HROW5 := Lib.hid (hrow4.of_block (hba.block w2.heap.size (by omega))); have HB5 := Lib.hid (hb4'.trans (hba.mono hb4'.size))
  have HWR := Lib.hid hwr
  clear hd0 hd1 HROW HB3 HZ3 HT3 hb4 hb3' t4 hrow4 hba hwr hb2' hb4' FE
  go_wp2_with fail
  generalize hW5 : w4.alloc (.cells #[.string ⟨#[b0]⟩, .string ⟨#[]⟩] 83) = w5 at HT5 HROW5 HB5 HWR hz5 ⊢
  clear hW5
  obtain ⟨X, hX⟩ : ∃ X, w2.heap.size = X := ⟨_, rfl⟩
  obtain ⟨R, hR⟩ : ∃ R, w4.heap.size = R := ⟨_, rfl⟩
  rw [hX] at HROW5 hz4 ⊢
  rw [hR] at HWR hz5 hz4 ⊢
  go_loopw [1] (fun a wr => ∃ (p : ByteArray) (b : UInt8) (m : Nat), a = .int .i64 (m : Int) ∧ RunAt B es t tot p b m ∧ m ≤ 4294967296 ∧ Below w.heap.size w wr ∧ R + 1 ≤ wr.heap.size ∧ Two wr w.heap.size B A es.length cap ∧
    wr.rowIs X 53 16 (fun i => .int .i64 ((F i : Nat) : Int)) ∧ wr.rowIs R 83 2 (fun i => if i = 0 then .string ⟨#[b]⟩ else .string p)) (fun _ wk => 8 - textZ (wk.cell? ⟨R, 1, none⟩))
  case atStart => exact ⟨⟨#[]⟩, b0, m0, rfl, HST.out, hm0, HB5.out, by omega, HT5.out, HROW5.out, HWR.out⟩
  case round =>
    clear HST HT5 HROW5 HB5 HWR
    obtain ⟨p, b, m, rfl, hra, hm, hbw, hz, t6, hr6, hw6⟩ := hrel
    have hzz := hbw.size
    have HRA := Lib.hid hra; have HBW := Lib.hid hbw; have HT6 := Lib.hid t6; have HR6 := Lib.hid hr6; have HW6 := Lib.hid hw6; have HW0 := Lib.hid hw6
    have x0 : ∀ x : After wr, x.W.cell? ⟨w.heap.size, 0, none⟩ = some (.string B) := fun x => x.cell (by simp only; omega) t6.1
    have x1 : ∀ x : After wr, x.W.cell? ⟨w.heap.size, 1, none⟩ = some (.slice A es.length cap) := fun x => x.cell (by simp only; omega) t6.2
    have hwc0 := hw6.cell (i := 0) (by omega)
    simp only [if_true] at hwc0
    have x2 : ∀ x : After wr, x.W.cell? ⟨R, 0, none⟩ = some (.string ⟨#[b]⟩) := fun x => x.cell (by simp only; omega) hwc0
    clear hra hbw t6 hr6 hw6 hwc0
    by_cases hbt : b = t
    · subst hbt
      go_wp2_with fail
      refine wp_region_below (by kernel_rfl) (by kernel_rfl) ?_
      repeat (go_big_quiet_step ((go_at_call 70; exact After.call (FX.out _))))
      refine wpQuiet_nil ?_
      rintro _ ⟨xw, rfl⟩
      clear x0 x1 x2
      have hw7 := (HW6.out.of_block (xw.h.block R (by omega)))
      have c1 := hw7.cell (i := 1) (by omega)
      have e10 : (1 : Nat) = 0 ↔ False := by simp
      simp only [e10, if_false] at c1
      clear hw7 e10
      go_wp2_with fail
      go_ret
      exact ⟨by rw [← HRA.out.done]; rfl, HBW.out.trans (xw.h.mono HBW.out.size)⟩
    · have hq : (b == t) = false := by simp [hbt]
      obtain ⟨k, hk, hkl, hvk, hek, hto, hes⟩ := HLE.out b HRA.out.mem hbt m
      obtain ⟨hra2, hp6⟩ := HRA.out.step hbt hk hek hto
      have HRA2 := Lib.hid hra2
      have HLV : Hid (lastV (lastO (fun k => decide (F k ≤ m)) ((List.range es.length).filter (outB es ⟨#[b]⟩))) = (k : Int)) := Lib.hid (by
        rw [← HF.out]
        show lastV (lastE es t b m) = _
        rw [hk]; rfl)
      obtain ⟨c, hc⟩ : ∃ c, toE es k = c := ⟨_, rfl⟩
      rw [hc] at hes HRA2
      have hes2 : es[k].2 = ⟨#[c]⟩ := by
        have := congrArg Prod.snd hes
        rwa [List.getD_eq_getElem?_getD, List.getElem?_eq_getElem hkl, Option.getD_some] at this
      have HES := Lib.hid hes2
      have HKL := Lib.hid hkl
      obtain ⟨v, hv⟩ : ∃ v, F k = v := ⟨_, rfl⟩
      have hvm : v ≤ m := by rw [← hv, ← HF.out]; exact hvk
      have HV := Lib.hid hv
      have HM2 : Hid (m - valE (ebs es) t k = m - v) := Lib.hid (by rw [HF.out, hv])
      obtain ⟨m2, hm2⟩ : ∃ m2, m - v = m2 := ⟨_, rfl⟩
      rw [HM2.out, hm2] at HRA2
      have a1 : IntKind.i64.wrap ((m : Int) - (v : Int)) = (m2 : Int) := by rw [IntWalk.i64_in _ (by omega)]; omega
      have a2 : (es.length : Int) ≤ 16 := by omega
      have a3 : es.length ≤ 16 := h16
      have HM4 : Hid (m2 ≤ 4294967296) := Lib.hid (by omega)
      have a4 : (k : Int) < 16 := by omega
      have a5 : k < 16 := by omega
      have HP6 := Lib.hid hp6
      clear hbt hk hvk hek hto hes hes2 hra2 hc hv hm2 hp6
      go_wp2_with fail
      refine wp_region_below (by kernel_rfl) (by kernel_rfl) ?_
      repeat (go_big_quiet_step ((go_at_call 70; exact After.call (FX.out _))))
      refine wpQuiet_nil ?_
      rintro _ ⟨xw, rfl⟩
      clear x0 x1 x2
      obtain ⟨w7, hw7⟩ : ∃ w7, xw.W = w7 := ⟨_, rfl⟩
      have hb7 := xw.h
      rw [hw7] at hb7 ⊢
      clear hw7 xw
      have hz7 := hb7.size
      have t7 := HT6.out.below hb7 (by omega)
      have HR7 := Lib.hid (HR6.out.of_block (hb7.block X (by omega)))
      have HW7 := Lib.hid (HW6.out.of_block (hb7.block R (by omega)))
      have HB7 := Lib.hid (HBW.out.trans (hb7.mono HBW.out.size))
      have HT7 := Lib.hid t7
      have hd1 := t7.2
      have hx7 : X < w7.heap.size := by omega
      clear hb7 t7 HT6 HR6 HW6
      go_wp2_with fail
      refine (lastUpTo_any X es.length 16 m F _ _ (outB es ⟨#[b]⟩) w7 h16 hx7 (fun i => by rw [← HF.out]; exact HVF.out i) (fun i hi => HR7.out.cell (i := i) (by omega)) (enters_of Try.func82 (by kernel_rfl) rfl)
        (fun i W hi hbW => runKeep_any A cap es ⟨#[b]⟩ i w.heap.size R W.heap.size W hi (((hE.below HB7.out).below (hbW.mono HB7.out.size)).more (Nat.le_trans HB7.out.size hbW.size)) ((hbW.cell (by simp only; omega)).trans HT7.out.2) ((hbW.cell (by simp only; omega)).trans (HW7.out.cell (i := 0) (by omega))))).mono ?_
      rw [HLV.out]
      rintro e w8 ⟨rfl, hb8⟩
      have hz8 := hb8.size
      have t8 := HT7.out.below hb8 (by omega)
      have hr8 := HR7.out.of_block (hb8.block X (by omega))
      have hw8 := HW7.out.of_block (hb8.block R (by omega))
      have HB8 := Lib.hid (HB7.out.trans (hb8.mono HB7.out.size))
      have d0 := t8.1; have d1 := t8.2
      have dk := hr8.cell (i := k) (by omega)
      rw [HV.out] at dk
      have dw0 := hw8.cell (i := 0) (by omega); have dw1 := hw8.cell (i := 1) (by omega)
      simp only [if_true] at dw0
      have e10 : (1 : Nat) = 0 ↔ False := by simp
      simp only [e10, if_false] at dw1
      have HT8 := Lib.hid t8; have HR8 := Lib.hid hr8; have HW8 := Lib.hid hw8
      clear hb8 hd1 hx7 HT7 HR7 HW7 HB7 e10 t8 hr8 hw8
      go_wp2_with fail
      refine (along_any ⟨#[b]⟩ p B A cap es k _ ((hE.below HB8.out).more HB8.out.size) (by omega) HKL.out (by have := HP6.out; omega)).mono ?_
      rw [HES.out]
      rintro e w9 ⟨rfl, hb9⟩
      have hz9 := hb9.size
      have hw9 := HW8.out.of_block (hb9.block R (by omega))
      have HW9 := Lib.hid hw9
      have HT9 := Lib.hid (HT8.out.below hb9 (by omega)); have HR9 := Lib.hid (HR8.out.of_block (hb9.block X (by omega))); have HB9 := Lib.hid (HB8.out.trans (hb9.mono HB8.out.size))
      have f0 := hw9.frozen 0; have f1 := hw9.frozen 1
      have g0 := hw9.cell (i := 0) (by omega); have g1 := hw9.cell (i := 1) (by omega)
      simp only [if_true] at g0
      have e10 : (1 : Nat) = 0 ↔ False := by simp
      simp only [e10, if_false] at g1
      clear hw9 hb9 e10 d0 d1 dk dw0 dw1 HT8 HR8 HW8 HB8
      obtain ⟨p2, hp2⟩ : ∃ p2 : ByteArray, p ++ ⟨#[nameOf k]⟩ = p2 := ⟨_, rfl⟩
      rw [hp2] at HRA2 ⊢
      have HZ2 : Hid (p2.size = p.size + 1) := Lib.hid (by rw [← hp2, ByteArray.size_append]; rfl)
      clear hp2
      go_wp2_with fail
      have hw10 : ((w9.setCell ⟨R, 0, none⟩ (.string ⟨#[c]⟩)).setCell ⟨R, 1, none⟩ (.string p2)).rowIs R 83 2 (fun i => if i = 0 then .string ⟨#[c]⟩ else .string p2) := ((HW9.out.set 0 _).set 1 _).congr fun i hi => by
        match i, hi with
        | 0, _ => rfl
        | 1, _ => rfl
      have hg10 : w9.grownBy ((w9.setCell ⟨R, 0, none⟩ (.string ⟨#[c]⟩)).setCell ⟨R, 1, none⟩ (.string p2)) (some R) := only_setCell_at (only_setCell_at (World.grownBy.refl w9 _))
      have hz10 : ((w9.setCell ⟨R, 0, none⟩ (.string ⟨#[c]⟩)).setCell ⟨R, 1, none⟩ (.string p2)).heap.size = w9.heap.size := by simp [World.setCell]
      have HT10 := Lib.hid (HT9.out.grown hg10 (by omega) (by intro e; injection e with e; omega))
      have HR10 := Lib.hid (HR9.out.of_block (hg10.block X (by omega) (by intro e; injection e with e; omega)))
      have HB10 := Lib.hid ((HB9.out.setCell (p := ⟨R, 0, none⟩) (by simp only; omega) (.string ⟨#[c]⟩)).setCell (p := ⟨R, 1, none⟩) (by simp only; omega) (.string p2))
      have HW10 := Lib.hid hw10
      clear hw10 hg10 f0 f1 g0 g1
      generalize hW10 : (w9.setCell ⟨R, 0, none⟩ (.string ⟨#[c]⟩)).setCell ⟨R, 1, none⟩ (.string p2) = w10 at HT10 HR10 HB10 HW10 hz10 ⊢
      clear hW10
      go_roundw
      case rel => exact ⟨p2, c, m2, rfl, HRA2.out, HM4.out, HB10.out, by omega, HT10.out, HR10.out, HW10.out⟩
      case measure =>
        have q1 : w10.cell? ⟨R, 1, none⟩ = some (.string p2) := HW10.out.cell (i := 1) (by omega)
        have q2 : wr.cell? ⟨R, 1, none⟩ = some (.string p) := HW0.out.cell (i := 1) (by omega)
        rw [q1, q2]
        simp only [textZ]
        have := HZ2.out; have := HP6.out
        omega

end Go.Proofs.Ytghdjmjodgbghaa

namespace Go.Proofs.Ytghdjmjodgbghaa
open Go.RowKit

set_option maxRecDepth 100000 in
set_option maxHeartbeats 4000000 in
/-- impl.RunOf -/
theorem implRunOf_any (B : ByteArray) (A : Option Addr) (cap : Nat) (es : List (ByteArray × ByteArray)) (m : Int) (w : World) (hs : B.size ≤ maxLen) (hE : EdgesIn w w.heap.size A es) (hl : es.length ≤ 1099511627776) (hS : ∀ e ∈ es, e.1.size ≤ 1099511627776 ∧ e.2.size ≤ 1099511627776) :
    Calls Try.prog 29 #[.agg #[.string B, .slice A es.length cap], .int .i64 m] w (TextPost (runOfV B es m) w) := by
  have HL := Lib.hid hl; have HM := Lib.hid hs; have HS := Lib.hid hS
  clear hl hs hS
  have hb1 : Below w.heap.size w (w.alloc (.cells #[.string B, .slice A es.length cap] 29)) := (Below.refl _ _).alloc (Nat.le_refl _) _
  have t1 := Two.made w B A es.length cap 29
  have hz1 : (w.alloc (.cells #[.string B, .slice A es.length cap] 29)).heap.size = w.heap.size + 1 := by simp
  obtain ⟨v, hv⟩ : ∃ v, acycV B es = v := ⟨_, rfl⟩
  have FA : Hid (∀ W : World, EdgesIn W W.heap.size A es → Calls Try.prog 39 #[.agg #[.string B, .slice A es.length cap]] W fun e w' => e = .returned (.bool v) ∧ Below W.heap.size W w') := Lib.hid fun W h => by
    have := implIsAcyclic_any B A cap es W HM.out h HL.out HS.out
    rwa [hv] at this
  cases v with
  | false =>
    have HN : Hid (runOfV B es m = (⟨#[]⟩, false)) := Lib.hid (if_neg (by rw [hv]; simp))
    clear hv
    go_enter Try.func29, Try.ntmps29
    go_wp2_with fail
    refine (FA.out _ ((hE.below hb1).more hb1.size)).mono ?_
    rintro e w2 ⟨rfl, hb2⟩
    have hb2' := hb1.trans (hb2.mono hb1.size)
    clear hb2 t1
    go_wp2_with fail
    go_ret2
    exact ⟨by rw [HN.out]; rfl, hb2'⟩
  | true =>
    obtain ⟨q, hq⟩ : ∃ q, runsV B es = q := ⟨_, rfl⟩
    have FC : Hid (∀ W : World, EdgesIn W W.heap.size A es → Calls Try.prog 14 #[.agg #[.string B, .slice A es.length cap]] W fun e w' => e = .returned (.int .i64 q) ∧ Below W.heap.size W w') := Lib.hid fun W h => by
      rw [← hq]; exact implCountRuns_any B A cap es W HM.out h HL.out HS.out
    by_cases h0 : m < 0
    · have HN : Hid (runOfV B es m = (⟨#[]⟩, false)) := Lib.hid (if_neg fun h => by omega)
      clear hv hq
      go_enter Try.func29, Try.ntmps29
      go_wp2_with fail
      refine (FA.out _ ((hE.below hb1).more hb1.size)).mono ?_
      rintro e w2 ⟨rfl, hb2⟩
      have hb2' := hb1.trans (hb2.mono hb1.size)
      clear hb2 t1
      go_wp2_with fail
      go_ret2
      exact ⟨by rw [HN.out]; rfl, hb2'⟩
    by_cases h1 : m ≥ q
    · have HN : Hid (runOfV B es m = (⟨#[]⟩, false)) := Lib.hid (if_neg fun h => by rw [hq] at h; omega)
      clear hv hq
      go_enter Try.func29, Try.ntmps29
      go_wp2_with fail
      refine (FA.out _ ((hE.below hb1).more hb1.size)).mono ?_
      rintro e w2 ⟨rfl, hb2⟩
      have hb2' := hb1.trans (hb2.mono hb1.size)
      have t2 := t1.below hb2 (by omega)
      have hd0 := t2.1; have hd1 := t2.2
      clear hb2 t1
      go_wp2_with fail
      refine (FC.out _ ((hE.below hb2').more hb2'.size)).mono ?_
      rintro e w3 ⟨rfl, hb3⟩
      have hb3' := hb2'.trans (hb3.mono hb2'.size)
      clear hb3 hd0 hd1
      go_wp2_with fail
      go_ret2
      exact ⟨by rw [HN.out]; rfl, hb3'⟩
    have hbd : q ≤ 268435456 := by
      have hA := acy_v hv
      have h2 := (cntV_bound hA hA.F.ent).2
      have : runsV B es = cntV B es (entry B.data.toList) := if_pos hv
      omega
    obtain ⟨m0, rfl⟩ : ∃ m0 : Nat, m = m0 := ⟨m.toNat, by omega⟩
    have HN : Hid (runOfV B es (m0 : Int) = (⟨(runE es (exit_ B.data.toList) 8 (entry B.data.toList) m0).toArray⟩, true)) := Lib.hid (if_pos ⟨hv, by omega, by omega⟩)
    have FR : Hid (∀ W : World, EdgesIn W W.heap.size A es → Calls Try.prog 57 #[.agg #[.string B, .slice A es.length cap], .int .i64 (m0 : Int)] W
      fun e w' => e = .returned (.string ⟨(runE es (exit_ B.data.toList) 8 (entry B.data.toList) m0).toArray⟩) ∧ Below W.heap.size W w') := Lib.hid fun W h => runAt_any B A cap m0 es W HM.out h hv (by omega)
    obtain ⟨rt, hrt⟩ : ∃ rt : ByteArray, (⟨(runE es (exit_ B.data.toList) 8 (entry B.data.toList) m0).toArray⟩ : ByteArray) = rt := ⟨_, rfl⟩
    rw [hrt] at HN FR
    clear hv hq hrt hbd
    go_enter Try.func29, Try.ntmps29
    go_wp2_with fail
    refine (FA.out _ ((hE.below hb1).more hb1.size)).mono ?_
    rintro e w2 ⟨rfl, hb2⟩
    have hb2' := hb1.trans (hb2.mono hb1.size)
    have t2 := t1.below hb2 (by omega)
    have hz2 : w.heap.size + 1 ≤ w2.heap.size := by have := hb2.size; omega
    have hd0 := t2.1; have hd1 := t2.2
    clear hb2 t1 hz1 hb1
    go_wp2_with fail
    refine (FC.out _ ((hE.below hb2').more hb2'.size)).mono ?_
    rintro e w3 ⟨rfl, hb3⟩
    have hb3' := hb2'.trans (hb3.mono hb2'.size)
    have t3 := t2.below hb3 (by omega)
    clear hb3 hd0 hd1 t2
    have hd0 := t3.1; have hd1 := t3.2
    go_wp2_with fail
    refine (FR.out _ ((hE.below hb3').more hb3'.size)).mono ?_
    rintro e w4 ⟨rfl, hb4⟩
    have hb4' := hb3'.trans (hb4.mono hb3'.size)
    clear hb4 hd0 hd1 t3
    go_wp2_with fail
    go_ret2
    exact ⟨by rw [HN.out]; rfl, hb4'⟩

end Go.Proofs.Ytghdjmjodgbghaa

namespace Go.Proofs.Ytghdjmjodgbghaa
open Go.RowKit

/-- the name of an edge, or none -/
def lastT : Option Nat → ByteArray
  | none => ⟨#[]⟩
  | some k => ⟨#[nameOf k]⟩
/-- how long a text is -/
def valZ : Value → Nat
  | .string s => s.size
  | _ => 0

set_option maxRecDepth 100000 in
set_option maxHeartbeats 8000000 in
/-- spec.l4Run -/
theorem l4Run_any (B : ByteArray) (A : Option Addr) (cap m0 : Nat) (es : List (ByteArray × ByteArray)) (w : World) (hE : EdgesIn w w.heap.size A es) (hA : Acy B es (orderE B.data.toList (ebs es))) (hBm : B.size ≤ maxLen) (hm0 : m0 ≤ 4294967296) :
    Calls Try.prog 56 #[.agg #[.string B, .slice A es.length cap], .string ⟨#[entry B.data.toList]⟩, .int .i64 (m0 : Int)] w
      fun e w' => e = .returned (.string ⟨(runE es (exit_ B.data.toList) 8 (entry B.data.toList) m0).toArray⟩) ∧ Below w.heap.size w w' := by
  have h16 := hA.F.few
  obtain ⟨t, ht⟩ : ∃ t, exit_ B.data.toList = t := ⟨_, rfl⟩
  obtain ⟨b0, hb0⟩ : ∃ b0, entry B.data.toList = b0 := ⟨_, rfl⟩
  obtain ⟨tot, htot⟩ : ∃ tot, runE es t 8 b0 m0 = tot := ⟨_, rfl⟩
  have HST : Hid (RunAt B es t tot ⟨#[]⟩ b0 m0) := Lib.hid (by
    have := RunAt.start hA m0
    rwa [ht, hb0, htot] at this)
  have HLE : Hid (∀ b, b ∈ B.data.toList → b ≠ t → ∀ m, ∃ k, lastE es t b m = some k ∧ k < es.length ∧ valE (ebs es) t k ≤ m ∧ (ebs es)[k]? = some ([b], [toE es k]) ∧ toE es k ∈ B.data.toList ∧ es.getD k (⟨#[]⟩, ⟨#[]⟩) = (⟨#[b]⟩, ⟨#[toE es k]⟩)) := Lib.hid fun b hb hbt m => by
    have := lastE_some hA hb (by rw [ht]; exact hbt) m
    rwa [ht] at this
  have HVF : Hid (∀ k, k < es.length → valE (ebs es) t k ≤ 4294967296) := Lib.hid fun k h => by rw [← ht]; exact valE_small hA h
  have HOL : Hid (∀ b ix, ix ∈ outsOf es b → ix < es.length) := Lib.hid fun b ix h => (outsOf_mem hA.F.lets h).1
  have FL : Hid (∀ (i : Nat), i < es.length → ∀ W : World, EdgesIn W W.heap.size A es → Calls Try.prog 58 #[.agg #[.string B, .slice A es.length cap], .string ⟨#[nameOf i]⟩] W fun e w' => e = .returned (.agg #[.string (es.getD i (⟨#[]⟩, ⟨#[]⟩)).1, .string (es.getD i (⟨#[]⟩, ⟨#[]⟩)).2]) ∧ Below W.heap.size W w') := Lib.hid fun i hi W h => by
    have := l2Edge_any B A cap es ⟨#[nameOf i]⟩ i W h (by omega) hi (eIdx_name hi (by omega))
    simpa [List.getD, hi] using this
  have FO : Hid (∀ x, ∀ W : World, EdgesIn W W.heap.size A es → Calls Try.prog 74 #[.agg #[.string B, .slice A es.length cap], .string ⟨#[x]⟩] W fun e w' => e = .returned (.string ⟨(names (outB es ⟨#[x]⟩) es.length).toArray⟩) ∧ Below W.heap.size W w') := Lib.hid fun x W h => outList_any B A cap es ⟨#[x]⟩ W h (by omega)
  have FV : Hid (∀ k, k < es.length → ∀ W : World, EdgesIn W W.heap.size A es → Calls Try.prog 46 #[.agg #[.string B, .slice A es.length cap], .string ⟨#[nameOf k]⟩] W fun e w' => e = .returned (.int .i64 ((valE (ebs es) t k : Nat) : Int)) ∧ Below W.heap.size W w') := Lib.hid fun k hk W h => by
    rw [← ht]; exact l4Value_any B A cap es k W h hA hBm hk
  have FX : Hid (∀ W : World, Calls Try.prog 77 #[.agg #[.string B, .slice A es.length cap]] W fun e w' => e = .returned (.string ⟨#[t]⟩) ∧ Below W.heap.size W w') := Lib.hid fun W => by
    rw [← ht, ← hA.F.last]; exact l1Exit_any B _ W hA.F.one hBm
  rw [ht, hb0, htot]
  have hb1 : Below w.heap.size w (w.alloc (.cells #[.string B, .slice A es.length cap] 29)) := (Below.refl _ _).alloc (Nat.le_refl _) _
  have t1 := Two.made w B A es.length cap 29
  have hz1 : (w.alloc (.cells #[.string B, .slice A es.length cap] 29)).heap.size = w.heap.size + 1 := by simp
  have e1 := edge_from; have e2 := edge_to
  clear hA hBm ht hb0 htot
  go_enter Try.func56, Try.ntmps56
  go_wp2_with fail
  obtain ⟨w1, hw1⟩ : ∃ w1, w.alloc (.cells #[.string B, .slice A es.length cap] 29) = w1 := ⟨_, rfl⟩
  rw [hw1] at hb1 t1 hz1 ⊢
  clear hw1
  have HT1 := Lib.hid t1; have HB1 := Lib.hid hb1
  clear t1 hb1
  go_loopw [1, 2, 7] (fun bv a pv wr => ∃ (p : ByteArray) (b : UInt8) (m : Nat), bv = .string ⟨#[b]⟩ ∧ a = .int .i64 (m : Int) ∧ pv = .string p ∧ RunAt B es t tot p b m ∧ m ≤ 4294967296 ∧ Below w1.heap.size w1 wr) (fun _ _ pv _ => 8 - valZ pv)
  case atStart => exact ⟨⟨#[]⟩, b0, m0, rfl, rfl, rfl, HST.out, hm0, Below.refl _ _⟩
  case round =>
    clear HST
    obtain ⟨p, b, m, rfl, rfl, rfl, hra, hm, hb⟩ := hrel
    have HRA := Lib.hid hra; have HB := Lib.hid hb
    have hzr := hb.size
    have hbw := HB1.out.trans (hb.mono HB1.out.size)
    have tr := HT1.out.below hb (by omega)
    have hd0 := tr.1; have hd1 := tr.2
    have HTR := Lib.hid tr
    have HBW := Lib.hid hbw
    clear hra hb hbw tr
    by_cases hbt : b = t
    · subst hbt
      go_wp2_with fail
      refine (FX.out _).mono ?_
      rintro e w2 ⟨rfl, hb2⟩
      have HB2 := Lib.hid (HBW.out.trans (hb2.mono HBW.out.size))
      clear hb2
      go_wp2_with fail
      go_ret
      exact ⟨by rw [← HRA.out.done]; rfl, HB2.out⟩
    · have hq : (b == t) = false := by simp [hbt]
      obtain ⟨k, hk, hkl, hvk, hek, hto, hes⟩ := HLE.out b HRA.out.mem hbt m
      obtain ⟨hra2, hp6⟩ := HRA.out.step hbt hk hek hto
      have HRA2 := Lib.hid hra2
      obtain ⟨ot, hot⟩ : ∃ ot : ByteArray, (⟨(names (outB es ⟨#[b]⟩) es.length).toArray⟩ : ByteArray) = ot := ⟨_, rfl⟩
      have hod : ot.data.toList = (outsOf es b).map nameOf := by rw [← hot]; rfl
      have hos : ot.size = (outsOf es b).length := by rw [str_size hod]; simp
      have hol : (outsOf es b).length ≤ 16 := by
        have h1 := names_length (outB es ⟨#[b]⟩) es.length
        have h2 : (names (outB es ⟨#[b]⟩) es.length).length = (outsOf es b).length := by simp [names, outsOf]
        omega
      have FOb := FO.out b
      rw [hot] at FOb
      have HFO := Lib.hid FOb
      have FLk := FL.out k hkl
      rw [hes] at FLk
      obtain ⟨c, hc⟩ : ∃ c, toE es k = c := ⟨_, rfl⟩
      rw [hc] at FLk HRA2
      have HFLK := Lib.hid FLk
      obtain ⟨v, hv⟩ : ∃ v, valE (ebs es) t k = v := ⟨_, rfl⟩
      have FVk := FV.out k hkl
      rw [hv] at FVk hvk
      have HFVK := Lib.hid FVk
      obtain ⟨m2, hm2⟩ : ∃ m2, m - v = m2 := ⟨_, rfl⟩
      rw [hv, hm2] at HRA2
      have hm2z : m2 ≤ 4294967296 := by omega
      have hvb : v ≤ 4294967296 := by rw [← hv]; exact HVF.out k hkl
      have z1 : IntKind.i64.wrap ((m : Int) - (v : Int)) = (m2 : Int) := by rw [IntWalk.i64_in _ (by omega)]; omega
      have HOD := Lib.hid hod; have HOS := Lib.hid hos; have HHK := Lib.hid hk; have HP6 := Lib.hid hp6
      have HM2 := Lib.hid hm2z
      clear hot hod hos FOb FLk FVk hc hv hm2 hk hek hto hes hra2 hp6 hbt hm2z hvk
      go_wp2_with fail
      refine (FX.out _).mono ?_
      rintro e w2 ⟨rfl, hb2⟩
      have hb2' := HBW.out.trans (hb2.mono HBW.out.size)
      have hz2 : w.heap.size + 1 ≤ w2.heap.size := by have := hb2.size; omega
      have t2 := HTR.out.below hb2 (by omega)
      clear hd0 hd1
      have hd0 := t2.1; have hd1 := t2.2
      have HB1w2 := Lib.hid (HB.out.trans (hb2.mono HB.out.size))
      clear hb2
      go_wp2_with fail
      refine (HFO.out _ ((hE.below hb2').more hb2'.size)).mono ?_
      rintro e w3 ⟨rfl, hb3⟩
      have hb3' := hb2'.trans (hb3.mono hb2'.size)
      have hz3 : w.heap.size + 1 ≤ w3.heap.size := by have := hb3.size; omega
      have t3 := t2.below hb3 (by omega)
      have HT3 := Lib.hid t3; have HB3 := Lib.hid hb3'
      have HB1w3 := Lib.hid (HB1w2.out.trans (hb3.mono HB1w2.out.size))
      clear hb3 t2 hb2' hd0 hd1 t3 hb3'
      go_wp2_with fail
      go_loopw [8, 20] (fun bt a wi => ∃ j : Nat, j ≤ ot.size ∧ a = .int .i64 j ∧ bt = .string (lastT (lastO (fun k => decide (valE (ebs es) t k ≤ m)) ((outsOf es b).take j))) ∧ Below w3.heap.size w3 wi) (fun _ a _ => ot.size - (intOf a).toNat)
      case atStart => exact ⟨0, Nat.zero_le _, rfl, rfl, Below.refl _ _⟩
      case round =>
        obtain ⟨j, hj, rfl, rfl, hbi⟩ := hrel
        have HBI := Lib.hid hbi
        have hzi := hbi.size
        have ti := HT3.out.below hbi (by omega)
        clear hbi
        by_cases hlt : j < ot.size
        case neg =>
          have HEND : Hid (lastT (lastO (fun k => decide (valE (ebs es) t k ≤ m)) ((outsOf es b).take j)) = ⟨#[nameOf k]⟩) := Lib.hid (by
            rw [List.take_of_length_le (by have := HOS.out; omega)]
            show lastT (lastE es t b m) = _
            rw [HHK.out]; rfl)
          rw [HEND.out]
          have hbw := HB3.out.trans (HBI.out.mono (by omega))
          have h0 : ¬ ((j : Int) < (ot.size : Int)) := by omega
          have hd0 := ti.1; have hd1 := ti.2
          clear hlt
          go_wp2_with fail
          refine (HFVK.out _ ((hE.below hbw).more hbw.size)).mono ?_
          rintro e w5 ⟨rfl, hb5⟩
          have hb5' := hbw.trans (hb5.mono hbw.size)
          have t5 := ti.below hb5 (by omega)
          have HB1w5 := Lib.hid (HB1w3.out.trans ((HBI.out.mono (by have := HB1w3.out.size; omega)).trans (hb5.mono (by have := HB1w3.out.size; omega))))
          have hz5 := hb5.size
          clear hb5 hd0 hd1
          have hd0 := t5.1; have hd1 := t5.2
          obtain ⟨p2, hp2⟩ : ∃ p2 : ByteArray, p ++ ⟨#[nameOf k]⟩ = p2 := ⟨_, rfl⟩
          have HZ2 : Hid (p2.size = p.size + 1) := Lib.hid (by rw [← hp2, ByteArray.size_append]; rfl)
          have hsz : ¬ 9223372036854775807 < p.size + 1 := by have := HP6.out; omega
          have HP2 := Lib.hid hp2
          go_wp2_with fail
          refine (HFLK.out _ ((hE.below hb5').more hb5'.size)).mono ?_
          rintro e w6 ⟨rfl, hb6⟩
          have HB1w6 := Lib.hid (HB1w5.out.trans (hb6.mono HB1w5.out.size))
          clear hb6 hd0 hd1
          go_wp2_with fail
          go_roundw
          case rel => exact ⟨p2, c, m2, rfl, rfl, by rw [← HP2.out], by rw [← HP2.out]; exact HRA2.out, HM2.out, HB1w6.out⟩
          case measure =>
            simp only [valZ]
            have := HZ2.out; have := HP6.out
            try rw [hp2]
            omega
        have hjo : j < (outsOf es b).length := by have := HOS.out; omega
        obtain ⟨ix, hix⟩ : ∃ ix, (outsOf es b)[j] = ix := ⟨_, rfl⟩
        have hil : ix < es.length := HOL.out b ix (hix ▸ List.getElem_mem hjo)
        have hex : ot.extract j (j + 1) = ⟨#[nameOf ix]⟩ := by
          have := letter_at (p := ot) hlt
          rw [HOD.out] at this
          have e : ((outsOf es b).map nameOf).getD j 0 = nameOf ix := by simp [List.getD, hjo, hix]
          rw [e] at this
          exact one_byte this
        have HTK : Hid ((outsOf es b).take (j + 1) = (outsOf es b).take j ++ [ix]) := Lib.hid (by rw [List.take_succ_eq_append_getElem hjo, hix])
        have a1 : (0 : Int) ≤ (j : Int) := by omega
        have a2 : (j : Int) < (ot.size : Int) := by omega
        have a4 : (0 : Int) ≤ (j : Int) + 1 := by omega
        have a5 : ((j : Int) + 1).toNat = j + 1 := by omega
        have a6 : (j : Int) + 1 ≤ (ot.size : Int) := by omega
        have a7 : j + 1 ≤ ot.size := by omega
        have a8 : (j : Int) ≤ (j : Int) + 1 := by omega
        have a9 : IntKind.i64.wrap ((j : Int) + 1) = (j : Int) + 1 := IntWalk.i64_in _ (by have := HOS.out; omega)
        obtain ⟨vx, hvx⟩ : ∃ vx, valE (ebs es) t ix = vx := ⟨_, rfl⟩
        have FV2 := FV.out ix hil
        rw [hvx] at FV2
        have HFV2 := Lib.hid FV2
        have HVX := Lib.hid hvx
        have hbw := HB3.out.trans (HBI.out.mono (by omega))
        clear hix hil FV2 hvx
        go_wp2_with fail
        have x0 : ∀ x : After wr, x.W.cell? ⟨w.heap.size, 0, none⟩ = some (.string B) := fun x => x.cell (by simp only; omega) ti.1
        have x1 : ∀ x : After wr, x.W.cell? ⟨w.heap.size, 1, none⟩ = some (.slice A es.length cap) := fun x => x.cell (by simp only; omega) ti.2
        have xE : ∀ x : After wr, EdgesIn x.W x.W.heap.size A es := fun x => ((hE.below hbw).below (x.h.mono hbw.size)).more (Nat.le_trans hbw.size x.h.size)
        have XE := Lib.hid xE; clear xE
        refine wp_region_below (by kernel_rfl) (by kernel_rfl) ?_
        repeat (go_big_quiet_step ((go_at_call 46; exact After.call (HFV2.out _ (XE.out _)))))
        refine wpQuiet_nil ?_
        rintro _ ⟨xw, rfl⟩
        clear x0 x1 XE
        by_cases hle : vx ≤ m
        · have HL2 : Hid (lastO (fun k => decide (valE (ebs es) t k ≤ m)) ((outsOf es b).take (j + 1)) = some ix) := Lib.hid (by rw [HTK.out]; exact lastO_yes (by simp [HVX.out, hle]))
          have hle2 : (vx : Int) ≤ (m : Int) := by omega
          clear hle
          go_wp2_with fail
          go_roundw
          case rel => exact ⟨j + 1, by omega, by go_num, by rw [HL2.out]; rfl, HBI.out.trans (xw.h.mono (by omega))⟩
          case measure => simp [intOf]; omega
        · have HL2 : Hid (lastO (fun k => decide (valE (ebs es) t k ≤ m)) ((outsOf es b).take (j + 1)) = lastO (fun k => decide (valE (ebs es) t k ≤ m)) ((outsOf es b).take j)) := Lib.hid (by rw [HTK.out]; exact lastO_no (by simp [HVX.out]; omega))
          have hle2 : ¬ ((vx : Int) ≤ (m : Int)) := by omega
          clear hle
          go_wp2_with fail
          go_roundw
          case rel => exact ⟨j + 1, by omega, by go_num, by rw [HL2.out], HBI.out.trans (xw.h.mono (by omega))⟩
          case measure => simp [intOf]; omega

end Go.Proofs.Ytghdjmjodgbghaa

namespace Go.Proofs.Ytghdjmjodgbghaa
open Go.RowKit

set_option maxRecDepth 100000 in
set_option maxHeartbeats 4000000 in
/-- spec.RunOf -/
theorem specRunOf_any (B : ByteArray) (A : Option Addr) (cap : Nat) (es : List (ByteArray × ByteArray)) (m : Int) (w : World) (hs : B.size ≤ maxLen) (hE : EdgesIn w w.heap.size A es) (hl : es.length ≤ 1099511627776) (hS : ∀ e ∈ es, e.1.size ≤ 1099511627776 ∧ e.2.size ≤ 1099511627776) :
    Calls Try.prog 28 #[.agg #[.string B, .slice A es.length cap], .int .i64 m] w (TextPost (runOfV B es m) w) := by
  have HL := Lib.hid hl; have HM := Lib.hid hs; have HS := Lib.hid hS
  clear hl hs hS
  have hb1 : Below w.heap.size w (w.alloc (.cells #[.string B, .slice A es.length cap] 29)) := (Below.refl _ _).alloc (Nat.le_refl _) _
  have t1 := Two.made w B A es.length cap 29
  have hz1 : (w.alloc (.cells #[.string B, .slice A es.length cap] 29)).heap.size = w.heap.size + 1 := by simp
  obtain ⟨v, hv⟩ : ∃ v, acycV B es = v := ⟨_, rfl⟩
  have FA : Hid (∀ W : World, EdgesIn W W.heap.size A es → Calls Try.prog 35 #[.agg #[.string B, .slice A es.length cap]] W fun e w' => e = .returned (.bool v) ∧ Below W.heap.size W w') := Lib.hid fun W h => by
    have := specIsAcyclic_any B A cap es W HM.out h HL.out HS.out
    rwa [hv] at this
  have x0 : ∀ x : After (w.alloc (.cells #[.string B, .slice A es.length cap] 29)), x.W.cell? ⟨w.heap.size, 0, none⟩ = some (.string B) := fun x => x.cell (by simp) t1.1
  have x1 : ∀ x : After (w.alloc (.cells #[.string B, .slice A es.length cap] 29)), x.W.cell? ⟨w.heap.size, 1, none⟩ = some (.slice A es.length cap) := fun x => x.cell (by simp) t1.2
  have xE : ∀ x : After (w.alloc (.cells #[.string B, .slice A es.length cap] 29)), EdgesIn x.W x.W.heap.size A es := fun x => ((hE.below hb1).below (x.h.mono hb1.size)).more (Nat.le_trans hb1.size x.h.size)
  have XE := Lib.hid xE; clear xE
  cases v with
  | false =>
    have HN : Hid (runOfV B es m = (⟨#[]⟩, false)) := Lib.hid (if_neg (by rw [hv]; simp))
    clear hv
    go_enter Try.func28, Try.ntmps28
    go_wp2_with fail
    refine wp_region_below (by kernel_rfl) (by kernel_rfl) ?_
    repeat (go_big_quiet_step ((go_at_call 35; exact After.call (FA.out _ (XE.out _)))))
    refine wpQuiet_nil ?_
    rintro _ ⟨x, rfl⟩
    clear x0 x1
    go_wp2_with fail
    go_ret2
    exact ⟨by rw [HN.out]; rfl, hb1.trans (x.h.mono hb1.size)⟩
  | true =>
    have hA := acy_v hv
    have hB1 := hA.F.one
    obtain ⟨q, hq⟩ : ∃ q, cntV B es (entry B.data.toList) = q := ⟨_, rfl⟩
    have hrn : runsV B es = q := (if_pos hv).trans hq
    have hqb := cntV_bound hA hA.F.ent
    rw [hq] at hqb
    have FC : Hid (∀ W : World, EdgesIn W W.heap.size A es → Calls Try.prog 36 #[.agg #[.string B, .slice A es.length cap], .string (B.extract 0 1)] W fun e w' => e = .returned (.int .i64 q) ∧ Below W.heap.size W w') := Lib.hid fun W h => by
      rw [hA.F.first, ← hq]; exact l4Count_any B A cap es _ W h hA HM.out hA.F.ent
    have z1 : IntKind.i64.wrap (q - 1) = q - 1 := IntWalk.i64_in _ (by omega)
    by_cases hin : 0 ≤ m ∧ m < q
    case neg =>
      have FI : Hid (∀ W : World, Calls Try.prog 55 #[.int .i64 m, .int .i64 0, .int .i64 (q - 1)] W fun e w' => e = .returned (.bool false) ∧ Below W.heap.size W w') := Lib.hid fun W => (l1In_any m 0 (q - 1) W).mono fun e w' h => by
        obtain ⟨h1, h2⟩ := h
        subst h2
        refine ⟨?_, Below.refl _ _⟩
        rw [h1]
        congr 2
        by_cases h0 : 0 ≤ m
        · have : ¬ (m ≤ q - 1) := by omega
          simp [this]
        · simp [h0]
      have HN : Hid (runOfV B es m = (⟨#[]⟩, false)) := Lib.hid (if_neg (by rw [hrn]; exact fun h => hin h.2))
      clear hv hin hA hq hrn
      go_enter Try.func28, Try.ntmps28
      go_wp2_with fail
      refine wp_region_below (by kernel_rfl) (by kernel_rfl) ?_
      repeat (go_big_quiet_step ((first
        | (go_at_call 35; exact After.call (FA.out _ (XE.out _)))
        | (go_at_call 36; exact After.call (FC.out _ (XE.out _)))
        | (go_at_call 55; exact After.call (FI.out _))
        | (go_at_call 37; exact After.call (l1Entry_any _ _ _ hB1 HM.out)))))
      refine wpQuiet_nil ?_
      rintro _ ⟨x, rfl⟩
      clear x0 x1
      go_wp2_with fail
      go_ret2
      exact ⟨by rw [HN.out]; rfl, hb1.trans (x.h.mono hb1.size)⟩
    have FI : Hid (∀ W : World, Calls Try.prog 55 #[.int .i64 m, .int .i64 0, .int .i64 (q - 1)] W fun e w' => e = .returned (.bool true) ∧ Below W.heap.size W w') := Lib.hid fun W => (l1In_any m 0 (q - 1) W).mono fun e w' h => by
      obtain ⟨h1, h2⟩ := h
      subst h2
      refine ⟨?_, Below.refl _ _⟩
      rw [h1]
      congr 2
      have h3 : m ≤ q - 1 := by omega
      simp [hin.1, h3]
    obtain ⟨m0, rfl⟩ : ∃ m0 : Nat, m = m0 := ⟨m.toNat, by omega⟩
    have HN : Hid (runOfV B es (m0 : Int) = (⟨(runE es (exit_ B.data.toList) 8 (entry B.data.toList) m0).toArray⟩, true)) := Lib.hid (if_pos ⟨hv, hin.1, by rw [hrn]; exact hin.2⟩)
    have FR : Hid (∀ W : World, EdgesIn W W.heap.size A es → Calls Try.prog 56 #[.agg #[.string B, .slice A es.length cap], .string (B.extract 0 1), .int .i64 (m0 : Int)] W
      fun e w' => e = .returned (.string ⟨(runE es (exit_ B.data.toList) 8 (entry B.data.toList) m0).toArray⟩) ∧ Below W.heap.size W w') := Lib.hid fun W h => by
      rw [hA.F.first]; exact l4Run_any B A cap m0 es W h hA HM.out (by omega)
    obtain ⟨rt, hrt⟩ : ∃ rt : ByteArray, (⟨(runE es (exit_ B.data.toList) 8 (entry B.data.toList) m0).toArray⟩ : ByteArray) = rt := ⟨_, rfl⟩
    rw [hrt] at HN FR
    clear hv hin hA hq hrn hrt
    go_enter Try.func28, Try.ntmps28
    go_wp2_with fail
    refine wp_region_below (by kernel_rfl) (by kernel_rfl) ?_
    repeat (go_big_quiet_step ((first
      | (go_at_call 35; exact After.call (FA.out _ (XE.out _)))
      | (go_at_call 36; exact After.call (FC.out _ (XE.out _)))
      | (go_at_call 55; exact After.call (FI.out _))
      | (go_at_call 37; exact After.call (l1Entry_any _ _ _ hB1 HM.out)))))
    refine wpQuiet_nil ?_
    rintro _ ⟨x, rfl⟩
    clear x0 x1 XE
    obtain ⟨w2, hw2⟩ : ∃ w2, x.W = w2 := ⟨_, rfl⟩
    have hb2 := x.h
    rw [hw2] at hb2 ⊢
    clear hw2 x
    have t2 := t1.below hb2 (by omega)
    have hb2' := hb1.trans (hb2.mono hb1.size)
    have hz2 : w.heap.size + 1 ≤ w2.heap.size := by have := hb2.size; omega
    clear hb2 t1 hz1 hb1
    go_wp2_with fail
    have x0 : ∀ x : After w2, x.W.cell? ⟨w.heap.size, 0, none⟩ = some (.string B) := fun x => x.cell (by simp only; omega) t2.1
    have x1 : ∀ x : After w2, x.W.cell? ⟨w.heap.size, 1, none⟩ = some (.slice A es.length cap) := fun x => x.cell (by simp only; omega) t2.2
    have xE : ∀ x : After w2, EdgesIn x.W x.W.heap.size A es := fun x => ((hE.below hb2').below (x.h.mono hb2'.size)).more (Nat.le_trans hb2'.size x.h.size)
    have XE := Lib.hid xE; clear xE t2
    refine wp_region_below (by kernel_rfl) (by kernel_rfl) ?_
    repeat (go_big_quiet_step ((first
      | (go_at_call 56; exact After.call (FR.out _ (XE.out _)))
      | (go_at_call 37; exact After.call (l1Entry_any _ _ _ hB1 HM.out)))))
    refine wpQuiet_nil ?_
    rintro _ ⟨x, rfl⟩
    clear x0 x1
    go_wp2_with fail
    go_ret2
    exact ⟨by rw [HN.out]; rfl, hb2'.trans (x.h.mono hb2'.size)⟩

end Go.Proofs.Ytghdjmjodgbghaa

namespace Go.Proofs.Ytghdjmjodgbghaa
open Go.RowKit Go.Shelf
attribute [local go_sem] Oper.semAt_some

/-- what a round is handed -/
def encsT (x : ByteArray) : Array Value := #[.string x]
/-- the run of a number, as a text -/
def runT (B : ByteArray) (es : List (ByteArray × ByteArray)) (m : Nat) : ByteArray := ⟨(runE es (exit_ B.data.toList) 8 (entry B.data.toList) m).toArray⟩
theorem edges_keep {w W' : World} {M : Nat} {A : Option Addr} {es : List (ByteArray × ByteArray)} (h : EdgesIn w M A es) (k : ∀ b, b < M → W'.heap[b]? = w.heap[b]?) : EdgesIn W' M A es := by
  intro i hi
  obtain ⟨b, o, e, hl, h1, h2⟩ := h i hi
  exact ⟨b, o, e, hl, (World.cell?_of_block (k b hl)).trans h1, (World.cell?_of_block (k b hl)).trans h2⟩

set_option maxRecDepth 100000 in
set_option maxHeartbeats 4000000 in
/-- impl.runsBehind$1 -/
theorem runs_run (B : ByteArray) (A : Option Addr) (cap cnt m : Nat) (es : List (ByteArray × ByteArray)) (w : World) (hs : B.size ≤ maxLen) (hl : es.length ≤ 1099511627776) (hS : ∀ e ∈ es, e.1.size ≤ 1099511627776 ∧ e.2.size ≤ 1099511627776) (hv : acycV B es = true)
    (hcnt : runsV B es = (cnt : Int)) (hcb : cnt ≤ 268435456) (hm : m ≤ 1099511627776) (g1 g2 L : Nat) (hE : EdgesIn w w.heap.size A es) (h1 : Two w g1 B A es.length cap) (h2 : w.cell? ⟨g2, 0, none⟩ = some (.int .i64 (m : Int))) (hg1 : g1 < w.heap.size) (hg2 : g2 < w.heap.size) (hL : w.heap.size ≤ L) :
    SeqRun Fence.wide 4 Try.prog 86 #[.pointer (some ⟨g1, 0, none⟩), .pointer (some ⟨g2, 0, none⟩)] encsT (KeepBut L L)
      (fun xs => xs.length = cnt - (m + 1)) (fun pre => pre[0]? = some (runT B es (m + 1)) ∧ m + 1 < cnt) (cnt + 1) w L := by
  intro J Jx W hbW hlW hJ hJx hY h0
  refine callsIn_of_wp Try.func86 rfl trivial ?_ rfl
  simp only [Try.ntmps86, List.size_toArray, List.length_cons, List.length_nil, Nat.reduceAdd, Nat.reduceSub, Array.replicate_succ, Array.replicate_zero, List.push_toArray, List.append_toArray, List.nil_append, List.cons_append]
  have FC : Hid (∀ W : World, EdgesIn W W.heap.size A es → Calls Try.prog 14 #[.agg #[.string B, .slice A es.length cap]] W fun e w' => e = .returned (.int .i64 (cnt : Int)) ∧ Below W.heap.size W w') := Lib.hid fun W h => by
    rw [← hcnt]; exact implCountRuns_any B A cap es W hs h hl hS
  have FR : Hid (∀ i : Nat, i ≤ 268435456 → ∀ W : World, EdgesIn W W.heap.size A es → Calls Try.prog 57 #[.agg #[.string B, .slice A es.length cap], .int .i64 (i : Int)] W
      fun e w' => e = .returned (.string (runT B es i)) ∧ Below W.heap.size W w') := Lib.hid fun i hi W h => runAt_any B A cap i es W hs h hv (by omega)
  have HS := Lib.hid hS; have HM := Lib.hid hs
  have t1 := h1.below hbW hg1
  have c0 := t1.1; have c1 := t1.2
  have c2 := (hbW.cell (p := ⟨g2, 0, none⟩) hg2).trans h2
  have hEW := hE.below hbW
  have hzW := hbW.size
  have z1 : IntKind.i64.wrap ((m : Int) + 1) = (m : Int) + 1 := IntWalk.i64_in _ (by omega)
  have HY := Lib.hid hY; have HJ := Lib.hid hJ; have HT1 := Lib.hid t1; have HEW := Lib.hid hEW
  clear hY hJ hS hs t1 hEW h1 h2 hcnt hv
  gi_wp2_with (refine ⟨trivial, ?_⟩; gi_at_call 14; refine (callsIn_wide.2 (FC.out _ (HEW.out.more hzW))).mono ?_; rintro e w2 ⟨rfl, hb2⟩; have hd2 := (hb2.cell (p := ⟨g2, 0, none⟩) (by simp only; omega)).trans c2)
  have hJ2 : J [] w2 := HJ.out _ _ _ h0 hb2
  have hk2 : KeepBut L L W w2 := KeepBut.below hb2 (Nat.le_refl _)
  clear h0 hb2 hd2 c0 c1 c2
  gi_loopw [5] (fun v wr => ∃ (pre : List ByteArray) (q : Nat), v = .int .i64 (q : Int) ∧ q = m + 1 + pre.length ∧ pre.length ≤ cnt - (m + 1) ∧ (0 < pre.length → pre[0]? = some (runT B es (m + 1)) ∧ m + 1 < cnt) ∧ J pre wr ∧ KeepBut L L W wr)
    (fun v _ => cnt - (intOf v).toNat)
  case atStart => exact ⟨[], m + 1, by go_num, by simp, by simp, fun h => absurd h (by simp), hJ2, hk2⟩
  case round =>
    clear hJ2 hk2
    obtain ⟨pre, q, rfl, hq, hlen, hfst, hJw, hk⟩ := hrel
    have HQ := Lib.hid hq; have HF := Lib.hid hfst; have HK := Lib.hid hk; have HLEN := Lib.hid hlen
    by_cases hlt : q < cnt
    case neg =>
      have hqi : ¬ ((q : Int) < (cnt : Int)) := by omega
      clear hfst hk
      gi_wp2
      go_end0
      exact ⟨⟨_, rfl⟩, .inl ⟨pre, by have := HQ.out; have := HLEN.out; omega, hJw⟩⟩
    have hqi : (q : Int) < (cnt : Int) := by omega
    have z2 : IntKind.i64.wrap ((q : Int) + 1) = (q : Int) + 1 := IntWalk.i64_in _ (by omega)
    have hkb : ∀ b, b < w.heap.size → wr.heap[b]? = W.heap[b]? := fun b hb => hk.2 b (by omega) (by omega) (by omega)
    have d0 := (World.cell?_of_block (a := ⟨g1, 0, none⟩) (hkb g1 hg1)).trans HT1.out.1
    have d1 := (World.cell?_of_block (a := ⟨g1, 1, none⟩) (hkb g1 hg1)).trans HT1.out.2
    have hEr := edges_keep HEW.out hkb
    have hzr := hk.1
    have HER := Lib.hid (hEr.more (show w.heap.size ≤ wr.heap.size by omega))
    obtain ⟨rt, hrt⟩ : ∃ rt, runT B es q = rt := ⟨_, rfl⟩
    have FRq := FR.out q (by omega) wr HER.out
    rw [hrt] at FRq
    have HFR := Lib.hid FRq
    have HRT := Lib.hid hrt
    have HLT := Lib.hid hlt
    have hN : pre.length < cnt + 1 := by omega
    clear hfst hk hq hlen hEr FRq hrt hkb hlt
    gi_wp2_with (
      refine ⟨trivial, ?_⟩
      gi_at_call 57
      refine (callsIn_wide.2 HFR.out).mono ?_
      rintro e w5 ⟨rfl, hb5⟩
      obtain ⟨fn, tmps, assign, body, hy, hR⟩ := HY.out pre rt w5 (HJ.out _ _ _ hJw (hb5.mono hzr)) hN
      dsimp only [encsT] at hy)
    have HK5 : Hid (KeepBut L L W w5) := Lib.hid (HK.out.trans (KeepBut.below hb5 (Nat.le_refl _)))
    have HHEAD : Hid ((pre ++ [rt])[0]? = some (runT B es (m + 1)) ∧ m + 1 < cnt) := Lib.hid (by
      have h1 := HQ.out; have h2 := HLT.out
      refine ⟨?_, by omega⟩
      rcases Nat.eq_zero_or_pos pre.length with h0 | h0
      · have hp : pre = [] := List.eq_nil_of_length_eq_zero h0
        subst hp
        have hqm : q = m + 1 := by simpa using h1
        rw [← HRT.out, hqm]; rfl
      · rw [List.getElem?_append_left h0]
        exact (HF.out h0).1)
    clear hb5 d0 d1
    refine hR.mono ?_
    clear hR hy
    rintro e W3 (⟨rfl, hJ3, hk3⟩ | ⟨rfl, hJx3, _⟩)
    · gi_wp2
      go_roundw
      case rel => exact ⟨pre ++ [rt], q + 1, by go_num, by have := HQ.out; simp; omega, by have := HQ.out; have := HLT.out; simp; omega, fun _ => HHEAD.out, hJ3, HK5.out.trans hk3⟩
      case measure => simp [intOf]; have := HLT.out; omega
    · gi_wp2
      refine bodyPost_ret (results_none rfl _ _ _) rfl ?_
      exact ⟨⟨_, rfl⟩, .inr ⟨pre ++ [rt], HHEAD.out, hJx3⟩⟩

end Go.Proofs.Ytghdjmjodgbghaa

namespace Go.Proofs.Ytghdjmjodgbghaa
open Go.RowKit Go.Shelf
attribute [local go_sem] Oper.semAt_some

/-- impl.runsBehind -/
theorem runsBehind_any (B : ByteArray) (A : Option Addr) (n cap : Nat) (m : Int) (w : World) :
    Calls Try.prog 61 #[.agg #[.string B, .slice A n cap], .int .i64 m] w fun e w' => e = .returned (.func (.func 86) #[] #[.pointer (some ⟨w.heap.size, 0, none⟩), .pointer (some ⟨w.heap.size + 1, 0, none⟩)]) ∧
      (w.alloc (.cells #[.string B, .slice A n cap] 29)).alloc (.cells #[.int .i64 m] 3) = w' := by
  go_enter Try.func61, Try.ntmps61
  go_wp2
  go_ret
  exact ⟨rfl, rfl⟩

/-- the run behind a run, or none -/
noncomputable def nextV (B : ByteArray) (es : List (ByteArray × ByteArray)) (b : ByteArray) : ByteArray × Bool :=
  if numberV B es b < 0 then (⟨#[]⟩, false) else runOfV B es (numberV B es b + 1)

theorem numberV_few (B : ByteArray) (es : List (ByteArray × ByteArray)) (b : ByteArray) : numberV B es b ≤ 1099511627776 ∧ (¬ numberV B es b < 0 → acycV B es = true) := by
  unfold numberV
  split
  · rename_i h
    refine ⟨?_, fun _ => h.1⟩
    have hA := acy_v h.1
    have h16 := hA.F.few
    have hpo := (decB_iff.1 (decB_iff.1 h.2).1).2
    have hpz : b.data.toList.length ≤ 60 := hpo.1
    have hz := numE_few hA (named_of_path h16 hpo) b.data.toList.length (Nat.le_refl _)
    rw [List.take_of_length_le (Nat.le_refl _)] at hz
    have hz2 : b.data.toList.length * 4294967296 ≤ 60 * 4294967296 := Nat.mul_le_mul_right _ hpz
    omega
  · exact ⟨by omega, fun h => absurd h (by simp)⟩

set_option maxRecDepth 100000 in
set_option maxHeartbeats 4000000 in
/-- impl.NextRun -/
theorem implNextRun_any (B : ByteArray) (A : Option Addr) (cap : Nat) (es : List (ByteArray × ByteArray)) (b : ByteArray) (w : World) (hs : B.size ≤ maxLen) (hE : EdgesIn w w.heap.size A es) (hl : es.length ≤ 1099511627776) (hS : ∀ e ∈ es, e.1.size ≤ 1099511627776 ∧ e.2.size ≤ 1099511627776) (hbz : b.size ≤ 1099511627776) :
    Calls Try.prog 33 #[.agg #[.string B, .slice A es.length cap], .string b] w (TextPost (nextV B es b) w) := by
  refine (callsIn_wide (n := 5)).1 ?_
  refine callsIn_of_wp_marks Try.func33 rfl trivial ?_ rfl
  simp only [Try.ntmps33, List.size_toArray, List.length_cons, List.length_nil, Nat.reduceAdd, Nat.reduceSub, Array.replicate_succ, Array.replicate_zero, List.push_toArray, List.append_toArray, List.nil_append, List.cons_append]
  have HL := Lib.hid hl; have HM := Lib.hid hs; have HS := Lib.hid hS
  obtain ⟨q, hq⟩ : ∃ q, numberV B es b = q := ⟨_, rfl⟩
  have hfew := numberV_few B es b
  rw [hq] at hfew
  have FN : Hid (∀ W : World, EdgesIn W W.heap.size A es → Calls Try.prog 27 #[.agg #[.string B, .slice A es.length cap], .string b] W fun e w' => e = .returned (.int .i64 q) ∧ Below W.heap.size W w') := Lib.hid fun W h => by
    rw [← hq]; exact implNumberOf_any B A cap es b W hs h hl hS hbz
  have HNX : Hid (nextV B es b = if q < 0 then (⟨#[]⟩, false) else runOfV B es (q + 1)) := Lib.hid (by unfold nextV; rw [hq])
  obtain ⟨W0, hW0⟩ : ∃ W0, ((w.alloc (.cells #[.string B, .slice A es.length cap] 29)).alloc (.cells #[.string ⟨#[]⟩] 9)).alloc (.cells #[.bool false] 4) = W0 := ⟨_, rfl⟩
  have hW3 : W0.heap.size = w.heap.size + 3 := by rw [← hW0]; simp
  have hbB : Below w.heap.size w W0 := by rw [← hW0]; exact (((Below.refl _ w).alloc (Nat.le_refl _) _).alloc (by simp) _).alloc (by simp; omega) _
  have hc1 : W0.heap[w.heap.size + 1]? = some (.cells #[.string ⟨#[]⟩] 9 (0, 0)) := by
    rw [← hW0]
    exact alloc_old _ _ (alloc_at _ _ (by simp))
  have hc2 : W0.heap[w.heap.size + 1 + 1]? = some (.cells #[.bool false] 4 (0, 0)) := by
    rw [← hW0]
    exact alloc_at _ _ (by simp)
  have ht0 : Two W0 w.heap.size B A es.length cap := by
    rw [← hW0]
    exact (Two.made w B A es.length cap 29).below (B0 := w.heap.size + 1) (((Below.refl _ _).alloc (by simp) _).alloc (by simp) _) (by omega)
  have hd0 := ht0.1; have hd1 := ht0.2
  have HT0 := Lib.hid ht0; have HB0 := Lib.hid hbB; have HC1 := Lib.hid hc1; have HC2 := Lib.hid hc2
  clear hs hS hq ht0 hc1 hc2
  by_cases hq0 : q < 0
  · have HN : Hid (nextV B es b = (⟨#[]⟩, false)) := Lib.hid (by rw [HNX.out, if_pos hq0])
    clear hfew
    gi_wp2_with (
      refine ⟨trivial, ?_⟩
      gi_at_call 27
      refine (callsIn_wide.2 (FN.out _ ((hE.below hbB).more hbB.size))).mono ?_
      rintro e w1 ⟨rfl, hb1⟩
      have k1 := (hb1.block (w.heap.size + 1) (by omega)).trans HC1.out
      have k2 := (hb1.block (w.heap.size + 1 + 1) (by omega)).trans HC2.out
      have k1c : w1.cell? ⟨w.heap.size + 1, 0, none⟩ = some (.string ⟨#[]⟩) := by simp [World.cell?, k1]
      have k1f : w1.frozen? ⟨w.heap.size + 1, 0, none⟩ = false := by simp [World.frozen?, k1]
      have k2c : w1.cell? ⟨w.heap.size + 1 + 1, 0, none⟩ = some (.bool false) := by simp [World.cell?, k2]
      have k2f : w1.frozen? ⟨w.heap.size + 1 + 1, 0, none⟩ = false := by simp [World.frozen?, k2]
      have t1 := HT0.out.below hb1 (by omega)
      have u0 := t1.1; have u1 := t1.2
      have hb1' := HB0.out.trans (hb1.mono HB0.out.size)
      have hz1 := hb1.size
      have K1 := Lib.hid k1; have K2 := Lib.hid k2; have HT1 := Lib.hid t1
      clear k1 k2 t1)
    have hbw := (hb1'.setCell (p := ⟨w.heap.size + 1, 0, none⟩) (by simp only; omega) (.string ⟨#[]⟩)).setCell (p := ⟨w.heap.size + 1 + 1, 0, none⟩) (by simp only; omega) (.bool false)
    have e1 : ((w1.setCell ⟨w.heap.size + 1, 0, none⟩ (.string ⟨#[]⟩)).setCell ⟨w.heap.size + 1 + 1, 0, none⟩ (.bool false)).cell? ⟨w.heap.size + 1, 0, none⟩ = some (.string ⟨#[]⟩) :=
      (World.cell?_setCell_other _ _ _ _ (by intro h; injection h with h; omega)).trans (World.cell?_setCell_same' _ _ _ (by rw [k1c]; rfl))
    have e2 : ((w1.setCell ⟨w.heap.size + 1, 0, none⟩ (.string ⟨#[]⟩)).setCell ⟨w.heap.size + 1 + 1, 0, none⟩ (.bool false)).cell? ⟨w.heap.size + 1 + 1, 0, none⟩ = some (.bool false) :=
      World.cell?_setCell_same' _ _ _ (by rw [World.cell?_setCell_other _ _ _ _ (by intro h; injection h with h; omega), k2c]; rfl)
    refine ⟨.tuple #[.string ⟨#[]⟩, .bool false], by simp [results, Try.results33, go_sem, e1, e2], ?_⟩
    exact ⟨by rw [HN.out], hbw⟩
  have hv : acycV B es = true := hfew.2 hq0
  obtain ⟨m, rfl⟩ : ∃ m : Nat, q = m := ⟨q.toNat, by omega⟩
  have hmf := hfew.1
  clear hfew
  gi_wp2_with (
      refine ⟨trivial, ?_⟩
      gi_at_call 27
      refine (callsIn_wide.2 (FN.out _ ((hE.below hbB).more hbB.size))).mono ?_
      rintro e w1 ⟨rfl, hb1⟩
      have k1 := (hb1.block (w.heap.size + 1) (by omega)).trans HC1.out
      have k2 := (hb1.block (w.heap.size + 1 + 1) (by omega)).trans HC2.out
      have k1c : w1.cell? ⟨w.heap.size + 1, 0, none⟩ = some (.string ⟨#[]⟩) := by simp [World.cell?, k1]
      have k1f : w1.frozen? ⟨w.heap.size + 1, 0, none⟩ = false := by simp [World.frozen?, k1]
      have k2c : w1.cell? ⟨w.heap.size + 1 + 1, 0, none⟩ = some (.bool false) := by simp [World.cell?, k2]
      have k2f : w1.frozen? ⟨w.heap.size + 1 + 1, 0, none⟩ = false := by simp [World.frozen?, k2]
      have t1 := HT0.out.below hb1 (by omega)
      have u0 := t1.1; have u1 := t1.2
      have hb1' := HB0.out.trans (hb1.mono HB0.out.size)
      have hz1 := hb1.size
      have K1 := Lib.hid k1; have K2 := Lib.hid k2; have HT1 := Lib.hid t1
      clear k1 k2 t1)
  refine ⟨trivial, (callsIn_wide.2 (runsBehind_any B A es.length cap _ _)).mono ?_⟩
  rintro e W2 ⟨rfl, hW2⟩
  have hB2 : Below w1.heap.size w1 W2 := by rw [← hW2]; exact ((Below.refl _ _).alloc (Nat.le_refl _) _).alloc (by simp) _
  have hz2 : W2.heap.size = w1.heap.size + 2 := by rw [← hW2]; simp
  have hT2 : Two W2 w1.heap.size B A es.length cap := by
    rw [← hW2]
    exact (Two.made w1 B A es.length cap 29).below (B0 := w1.heap.size + 1) ((Below.refl _ _).alloc (by simp) _) (by omega)
  have hN2 : W2.cell? ⟨w1.heap.size + 1, 0, none⟩ = some (.int .i64 (m : Int)) := by
    rw [← hW2]
    have := (World.rowIs_alloc (w1.alloc (.cells #[.string B, .slice A es.length cap] 29)) #[.int .i64 (m : Int)] 3 (fun _ => .int .i64 (m : Int)) (fun i hi => by
      match i, hi with
      | 0, _ => rfl)).cell (i := 0) (by show 0 < 1; omega)
    rwa [World.size_alloc] at this
  clear hW2 u0 u1 k1c k1f k2c k2f hd0 hd1
  gi_wp2
  obtain ⟨cnt, hcnt⟩ : ∃ cnt : Nat, runsV B es = (cnt : Int) := ⟨cntE (ebs es) (exit_ B.data.toList) (entry B.data.toList), if_pos hv⟩
  have hcb : cnt ≤ 268435456 := by
    have hA := acy_v hv
    have h2 := (cntV_bound hA hA.F.ent).2
    have : runsV B es = cntV B es (entry B.data.toList) := if_pos hv
    omega
  have hrun := runs_run B A cap cnt m es W2 HM.out hl HS.out hv hcnt hcb (by omega) w1.heap.size (w1.heap.size + 1) (W2.heap.size + 1)
    (((hE.below hb1').below (hB2.mono hb1'.size)).more (Nat.le_trans hb1'.size hB2.size)) hT2 hN2 (by omega) (by omega) (by omega)
  have HCL : Hid (w.heap.size + 1 + 1 < W2.heap.size) := Lib.hid (by omega)
  have hbw2 := hb1'.trans (hB2.mono hb1'.size)
  have hI0 : ([] : List ByteArray) = [] ∧ W2.heap[w.heap.size + 1]? = some (.cells #[.string ⟨#[]⟩] 9 (0, 0)) ∧ W2.heap[w.heap.size + 1 + 1]? = some (.cells #[.bool false] 4 (0, 0)) ∧ Below w.heap.size w W2 :=
    ⟨rfl, (hB2.block _ (by omega)).trans K1.out, (hB2.block _ (by omega)).trans K2.out, hbw2⟩
  refine wpIn_range_run rfl (by decide) (gf := 86) (lb := #[.pointer (some ⟨w1.heap.size, 0, none⟩), .pointer (some ⟨w1.heap.size + 1, 0, none⟩)]) rfl trivial (enters_of Try.func86 (by kernel_rfl) rfl) hrun
    (fun h k => h.trans k) (fun W o o' h => KeepBut.put h) (Below.refl _ _) (fun _ => rfl)
    (fun pre W => pre = [] ∧ W.heap[w.heap.size + 1]? = some (.cells #[.string ⟨#[]⟩] 9 (0, 0)) ∧ W.heap[w.heap.size + 1 + 1]? = some (.cells #[.bool false] 4 (0, 0)) ∧ Below w.heap.size w W)
    (fun _ pre W => ∃ x, pre[0]? = some x ∧ W.heap[w.heap.size + 1]? = some (.cells #[.string x] 9 (0, 0)) ∧ W.heap[w.heap.size + 1 + 1]? = some (.cells #[.bool true] 4 (0, 0)) ∧ Below w.heap.size w W)
    (fun s A A' h hb => ⟨h.1, (hb.block _ (by have := HCL.out; omega)).trans h.2.1, (hb.block _ (by have := HCL.out; omega)).trans h.2.2.1, h.2.2.2.trans (hb.mono (by have := HCL.out; omega))⟩)
    (fun _ s A A' h hb => by
      obtain ⟨x, g1, g2, g3, g4⟩ := h
      exact ⟨x, g1, (hb.block _ (by have := HCL.out; omega)).trans g2, (hb.block _ (by have := HCL.out; omega)).trans g3, g4.trans (hb.mono (by have := HCL.out; omega))⟩) hI0
    (fun x => { tmps := #[.agg #[.string B, .slice A es.length cap], .string b, .pointer (some ⟨w.heap.size, 0, none⟩), undef, .pointer (some ⟨w.heap.size + 1, 0, none⟩), .pointer (some ⟨w.heap.size + 1 + 1, 0, none⟩), .int .i64 (m : Int), .string x,
      .agg #[.string B, .slice A es.length cap], .string b, .int .i64 (m : Int), .int .i64 (m : Int), .bool (decide ((m : Int) < 0)), .agg #[.string B, .slice A es.length cap], .int .i64 (m : Int),
      .func (.func 86) #[] #[.pointer (some ⟨w1.heap.size, 0, none⟩), .pointer (some ⟨w1.heap.size + 1, 0, none⟩)], .string x, undef], defers := [] }) ?assign ?body ?done ?stop
  case assign =>
    intro l x W K hK
    gi_wp2
    simpa [encsT] using hK
  case body =>
    rintro l pre x W ⟨rfl, hc1, hc2, hb⟩ _ _
    have k1c : W.cell? ⟨w.heap.size + 1, 0, none⟩ = some (.string ⟨#[]⟩) := by simp [World.cell?, hc1]
    have k1f : W.frozen? ⟨w.heap.size + 1, 0, none⟩ = false := by simp [World.frozen?, hc1]
    have k2c : W.cell? ⟨w.heap.size + 1 + 1, 0, none⟩ = some (.bool false) := by simp [World.cell?, hc2]
    have k2f : W.frozen? ⟨w.heap.size + 1 + 1, 0, none⟩ = false := by simp [World.frozen?, hc2]
    have HC1 := Lib.hid hc1; have HC2 := Lib.hid hc2
    clear hc1 hc2
    gi_wp2
    refine ⟨(KeepsOthers.setCell _ _ _).trans (KeepsOthers.setCell _ _ _), Nat.le_of_eq (by simp [World.setCell]), x, rfl, ?_, ?_, (hb.setCell (by simp only; omega) _).setCell (by simp only; omega) _⟩
    · refine (Below.heap_setCell _ _ _ _ (by simp only; omega)).trans ?_
      simp [World.setCell, Array.getElem?_modify, HC1.out]
    · have e : (W.setCell ⟨w.heap.size + 1, 0, none⟩ (.string x)).heap[w.heap.size + 1 + 1]? = W.heap[w.heap.size + 1 + 1]? := Below.heap_setCell _ _ _ _ (by simp only; omega)
      rw [HC2.out] at e
      obtain ⟨W', hW'⟩ : ∃ W', W.setCell ⟨w.heap.size + 1, 0, none⟩ (.string x) = W' := ⟨_, rfl⟩
      rw [hW'] at e ⊢
      simp [World.setCell, Array.getElem?_modify, e]
  case done =>
    rintro D xs W hD hxl ⟨rfl, hc1, hc2, hb⟩ hK
    have HN : Hid (nextV B es b = (⟨#[]⟩, false)) := Lib.hid (by
      rw [HNX.out, if_neg (by omega)]
      refine if_neg fun h => ?_
      have h3 := h.2.2
      rw [hcnt] at h3
      simp at hxl
      omega)
    have k1c : W.cell? ⟨w.heap.size + 1, 0, none⟩ = some (.string ⟨#[]⟩) := by simp [World.cell?, hc1]
    have k1f : W.frozen? ⟨w.heap.size + 1, 0, none⟩ = false := by simp [World.frozen?, hc1]
    have k2c : W.cell? ⟨w.heap.size + 1 + 1, 0, none⟩ = some (.bool false) := by simp [World.cell?, hc2]
    have k2f : W.frozen? ⟨w.heap.size + 1 + 1, 0, none⟩ = false := by simp [World.frozen?, hc2]
    have HK := Lib.hid hK
    clear hc1 hc2 hxl hK
    gi_wp2
    have hbw := (hb.setCell (p := ⟨w.heap.size + 1, 0, none⟩) (by simp only; omega) (.string ⟨#[]⟩)).setCell (p := ⟨w.heap.size + 1 + 1, 0, none⟩) (by simp only; omega) (.bool false)
    have e1 : ((W.setCell ⟨w.heap.size + 1, 0, none⟩ (.string ⟨#[]⟩)).setCell ⟨w.heap.size + 1 + 1, 0, none⟩ (.bool false)).cell? ⟨w.heap.size + 1, 0, none⟩ = some (.string ⟨#[]⟩) :=
      (World.cell?_setCell_other _ _ _ _ (by intro h; injection h with h; omega)).trans (World.cell?_setCell_same' _ _ _ (by rw [k1c]; rfl))
    have e2 : ((W.setCell ⟨w.heap.size + 1, 0, none⟩ (.string ⟨#[]⟩)).setCell ⟨w.heap.size + 1 + 1, 0, none⟩ (.bool false)).cell? ⟨w.heap.size + 1 + 1, 0, none⟩ = some (.bool false) :=
      World.cell?_setCell_same' _ _ _ (by rw [World.cell?_setCell_other _ _ _ _ (by intro h; injection h with h; omega), k2c]; rfl)
    have hKS : ((W.setCell ⟨w.heap.size + 1, 0, none⟩ (.string ⟨#[]⟩)).setCell ⟨w.heap.size + 1 + 1, 0, none⟩ (.bool false)).heap[D]? = some (.deferred (some [])) :=
      ((Below.heap_setCell _ _ _ _ (by have := HCL.out; simp only; omega)).trans (Below.heap_setCell _ _ _ _ (by have := HCL.out; simp only; omega))).trans HK.out
    have hcP1 : ∀ o, (((W.setCell ⟨w.heap.size + 1, 0, none⟩ (.string ⟨#[]⟩)).setCell ⟨w.heap.size + 1 + 1, 0, none⟩ (.bool false)).putObj D o).cell? ⟨w.heap.size + 1, 0, none⟩ = some (.string ⟨#[]⟩) := fun o => (World.cell?_of_block (World.putObj_heap_other (by have := HCL.out; simp only; omega))).trans e1
    have hcP2 : ∀ o, (((W.setCell ⟨w.heap.size + 1, 0, none⟩ (.string ⟨#[]⟩)).setCell ⟨w.heap.size + 1 + 1, 0, none⟩ (.bool false)).putObj D o).cell? ⟨w.heap.size + 1 + 1, 0, none⟩ = some (.bool false) := fun o => (World.cell?_of_block (World.putObj_heap_other (by have := HCL.out; simp only; omega))).trans e2
    refine ⟨by simp, .inl ⟨_, _, rfl, run_takeDeferred hKS, ?_⟩⟩
    refine ⟨.tuple #[.string ⟨#[]⟩, .bool false], by simp [results, Try.results33, go_sem, hcP1, hcP2], ?_⟩
    exact ⟨by rw [HN.out], hbw.trans (below_put hKS (by have := HCL.out; omega))⟩
  case stop =>
    rintro D pre W hD ⟨hp1, hlt⟩ ⟨x, hx, hc1, hc2, hb⟩ hK
    have HN : Hid (nextV B es b = (x, true)) := Lib.hid (by
      rw [HNX.out, if_neg (by omega)]
      rw [hp1] at hx
      injection hx with hx
      have h4 : runOfV B es ((m : Int) + 1) = (⟨(runE es (exit_ B.data.toList) 8 (entry B.data.toList) ((m : Int) + 1).toNat).toArray⟩, true) := if_pos ⟨hv, by omega, by rw [hcnt]; omega⟩
      rw [h4, ← hx]
      rfl)
    have k1c : W.cell? ⟨w.heap.size + 1, 0, none⟩ = some (.string x) := by simp [World.cell?, hc1]
    have k2c : W.cell? ⟨w.heap.size + 1 + 1, 0, none⟩ = some (.bool true) := by simp [World.cell?, hc2]
    have HK := Lib.hid hK
    clear hc1 hc2 hx hp1 hlt hK
    gi_wp2
    have hcP1 : ∀ o, (W.putObj D o).cell? ⟨w.heap.size + 1, 0, none⟩ = some (.string x) := fun o => (World.cell?_of_block (World.putObj_heap_other (by have := HCL.out; simp only; omega))).trans k1c
    have hcP2 : ∀ o, (W.putObj D o).cell? ⟨w.heap.size + 1 + 1, 0, none⟩ = some (.bool true) := fun o => (World.cell?_of_block (World.putObj_heap_other (by have := HCL.out; simp only; omega))).trans k2c
    refine ⟨by simp, .inl ⟨_, _, rfl, run_takeDeferred HK.out, ?_⟩⟩
    refine ⟨.tuple #[.string x, .bool true], by simp [results, Try.results33, go_sem, hcP1, hcP2], ?_⟩
    exact ⟨by rw [HN.out], hb.trans (below_put HK.out (by have := HCL.out; omega))⟩

end Go.Proofs.Ytghdjmjodgbghaa

namespace Go.Proofs.Ytghdjmjodgbghaa
open Go.RowKit

set_option maxRecDepth 100000 in
set_option maxHeartbeats 4000000 in
/-- spec.NextRun -/
theorem specNextRun_any (B : ByteArray) (A : Option Addr) (cap : Nat) (es : List (ByteArray × ByteArray)) (b : ByteArray) (w : World) (hs : B.size ≤ maxLen) (hE : EdgesIn w w.heap.size A es) (hl : es.length ≤ 1099511627776) (hS : ∀ e ∈ es, e.1.size ≤ 1099511627776 ∧ e.2.size ≤ 1099511627776) (hbz : b.size ≤ 1099511627776) :
    Calls Try.prog 32 #[.agg #[.string B, .slice A es.length cap], .string b] w (TextPost (nextV B es b) w) := by
  have hb1 : Below w.heap.size w (w.alloc (.cells #[.string B, .slice A es.length cap] 29)) := (Below.refl _ _).alloc (Nat.le_refl _) _
  have t1 := Two.made w B A es.length cap 29
  have hz1 : (w.alloc (.cells #[.string B, .slice A es.length cap] 29)).heap.size = w.heap.size + 1 := by simp
  obtain ⟨q, hq⟩ : ∃ q, numberV B es b = q := ⟨_, rfl⟩
  have hfew := (numberV_few B es b).1
  rw [hq] at hfew
  have FN : Hid (∀ W : World, EdgesIn W W.heap.size A es → Calls Try.prog 26 #[.agg #[.string B, .slice A es.length cap], .string b] W fun e w' => e = .returned (.int .i64 q) ∧ Below W.heap.size W w') := Lib.hid fun W h => by
    rw [← hq]; exact specNumberOf_any B A cap es b W hs h hl hS hbz
  have HNX : Hid (nextV B es b = if q < 0 then (⟨#[]⟩, false) else runOfV B es (q + 1)) := Lib.hid (by unfold nextV; rw [hq])
  by_cases hq0 : q < 0
  · have HN : Hid (nextV B es b = (⟨#[]⟩, false)) := Lib.hid (by rw [HNX.out, if_pos hq0])
    clear hs hS hq hfew
    go_enter Try.func32, Try.ntmps32
    go_wp2_with fail
    refine (FN.out _ ((hE.below hb1).more hb1.size)).mono ?_
    rintro e w2 ⟨rfl, hb2⟩
    have hb2' := hb1.trans (hb2.mono hb1.size)
    clear hb2 t1
    go_wp2_with fail
    go_ret2
    exact ⟨by rw [HN.out]; rfl, hb2'⟩
  obtain ⟨rt, ro, hr⟩ : ∃ rt ro, runOfV B es (q + 1) = (rt, ro) := ⟨_, _, rfl⟩
  have HN : Hid (nextV B es b = (rt, ro)) := Lib.hid (by rw [HNX.out, if_neg hq0, hr])
  have z1 : IntKind.i64.wrap (q + 1) = q + 1 := IntWalk.i64_in _ (by omega)
  have FR : Hid (∀ W : World, EdgesIn W W.heap.size A es → Calls Try.prog 28 #[.agg #[.string B, .slice A es.length cap], .int .i64 (q + 1)] W fun e w' => e = .returned (.tuple #[.string rt, .bool ro]) ∧ Below W.heap.size W w') := Lib.hid fun W h => by
    have := specRunOf_any B A cap es (q + 1) W hs h hl hS
    unfold TextPost at this
    rw [hr] at this
    exact this
  clear hs hS hq hfew hr
  go_enter Try.func32, Try.ntmps32
  go_wp2_with fail
  refine (FN.out _ ((hE.below hb1).more hb1.size)).mono ?_
  rintro e w2 ⟨rfl, hb2⟩
  have hb2' := hb1.trans (hb2.mono hb1.size)
  have t2 := t1.below hb2 (by omega)
  have hd0 := t2.1; have hd1 := t2.2
  clear hb2 t1
  go_wp2_with fail
  refine (FR.out _ ((hE.below hb2').more hb2'.size)).mono ?_
  rintro e w3 ⟨rfl, hb3⟩
  have hb3' := hb2'.trans (hb3.mono hb2'.size)
  clear hb3 hd0 hd1
  go_wp2_with fail
  go_ret2
  exact ⟨by rw [HN.out]; rfl, hb3'⟩

end Go.Proofs.Ytghdjmjodgbghaa

namespace Go.Proofs.Ytghdjmjodgbghaa
open Go.RowKit

set_option maxRecDepth 100000 in
set_option maxHeartbeats 2000000 in
/-- laws.FnExactNextRun -/
theorem lawNextRun (B : ByteArray) (A : Option Addr) (cap : Nat) (es : List (ByteArray × ByteArray)) (b : ByteArray) (w : World) (hs : B.size ≤ maxLen) (hE : EdgesIn w w.heap.size A es) (hl : es.length ≤ maxLen) (hS : ∀ e ∈ es, e.1.size ≤ maxLen ∧ e.2.size ≤ maxLen) :
    Calls Try.prog 10 #[.agg #[.string B, .slice A es.length cap], .string b] w fun e w' => e = .returned (.bool true) ∧ Below w.heap.size w w' := by
  have hb1 : Below w.heap.size w (w.alloc (.cells #[.string B, .slice A es.length cap] 24)) := (Below.refl _ _).alloc (Nat.le_refl _) _
  by_cases hbs : (b.size : Int) > 1048576
  · go_enter Try.func10, Try.ntmps10
    go_wp2_with fail
    go_ret
    exact ⟨rfl, hb1⟩
  have hbs' : (b.size : Int) ≤ 1048576 := by omega
  clear hbs
  have hc0 : (w.alloc (.cells #[.string B, .slice A es.length cap] 24)).cell? ⟨w.heap.size, 0, none⟩ = some (.string B) := by go_simp
  have hc1 : (w.alloc (.cells #[.string B, .slice A es.length cap] 24)).cell? ⟨w.heap.size, 1, none⟩ = some (.slice A es.length cap) := by go_simp
  have hz1 : (w.alloc (.cells #[.string B, .slice A es.length cap] 24)).heap.size = w.heap.size + 1 := by simp
  have HS := Lib.hid hS; have HL := Lib.hid hl; have HM := Lib.hid hs
  clear hS hl hs
  obtain ⟨v, hv⟩ : ∃ v, szv (B.size + (es.length + letters es)) 1048576 = v := ⟨_, rfl⟩
  have HV := Lib.hid hv; clear hv
  go_enter Try.func10, Try.ntmps10
  go_wp2_with fail
  refine (szNet_any B A cap es 1048576 _ HM.out ((hE.below hb1).more hb1.size) HL.out HS.out (by omega) (by omega)).mono ?_
  rintro e w2 ⟨rfl, hb2⟩
  rw [HV.out]
  have hd0 := (hb2.cell (p := ⟨w.heap.size, 0, none⟩) (by simp)).trans hc0
  have hd1 := (hb2.cell (p := ⟨w.heap.size, 1, none⟩) (by simp)).trans hc1
  have hb2' := hb1.trans (hb2.mono hb1.size)
  have hz2 := hb2.size
  rw [hz1] at hz2
  clear hb2 hc0 hc1
  by_cases h0 : v < 0
  · go_wp2_with fail
    go_ret
    exact ⟨rfl, hb2'⟩
  · have hle : B.size + (es.length + letters es) ≤ 1048576 := by
      have := HV.out
      unfold szv at this
      split at this <;> omega
    have HL' : Hid (es.length ≤ 1099511627776) := Lib.hid (by omega)
    have HS' : Hid (∀ e ∈ es, e.1.size ≤ 1099511627776 ∧ e.2.size ≤ 1099511627776) := Lib.hid fun e he => by
      have := letters_mem he
      omega
    clear hle
    obtain ⟨q, hq⟩ : ∃ q, nextV B es b = q := ⟨_, rfl⟩
    have hp : ∀ (W W' : World) (e : Ending), TextPost (nextV B es b) W e W' → e = .returned (.tuple #[.string q.1, .bool q.2]) ∧ Below W.heap.size W W' := fun W W' e h => by
      unfold TextPost at h
      rw [hq] at h
      exact h
    have HP := Lib.hid hp
    clear hq hp
    go_wp2_with fail
    refine (toNet_any B A cap es _ ((hE.below hb2').more hb2'.size) HL'.out).mono ?_
    rintro e w3 ⟨g3, rfl, hg3, hE3, hb3⟩
    have hb3' := hb2'.trans (hb3.mono hb2'.size)
    have he0 := (hb3.cell (p := ⟨w.heap.size, 0, none⟩) (by simp only; omega)).trans hd0
    have he1 := (hb3.cell (p := ⟨w.heap.size, 1, none⟩) (by simp only; omega)).trans hd1
    have hz3 := hb3.size
    have hz3' := Nat.le_trans hz2 hz3
    clear hb3 hd0 hd1
    go_wp2_with fail
    refine (specNextRun_any B (some ⟨g3, 0, none⟩) es.length es b _ HM.out hE3 HL'.out HS'.out (by omega)).mono ?_
    intro e w4 h4
    obtain ⟨rfl, hb4⟩ := HP.out _ _ _ h4
    clear h4
    have hb4' := hb3'.trans (hb4.mono hb3'.size)
    have hf0 := (hb4.cell (p := ⟨w.heap.size, 0, none⟩) (by simp only; omega)).trans he0
    have hf1 := (hb4.cell (p := ⟨w.heap.size, 1, none⟩) (by simp only; omega)).trans he1
    have hz4' := Nat.le_trans hz3' hb4.size
    clear hb4 he0 he1 hE3
    go_wp2_with fail
    refine (toNet_any B A cap es _ ((hE.below hb4').more hb4'.size) HL'.out).mono ?_
    rintro e w5 ⟨g5, rfl, hg5, hE5, hb5⟩
    have hb5' := hb4'.trans (hb5.mono hb4'.size)
    have hi0 := (hb5.cell (p := ⟨w.heap.size, 0, none⟩) (by simp only; omega)).trans hf0
    have hi1 := (hb5.cell (p := ⟨w.heap.size, 1, none⟩) (by simp only; omega)).trans hf1
    have hz5' := Nat.le_trans hz4' hb5.size
    clear hb5 hf0 hf1
    go_wp2_with fail
    have hbx : Below w5.heap.size w5 (w5.alloc (.cells #[.string B, .slice (some ⟨g5, 0, none⟩) es.length es.length] 29)) := (Below.refl _ _).alloc (Nat.le_refl _) _
    have hj0 : (w5.alloc (.cells #[.string B, .slice (some ⟨g5, 0, none⟩) es.length es.length] 29)).cell? ⟨w5.heap.size, 0, none⟩ = some (.string B) := by go_simp
    have hj1 : (w5.alloc (.cells #[.string B, .slice (some ⟨g5, 0, none⟩) es.length es.length] 29)).cell? ⟨w5.heap.size, 1, none⟩ = some (.slice (some ⟨g5, 0, none⟩) es.length es.length) := by go_simp
    refine (implNextRun_any B (some ⟨g5, 0, none⟩) es.length es b _ HM.out ((hE5.below hbx).more hbx.size) HL'.out HS'.out (by omega)).mono ?_
    intro e w6 h6
    obtain ⟨rfl, hb6⟩ := HP.out _ _ _ h6
    clear h6
    have hx6 := hbx.trans (hb6.mono hbx.size)
    have hk0 := (hb6.cell (p := ⟨w5.heap.size, 0, none⟩) (by simp)).trans hj0
    have hk1 := (hb6.cell (p := ⟨w5.heap.size, 1, none⟩) (by simp)).trans hj1
    have hk2 := (hx6.cell (p := ⟨w.heap.size, 0, none⟩) (by simp only; omega)).trans hi0
    have hk3 := (hx6.cell (p := ⟨w.heap.size, 1, none⟩) (by simp only; omega)).trans hi1
    have hz6 : w5.heap.size < w6.heap.size := by have := hb6.size; simp at this; omega
    have hE6 := (hE5.below hx6).more hx6.size
    have hb6' := hb5'.trans (hx6.mono hb5'.size)
    have q1 : (q.1.toList != q.1.toList) = false := by simp
    have q2 : (q.2 != q.2) = false := by simp
    clear hb6 hj0 hj1 hbx hx6 hi0 hi1 hE5
    go_wp2_with fail
    have hS : ∀ W, Below w6.heap.size w6 W → (W.cell? ⟨w5.heap.size, 0, none⟩ = some (.string B) ∧ W.cell? ⟨w5.heap.size, 1, none⟩ = some (.slice (some ⟨g5, 0, none⟩) es.length es.length) ∧ W.cell? ⟨w.heap.size, 0, none⟩ = some (.string B) ∧ W.cell? ⟨w.heap.size, 1, none⟩ = some (.slice A es.length cap) ∧ Below w6.heap.size w6 W) :=
      fun W h => ⟨(h.cell (by simp only; omega)).trans hk0, (h.cell (by simp only; omega)).trans hk1, (h.cell (by simp only; omega)).trans hk2, (h.cell (by simp only; omega)).trans hk3, h⟩
    have hA : ∀ W, Below w6.heap.size w6 W → EdgesIn W W.heap.size A es := fun W h => (hE.below (hb6'.trans (h.mono hb6'.size))).more (hb6'.trans (h.mono hb6'.size)).size
    have hG : ∀ W, Below w6.heap.size w6 W → EdgesIn W W.heap.size (some ⟨g5, 0, none⟩) es := fun W h => (hE6.below h).more h.size
    have HSS := Lib.hid hS; have HA := Lib.hid hA; have HG := Lib.hid hG
    clear hS hA hG hE6
    go_region_held3 (fun W => W.cell? ⟨w5.heap.size, 0, none⟩ = some (.string B) ∧ W.cell? ⟨w5.heap.size, 1, none⟩ = some (.slice (some ⟨g5, 0, none⟩) es.length es.length) ∧ W.cell? ⟨w.heap.size, 0, none⟩ = some (.string B) ∧ W.cell? ⟨w.heap.size, 1, none⟩ = some (.slice A es.length cap) ∧ Below w6.heap.size w6 W)
      (first | exact HSS.out _ (Below.refl _ _).drew | exact HSS.out _ ((Below.refl _ _).drew.trans hb7) | exact HSS.out _ (((Below.refl _ _).drew.trans hb7).trans (hb8.mono hb7.size)))
      (first
        | (go_at_call 13; refine (toNet_any B A cap es _ (HA.out _ (Below.refl _ _).drew) HL'.out).mono ?_; rintro e w7 ⟨g7, rfl, hg7, hE7, hb7⟩)
        | (go_at_call 15; refine (eqNet_t B _ _ _ _ es _ (HG.out _ ((Below.refl _ _).drew.trans hb7)) hE7 HL'.out).mono ?_; rintro e w8 ⟨rfl, hb8⟩))
    rename_i hHeld
    have hb8' := hb6'.trans (hHeld.2.2.2.2.mono hb6'.size)
    clear hHeld
    go_wp2_with fail
    go_ret
    exact ⟨rfl, hb8'⟩

end Go.Proofs.Ytghdjmjodgbghaa

namespace Go.Proofs.Ytghdjmjodgbghaa
open Go.ChangeShapes Go.WideShapes Go.ChangeAt Go.RowKit
open Go.ChangeMaps (open_string shut_string)
set_option linter.unusedVariables false

theorem ownNextRun : ownKnob Try.prog.godebug = none := by kernel_rfl
theorem laidNextRun : laidOutB Try.prog = true := by kernel_rfl

set_option maxRecDepth 100000 in
theorem liftedNextRun (os : Os) (started : os.Started) (H : Type) (enc : TypeId × Value → H) :
    ReturnsInHanded {} Try.checked os 10 .any (Rows.fnExactNextRunSpec.pre6 enc Try.prog Try.f10 Rows.fnExactNextRunRow.domain false) (Rows.fnExactNextRunSpec.post enc Try.prog Try.f10 false true false false) := by
  refine returnsInHanded_of_change (C := Try.checked) ownNextRun started (by kernel_rfl) Try.func10
    (ChangeSpec.witness6 (enc := enc) (C := Try.checked) false ⟨#[], #[.agg #[.string ⟨#[]⟩, .slice none 0 0], .string ⟨#[]⟩], []⟩ 8 (by kernel_rfl) (by kernel_rfl) (by kernel_rfl) (by kernel_rfl)) ?_
  intro W base args ds gs before hval0 hW hcnd _
  have hval : ∀ (j : Nat) t v, Try.f10.params[j]? = some t → args[j]? = some v → Value.okWide Try.prog W .any base t v := hval0
  have hW' := hW
  obtain ⟨p, q, hA0, hV, rfl, hfz, hnd⟩ := hW
  have hA : DataW.TrodAll enc Try.prog W 0 (fun _ => true) true Try.f10.params.toList args.toList ds p := hA0
  rw [Try.params10] at hA hval
  obtain ⟨v0, vs0, d0, ds0, p0, q0, hargs, rfl, rfl, h0, r0⟩ := trodAll_cons hA
  obtain ⟨v1, vs1, d1, ds1, p1, q1, rfl, rfl, rfl, h1, r1⟩ := trodAll_cons r0
  obtain ⟨rfl, rfl, rfl⟩ := trodAll_nil r1
  obtain rfl : args = #[v0, v1] := by cases args; simp_all
  obtain ⟨rfl, rfl⟩ := trodVars_none hV
  have k0 := h0
  have lt0 : ∀ x ∈ p0, x.block < W.heap.size := by obtain ⟨m, hm⟩ := k0; exact DataW.trod_lt m _ _ _ hm
  obtain ⟨B0, A0, cap0, es0, rfl, hs0, hE0, hl0, hS0⟩ := open_net (hval 0 24 v0 rfl rfl) h0
  obtain ⟨b1, rfl, rfl, rfl, hz1⟩ := open_string Try.underlying9 (hval 1 9 v1 rfl rfl) h1
  clear hA0 hval0
  refine (lawNextRun B0 A0 cap0 es0 b1 W hs0 hE0 hl0 hS0).mono fun e W' ⟨he, bel⟩ => ?_
  subst he
  exact ⟨_, rfl, _, _, _, [], _, [], hW', trodAll_mk1 (shut_bool Try.underlying4 _), (trodAll_cons_mk (Below.trod laidNextRun (by kernel_rfl) (of_decide_eq_true (by kernel_rfl)) k0 bel lt0) (trodAll_cons_mk (shut_string Try.underlying9 hz1) trodAll_mk0)), rfl, bel.frame _, fun h => by cases h⟩

theorem overNextRun : Rows.fnExactNextRunRow.holds Try.pinned (OpenSpec.ofChange Rows.fnExactNextRunSpec) :=
  OpenClaim.holds_of_wide 10 Try.f10 rfl rfl rfl rfl rfl rfl rfl ⟨rfl, rfl, rfl, rfl, rfl⟩ rfl rfl rfl rfl rfl (by kernel_rfl) Try.func10 (by kernel_rfl)
    (of_decide_eq_true (by kernel_rfl)) (by unfold Func.isWrapper; first | (rw [if_pos (by decide +kernel)]; kernel_rfl) | (rw [if_neg (by decide +kernel)]; exact ⟨rfl, rfl⟩))
    (fun os started H enc _ => liftedNextRun os started H enc)

/-- the statement -/
theorem provedNextRun : Rows.FnExactNextRunSaid := overNextRun

end Go.Proofs.Ytghdjmjodgbghaa
