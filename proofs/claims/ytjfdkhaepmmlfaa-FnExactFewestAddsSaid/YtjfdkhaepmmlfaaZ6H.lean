/- Values and heights by the program. -/
import Derived.Test.YtjfdkhaepmmlfaaZ6A
import Derived.Test.YtjfdkhaepmmlfaaZ6V
import Derived.Test.YtjfdkhaepmmlfaaZ6W
import Derived.Laws.EntriesVeiled
import Derived.Deep.RegionHeld3
import Derived.BigQuiet
import Derived.WalkSmall
import Derived.Deep.MidRow
namespace Go.Proofs.Ytjfdkhaepmmlfaa
open Go.RowKit Go.Instr Go.ChangeMaps

/-- what stands at a letter -/
def lookN : List (UInt8 × Int) → UInt8 → Option Int
  | [], _ => none
  | d :: D, x => if x = d.1 then some d.2 else lookN D x
def setN : List (UInt8 × Int) → UInt8 → Int → List (UInt8 × Int)
  | [], x, v => [(x, v)]
  | d :: D, x, v => if x = d.1 then (x, v) :: D else d :: setN D x v
theorem lookN_set (x : UInt8) (v : Int) (y : UInt8) : ∀ D : List (UInt8 × Int), lookN (setN D x v) y = if y = x then some v else lookN D y
  | [] => by simp [setN, lookN]
  | d :: D => by
    have ih := lookN_set x v y D
    unfold setN
    by_cases hx : x = d.1
    · rw [if_pos hx]
      simp only [lookN]
      by_cases hy : y = x
      · rw [if_pos hy, if_pos hy]
      · rw [if_neg hy, if_neg hy, if_neg (fun e => hy (e.trans hx.symm))]
    · rw [if_neg hx]
      simp only [lookN]
      by_cases hy : y = d.1
      · rw [if_pos hy, if_pos hy, if_neg (fun e => hx (e.symm.trans hy))]
      · rw [if_neg hy, if_neg hy, ih]

/-- block m is a map whose keys are letters, whose elements are numbers: what stands at each letter -/
def NumsIs (w : World) (m : Nat) (f : UInt8 → Option Int) : Prop :=
  ∃ (es : Array MapEntry) (clock : Nat) (D : List (UInt8 × Int)), w.heap[m]? = some (.map es clock) ∧ es.toList.map (·.key) = D.map (fun d => encL d.1) ∧ es.toList.map (·.val) = D.map (fun d => .int .i64 d.2) ∧ ∀ x, lookN D x = f x

theorem find_num (x : UInt8) : ∀ (es : List MapEntry) (D : List (UInt8 × Int)) (i : Nat), es.map (·.key) = D.map (fun d => encL d.1) → es.map (·.val) = D.map (fun d => .int .i64 d.2) →
    (lookN D x = none → findNow .string (encL x) es i = some none ∧ ∀ v, setN D x v = D ++ [(x, v)]) ∧
    (∀ c, lookN D x = some c → ∃ j, j < es.length ∧ findNow .string (encL x) es i = some (some (i + j, .int .i64 c)) ∧ (es[j]?.map (·.key)) = some (encL x) ∧ ∀ v, setN D x v = D.set j (x, v)) := by
  intro es
  induction es with
  | nil =>
    intro D i hk _
    cases D with
    | nil => exact ⟨fun _ => ⟨rfl, fun v => rfl⟩, fun c h => by simp [lookN] at h⟩
    | cons => simp at hk
  | cons e es ih =>
    intro D i hk hv
    cases D with
    | nil => simp at hk
    | cons d D =>
      simp only [List.map_cons, List.cons.injEq] at hk hv
      obtain ⟨h1, h2⟩ := ih D (i + 1) hk.2 hv.2
      by_cases hx : x = d.1
      · have hs : sameNow .string (encL x) e.key = some true := by
          rw [hk.1, ← hx]; simp only [sameNow, encL, beq_toListBytes]; simp
        simp only [lookN, if_pos hx, findNow, hs, setN]
        refine ⟨fun h => (by cases h), fun c hc => ⟨0, by simp, ?_, by simp [hk.1, ← hx], fun v => by simp⟩⟩
        injection hc with hc
        rw [hv.1, hc]; rfl
      · have hs : sameNow .string (encL x) e.key = some false := by
          rw [hk.1]; simp only [sameNow, encL, beq_toListBytes, Lib.toList_data]; simp [hx]
        simp only [lookN, if_neg hx, findNow, hs, setN]
        refine ⟨fun h => ⟨(h1 h).1, fun v => by rw [(h1 h).2 v]; rfl⟩, fun c hc => ?_⟩
        obtain ⟨j, q1, q2, q3, q4⟩ := h2 c hc
        exact ⟨j + 1, by simp; omega, by rw [q2, show i + 1 + j = i + (j + 1) by omega], by simpa using q3, fun v => by rw [q4 v]; rfl⟩

section
variable {P : Program} {kt : TypeId}

theorem NumsIs.lookup {t e : TypeId} {w : World} {m : Nat} {f : UInt8 → Option Int} (h : NumsIs w m f) (hk : P.underlying kt = some .string) (ht : P.underlying t = some (.map kt e)) (hz : (zeroValue e).run P w = .ok (.int .i64 0) w) (x : UInt8) :
    (Instr.lookup t (.map (some m)) (.string ⟨#[x]⟩) false).run P w = .ok (.int .i64 ((f x).getD 0)) w := by
  obtain ⟨es, clock, D, hb, h1, h2, h3⟩ := h
  obtain ⟨q1, q2⟩ := find_num x es.toList D 0 h1 h2
  have hc := (keyL (P := P) hk).check es.isEmpty x w
  rw [show (encL x) = .string ⟨#[x]⟩ from rfl] at hc
  rw [← h3 x]
  cases hl : lookN D x with
  | none =>
    have hf : (findKey kt (.string ⟨#[x]⟩) es.toList).run P w = .ok none w := by
      have := (q1 hl).1
      rw [show (encL x) = .string ⟨#[x]⟩ from rfl] at this
      simp [findKey, run_underlying hk, this]
    simp [Instr.lookup, run_underlying ht, MapKept.run_getObj_map hb, hc, hf, hz, Result.andThen]
  | some c =>
    obtain ⟨j, _, hj, _, _⟩ := q2 c hl
    have hf : (findKey kt (.string ⟨#[x]⟩) es.toList).run P w = .ok (some (0 + j, .int .i64 c)) w := by
      rw [show (encL x) = .string ⟨#[x]⟩ from rfl] at hj
      simp [findKey, run_underlying hk, hj]
    simp [Instr.lookup, run_underlying ht, MapKept.run_getObj_map hb, hc, hf, Result.andThen]

theorem NumsIs.lookup2 {t e : TypeId} {w : World} {m : Nat} {f : UInt8 → Option Int} (h : NumsIs w m f) (hk : P.underlying kt = some .string) (ht : P.underlying t = some (.map kt e)) (hz : (zeroValue e).run P w = .ok (.int .i64 0) w) (x : UInt8) :
    (Instr.lookup t (.map (some m)) (.string ⟨#[x]⟩) true).run P w = .ok (.tuple #[.int .i64 ((f x).getD 0), .bool (f x).isSome]) w := by
  obtain ⟨es, clock, D, hb, h1, h2, h3⟩ := h
  obtain ⟨q1, q2⟩ := find_num x es.toList D 0 h1 h2
  have hc := (keyL (P := P) hk).check es.isEmpty x w
  rw [show (encL x) = .string ⟨#[x]⟩ from rfl] at hc
  rw [← h3 x]
  cases hl : lookN D x with
  | none =>
    have hf : (findKey kt (.string ⟨#[x]⟩) es.toList).run P w = .ok none w := by
      have := (q1 hl).1
      rw [show (encL x) = .string ⟨#[x]⟩ from rfl] at this
      simp [findKey, run_underlying hk, this]
    simp [Instr.lookup, run_underlying ht, MapKept.run_getObj_map hb, hc, hf, hz, Result.andThen]
  | some c =>
    obtain ⟨j, _, hj, _, _⟩ := q2 c hl
    have hf : (findKey kt (.string ⟨#[x]⟩) es.toList).run P w = .ok (some (0 + j, .int .i64 c)) w := by
      rw [show (encL x) = .string ⟨#[x]⟩ from rfl] at hj
      simp [findKey, run_underlying hk, hj]
    simp [Instr.lookup, run_underlying ht, MapKept.run_getObj_map hb, hc, hf, Result.andThen]

theorem NumsIs.update {t e : TypeId} {w : World} {m : Nat} {f : UInt8 → Option Int} (h : NumsIs w m f) (hk : P.underlying kt = some .string) (ht : P.underlying t = some (.map kt e)) (x : UInt8) (v : Int) :
    ∃ w', (Instr.mapUpdate t (.map (some m)) (.string ⟨#[x]⟩) (.int .i64 v)).run P w = .ok () w' ∧ NumsIs w' m (fun y => if y = x then some v else f y) ∧ w.grownBy w' (some m) := by
  obtain ⟨es, clock, D, hb, h1, h2, h3⟩ := h
  obtain ⟨q1, q2⟩ := find_num x es.toList D 0 h1 h2
  have hc := (keyL (P := P) hk).check false x w
  rw [show (encL x) = .string ⟨#[x]⟩ from rfl] at hc
  have hlook : ∀ y, lookN (setN D x v) y = if y = x then some v else f y := fun y => by rw [lookN_set, h3]
  cases hl : lookN D x with
  | none =>
    obtain ⟨hf0, hset⟩ := q1 hl
    have hf : (findKey kt (.string ⟨#[x]⟩) es.toList).run P w = .ok none w := by
      rw [show (encL x) = .string ⟨#[x]⟩ from rfl] at hf0
      simp [findKey, run_underlying hk, hf0]
    refine ⟨setBlock w m (.map (es.push { key := .string ⟨#[x]⟩, val := .int .i64 v, born := clock }) (clock + 1)), ?_, ⟨_, _, D ++ [(x, v)], heap_setBlock_same hb _, ?_, ?_, fun y => by rw [← hset v]; exact hlook y⟩, ⟨rfl, rfl, rfl, by simp [setBlock], fun i _ hi => heap_setBlock_other hb _ (fun e => hi (by rw [e]))⟩⟩
    · simp [Instr.mapUpdate, run_underlying ht, MapKept.run_getObj_map hb, hc, hf, MapKept.run_setObj_map _ hb, Result.andThen, setBlock]
    · simp [h1, encL]
    · simp [h2]
  | some c =>
    obtain ⟨j, hjl, hj, hjk, hset⟩ := q2 c hl
    have hf : (findKey kt (.string ⟨#[x]⟩) es.toList).run P w = .ok (some (0 + j, .int .i64 c)) w := by
      rw [show (encL x) = .string ⟨#[x]⟩ from rfl] at hj
      simp [findKey, run_underlying hk, hj]
    have hold : ((es[j]?).map (·.key)).getD (.string ⟨#[x]⟩) = .string ⟨#[x]⟩ := by
      rw [Array.getElem?_toList] at hjk
      rw [hjk]; rfl
    have hst : ∀ W, (keyThatStays (.string ⟨#[x]⟩) (.string ⟨#[x]⟩)).run P W = .ok (.string ⟨#[x]⟩) W := fun W => MapKept.run_keyThatStays (d := .string) (k := .string ⟨#[x]⟩) trivial
    refine ⟨setBlock w m (.map (es.modify j fun e => { e with key := .string ⟨#[x]⟩, val := .int .i64 v }) clock), ?_, ⟨_, _, D.set j (x, v), heap_setBlock_same hb _, ?_, ?_, fun y => by rw [← hset v]; exact hlook y⟩, ⟨rfl, rfl, rfl, by simp [setBlock], fun i _ hi => heap_setBlock_other hb _ (fun e => hi (by rw [e]))⟩⟩
    · simp [Instr.mapUpdate, run_underlying ht, MapKept.run_getObj_map hb, hc, hf, hold, hst, MapKept.run_setObj_map _ hb, Result.andThen, setBlock]
    · have hlen : es.toList.length = D.length := by have := congrArg List.length h1; simpa using this
      refine List.ext_getElem? fun i => ?_
      have hi := congrArg (fun l => l[i]?) h1
      simp only [List.getElem?_map] at hi
      simp only [List.getElem?_map, Array.toList_modify, List.getElem?_modify, List.getElem?_set]
      by_cases hij : j = i
      · subst hij
        have h5 : j < D.length := by omega
        have h6 : j < es.toList.length := hjl
        simp [List.getElem?_eq_getElem h6, encL, h5]
      · simp only [if_neg hij]
        simpa using hi
    · have hlen : es.toList.length = D.length := by have := congrArg List.length h1; simpa using this
      refine List.ext_getElem? fun i => ?_
      have hi := congrArg (fun l => l[i]?) h2
      simp only [List.getElem?_map] at hi
      simp only [List.getElem?_map, Array.toList_modify, List.getElem?_modify, List.getElem?_set]
      by_cases hij : j = i
      · subst hij
        have h5 : j < D.length := by omega
        have h6 : j < es.toList.length := hjl
        simp [List.getElem?_eq_getElem h6, h5]
      · simp only [if_neg hij]
        simpa using hi

theorem NumsIs.new (w : World) : NumsIs (w.alloc (.map #[] 0)) w.heap.size (fun _ => none) := ⟨#[], 0, [], heap_alloc_new _ _, rfl, rfl, fun _ => rfl⟩
theorem NumsIs.of_block {w w' : World} {m : Nat} {f : UInt8 → Option Int} (h : NumsIs w m f) (hb : w'.heap[m]? = w.heap[m]?) : NumsIs w' m f := by
  obtain ⟨es, clock, D, h0, rest⟩ := h
  exact ⟨es, clock, D, hb.trans h0, rest⟩
theorem NumsIs.below {w w' : World} {m : Nat} {f : UInt8 → Option Int} {B : Nat} (h : NumsIs w m f) (hb : Below B w w') (hm : m < B) : NumsIs w' m f := h.of_block (hb.block m hm)
theorem NumsIs.lt {w : World} {m : Nat} {f : UInt8 → Option Int} (h : NumsIs w m f) : m < w.heap.size := by
  obtain ⟨es, clock, D, h0, _⟩ := h
  exact (Array.getElem?_eq_some_iff.1 h0).1
theorem NumsIs.grown {w w' : World} {m : Nat} {f : UInt8 → Option Int} {row : Option Nat} (h : NumsIs w m f) (hg : w.grownBy w' row) (hr : some m ≠ row) : NumsIs w' m f := h.of_block (hg.block m h.lt hr)
end

end Go.Proofs.Ytjfdkhaepmmlfaa

namespace Go.Proofs.Ytjfdkhaepmmlfaa
open Go.RowKit

/-- a net in which all edges lead on in O, in words that a walk can use -/
structure Lead (B : ByteArray) (es : List (ByteArray × ByteArray)) (O : List UInt8) (e0 t : UInt8) : Prop where
  few : es.length ≤ 16
  lets : Lets B.data.toList es
  topo : Topo (ebs es) O
  eight : O.length ≤ 8
  ent : e0 ∈ O
  one : 1 ≤ B.size
  small : B.size ≤ 8
  first : B.extract 0 1 = ⟨#[e0]⟩
  last : B.extract (B.size - 1) B.size = ⟨#[t]⟩
  no : ∀ y, ([t], [y]) ∉ ebs es

/-- the variables of impl.countsToExit -/
structure HomeC (W : World) (N M C G : Nat) (B : ByteArray) (A : Option Addr) (n cap : Nat) : Prop where
  net : Two W N B A n cap
  map : W.cell? ⟨C, 0, none⟩ = some (.map (some M))
  go : W.cell? ⟨G, 0, none⟩ = some (.func (.func 120) #[] #[.pointer (some ⟨C, 0, none⟩), .pointer (some ⟨N, 0, none⟩), .pointer (some ⟨G, 0, none⟩)])
  n1 : N < M
  n2 : M < C
  n3 : C < G
  n4 : G < W.heap.size
theorem HomeC.keep {W W' : World} {N M C G : Nat} {B : ByteArray} {A : Option Addr} {n cap : Nat} (h : HomeC W N M C G B A n cap) (k : W.grownBy W' (some M)) : HomeC W' N M C G B A n cap := by
  have h1 := h.n1; have h2 := h.n2; have h3 := h.n3; have h4 := h.n4; have hz := k.size
  have e : ∀ b, b < W.heap.size → b ≠ M → ∀ o, W'.cell? ⟨b, o, none⟩ = W.cell? ⟨b, o, none⟩ := fun b hb hm o => World.cell?_of_block (k.block b hb (by intro e; injection e with e; exact hm e))
  exact ⟨⟨(e N (by omega) (by omega) _).trans h.net.1, (e N (by omega) (by omega) _).trans h.net.2⟩, (e C (by omega) (by omega) _).trans h.map, (e G (by omega) (by omega) _).trans h.go, h1, h2, h3, by omega⟩

/-- what the map holds: counts, of blocks that are closed under going on -/
structure Counted (E : Eds) (t : UInt8) (f : UInt8 → Option Int) : Prop where
  agree : ∀ y v, f y = some v → v = (cntE E t y : Nat)
  closed : ∀ y, f y ≠ none → ∀ z, ([y], [z]) ∈ E → f z ≠ none
  exit : f t ≠ none
theorem Counted.put {E : Eds} {t : UInt8} {f : UInt8 → Option Int} (h : Counted E t f) {b : UInt8} (hb : ∀ z, ([b], [z]) ∈ E → f z ≠ none) : Counted E t (fun y => if y = b then some ((cntE E t b : Nat) : Int) else f y) := by
  refine ⟨fun y v hy => ?_, fun y hy z hz => ?_, ?_⟩
  · by_cases e : y = b
    · subst e; simp only [if_true] at hy; injection hy with hy; exact hy.symm
    · rw [if_neg e] at hy; exact h.agree y v hy
  · by_cases e2 : z = b
    · simp [e2]
    · rw [if_neg e2]
      by_cases e : y = b
      · subst e; exact hb z hz
      · rw [if_neg e] at hy; exact h.closed y hy z hz
  · by_cases e : t = b
    · simp [e]
    · rw [if_neg e]; exact h.exit

/-- what a call of the closure leaves -/
def CountedPost (E : Eds) (t b : UInt8) (M : Nat) (f : UInt8 → Option Int) (W : World) (e : Ending) (W' : World) : Prop :=
  e = .returned (.int .i64 (cntE E t b : Nat)) ∧ ∃ f', NumsIs W' M f' ∧ Counted E t f' ∧ (∀ y, f y ≠ none → f' y ≠ none) ∧ f' b ≠ none ∧ W.grownBy W' (some M)

set_option maxRecDepth 100000 in
set_option maxHeartbeats 4000000 in
/-- impl.countsToExit$1 -/
theorem countFrom_in (N M C G : Nat) (B : ByteArray) (A : Option Addr) (cap : Nat) (es : List (ByteArray × ByteArray)) (O : List UInt8) (e0 t : UInt8) (hL : Lead B es O e0 t) : ∀ (n : Nat) (r : List UInt8) (b : UInt8) (f : UInt8 → Option Int) (W : World),
    r.length < n → r.length ≤ 7 → Topo (ebs es) (b :: r) → HomeC W N M C G B A es.length cap → EdgesIn W N A es → NumsIs W M f → Counted (ebs es) t f →
    Calls Try.prog 120 #[.string ⟨#[b]⟩, .pointer (some ⟨C, 0, none⟩), .pointer (some ⟨N, 0, none⟩), .pointer (some ⟨G, 0, none⟩)] W (CountedPost (ebs es) t b M f W) := by
  intro n
  induction n with
  | zero =>
    intro r b f W hn
    omega
  | succ n ih =>
    intro r b f W hn h7 ht hH hE hN hC
    have h16 := hL.few
    have IH := Lib.hid ih
    have HTO := Lib.hid ht
    have n1 := hH.n1; have n2 := hH.n2; have n3 := hH.n3; have n4 := hH.n4
    have hlk := hN.lookup2 (P := Try.prog) (kt := 9) (t := 138) (e := 3) Try.underlying9 Try.underlying138 (by kernel_rfl) b
    have c0 := hH.net.2; have c1 := hH.map
    have HN := Lib.hid hN; have HC := Lib.hid hC; have HH := Lib.hid hH
    clear ih ht hN hC hH
    cases hfb : f b with
    | some v =>
      have hv := HC.out.agree b v hfb
      rw [hfb] at hlk
      simp only [Option.getD_some, Option.isSome_some] at hlk
      have HFB := Lib.hid hfb; have HV := Lib.hid hv
      clear hfb hv
      go_enter Try.func120, Try.ntmps120
      go_wp2_with fail
      go_ret
      exact ⟨by rw [← HV.out]; rfl, f, HN.out, HC.out, fun _ h => h, by rw [HFB.out]; simp, World.grownBy.refl _ _⟩
    | none =>
      rw [hfb] at hlk
      simp only [Option.getD_none, Option.isSome_none] at hlk
      have HFB := Lib.hid hfb
      clear hfb
      have hbt : b ≠ t := fun e => HC.out.exit (by rw [← e]; exact HFB.out)
      have HFIX : Hid (cntE (ebs es) t b = sumC (ebs es) (cntE (ebs es) t) b (List.range es.length)) := Lib.hid (by rw [cntE_fix HTO.out h7 hbt, ebs_len])
      clear hbt
      go_enter Try.func120, Try.ntmps120
      go_wp2_with fail
      clear hlk c0 c1
      go_loopw [8, 22] (fun a c wr => ∃ (k : Nat) (fk : UInt8 → Option Int), k ≤ es.length ∧ c = .int .i64 k ∧ a = .int .i64 (sumC (ebs es) (cntE (ebs es) t) b (List.range k) : Nat) ∧ NumsIs wr M fk ∧ Counted (ebs es) t fk ∧ (∀ y, f y ≠ none → fk y ≠ none) ∧ (∀ i, i < k → ∀ z, (ebs es)[i]? = some ([b], [z]) → fk z ≠ none) ∧ W.grownBy wr (some M)) (fun _ c _ => es.length - (intOf c).toNat)
      case atStart => exact ⟨0, f, Nat.zero_le _, rfl, rfl, HN.out, HC.out, fun _ h => h, fun i hi => absurd hi (by omega), World.grownBy.refl _ _⟩
      case round =>
        obtain ⟨k, fk, hk, rfl, rfl, hnk, hck, hle, hdn, hgr⟩ := hrel
        have hHk := HH.out.keep hgr
        have hEk : EdgesIn wr N A es := hE.grown_low hgr (by omega) (fun c hc => by intro e; injection e with e; omega)
        have hzr := hgr.size
        have HNK := Lib.hid hnk; have HCK := Lib.hid hck; have HLEQ := Lib.hid hle; have HDN := Lib.hid hdn; have HGR := Lib.hid hgr
        clear hnk hck hle hdn hgr
        have c1 := hHk.map
        have c2 := hHk.go
        have HHK := Lib.hid hHk
        by_cases hlt : k < es.length
        case neg =>
          have hkn : k = es.length := by omega
          obtain ⟨c, hc⟩ : ∃ c, cntE (ebs es) t b = c := ⟨_, rfl⟩
          have HS : Hid (sumC (ebs es) (cntE (ebs es) t) b (List.range k) = c) := Lib.hid (by rw [hkn, ← HFIX.out, hc])
          obtain ⟨w2, hrun, hset2, hg2⟩ := HNK.out.update (P := Try.prog) (kt := 9) (t := 138) (e := 3) Try.underlying9 Try.underlying138 b (c : Int)
          have HSET : Hid (NumsIs w2 M (fun y => if y = b then some ((c : Nat) : Int) else fk y)) := Lib.hid hset2
          have HPUT : Hid (Counted (ebs es) t (fun y => if y = b then some ((c : Nat) : Int) else fk y)) := Lib.hid (by
            rw [← hc]
            refine HCK.out.put fun z hz => ?_
            obtain ⟨i, hi⟩ := List.mem_iff_getElem?.1 hz
            exact HDN.out i (by have := (List.getElem?_eq_some_iff.1 hi).1; rw [ebs_len] at this; omega) z hi)
          have HG2 := Lib.hid (HGR.out.trans hg2)
          have HCE := Lib.hid hc
          clear hset2 hg2 hc c2 hHk
          rw [HS.out]
          go_wp2_with fail
          go_ret
          refine ⟨by rw [HCE.out]; rfl, _, HSET.out, HPUT.out, fun y hy => ?_, by simp, HG2.out⟩
          by_cases e : y = b
          · simp [e]
          · rw [if_neg e]; exact HLEQ.out y hy
        obtain ⟨x, y, he, h1, h2, hxl, hyl⟩ := edge_letters hL.lets hlt
        obtain ⟨eb, eo, rfl, hlow, q1, q2⟩ := hEk k hlt
        rw [h1] at q1
        rw [h2] at q2
        have HE1 := Lib.hid he
        have hba : wr.grownBy (wr.alloc (.cells #[.string ⟨#[x]⟩, .string ⟨#[y]⟩] 104)) (some M) := World.grownBy_alloc wr _ _
        have HBA := Lib.hid hba
        have HRS : Hid (sumC (ebs es) (cntE (ebs es) t) b (List.range (k + 1)) = sumC (ebs es) (cntE (ebs es) t) b (List.range k) + stepC (ebs es) (cntE (ebs es) t) b k) := Lib.hid (sumC_range _ _ _ _)
        clear he h1 h2 hba
        by_cases hxb : x = b
        case neg =>
          have hq : (x == b) = false := by simp [hxb]
          have HN2 : Hid (sumC (ebs es) (cntE (ebs es) t) b (List.range (k + 1)) = sumC (ebs es) (cntE (ebs es) t) b (List.range k)) := Lib.hid (by rw [HRS.out, stepC_no HE1.out hxb, Nat.add_zero])
          have HG6 := Lib.hid (HGR.out.trans HBA.out)
          have HNM : Hid (NumsIs (wr.alloc (.cells #[.string ⟨#[x]⟩, .string ⟨#[y]⟩] 104)) M fk) := Lib.hid (HNK.out.of_block (Below.heap_alloc _ _ _ HNK.out.lt))
          have HDN2 : Hid (∀ i, i < k + 1 → ∀ z, (ebs es)[i]? = some ([b], [z]) → fk z ≠ none) := Lib.hid fun i hi z hz => by
            by_cases hik : i < k
            · exact HDN.out i hik z hz
            · have : i = k := by omega
              subst this
              rw [HE1.out] at hz
              injection hz with hz
              injection hz with hz _
              injection hz with hz _
              exact absurd hz hxb
          clear hxb
          go_wp2_with fail
          go_roundw
          case rel => exact ⟨k + 1, fk, by omega, by go_num, by rw [HN2.out], HNM.out, HCK.out, HLEQ.out, HDN2.out, HG6.out⟩
          case measure => simp [intOf]; omega
        subst hxb
        have hq : (x == x) = true := by simp
        obtain ⟨r2, ht2, hr7, hrl⟩ := topo_to HTO.out h7 (List.mem_of_getElem? HE1.out)
        obtain ⟨c1n, hc1⟩ : ∃ c1n : Nat, sumC (ebs es) (cntE (ebs es) t) x (List.range k) = c1n := ⟨_, rfl⟩
        have hcb : c1n + cntE (ebs es) t y ≤ 8589934593 := by
          have h2 : cntE (ebs es) t y ≤ 268435456 := cntE_few (by rw [ebs_len]; exact h16) ht2 hr7
          have h1 := sumC_few (t := t) (by rw [ebs_len]; exact h16) HTO.out h7 (show k ≤ 16 by omega)
          rw [hc1] at h1
          omega
        have HN2 : Hid (sumC (ebs es) (cntE (ebs es) t) x (List.range (k + 1)) = c1n + cntE (ebs es) t y) := Lib.hid (by rw [HRS.out, stepC_yes HE1.out, hc1])
        have hNA : NumsIs (wr.alloc (.cells #[.string ⟨#[x]⟩, .string ⟨#[y]⟩] 104)) M fk := HNK.out.of_block (Below.heap_alloc _ _ _ HNK.out.lt)
        have HCALL : Hid (Calls Try.prog 120 #[.string ⟨#[y]⟩, .pointer (some ⟨C, 0, none⟩), .pointer (some ⟨N, 0, none⟩), .pointer (some ⟨G, 0, none⟩)] (wr.alloc (.cells #[.string ⟨#[x]⟩, .string ⟨#[y]⟩] 104)) (CountedPost (ebs es) t y M fk (wr.alloc (.cells #[.string ⟨#[x]⟩, .string ⟨#[y]⟩] 104)))) := Lib.hid (by
          refine IH.out r2 y fk _ (by omega) hr7 ht2 (HHK.out.keep HBA.out) ?_ hNA HCK.out
          exact hEk.grown_low HBA.out (by omega) (fun c hc => by intro e; injection e with e; omega))
        obtain ⟨c2n, hc2⟩ : ∃ c2n : Nat, cntE (ebs es) t y = c2n := ⟨_, rfl⟩
        have z1 : IntKind.i64.wrap ((c1n : Int) + (c2n : Int)) = (c1n : Int) + (c2n : Int) := IntWalk.i64_in _ (by omega)
        have HC2 := Lib.hid hc2
        rw [hc1]
        clear hc1 hcb hNA ht2 hc2
        have c3 := (HHK.out.keep HBA.out).go
        go_wp2_with fail
        refine HCALL.out.mono ?_
        rintro e w5 ⟨rfl, f5, hn5, hc5, hle5, hb5, hg5⟩
        have HG5 := Lib.hid ((HGR.out.trans HBA.out).trans hg5)
        have HN5 := Lib.hid hn5; have HC5 := Lib.hid hc5; have HB5 := Lib.hid hb5
        have HLE5 : Hid (∀ y, f y ≠ none → f5 y ≠ none) := Lib.hid fun y hy => hle5 y (HLEQ.out y hy)
        have HDN5 : Hid (∀ i, i < k + 1 → ∀ z, (ebs es)[i]? = some ([x], [z]) → f5 z ≠ none) := Lib.hid fun i hi z hz => by
          by_cases hik : i < k
          · exact hle5 z (HDN.out i hik z hz)
          · have : i = k := by omega
            subst this
            rw [HE1.out] at hz
            injection hz with hz
            injection hz with _ hz
            injection hz with hz _
            subst hz
            exact HB5.out
        rw [HC2.out]
        clear hn5 hc5 hle5 hb5 hg5 c1 c2 c3 HCALL
        go_wp2_with fail
        go_roundw
        case rel => exact ⟨k + 1, f5, by omega, by go_num, by rw [HN2.out, HC2.out, Int.natCast_add], HN5.out, HC5.out, HLE5.out, HDN5.out, HG5.out⟩
        case measure => simp [intOf]; omega

theorem lead_of {B : ByteArray} {es : List (ByteArray × ByteArray)} {O : List UInt8} (h : Acy B es O) : Lead B es O (entry B.data.toList) (exit_ B.data.toList) :=
  ⟨h.F.few, h.F.lets, h.topo, h.eight, h.all _ h.F.ent, h.F.one, h.F.eight, h.F.first, h.F.last, h.no⟩

end Go.Proofs.Ytjfdkhaepmmlfaa

namespace Go.Proofs.Ytjfdkhaepmmlfaa
open Go.RowKit

/-- what is handed back: a map that has the counts of all blocks that can be come to -/
def MapPost (E : Eds) (e0 t : UInt8) (w : World) (e : Ending) (w' : World) : Prop :=
  ∃ M f, e = .returned (.map (some M)) ∧ w.heap.size ≤ M ∧ NumsIs w' M f ∧ Below w.heap.size w w' ∧ ∀ b, Way E e0 b → f b = some ((cntE E t b : Nat) : Int)

theorem counted_all {E : Eds} {t e0 : UInt8} {f : UInt8 → Option Int} (h : Counted E t f) (h0 : f e0 ≠ none) {b : UInt8} (hw : Way E e0 b) : f b = some ((cntE E t b : Nat) : Int) := by
  have hn : f b ≠ none := by
    induction hw with
    | refl => exact h0
    | step _ he ih => exact h.closed _ ih _ he
  cases hf : f b with
  | none => exact absurd hf hn
  | some v => rw [h.agree b v hf]

set_option maxRecDepth 100000 in
set_option maxHeartbeats 4000000 in
/-- impl.countsToExit -/
theorem countsToExit_any (B : ByteArray) (A : Option Addr) (cap : Nat) (es : List (ByteArray × ByteArray)) (O : List UInt8) (e0 t : UInt8) (w : World) (hE : EdgesIn w w.heap.size A es) (hL : Lead B es O e0 t) (hBm : B.size ≤ maxLen) :
    Calls Try.prog 105 #[.agg #[.string B, .slice A es.length cap]] w (MapPost (ebs es) e0 t w) := by
  have hB1 := hL.one
  have HM := Lib.hid hBm
  have hmm := @run_makeMap Try.prog
  obtain ⟨W1, hW1⟩ : ∃ W1, W1 = (w.alloc (.cells #[.string B, .slice A es.length cap] 30)).alloc (.map #[] 0) := ⟨_, rfl⟩
  have hb1 : Below w.heap.size w W1 := by rw [hW1]; exact ((Below.refl _ _).alloc (Nat.le_refl _) _).alloc (by simp) _
  have t1 : Two W1 w.heap.size B A es.length cap := by rw [hW1]; exact ⟨by go_simp, by go_simp⟩
  have hz1 : W1.heap.size = w.heap.size + 2 := by rw [hW1]; simp
  have hn1 : NumsIs W1 (w.heap.size + 1) (fun _ => none) := by
    have := NumsIs.new (w.alloc (.cells #[.string B, .slice A es.length cap] 30))
    rw [World.size_alloc] at this
    rw [hW1]; exact this
  have c0 := t1.1; have c1 := t1.2
  rw [hW1] at c0 c1
  clear hBm
  go_enter Try.func105, Try.ntmps105
  go_wp2_with fail
  rw [← hW1]
  clear hmm c0 c1 hW1
  refine (exitOf_any B _ _ hB1 HM.out).mono ?_
  rintro e w2 ⟨rfl, hb2⟩
  rw [hL.last]
  have t2 := t1.below hb2 (by omega)
  have hn2 := hn1.below hb2 (by omega)
  have hb2' := hb1.trans (hb2.mono hb1.size)
  have hz2 := hb2.size
  clear hb2 t1 hn1 hb1
  obtain ⟨w3, hrun, hset3, hg3⟩ := hn2.update (P := Try.prog) (kt := 9) (t := 138) (e := 3) Try.underlying9 Try.underlying138 t 1
  have HSET := Lib.hid hset3; have HG := Lib.hid hg3
  have hz3 := hg3.size
  clear hset3 hg3 hn2
  go_wp2_with fail
  clear hrun
  obtain ⟨W4, hW4⟩ : ∃ W4, (w3.alloc (.cells #[.map (some (w.heap.size + 1))] 138)).alloc (.cells #[.func (.func 120) #[] #[.pointer (some ⟨w3.heap.size, 0, none⟩), .pointer (some ⟨w.heap.size, 0, none⟩), .pointer (some ⟨w3.heap.size + 1, 0, none⟩)]] 157) = W4 := ⟨_, rfl⟩
  have hb4 : Below w3.heap.size w3 W4 := by rw [← hW4]; exact ((Below.refl _ _).alloc (Nat.le_refl _) _).alloc (by simp) _
  have hz4 : W4.heap.size = w3.heap.size + 2 := by rw [← hW4]; simp
  have m4 : W4.cell? ⟨w3.heap.size, 0, none⟩ = some (.map (some (w.heap.size + 1))) := by rw [← hW4]; clear hW4; go_simp
  have g4 : W4.cell? ⟨w3.heap.size + 1, 0, none⟩ = some (.func (.func 120) #[] #[.pointer (some ⟨w3.heap.size, 0, none⟩), .pointer (some ⟨w.heap.size, 0, none⟩), .pointer (some ⟨w3.heap.size + 1, 0, none⟩)]) := by rw [← hW4]; clear hW4; go_simp
  have t4 : Two W4 w.heap.size B A es.length cap := (t2.grown HG.out (by omega) (by intro e; injection e with e; omega)).below hb4 (by omega)
  have hH : HomeC W4 w.heap.size (w.heap.size + 1) w3.heap.size (w3.heap.size + 1) B A es.length cap := ⟨t4, m4, g4, by omega, by omega, by omega, by omega⟩
  have hbw : Below w.heap.size w W4 := (hb2'.grown HG.out (by omega) (fun q e => by injection e with e; omega)).trans (hb4.mono (by omega))
  have HN4 : Hid (NumsIs W4 (w.heap.size + 1) (fun y => if y = t then some 1 else none)) := Lib.hid (HSET.out.below hb4 (by omega))
  have HC4 : Hid (Counted (ebs es) t (fun y => if y = t then some (1 : Int) else none)) := Lib.hid (by
    refine ⟨fun y v hy => ?_, fun y hy z hz => ?_, by simp⟩
    · by_cases e : y = t
      · subst e; simp only [if_true] at hy; injection hy with hy; rw [cntE_at, ← hy]; rfl
      · rw [if_neg e] at hy; cases hy
    · by_cases e : y = t
      · subst e; exact absurd hz (hL.no z)
      · rw [if_neg e] at hy; exact absurd rfl hy)
  obtain ⟨r, htr, hr7⟩ := topo_at hL.topo hL.eight hL.ent
  have HTR := Lib.hid htr
  have HH := Lib.hid hH; have HBW := Lib.hid hbw
  rw [hW4]
  have c0 := t4.1; have c1 := t4.2
  clear hW4 hb2' t2 hb4 m4 t4 hH hbw htr HSET HG
  obtain ⟨C, hC⟩ : ∃ C, w3.heap.size = C := ⟨_, rfl⟩
  rw [hC] at g4 HH hz4 ⊢
  have hS : ∀ W, Below W4.heap.size W4 W → (W.cell? ⟨w.heap.size, 0, none⟩ = some (.string B) ∧ W.cell? ⟨w.heap.size, 1, none⟩ = some (.slice A es.length cap) ∧ W.cell? ⟨C + 1, 0, none⟩ = some (.func (.func 120) #[] #[.pointer (some ⟨C, 0, none⟩), .pointer (some ⟨w.heap.size, 0, none⟩), .pointer (some ⟨C + 1, 0, none⟩)])) :=
    fun W h => ⟨(h.cell (by simp only; omega)).trans c0, (h.cell (by simp only; omega)).trans c1, (h.cell (by simp only; omega)).trans g4⟩
  have HSS := Lib.hid hS
  have HCALL : Hid (∀ W, Below W4.heap.size W4 W → Calls Try.prog 120 #[.string ⟨#[e0]⟩, .pointer (some ⟨C, 0, none⟩), .pointer (some ⟨w.heap.size, 0, none⟩), .pointer (some ⟨C + 1, 0, none⟩)] W (CountedPost (ebs es) t e0 (w.heap.size + 1) (fun y => if y = t then some 1 else none) W)) := Lib.hid fun W h => by
    have hg : W4.grownBy W (some (w.heap.size + 1)) := ⟨h.os, h.tape, h.output, h.size, fun i hi _ => h.block i hi⟩
    refine countFrom_in w.heap.size (w.heap.size + 1) C (C + 1) B A cap es O e0 t hL (r.length + 1) r e0 _ W (by omega) hr7 HTR.out (HH.out.keep hg) ?_ (HN4.out.below h (by omega)) HC4.out
    exact (hE.below HBW.out).below (h.mono (by omega))
  have HFST := Lib.hid hL.first
  clear hS c0 c1 g4
  go_region_held3 (fun W => W.cell? ⟨w.heap.size, 0, none⟩ = some (.string B) ∧ W.cell? ⟨w.heap.size, 1, none⟩ = some (.slice A es.length cap) ∧ W.cell? ⟨C + 1, 0, none⟩ = some (.func (.func 120) #[] #[.pointer (some ⟨C, 0, none⟩), .pointer (some ⟨w.heap.size, 0, none⟩), .pointer (some ⟨C + 1, 0, none⟩)]))
    (first | exact HSS.out _ (Below.refl _ _).drew | exact HSS.out _ ((Below.refl _ _).drew.trans hb6) | exact hk7)
    (first
      | (go_at_call 92; refine (entryOf_any B _ _ hB1 HM.out).mono ?_; rw [HFST.out]; rintro e w6 ⟨rfl, hb6⟩)
      | (go_at_call 120; refine (HCALL.out _ ((Below.refl _ _).drew.trans hb6)).mono ?_; rintro e w7 ⟨rfl, f7, hn7, hc7, hle7, hb7, hg7⟩
         have hk7 : w7.cell? ⟨w.heap.size, 0, none⟩ = some (.string B) ∧ w7.cell? ⟨w.heap.size, 1, none⟩ = some (.slice A es.length cap) ∧ w7.cell? ⟨C + 1, 0, none⟩ = some (.func (.func 120) #[] #[.pointer (some ⟨C, 0, none⟩), .pointer (some ⟨w.heap.size, 0, none⟩), .pointer (some ⟨C + 1, 0, none⟩)]) := by
           have hx := hb6.size
           have h6 := HSS.out _ ((Below.refl _ _).drew.trans hb6)
           exact ⟨(World.cell?_of_block (hg7.block w.heap.size (by simp at hx; omega) (by intro e; injection e with e; omega))).trans h6.1, (World.cell?_of_block (hg7.block w.heap.size (by simp at hx; omega) (by intro e; injection e with e; omega))).trans h6.2.1, (World.cell?_of_block (hg7.block (C + 1) (by simp at hx; omega) (by intro e; injection e with e; omega))).trans h6.2.2⟩))
  have hbF : Below w.heap.size w w7 := by
    have h6 := HBW.out.trans (((Below.refl W4.heap.size W4).drew.trans hb6).mono (by have := HBW.out.size; omega))
    exact h6.grown hg7 h6.size (fun q e => by injection e with e; omega)
  have hcm := (World.cell?_of_block (a := ⟨C, 0, none⟩) (hg7.block C (by have := hb6.size; simp at this; omega) (by intro e; injection e with e; omega))).trans ((((Below.refl W4.heap.size W4).drew.trans hb6).cell (p := ⟨C, 0, none⟩) (by simp only; omega)).trans HH.out.map)
  have hall : ∀ b, Way (ebs es) e0 b → f7 b = some ((cntE (ebs es) t b : Nat) : Int) := fun b hb => counted_all hc7 hb7 hb
  have HALL := Lib.hid hall; have HBF := Lib.hid hbF; have HN7 := Lib.hid hn7
  clear hn7 hc7 hle7 hb7 hg7 hk7 hb6 hall hbF HSS HCALL
  go_wp2_with fail
  go_ret
  exact ⟨_, f7, rfl, by omega, HN7.out, HBF.out, HALL.out⟩

end Go.Proofs.Ytjfdkhaepmmlfaa

namespace Go.Proofs.Ytjfdkhaepmmlfaa
open Go.RowKit

/-- sixteen numbers -/
def arr16 (F : Nat → Nat) : Value := .agg #[.int .i64 ((F 0 : Nat) : Int), .int .i64 ((F 1 : Nat) : Int), .int .i64 ((F 2 : Nat) : Int), .int .i64 ((F 3 : Nat) : Int), .int .i64 ((F 4 : Nat) : Int), .int .i64 ((F 5 : Nat) : Int), .int .i64 ((F 6 : Nat) : Int), .int .i64 ((F 7 : Nat) : Int), .int .i64 ((F 8 : Nat) : Int), .int .i64 ((F 9 : Nat) : Int), .int .i64 ((F 10 : Nat) : Int), .int .i64 ((F 11 : Nat) : Int), .int .i64 ((F 12 : Nat) : Int), .int .i64 ((F 13 : Nat) : Int), .int .i64 ((F 14 : Nat) : Int), .int .i64 ((F 15 : Nat) : Int)]

theorem arr16_row (W : World) (F : Nat → Nat) : (W.alloc (.cells #[.int .i64 ((F 0 : Nat) : Int), .int .i64 ((F 1 : Nat) : Int), .int .i64 ((F 2 : Nat) : Int), .int .i64 ((F 3 : Nat) : Int), .int .i64 ((F 4 : Nat) : Int), .int .i64 ((F 5 : Nat) : Int), .int .i64 ((F 6 : Nat) : Int), .int .i64 ((F 7 : Nat) : Int), .int .i64 ((F 8 : Nat) : Int), .int .i64 ((F 9 : Nat) : Int), .int .i64 ((F 10 : Nat) : Int), .int .i64 ((F 11 : Nat) : Int), .int .i64 ((F 12 : Nat) : Int), .int .i64 ((F 13 : Nat) : Int), .int .i64 ((F 14 : Nat) : Int), .int .i64 ((F 15 : Nat) : Int)] 69)).rowIs W.heap.size 69 16 (fun i => .int .i64 ((F i : Nat) : Int)) := by
  refine World.rowIs_alloc W _ _ _ fun i hi => ?_
  have hi2 : i < 16 := hi
  have h : i = 0 ∨ i = 1 ∨ i = 2 ∨ i = 3 ∨ i = 4 ∨ i = 5 ∨ i = 6 ∨ i = 7 ∨ i = 8 ∨ i = 9 ∨ i = 10 ∨ i = 11 ∨ i = 12 ∨ i = 13 ∨ i = 14 ∨ i = 15 := by omega
  rcases h with rfl | rfl | rfl | rfl | rfl | rfl | rfl | rfl | rfl | rfl | rfl | rfl | rfl | rfl | rfl | rfl <;> rfl

/-- what holds while values are reckoned -/
structure ValsAt (w W : World) (R X M S : Nat) (B : ByteArray) (A : Option Addr) (n cap : Nat) (F : Nat → Nat) (f g : UInt8 → Option Int) : Prop where
  below : Below w.heap.size w W
  net : Two W w.heap.size B A n cap
  arr : W.rowIs X 69 16 (fun i => .int .i64 ((F i : Nat) : Int))
  res : W.rowIs R 69 16 (fun _ => .int .i64 0)
  cnt : NumsIs W M f
  sums : NumsIs W S g
  n1 : w.heap.size < R
  n2 : R < X
  n3 : X < M
  n4 : M < S
  n5 : S < W.heap.size
section
variable {w W W' : World} {R X M S : Nat} {B : ByteArray} {A : Option Addr} {n cap : Nat} {F : Nat → Nat} {f g : UInt8 → Option Int}
theorem ValsAt.go (h : ValsAt w W R X M S B A n cap F f g) (k : Below W.heap.size W W') : ValsAt w W' R X M S B A n cap F f g := by
  have h1 := h.n1; have h2 := h.n2; have h3 := h.n3; have h4 := h.n4; have h5 := h.n5; have hz := k.size
  exact ⟨h.below.trans (k.mono h.below.size), h.net.below k (by omega), h.arr.of_block (k.block X (by omega)), h.res.of_block (k.block R (by omega)), h.cnt.below k (by omega), h.sums.below k (by omega), h1, h2, h3, h4, by omega⟩
theorem ValsAt.set (h : ValsAt w W R X M S B A n cap F f g) {i v : Nat} : ValsAt w (W.setCell ⟨X, i, none⟩ (.int .i64 (v : Int))) R X M S B A n cap (fun j => if j = i then v else F j) f g := by
  have h1 := h.n1; have h2 := h.n2; have h3 := h.n3; have h4 := h.n4; have h5 := h.n5
  have e : ∀ b, b ≠ X → (W.setCell ⟨X, i, none⟩ (.int .i64 (v : Int))).heap[b]? = W.heap[b]? := fun b hb => Below.heap_setCell _ _ _ _ hb
  refine ⟨h.below.setCell (by simp only; omega) _, ⟨(World.cell?_of_block (e w.heap.size (by omega))).trans h.net.1, (World.cell?_of_block (e w.heap.size (by omega))).trans h.net.2⟩, ?_, h.res.of_block (e R (by omega)), h.cnt.of_block (e M (by omega)), h.sums.of_block (e S (by omega)), h1, h2, h3, h4, by simp [World.setCell]; omega⟩
  refine (h.arr.set i (.int .i64 (v : Int))).congr fun j _ => ?_
  by_cases hj : j = i
  · simp [hj]
  · simp [hj]
theorem ValsAt.upd (h : ValsAt w W R X M S B A n cap F f g) {g' : UInt8 → Option Int} (k : W.grownBy W' (some S)) (hs : NumsIs W' S g') : ValsAt w W' R X M S B A n cap F f g' := by
  have h1 := h.n1; have h2 := h.n2; have h3 := h.n3; have h4 := h.n4; have h5 := h.n5; have hz := k.size
  have e : ∀ b, b < W.heap.size → b ≠ S → W'.heap[b]? = W.heap[b]? := fun b hb hm => k.block b hb (by intro e; injection e with e; exact hm e)
  exact ⟨h.below.grown k h.below.size (fun q e => by injection e with e; omega), ⟨(World.cell?_of_block (e w.heap.size (by omega) (by omega))).trans h.net.1, (World.cell?_of_block (e w.heap.size (by omega) (by omega))).trans h.net.2⟩, h.arr.of_block (e X (by omega) (by omega)), h.res.of_block (e R (by omega) (by omega)), h.cnt.of_block (e M (by omega) (by omega)), hs, h1, h2, h3, h4, by omega⟩
end

theorem valE_out {E : Eds} {t : UInt8} {i : Nat} (h : E.length ≤ i) : valE E t i = 0 := by
  unfold valE; rw [List.getElem?_eq_none h]

set_option maxRecDepth 100000 in
set_option maxHeartbeats 8000000 in
/-- impl.edgeValues -/
theorem edgeValues_any (B : ByteArray) (A : Option Addr) (cap : Nat) (es : List (ByteArray × ByteArray)) (O : List UInt8) (e0 t : UInt8) (w : World) (hE : EdgesIn w w.heap.size A es) (hL : Lead B es O e0 t) (hBm : B.size ≤ maxLen) (hW : ∀ b ∈ B.data.toList, Way (ebs es) e0 b) (hall : ∀ b ∈ B.data.toList, b ∈ O) :
    Calls Try.prog 75 #[.agg #[.string B, .slice A es.length cap]] w fun e w' => e = .returned (arr16 (valE (ebs es) t)) ∧ Below w.heap.size w w' := by
  have h16 := hL.few
  have hmm := @run_makeMap Try.prog
  have FM : Hid (∀ W : World, EdgesIn W W.heap.size A es → Calls Try.prog 105 #[.agg #[.string B, .slice A es.length cap]] W (MapPost (ebs es) e0 t W)) := Lib.hid fun W h => countsToExit_any B A cap es O e0 t W h hL hBm
  obtain ⟨W1, hW1⟩ : ∃ W1, W1 = ((w.alloc (.cells #[.string B, .slice A es.length cap] 30)).alloc (.cells #[.int .i64 0, .int .i64 0, .int .i64 0, .int .i64 0, .int .i64 0, .int .i64 0, .int .i64 0, .int .i64 0, .int .i64 0, .int .i64 0, .int .i64 0, .int .i64 0, .int .i64 0, .int .i64 0, .int .i64 0, .int .i64 0] 69)).alloc (.cells #[.int .i64 0, .int .i64 0, .int .i64 0, .int .i64 0, .int .i64 0, .int .i64 0, .int .i64 0, .int .i64 0, .int .i64 0, .int .i64 0, .int .i64 0, .int .i64 0, .int .i64 0, .int .i64 0, .int .i64 0, .int .i64 0] 69) := ⟨_, rfl⟩
  have hb1 : Below w.heap.size w W1 := by rw [hW1]; exact (((Below.refl _ _).alloc (Nat.le_refl _) _).alloc (by simp) _).alloc (by simp; omega) _
  have hz1 : W1.heap.size = w.heap.size + 3 := by rw [hW1]; simp
  have b0 : W1.heap[w.heap.size]? = some (.cells #[.string B, .slice A es.length cap] 30 (0, 0)) := by
    rw [hW1]; exact alloc_old _ _ (alloc_old _ _ (heap_alloc_new _ _))
  have b1 : W1.heap[w.heap.size + 1]? = some (.cells #[.int .i64 0, .int .i64 0, .int .i64 0, .int .i64 0, .int .i64 0, .int .i64 0, .int .i64 0, .int .i64 0, .int .i64 0, .int .i64 0, .int .i64 0, .int .i64 0, .int .i64 0, .int .i64 0, .int .i64 0, .int .i64 0] 69 (0, 0)) := by
    rw [hW1]; exact alloc_old _ _ (alloc_at _ _ (by simp))
  have b2 : W1.heap[w.heap.size + 2]? = some (.cells #[.int .i64 0, .int .i64 0, .int .i64 0, .int .i64 0, .int .i64 0, .int .i64 0, .int .i64 0, .int .i64 0, .int .i64 0, .int .i64 0, .int .i64 0, .int .i64 0, .int .i64 0, .int .i64 0, .int .i64 0, .int .i64 0] 69 (0, 0)) := by
    rw [hW1]; exact alloc_at _ _ (by simp)
  have z16 : ∀ X, W1.heap[X]? = some (.cells #[.int .i64 0, .int .i64 0, .int .i64 0, .int .i64 0, .int .i64 0, .int .i64 0, .int .i64 0, .int .i64 0, .int .i64 0, .int .i64 0, .int .i64 0, .int .i64 0, .int .i64 0, .int .i64 0, .int .i64 0, .int .i64 0] 69 (0, 0)) → W1.rowIs X 69 16 (fun _ => .int .i64 0) := fun X h =>
    ⟨_, h, rfl, fun i hi => by
      have e : (#[.int .i64 0, .int .i64 0, .int .i64 0, .int .i64 0, .int .i64 0, .int .i64 0, .int .i64 0, .int .i64 0, .int .i64 0, .int .i64 0, .int .i64 0, .int .i64 0, .int .i64 0, .int .i64 0, .int .i64 0, .int .i64 0] : Array Value) = (List.replicate 16 (.int .i64 0)).toArray := rfl
      rw [e]; simp only [List.getElem?_toArray, List.getElem?_replicate, hi, if_true]⟩
  have r1 := z16 _ b1
  have x1 := z16 _ b2
  have t1 : Two W1 w.heap.size B A es.length cap := ⟨by simp [World.cell?, b0], by simp [World.cell?, b0]⟩
  have HT1 := Lib.hid t1; have HR1 := Lib.hid r1; have HX1 := Lib.hid x1; have HB1 := Lib.hid hb1
  clear z16 b0 b1 b2 r1 x1 t1 hb1
  go_enter Try.func75, Try.ntmps75
  go_wp2_with fail
  rw [← hW1]
  clear hmm hW1
  refine (FM.out _ ((hE.below HB1.out).more HB1.out.size)).mono ?_
  rintro e w2 ⟨M, f, rfl, hM, hnm, hb2, hcf⟩
  have hb2' := HB1.out.trans (hb2.mono HB1.out.size)
  have hz2 := hb2.size
  have HT2 := Lib.hid (HT1.out.below hb2 (by omega)); have HR2 := Lib.hid (HR1.out.of_block (hb2.block _ (by omega))); have HX2 := Lib.hid (HX1.out.of_block (hb2.block _ (by omega)))
  have hml := hnm.lt
  obtain ⟨W3, hW3⟩ : ∃ W3, w2.alloc (.map #[] 0) = W3 := ⟨_, rfl⟩
  have hb3 : Below w2.heap.size w2 W3 := by rw [← hW3]; exact (Below.refl _ _).alloc (Nat.le_refl _) _
  have hz3 : W3.heap.size = w2.heap.size + 1 := by rw [← hW3]; simp
  have hns : NumsIs W3 w2.heap.size (fun _ => none) := by rw [← hW3]; exact NumsIs.new w2
  have hmm := @run_makeMap Try.prog
  have HV : Hid (ValsAt w W3 (w.heap.size + 1) (w.heap.size + 1 + 1) M w2.heap.size B A es.length cap (fun _ => 0) f (fun _ => none)) := Lib.hid
    ⟨hb2'.trans (hb3.mono (by omega)), HT2.out.below hb3 (by omega), HX2.out.of_block (hb3.block _ (by omega)), HR2.out.of_block (hb3.block _ (by omega)), hnm.below hb3 hml, hns, by omega, by omega, by omega, by omega, by omega⟩
  have HCF : Hid (∀ b ∈ B.data.toList, f b = some ((cntE (ebs es) t b : Nat) : Int)) := Lib.hid fun b hb => hcf b (hW b hb)
  have hd1 := HV.out.net.2
  clear hb2 hb2' hnm hcf hns hb3 HT1 HR1 HX1 HB1 HT2 HR2 HX2
  go_wp2_with fail
  clear hd1 hmm hW3
  obtain ⟨S, hS⟩ : ∃ S, w2.heap.size = S := ⟨_, rfl⟩
  obtain ⟨X, hX⟩ : ∃ X, w.heap.size + 1 + 1 = X := ⟨_, rfl⟩
  obtain ⟨R, hR⟩ : ∃ R, w.heap.size + 1 = R := ⟨_, rfl⟩
  rw [hS, hX, hR] at HV
  rw [hS, hX, hR]
  clear hM hz2 hml hz3 hS hX hR hz1
  go_loopw [14] (fun c wr => ∃ (k : Nat) (g : UInt8 → Option Int), k ≤ es.length ∧ c = .int .i64 k ∧ ValsAt w wr R X M S B A es.length cap (fun i => if i < k then valE (ebs es) t i else 0) f g ∧ ∀ x, (g x).getD 0 = ((sumC (ebs es) (cntE (ebs es) t) x (List.range k) : Nat) : Int)) (fun c _ => es.length - (intOf c).toNat)
  case atStart => exact ⟨0, fun _ => none, Nat.zero_le _, rfl, HV.out, fun x => rfl⟩
  case round =>
    clear HV
    obtain ⟨k, g, hk, rfl, hv, hg⟩ := hrel
    have HG := Lib.hid hg
    have HV := Lib.hid hv
    clear hv hg
    by_cases hlt : k < es.length
    case neg =>
      have hkn : k = es.length := by omega
      have hel : (ebs es).length = es.length := ebs_len es
      have HARR : Hid (wr.rowIs X 69 16 (fun i => .int .i64 ((valE (ebs es) t i : Nat) : Int))) := Lib.hid (HV.out.arr.congr (fun i _ => by
        by_cases hi : i < k
        · rw [if_pos hi]
        · rw [if_neg hi, valE_out (by omega)]))
      have q0 := HARR.out.cell (i := 0) (by omega); have s0 := HV.out.res.cell (i := 0) (by omega); have f0 := HV.out.res.frozen 0
      have q1 := HARR.out.cell (i := 1) (by omega); have s1 := HV.out.res.cell (i := 1) (by omega); have f1 := HV.out.res.frozen 1
      have q2 := HARR.out.cell (i := 2) (by omega); have s2 := HV.out.res.cell (i := 2) (by omega); have f2 := HV.out.res.frozen 2
      have q3 := HARR.out.cell (i := 3) (by omega); have s3 := HV.out.res.cell (i := 3) (by omega); have f3 := HV.out.res.frozen 3
      have q4 := HARR.out.cell (i := 4) (by omega); have s4 := HV.out.res.cell (i := 4) (by omega); have f4 := HV.out.res.frozen 4
      have q5 := HARR.out.cell (i := 5) (by omega); have s5 := HV.out.res.cell (i := 5) (by omega); have f5 := HV.out.res.frozen 5
      have q6 := HARR.out.cell (i := 6) (by omega); have s6 := HV.out.res.cell (i := 6) (by omega); have f6 := HV.out.res.frozen 6
      have q7 := HARR.out.cell (i := 7) (by omega); have s7 := HV.out.res.cell (i := 7) (by omega); have f7 := HV.out.res.frozen 7
      have q8 := HARR.out.cell (i := 8) (by omega); have s8 := HV.out.res.cell (i := 8) (by omega); have f8 := HV.out.res.frozen 8
      have q9 := HARR.out.cell (i := 9) (by omega); have s9 := HV.out.res.cell (i := 9) (by omega); have f9 := HV.out.res.frozen 9
      have q10 := HARR.out.cell (i := 10) (by omega); have s10 := HV.out.res.cell (i := 10) (by omega); have f10 := HV.out.res.frozen 10
      have q11 := HARR.out.cell (i := 11) (by omega); have s11 := HV.out.res.cell (i := 11) (by omega); have f11 := HV.out.res.frozen 11
      have q12 := HARR.out.cell (i := 12) (by omega); have s12 := HV.out.res.cell (i := 12) (by omega); have f12 := HV.out.res.frozen 12
      have q13 := HARR.out.cell (i := 13) (by omega); have s13 := HV.out.res.cell (i := 13) (by omega); have f13 := HV.out.res.frozen 13
      have q14 := HARR.out.cell (i := 14) (by omega); have s14 := HV.out.res.cell (i := 14) (by omega); have f14 := HV.out.res.frozen 14
      have q15 := HARR.out.cell (i := 15) (by omega); have s15 := HV.out.res.cell (i := 15) (by omega); have f15 := HV.out.res.frozen 15
      obtain ⟨v0, e0⟩ : ∃ v0 : Int, ((valE (ebs es) t 0 : Nat) : Int) = v0 := ⟨_, rfl⟩
      obtain ⟨v1, e1⟩ : ∃ v1 : Int, ((valE (ebs es) t 1 : Nat) : Int) = v1 := ⟨_, rfl⟩
      obtain ⟨v2, e2⟩ : ∃ v2 : Int, ((valE (ebs es) t 2 : Nat) : Int) = v2 := ⟨_, rfl⟩
      obtain ⟨v3, e3⟩ : ∃ v3 : Int, ((valE (ebs es) t 3 : Nat) : Int) = v3 := ⟨_, rfl⟩
      obtain ⟨v4, e4⟩ : ∃ v4 : Int, ((valE (ebs es) t 4 : Nat) : Int) = v4 := ⟨_, rfl⟩
      obtain ⟨v5, e5⟩ : ∃ v5 : Int, ((valE (ebs es) t 5 : Nat) : Int) = v5 := ⟨_, rfl⟩
      obtain ⟨v6, e6⟩ : ∃ v6 : Int, ((valE (ebs es) t 6 : Nat) : Int) = v6 := ⟨_, rfl⟩
      obtain ⟨v7, e7⟩ : ∃ v7 : Int, ((valE (ebs es) t 7 : Nat) : Int) = v7 := ⟨_, rfl⟩
      obtain ⟨v8, e8⟩ : ∃ v8 : Int, ((valE (ebs es) t 8 : Nat) : Int) = v8 := ⟨_, rfl⟩
      obtain ⟨v9, e9⟩ : ∃ v9 : Int, ((valE (ebs es) t 9 : Nat) : Int) = v9 := ⟨_, rfl⟩
      obtain ⟨v10, e10⟩ : ∃ v10 : Int, ((valE (ebs es) t 10 : Nat) : Int) = v10 := ⟨_, rfl⟩
      obtain ⟨v11, e11⟩ : ∃ v11 : Int, ((valE (ebs es) t 11 : Nat) : Int) = v11 := ⟨_, rfl⟩
      obtain ⟨v12, e12⟩ : ∃ v12 : Int, ((valE (ebs es) t 12 : Nat) : Int) = v12 := ⟨_, rfl⟩
      obtain ⟨v13, e13⟩ : ∃ v13 : Int, ((valE (ebs es) t 13 : Nat) : Int) = v13 := ⟨_, rfl⟩
      obtain ⟨v14, e14⟩ : ∃ v14 : Int, ((valE (ebs es) t 14 : Nat) : Int) = v14 := ⟨_, rfl⟩
      obtain ⟨v15, e15⟩ : ∃ v15 : Int, ((valE (ebs es) t 15 : Nat) : Int) = v15 := ⟨_, rfl⟩
      rw [e0] at q0; rw [e1] at q1; rw [e2] at q2; rw [e3] at q3; rw [e4] at q4; rw [e5] at q5; rw [e6] at q6; rw [e7] at q7; rw [e8] at q8; rw [e9] at q9; rw [e10] at q10; rw [e11] at q11; rw [e12] at q12; rw [e13] at q13; rw [e14] at q14; rw [e15] at q15
      have HRES : Hid (arr16 (valE (ebs es) t) = .agg #[.int .i64 v0, .int .i64 v1, .int .i64 v2, .int .i64 v3, .int .i64 v4, .int .i64 v5, .int .i64 v6, .int .i64 v7, .int .i64 v8, .int .i64 v9, .int .i64 v10, .int .i64 v11, .int .i64 v12, .int .i64 v13, .int .i64 v14, .int .i64 v15]) := Lib.hid (by unfold arr16; rw [e0, e1, e2, e3, e4, e5, e6, e7, e8, e9, e10, e11, e12, e13, e14, e15])
      clear e0 e1 e2 e3 e4 e5 e6 e7 e8 e9 e10 e11 e12 e13 e14 e15 hel hkn
      go_wp2_with fail
      have hbR : ∀ (W : World) (k : Nat) (u : Value), Below w.heap.size w W → Below w.heap.size w (W.setCell ⟨R, k, none⟩ u) := fun W k u h => h.setCell (by have := HV.out.n1; simp only; omega) _
      refine bodyPost_ret (v := .agg #[.int .i64 v0, .int .i64 v1, .int .i64 v2, .int .i64 v3, .int .i64 v4, .int .i64 v5, .int .i64 v6, .int .i64 v7, .int .i64 v8, .int .i64 v9, .int .i64 v10, .int .i64 v11, .int .i64 v12, .int .i64 v13, .int .i64 v14, .int .i64 v15]) (by simp [results, Try.results75, go_sem, s0, s1, s2, s3, s4, s5, s6, s7, s8, s9, s10, s11, s12, s13, s14, s15]) rfl ⟨by rw [HRES.out], ?_⟩
      exact hbR _ _ _ (hbR _ _ _ (hbR _ _ _ (hbR _ _ _ (hbR _ _ _ (hbR _ _ _ (hbR _ _ _ (hbR _ _ _ (hbR _ _ _ (hbR _ _ _ (hbR _ _ _ (hbR _ _ _ (hbR _ _ _ (hbR _ _ _ (hbR _ _ _ (hbR _ _ _ (HV.out.below))))))))))))))))
    obtain ⟨x, y, he, h1, h2, hxl, hyl⟩ := edge_letters hL.lets hlt
    obtain ⟨eb, eo, rfl, hlow, q1, q2⟩ := (hE.below HV.out.below) k hlt
    rw [h1] at q1
    rw [h2] at q2
    have HE1 := Lib.hid he
    obtain ⟨r, htr, hr7⟩ := topo_at hL.topo hL.eight (hall x hxl)
    obtain ⟨r2, htr2, hr72⟩ := topo_at hL.topo hL.eight (hall y hyl)
    obtain ⟨c1, hc1⟩ : ∃ c1 : Nat, sumC (ebs es) (cntE (ebs es) t) x (List.range k) = c1 := ⟨_, rfl⟩
    obtain ⟨c2, hc2⟩ : ∃ c2 : Nat, cntE (ebs es) t y = c2 := ⟨_, rfl⟩
    have hcb : c1 + c2 ≤ 8589934592 := by
      have h1 := sumC_few (t := t) (by rw [ebs_len]; exact h16) htr hr7 (show k ≤ 16 by omega)
      have h2 : cntE (ebs es) t y ≤ 268435456 := cntE_few (by rw [ebs_len]; exact h16) htr2 hr72
      omega
    have HVK : Hid (valE (ebs es) t k = c1) := Lib.hid (by rw [valE_eq he, hc1])
    have HRS : Hid (∀ z, sumC (ebs es) (cntE (ebs es) t) z (List.range (k + 1)) = if z = x then c1 + c2 else sumC (ebs es) (cntE (ebs es) t) z (List.range k)) := Lib.hid fun z => by
      rw [sumC_range]
      by_cases hz : z = x
      · subst hz; rw [if_pos rfl, stepC_yes he, hc1, hc2]
      · rw [if_neg hz, stepC_no he (fun e => hz e.symm), Nat.add_zero]
    have hgx : (g x).getD 0 = (c1 : Int) := by rw [HG.out x, hc1]
    have hfy : (f y).getD 0 = (c2 : Int) := by rw [HCF.out y hyl, Option.getD_some, hc2]
    -- the edge in its box, the value stored, the sum put
    have HVA : Hid (ValsAt w (wr.alloc (.cells #[.string ⟨#[x]⟩, .string ⟨#[y]⟩] 104)) R X M S B (some ⟨eb, eo, none⟩) es.length cap (fun i => if i < k then valE (ebs es) t i else 0) f g) := Lib.hid (HV.out.go ((Below.refl _ _).alloc (Nat.le_refl _) _))
    have HVB : Hid (ValsAt w ((wr.alloc (.cells #[.string ⟨#[x]⟩, .string ⟨#[y]⟩] 104)).setCell ⟨X, k, none⟩ (.int .i64 (c1 : Int))) R X M S B (some ⟨eb, eo, none⟩) es.length cap (fun j => if j = k then c1 else if j < k then valE (ebs es) t j else 0) f g) := Lib.hid HVA.out.set
    have hk16 : k < 16 := by omega
    have hlka := HVA.out.sums.lookup (P := Try.prog) (kt := 9) (t := 138) (e := 3) Try.underlying9 Try.underlying138 (by kernel_rfl) x
    rw [hgx] at hlka
    have hlkb := HVB.out.sums.lookup (P := Try.prog) (kt := 9) (t := 138) (e := 3) Try.underlying9 Try.underlying138 (by kernel_rfl) x
    rw [hgx] at hlkb
    have hlkc := HVB.out.cnt.lookup (P := Try.prog) (kt := 9) (t := 138) (e := 3) Try.underlying9 Try.underlying138 (by kernel_rfl) y
    rw [hfy] at hlkc
    have ca := HVA.out.arr.cell (i := k) hk16
    have fa := HVA.out.arr.frozen k
    have i1 : (0 : Int) ≤ (k : Int) := by omega
    have i2 : (k : Int) < 16 := by omega
    have z1 : IntKind.i64.wrap ((c1 : Int) + (c2 : Int)) = (c1 : Int) + (c2 : Int) := IntWalk.i64_in _ (by omega)
    obtain ⟨w4, hrun, hset4, hg4⟩ := HVB.out.sums.update (P := Try.prog) (kt := 9) (t := 138) (e := 3) Try.underlying9 Try.underlying138 x ((c1 : Int) + (c2 : Int))
    have HV4 : Hid (ValsAt w w4 R X M S B (some ⟨eb, eo, none⟩) es.length cap (fun i => if i < k + 1 then valE (ebs es) t i else 0) f (fun z => if z = x then some ((c1 : Int) + (c2 : Int)) else g z)) := Lib.hid (by
      have h := HVB.out.upd hg4 hset4
      refine ⟨h.below, h.net, h.arr.congr fun i _ => ?_, h.res, h.cnt, h.sums, h.n1, h.n2, h.n3, h.n4, h.n5⟩
      by_cases hik : i = k
      · subst hik; rw [if_pos rfl, if_pos (by omega), HVK.out]
      · by_cases hi : i < k
        · rw [if_neg hik, if_pos hi, if_pos (by omega)]
        · rw [if_neg hik, if_neg hi, if_neg (by omega)])
    have HG4 : Hid (∀ z, ((fun z => if z = x then some ((c1 : Int) + (c2 : Int)) else g z) z).getD 0 = ((sumC (ebs es) (cntE (ebs es) t) z (List.range (k + 1)) : Nat) : Int)) := Lib.hid fun z => by
      rw [HRS.out z]
      by_cases hz : z = x
      · simp only [hz, if_true, Option.getD_some]; rw [Int.natCast_add]
      · simp only [hz, if_false]; exact HG.out z
    have cf : (wr.alloc (.cells #[.string ⟨#[x]⟩, .string ⟨#[y]⟩] 104)).cell? ⟨wr.heap.size, 0, none⟩ = some (.string ⟨#[x]⟩) := by go_simp
    have ct : (wr.alloc (.cells #[.string ⟨#[x]⟩, .string ⟨#[y]⟩] 104)).cell? ⟨wr.heap.size, 1, none⟩ = some (.string ⟨#[y]⟩) := by go_simp
    have hXlt : X ≠ wr.heap.size := by have := HV.out.n3; have := HV.out.n4; have := HV.out.n5; omega
    clear he h1 h2 htr htr2 hc1 hc2 hcb hgx hfy hset4 hg4
    go_wp2_with fail
    exact ⟨⟨k + 1, _, by omega, by go_num, HV4.out, HG4.out⟩, by simp [intOf]; omega⟩

end Go.Proofs.Ytjfdkhaepmmlfaa

namespace Go.Proofs.Ytjfdkhaepmmlfaa
open Go.RowKit

set_option maxRecDepth 100000 in
set_option maxHeartbeats 1000000 in
/-- impl.move.adds -/
theorem adds_any (F : Nat → Nat) (m : Mv) (w : World) (hF : ∀ k, F k ≤ 4294967296) (hn : NmOk m.nm) :
    Calls Try.prog 108 #[.agg #[.string ⟨#[m.sg, m.nm]⟩, .string ⟨#[m.fr]⟩, .string ⟨#[m.tb]⟩], arr16 F] w fun e w' => e = .returned (.int .i64 (addM F m)) ∧ Below w.heap.size w w' := by
  obtain ⟨s, hs⟩ : ∃ s, m.sg = s := ⟨_, rfl⟩
  obtain ⟨c, hc⟩ : ∃ c, m.nm = c := ⟨_, rfl⟩
  obtain ⟨tx, htx⟩ : ∃ tx : ByteArray, (⟨#[s, c]⟩ : ByteArray) = tx := ⟨_, rfl⟩
  have hts : tx.size = 2 := by rw [← htx]; rfl
  have l0 : 0 < tx.size := by omega
  have l1 : 1 < tx.size := by omega
  have t0 : tx[0]'l0 = s := by subst htx; rfl
  have t1 : tx[1]'l1 = c := by subst htx; rfl
  obtain ⟨W0, hW0⟩ : ∃ W0, W0 = w.alloc (.cells #[.string tx, .string ⟨#[m.fr]⟩, .string ⟨#[m.tb]⟩] 144) := ⟨_, rfl⟩
  have hr := arr16_row W0 F
  have hz0 : W0.heap.size = w.heap.size + 1 := by rw [hW0]; simp
  obtain ⟨W1, hW1⟩ : ∃ W1, W1 = W0.alloc (.cells #[.int .i64 ((F 0 : Nat) : Int), .int .i64 ((F 1 : Nat) : Int), .int .i64 ((F 2 : Nat) : Int), .int .i64 ((F 3 : Nat) : Int), .int .i64 ((F 4 : Nat) : Int), .int .i64 ((F 5 : Nat) : Int), .int .i64 ((F 6 : Nat) : Int), .int .i64 ((F 7 : Nat) : Int), .int .i64 ((F 8 : Nat) : Int), .int .i64 ((F 9 : Nat) : Int), .int .i64 ((F 10 : Nat) : Int), .int .i64 ((F 11 : Nat) : Int), .int .i64 ((F 12 : Nat) : Int), .int .i64 ((F 13 : Nat) : Int), .int .i64 ((F 14 : Nat) : Int), .int .i64 ((F 15 : Nat) : Int)] 69) := ⟨_, rfl⟩
  rw [← hW1, hz0] at hr
  have hb : Below w.heap.size w W1 := by rw [hW1]; refine Below.alloc ?_ (by omega) _; rw [hW0]; exact (Below.refl _ _).alloc (Nat.le_refl _) _
  have c0 : W1.cell? ⟨w.heap.size, 0, none⟩ = some (.string tx) := by rw [hW1, hW0]; go_simp
  have HR := Lib.hid hr; have HB := Lib.hid hb; have HFF := Lib.hid hF
  rw [hs, hc, htx]
  unfold arr16
  have i0 : (0 : Int) ≤ 1 := by omega
  clear hr hb hF hz0 hts htx
  rw [hc] at hn
  by_cases hz : c = 122
  · have HV : Hid ((0 : Int) = addM F m) := Lib.hid (by unfold addM; rw [hc, if_pos hz])
    subst hz
    clear hn hs hc
    go_enter Try.func108, Try.ntmps108
    go_wp2_with fail
    rw [← hW0, ← hW1]
    clear hW0 hW1
    go_quiet (fail)
    go_wp2_with fail
    go_ret
    exact ⟨ret_int HV.out, below_drewN HB.out _⟩
  have hn2 : 97 ≤ c.toNat ∧ c.toNat < 113 := by
    rcases hn with h | h
    · exact absurd h hz
    · exact h
  obtain ⟨k, hk⟩ : ∃ k : Nat, c.toNat = 97 + k := ⟨c.toNat - 97, by omega⟩
  have hk16 : k < 16 := by omega
  have hkc : c.toNat - 97 = k := by omega
  have hck := HR.out.cell (i := k) hk16
  have hfk := HFF.out k
  obtain ⟨v, hv⟩ : ∃ v : Int, ((F k : Nat) : Int) = v := ⟨_, rfl⟩
  rw [hv] at hck
  have v0 : 0 ≤ v := by omega
  have v1 : v ≤ 4294967296 := by omega
  have k0 : (0 : Int) ≤ (k : Int) := by omega
  have k1 : (k : Int) < 16 := by omega
  have n122 : ((c.toNat : Int) == 122) = false := by rw [beq_eq_false_iff_ne]; omega
  have nsub : ((c.toNat : Int) - 97) % 256 = (k : Int) := by omega
  by_cases hsg : s = 45
  · have HV : Hid (-v = addM F m) := Lib.hid (by unfold addM; rw [hc, hs, if_neg hz, if_pos hsg, hkc, hv])
    subst hsg
    clear hn hn2 hs hc hz hk hkc hfk hv
    go_enter Try.func108, Try.ntmps108
    go_wp2_with fail
    rw [← hW0, ← hW1]
    clear hW0 hW1
    go_quiet (fail)
    go_wp2_with fail
    go_ret
    exact ⟨ret_int HV.out, below_drewN HB.out _⟩
  · have HV : Hid (v = addM F m) := Lib.hid (by unfold addM; rw [hc, hs, if_neg hz, if_neg hsg, hkc, hv])
    have q45 : ((s.toNat : Int) == 45) = false := by
      rw [beq_eq_false_iff_ne]
      intro e
      exact hsg (UInt8.toNat_inj.1 (by show s.toNat = 45; omega))
    clear hn hn2 hs hc hz hk hkc hfk hv hsg
    go_enter Try.func108, Try.ntmps108
    go_wp2_with fail
    rw [← hW0, ← hW1]
    clear hW0 hW1
    go_quiet (fail)
    go_wp2_with fail
    go_ret
    exact ⟨ret_int HV.out, below_drewN HB.out _⟩

end Go.Proofs.Ytjfdkhaepmmlfaa

namespace Go.Proofs.Ytjfdkhaepmmlfaa
open Go.RowKit

/-- heights turn to what they should be, and else stay -/
def Onw (l : List UInt8) (G : UInt8 → Int) (H H' : Nat → Int) : Prop := ∀ i, H' i = H i ∨ ∃ x ∈ l, idxL l x = i ∧ H' i = G x
theorem Onw.refl (l : List UInt8) (G : UInt8 → Int) (H : Nat → Int) : Onw l G H H := fun _ => .inl rfl
theorem Onw.keep {l : List UInt8} {G : UInt8 → Int} {H H' : Nat → Int} (h : Onw l G H H') {x : UInt8} (hx : x ∈ l) (e : H (idxL l x) = G x) : H' (idxL l x) = G x := by
  rcases h (idxL l x) with h1 | ⟨y, hy, h1, h2⟩
  · rw [h1, e]
  · rw [h2, idxL_inj hy hx h1]
theorem Onw.trans {l : List UInt8} {G : UInt8 → Int} {H H' H'' : Nat → Int} (h : Onw l G H H') (k : Onw l G H' H'') : Onw l G H H'' := fun i => by
  rcases k i with k1 | k1
  · rcases h i with h1 | ⟨x, hx, h1, h2⟩
    · exact .inl (by rw [k1, h1])
    · exact .inr ⟨x, hx, h1, by rw [k1, h2]⟩
  · exact .inr k1
theorem Onw.set {l : List UInt8} {G : UInt8 → Int} (H : Nat → Int) {x : UInt8} (hx : x ∈ l) : Onw l G H (fun i => if i = idxL l x then G x else H i) := fun i => by
  by_cases h : i = idxL l x
  · exact .inr ⟨x, hx, h.symm, by simp [h]⟩
  · exact .inl (by simp [h])

/-- eight numbers -/
def arr8 (H : Nat → Int) : Value := .agg #[.int .i64 (H 0), .int .i64 (H 1), .int .i64 (H 2), .int .i64 (H 3), .int .i64 (H 4), .int .i64 (H 5), .int .i64 (H 6), .int .i64 (H 7)]

/-- the variables of the walk -/
structure HomeH (W : World) (M X N V Gw : Nat) (B : ByteArray) (A : Option Addr) (n cap : Nat) (Am : Option Addr) (c : Nat) (ms : List Mv) (F : Nat → Nat) : Prop where
  mv : W.cell? ⟨M, 0, none⟩ = some (.slice Am ms.length c)
  net : Two W N B A n cap
  val : W.rowIs V 69 16 (fun i => .int .i64 ((F i : Nat) : Int))
  go : W.cell? ⟨Gw, 0, none⟩ = some (.func (.func 107) #[] #[.pointer (some ⟨M, 0, none⟩), .pointer (some ⟨X, 0, none⟩), .pointer (some ⟨N, 0, none⟩), .pointer (some ⟨V, 0, none⟩), .pointer (some ⟨Gw, 0, none⟩)])
  ms : MovesIn W W.heap.size Am ms
  ap : ∀ a, Am = some a → a.block ≠ X
  n1 : N < V
  n2 : V < X
  n3 : X < M
  n4 : M < Gw
  n5 : Gw < W.heap.size
theorem HomeH.keep {W W' : World} {M X N V Gw : Nat} {B : ByteArray} {A : Option Addr} {n cap : Nat} {Am : Option Addr} {c : Nat} {ms : List Mv} {F : Nat → Nat} (h : HomeH W M X N V Gw B A n cap Am c ms F) (k : W.grownBy W' (some X)) : HomeH W' M X N V Gw B A n cap Am c ms F := by
  have h1 := h.n1; have h2 := h.n2; have h3 := h.n3; have h4 := h.n4; have h5 := h.n5; have hz := k.size
  have eb : ∀ b, b < W.heap.size → b ≠ X → W'.heap[b]? = W.heap[b]? := fun b hb hm => k.block b hb (by intro e; injection e with e; exact hm e)
  have e : ∀ b, b < W.heap.size → b ≠ X → ∀ o, W'.cell? ⟨b, o, none⟩ = W.cell? ⟨b, o, none⟩ := fun b hb hm o => World.cell?_of_block (eb b hb hm)
  refine ⟨(e M (by omega) (by omega) _).trans h.mv, ⟨(e N (by omega) (by omega) _).trans h.net.1, (e N (by omega) (by omega) _).trans h.net.2⟩, h.val.of_block (eb V (by omega) (by omega)), (e Gw (by omega) (by omega) _).trans h.go, fun i hi => ?_, h.ap, h1, h2, h3, h4, by omega⟩
  obtain ⟨b, o, ha, hl, c1, c2, c3⟩ := h.ms i hi
  have hx : b ≠ X := h.ap _ ha
  exact ⟨b, o, ha, by omega, (e b hl hx _).trans c1, (e b hl hx _).trans c2, (e b hl hx _).trans c3⟩
/-- sixteen numbers, as cells -/
def vals16 (F : Nat → Nat) : List Value := [.int .i64 ((F 0 : Nat) : Int), .int .i64 ((F 1 : Nat) : Int), .int .i64 ((F 2 : Nat) : Int), .int .i64 ((F 3 : Nat) : Int), .int .i64 ((F 4 : Nat) : Int), .int .i64 ((F 5 : Nat) : Int), .int .i64 ((F 6 : Nat) : Int), .int .i64 ((F 7 : Nat) : Int), .int .i64 ((F 8 : Nat) : Int), .int .i64 ((F 9 : Nat) : Int), .int .i64 ((F 10 : Nat) : Int), .int .i64 ((F 11 : Nat) : Int), .int .i64 ((F 12 : Nat) : Int), .int .i64 ((F 13 : Nat) : Int), .int .i64 ((F 14 : Nat) : Int), .int .i64 ((F 15 : Nat) : Int)]
theorem arr16_vals (F : Nat → Nat) : arr16 F = .agg (vals16 F).toArray := rfl
theorem vals16_at (F : Nat → Nat) {j : Nat} (hj : j < 16) : (vals16 F)[j]? = some (.int .i64 ((F j : Nat) : Int)) := by
  have hc : j = 0 ∨ j = 1 ∨ j = 2 ∨ j = 3 ∨ j = 4 ∨ j = 5 ∨ j = 6 ∨ j = 7 ∨ j = 8 ∨ j = 9 ∨ j = 10 ∨ j = 11 ∨ j = 12 ∨ j = 13 ∨ j = 14 ∨ j = 15 := by omega
  rcases hc with rfl | rfl | rfl | rfl | rfl | rfl | rfl | rfl | rfl | rfl | rfl | rfl | rfl | rfl | rfl | rfl <;> rfl
theorem range16 {W : World} {V : Nat} {F : Nat → Nat} (h : W.rowIs V 69 16 (fun i => .int .i64 ((F i : Nat) : Int))) : W.rangeAt V 0 (vals16 F) := by
  intro j v hv
  have hj : j < 16 := (List.getElem?_eq_some_iff.1 hv).1
  rw [vals16_at F hj] at hv
  injection hv with hv
  subst hv
  rw [Nat.zero_add, h.cell hj]

end Go.Proofs.Ytjfdkhaepmmlfaa

namespace Go.Proofs.Ytjfdkhaepmmlfaa
open Go.RowKit

theorem wk_end_in {U : List Ed} {l : List UInt8} (hU : ∀ e ∈ U, e.a ∈ l ∧ e.b ∈ l) : ∀ {p : List Mv} {a b : UInt8}, a ∈ l → Wk U a p b → b ∈ l
  | [], a, b, ha, h => by have : a = b := h; subst this; exact ha
  | m :: p, a, b, ha, h => by
    refine wk_end_in hU (p := p) (a := m.tb) ?_ h.2.2
    obtain ⟨e, he, hm⟩ := mem_mvs.1 h.1
    rcases hm with rfl | rfl
    · exact (hU e he).2
    · exact (hU e he).1

theorem grown_set (W : World) (X i : Nat) (v : Value) : W.grownBy (W.setCell ⟨X, i, none⟩ v) (some X) :=
  ⟨rfl, rfl, rfl, by simp [World.setCell], fun b _ hne => Below.heap_setCell _ _ _ _ (by intro e; subst e; exact hne rfl)⟩

/-- what a call of the walk leaves -/
def WalkPost (l : List UInt8) (G : UInt8 → Int) (U : List Ed) (X : Nat) (H : Nat → Int) (b : UInt8) (last : Option UInt8) (W : World) (e : Ending) (W' : World) : Prop :=
  e = .returned (.tuple #[]) ∧ ∃ H' : Nat → Int, Onw l G H H' ∧ (∀ q x, Wk U b q x → NB q → okL last q → q ≠ [] → H' (idxL l x) = G x) ∧ W'.rowIs X 57 8 (fun i => .int .i64 (H' i)) ∧ W.grownBy W' (some X)

set_option maxRecDepth 100000 in
set_option maxHeartbeats 1000000 in
/-- impl.heightsIn$1 -/
theorem walk_fn (M X N V Gw : Nat) (B : ByteArray) (A : Option Addr) (n cap : Nat) (Am : Option Addr) (c : Nat) (ms : List Mv) (U : List Ed) (l : List UInt8) (F : Nat → Nat) (G : UInt8 → Int) (hl : B.data.toList = l) (h8 : l.length ≤ 8) (hF : ∀ k, F k ≤ 4294967296)
    (hM : ∀ m, m ∈ ms ↔ m ∈ mvs U) (hms : ms.length ≤ 100) (hU : ∀ e ∈ U, e.a ∈ l ∧ e.b ∈ l) (hNm : ∀ e ∈ U, NmOk e.nm) (hne : ∀ e ∈ U, e.a ≠ e.b) (hG : ∀ m ∈ mvs U, G m.tb = G m.fr + addM F m) (hGs : ∀ x ∈ l, -34359738368 ≤ G x ∧ G x ≤ 34359738368) :
    ∀ (k : Nat) (b : UInt8) (last : Option UInt8) (H : Nat → Int) (W : World), k ≤ 9 → DeepW U k b last → b ∈ l → HomeH W M X N V Gw B A n cap Am c ms F → W.rowIs X 57 8 (fun i => .int .i64 (H i)) → H (idxL l b) = G b →
    Calls Try.prog 107 #[.string ⟨#[b]⟩, .string (lastT last), .pointer (some ⟨M, 0, none⟩), .pointer (some ⟨X, 0, none⟩), .pointer (some ⟨N, 0, none⟩), .pointer (some ⟨V, 0, none⟩), .pointer (some ⟨Gw, 0, none⟩)] W (WalkPost l G U X H b last W) := by
  intro k
  induction k with
  | zero =>
    intro b last H W _ hd
    have := hd [] b rfl True.intro True.intro
    simp at this
  | succ k ih =>
    intro b last H W hk9 hd hbl hH hX hHb
    have IH := Lib.hid ih
    have HD := Lib.hid hd; have HH := Lib.hid hH; have HX := Lib.hid hX; have HHB := Lib.hid hHb; have HBL := Lib.hid hbl
    have HMM := Lib.hid hM; have HUU := Lib.hid hU; have HNM := Lib.hid hNm; have HNE := Lib.hid hne; have HGG := Lib.hid hG; have HGS := Lib.hid hGs; have HF := Lib.hid hF
    have c0 := hH.mv
    have FBI : Hid (∀ (x : UInt8), x ∈ l → ∀ (s : ByteArray), s = ⟨#[x]⟩ → ∀ W : World, Calls Try.prog 102 #[.agg #[.string B, .slice A n cap], .string s] W fun e w' => e = .returned (.int .i64 ((idxL l x : Nat) : Int)) ∧ Below W.heap.size W w') := Lib.hid fun x hx s hs W => by
      subst hs
      have := blockIndex_any B ⟨#[x]⟩ (.slice A n cap) W
      rw [hl] at this
      have e : bIdx l (⟨#[x]⟩ : ByteArray).data.toList = ((idxL l x : Nat) : Int) := by
        show Lib.indexByte l x = _
        unfold idxL
        have := indexByte_nonneg.2 hx
        omega
      rwa [e] at this
    obtain ⟨bb, hbb⟩ : ∃ bb : ByteArray, (⟨#[b]⟩ : ByteArray) = bb := ⟨_, rfl⟩
    obtain ⟨lb, hlb⟩ : ∃ lb : ByteArray, lastT last = lb := ⟨_, rfl⟩
    have HBB := Lib.hid hbb; have HLB := Lib.hid hlb; have H8 := Lib.hid h8
    rw [hbb, hlb]
    clear ih hd hM hH hX hHb hU hNm hne hG hGs hF hbl hbb hlb hl h8
    go_enter Try.func107, Try.ntmps107
    go_wp2_with fail
    clear c0
    go_loopw [13] (fun cc wr => ∃ (j : Nat) (Hc : Nat → Int), j ≤ ms.length ∧ cc = .int .i64 j ∧ Hid (W.grownBy wr (some X)) ∧ Hid (wr.rowIs X 57 8 (fun i => .int .i64 (Hc i))) ∧ Hid (Onw l G H Hc) ∧ Hid (∀ m ∈ ms.take j, some m.tb ≠ last → ∀ q x, Wk U b (m :: q) x → NB (m :: q) → Hc (idxL l x) = G x)) (fun cc _ => ms.length - (intOf cc).toNat)
    case atStart => exact ⟨0, H, Nat.zero_le _, rfl, Lib.hid (World.grownBy.refl _ _), HX, Lib.hid (Onw.refl _ _ _), Lib.hid (by simp)⟩
    case round =>
      obtain ⟨j, Hc, hj, rfl, HGR, HXC, HON, HT⟩ := hrel
      by_cases hlt : j < ms.length
      case neg =>
        have HDN : Hid (∀ q x, Wk U b q x → NB q → okL last q → q ≠ [] → Hc (idxL l x) = G x) := Lib.hid fun q x hw hn ho hq => by
          cases q with
          | nil => exact absurd rfl hq
          | cons m q => exact HT.out m (by rw [List.take_of_length_le (by omega)]; exact (HMM.out m).2 hw.1) ho q x hw hn
        go_wp2_with fail
        exact bodyPost_ret (v := .tuple #[]) (by simp [results, Try.results107, go_sem]) rfl ⟨rfl, Hc, HON.out, HDN.out, HXC.out, HGR.out⟩
      have hHr := HH.out.keep HGR.out
      have hwz := HGR.out.size
      obtain ⟨pb, po, rfl, hlow, g1, g2, g3⟩ := hHr.ms j hlt
      obtain ⟨m, hm⟩ : ∃ m, ms[j] = m := ⟨_, rfl⟩
      have hmem : m ∈ ms := by rw [← hm]; exact List.getElem_mem hlt
      have hmU := (HMM.out m).1 hmem
      have HTK : Hid (ms.take (j + 1) = ms.take j ++ [m]) := Lib.hid (by rw [List.take_add_one, List.getElem?_eq_getElem hlt, hm]; rfl)
      rw [hm] at g1 g2 g3
      obtain ⟨tx, htx⟩ : ∃ tx : ByteArray, (⟨#[m.sg, m.nm]⟩ : ByteArray) = tx := ⟨_, rfl⟩
      obtain ⟨fb, hfb⟩ : ∃ fb : ByteArray, (⟨#[m.fr]⟩ : ByteArray) = fb := ⟨_, rfl⟩
      obtain ⟨tb, htb⟩ : ∃ tb : ByteArray, (⟨#[m.tb]⟩ : ByteArray) = tb := ⟨_, rfl⟩
      rw [htx] at g1
      rw [hfb] at g2
      rw [htb] at g3
      have e1 : (fb.toList == bb.toList) = (m.fr == b) := by rw [← hfb, ← HBB.out]; exact one_eq _ _
      have e2 : (tb.toList == lb.toList) = (some m.tb == last) := by rw [← htb, ← HLB.out]; exact last_eq _ _
      have j1 : (0 : Int) ≤ (j : Int) := by omega
      have j2 : (j : Int) < (ms.length : Int) := by omega
      have hba : Below wr.heap.size wr (wr.alloc (.cells #[.string tx, .string fb, .string tb] 144)) := (Below.refl _ _).alloc (Nat.le_refl _) _
      have hn0 : (wr.alloc (.cells #[.string tx, .string fb, .string tb] 144)).cell? ⟨wr.heap.size, 0, none⟩ = some (.string tx) := by go_simp
      have hn1 : (wr.alloc (.cells #[.string tx, .string fb, .string tb] 144)).cell? ⟨wr.heap.size, 1, none⟩ = some (.string fb) := by go_simp
      have hn2 : (wr.alloc (.cells #[.string tx, .string fb, .string tb] 144)).cell? ⟨wr.heap.size, 2, none⟩ = some (.string tb) := by go_simp
      have HGA : Hid (W.grownBy (wr.alloc (.cells #[.string tx, .string fb, .string tb] 144)) (some X)) := Lib.hid (grown_below HGR.out hba)
      have hXr := HXC.out.alloc (.cells #[.string tx, .string fb, .string tb] 144)
      have HXA := Lib.hid hXr
      have HTX := Lib.hid htx; have HTB := Lib.hid htb; have HFB := Lib.hid hfb; have HMU := Lib.hid hmU
      have HHr := Lib.hid (hHr.keep (grown_below (World.grownBy.refl wr (some X)) hba))
      clear hm htx hfb htb hHr hmU hmem hXr hba
      by_cases c1 : m.fr = b
      case neg =>
        have q1 : (fb.toList == bb.toList) = false := by rw [e1, beq_eq_false_iff_ne]; exact c1
        have HNX : Hid (∀ m ∈ ms.take (j + 1), some m.tb ≠ last → ∀ q x, Wk U b (m :: q) x → NB (m :: q) → Hc (idxL l x) = G x) := Lib.hid fun m' hm' => by
          rw [HTK.out] at hm'
          rcases List.mem_append.1 hm' with h | h
          · exact HT.out m' h
          · simp at h; subst h; exact fun _ q x hw => absurd hw.2.1 c1
        clear c1 e1 e2
        go_wp2_with fail
        go_roundw
        case rel => exact ⟨j + 1, Hc, by omega, by go_num, HGA, HXA, HON, HNX⟩
        case measure => simp [intOf]; omega
      have hfbb : bb = fb := by rw [← HBB.out, ← HFB.out, c1]
      clear e1
      subst hfbb
      by_cases c2 : some m.tb = last
      · have htl : lb = tb := by rw [← HLB.out, ← HTB.out, ← c2]; rfl
        have HNX : Hid (∀ m ∈ ms.take (j + 1), some m.tb ≠ last → ∀ q x, Wk U b (m :: q) x → NB (m :: q) → Hc (idxL l x) = G x) := Lib.hid fun m' hm' => by
          rw [HTK.out] at hm'
          rcases List.mem_append.1 hm' with h | h
          · exact HT.out m' h
          · simp at h; subst h; exact fun h _ _ _ _ => absurd c2 h
        clear c1 c2 e2
        subst htl
        go_wp2_with fail
        go_roundw
        case rel => exact ⟨j + 1, Hc, by omega, by go_num, HGA, HXA, HON, HNX⟩
        case measure => simp [intOf]; omega
      have q2 : (tb.toList == lb.toList) = false := by rw [e2, beq_eq_false_iff_ne]; exact c2
      have hml : m.tb ∈ l := by
        obtain ⟨e, he, hmm⟩ := mem_mvs.1 HMU.out
        rcases hmm with h | h <;> rw [h]
        · exact (HUU.out e he).2
        · exact (HUU.out e he).1
      have hnm : NmOk m.nm := by
        obtain ⟨e, he, hmm⟩ := mem_mvs.1 HMU.out
        rcases hmm with h | h <;> rw [h]
        · exact HNM.out e he
        · exact HNM.out e he
      have hnee : m.tb ≠ b := by
        obtain ⟨e, he, hmm⟩ := mem_mvs.1 HMU.out
        have := HNE.out e he
        rw [← c1]
        rcases hmm with h | h <;> rw [h]
        · exact this.symm
        · exact this
      obtain ⟨ib, hib⟩ : ∃ ib, idxL l b = ib := ⟨_, rfl⟩
      obtain ⟨it, hit⟩ : ∃ it, idxL l m.tb = it := ⟨_, rfl⟩
      have hib8 : ib < 8 := by rw [← hib]; exact Nat.lt_of_lt_of_le (idxL_lt HBL.out) H8.out
      have hit8 : it < 8 := by rw [← hit]; exact Nat.lt_of_lt_of_le (idxL_lt hml) H8.out
      have hbt : it ≠ ib := fun e => hnee (idxL_inj hml HBL.out (by rw [hit, hib, e]))
      obtain ⟨gb, hgb⟩ : ∃ gb : Int, G b = gb := ⟨_, rfl⟩
      obtain ⟨ad, had⟩ : ∃ ad : Int, addM F m = ad := ⟨_, rfl⟩
      have hstep : G m.tb = gb + ad := by rw [HGG.out m HMU.out, c1, hgb, had]
      have hcb : Hc ib = gb := by rw [← hib, ← hgb]; exact HON.out.keep HBL.out HHB.out
      have hgb2 := HGS.out b HBL.out
      have had2 := add_few HF.out m
      rw [hgb] at hgb2
      rw [had] at had2
      have HFT : Hid (∀ W : World, Calls Try.prog 102 #[.agg #[.string B, .slice A n cap], .string tb] W fun e w' => e = .returned (.int .i64 (it : Int)) ∧ Below W.heap.size W w') := Lib.hid fun W => by
        rw [← hit]; exact FBI.out m.tb hml tb HTB.out.symm W
      have HFBB : Hid (∀ W : World, Calls Try.prog 102 #[.agg #[.string B, .slice A n cap], .string bb] W fun e w' => e = .returned (.int .i64 (ib : Int)) ∧ Below W.heap.size W w') := Lib.hid fun W => by
        rw [← hib]; exact FBI.out b HBL.out bb HBB.out.symm W
      have HAD : Hid (∀ W : World, Calls Try.prog 108 #[.agg #[.string tx, .string bb, .string tb], arr16 F] W fun e w' => e = .returned (.int .i64 ad) ∧ Below W.heap.size W w') := Lib.hid fun W => by
        rw [← had, ← HTX.out, ← HFB.out, ← HTB.out]; exact adds_any F m W HF.out hnm
      obtain ⟨w1, hw1⟩ : ∃ w1, wr.alloc (.cells #[.string tx, .string bb, .string tb] 144) = w1 := ⟨_, rfl⟩
      have hz1 : w1.heap.size = wr.heap.size + 1 := by rw [← hw1]; simp
      rw [hw1] at hn0 hn1 hn2 HGA HXA HHr
      have n1 := HHr.out.n1; have n2 := HHr.out.n2; have n3 := HHr.out.n3; have n4 := HHr.out.n4; have n5 := HHr.out.n5
      obtain ⟨vs, hvs⟩ : ∃ vs, vals16 F = vs := ⟨_, rfl⟩
      have hvl : (Try.prog.info? 69).map (·.size) = some vs.length := by rw [← hvs]; kernel_rfl
      have hvu := Try.underlying69
      rw [arr16_vals, hvs] at HAD
      have hxb : w1.cell? ⟨X, ib, none⟩ = some (.int .i64 gb) := by rw [← hcb]; exact HXA.out.cell hib8
      have HSS : Hid (∀ W, Below w1.heap.size w1 W → (W.cell? ⟨N, 0, none⟩ = some (.string B) ∧ W.cell? ⟨N, 1, none⟩ = some (.slice A n cap) ∧ W.cell? ⟨wr.heap.size, 0, none⟩ = some (.string tx) ∧ W.cell? ⟨wr.heap.size, 1, none⟩ = some (.string bb) ∧ W.cell? ⟨wr.heap.size, 2, none⟩ = some (.string tb) ∧ W.cell? ⟨X, ib, none⟩ = some (.int .i64 gb) ∧ W.rangeAt V 0 vs)) := Lib.hid fun W h =>
        ⟨(h.cell (by simp only; omega)).trans HHr.out.net.1, (h.cell (by simp only; omega)).trans HHr.out.net.2, (h.cell (by simp only; omega)).trans hn0, (h.cell (by simp only; omega)).trans hn1, (h.cell (by simp only; omega)).trans hn2, (h.cell (by simp only; omega)).trans hxb, (by rw [← hvs]; exact range16 (HHr.out.val.of_block (h.block V (by omega))))⟩
      have HSET : Hid (∀ W, Below w1.heap.size w1 W → (W.cell? ⟨X, it, none⟩ = some (.int .i64 (Hc it)) ∧ W.frozen? ⟨X, it, none⟩ = false ∧ (W.setCell ⟨X, it, none⟩ (.int .i64 (gb + ad))).rowIs X 57 8 (fun i => .int .i64 (if i = it then gb + ad else Hc i)) ∧ w1.grownBy (W.setCell ⟨X, it, none⟩ (.int .i64 (gb + ad))) (some X) ∧ (W.setCell ⟨X, it, none⟩ (.int .i64 (gb + ad))).cell? ⟨wr.heap.size, 2, none⟩ = some (.string tb))) := Lib.hid fun W h => by
        have hr := HXA.out.of_block (h.block X (by omega))
        refine ⟨hr.cell hit8, hr.frozen it, (hr.set it (.int .i64 (gb + ad))).congr fun i _ => ?_, (grown_below (World.grownBy.refl w1 (some X)) h).trans (grown_set _ _ _ _), ?_⟩
        · by_cases hi : i = it <;> simp [hi]
        · rw [World.cell?_of_block (a := ⟨wr.heap.size, 2, none⟩) (Below.heap_setCell _ _ _ _ (by simp only; omega))]
          exact (h.cell (by simp only; omega)).trans hn2
      have z1 : IntKind.i64.wrap (gb + ad) = gb + ad := IntWalk.i64_in _ (by omega)
      have i1 : (0 : Int) ≤ (ib : Int) := by omega
      have i2 : (ib : Int) < 8 := by omega
      have i3 : (0 : Int) ≤ (it : Int) := by omega
      have i4 : (it : Int) < 8 := by omega
      have HDK := Lib.hid (HD.out.step HMU.out c1 c2)
      have HC1 := Lib.hid c1; have HIT := Lib.hid hit; have HIB := Lib.hid hib; have HST := Lib.hid hstep; have HBT := Lib.hid hbt; have HML := Lib.hid hml; have HC2 := Lib.hid c2
      have HW1 := Lib.hid hw1; have HZ1 := Lib.hid hz1
      clear c1 c2 e2 hit hib hgb had hstep hcb hgb2 had2 hbt hml hnm hnee hw1 hxb hvs hz1
      go_wp2_with fail
      rw [HW1.out]
      go_region_held3 (fun W => W.cell? ⟨N, 0, none⟩ = some (.string B) ∧ W.cell? ⟨N, 1, none⟩ = some (.slice A n cap) ∧ W.cell? ⟨wr.heap.size, 0, none⟩ = some (.string tx) ∧ W.cell? ⟨wr.heap.size, 1, none⟩ = some (.string bb) ∧ W.cell? ⟨wr.heap.size, 2, none⟩ = some (.string tb) ∧ W.cell? ⟨X, ib, none⟩ = some (.int .i64 gb) ∧ W.rangeAt V 0 vs)
        (first
          | exact HSS.out _ (Below.refl _ _).drew
          | exact HSS.out _ HB2.out
          | exact HSS.out _ HB3.out
          | exact HSS.out _ HB4.out
          | exact HSS5.out _ rfl)
        (first
          | (go_at_call 102
             have hq := HB2; clear hq
             go_must (
             (with_reducible refine (HFBB.out _).mono ?_)
             rintro e w3 ⟨rfl, hb3⟩
             have HB3 : Hid (Below w1.heap.size w1 w3) := Lib.hid (HB2.out.trans (hb3.mono HB2.out.size))
             clear hb3))
          | (go_at_call 102
             go_must (
             (with_reducible refine (HFT.out _).mono ?_)
             rintro e w2 ⟨rfl, hb2⟩
             have HB2 : Hid (Below w1.heap.size w1 w2) := Lib.hid ((Below.refl _ _).drew.trans hb2)
             clear hb2))
          | (go_at_call 108
             go_must (
             (with_reducible refine (HAD.out _).mono ?_)
             rintro e w4 ⟨rfl, hb4⟩
             have HB4 : Hid (Below w1.heap.size w1 w4) := Lib.hid (HB3.out.trans (hb4.mono HB3.out.size))
             clear hb4
             obtain ⟨s1, s2, s3, s4, s5⟩ := HSET.out _ HB4.out
             have HS3 := Lib.hid s3; have HS4 := Lib.hid s4; have HS5 := Lib.hid s5
             have HSS5 : Hid (∀ W, W = w4.setCell ⟨X, it, none⟩ (.int .i64 (gb + ad)) → W.cell? ⟨N, 0, none⟩ = some (.string B) ∧ W.cell? ⟨N, 1, none⟩ = some (.slice A n cap) ∧ W.cell? ⟨wr.heap.size, 0, none⟩ = some (.string tx) ∧ W.cell? ⟨wr.heap.size, 1, none⟩ = some (.string bb) ∧ W.cell? ⟨wr.heap.size, 2, none⟩ = some (.string tb) ∧ W.cell? ⟨X, ib, none⟩ = some (.int .i64 gb) ∧ W.rangeAt V 0 vs) := Lib.hid fun W hW => by
               subst hW
               have hh := HSS.out _ HB4.out
               have hzz := HZ1.out
               have e : ∀ b o, b ≠ X → (w4.setCell ⟨X, it, none⟩ (.int .i64 (gb + ad))).cell? ⟨b, o, none⟩ = w4.cell? ⟨b, o, none⟩ := fun b o hb => World.cell?_of_block (Below.heap_setCell _ _ _ _ hb)
               exact ⟨(e _ _ (by omega)).trans hh.1, (e _ _ (by omega)).trans hh.2.1, (e _ _ (by omega)).trans hh.2.2.1, (e _ _ (by omega)).trans hh.2.2.2.1, (e _ _ (by omega)).trans hh.2.2.2.2.1, (World.cell?_setCell_other _ _ _ _ (by intro q; injection q with _ q; exact HBT.out q)).trans hh.2.2.2.2.2.1, fun j v hv => (e _ _ (by omega)).trans (hh.2.2.2.2.2.2 j v hv)⟩
             clear s3 s4 s5)))
      rename_i hHeld
      clear hHeld
      obtain ⟨w5, hw5⟩ : ∃ w5, w4.setCell ⟨X, it, none⟩ (.int .i64 (gb + ad)) = w5 := ⟨_, rfl⟩
      have h3 := HS3.out; have h4 := HS4.out; have h5 := HS5.out
      rw [hw5] at h3 h4 h5
      have HX5 := Lib.hid h3; have HG5 := Lib.hid h4; have HH5 := Lib.hid (HHr.out.keep h4)
      have h7 := HH5.out.go
      have HCALL : Hid (Calls Try.prog 107 #[.string tb, .string bb, .pointer (some ⟨M, 0, none⟩), .pointer (some ⟨X, 0, none⟩), .pointer (some ⟨N, 0, none⟩), .pointer (some ⟨V, 0, none⟩), .pointer (some ⟨Gw, 0, none⟩)] w5 (WalkPost l G U X (fun i => if i = it then gb + ad else Hc i) m.tb (some b) w5)) := Lib.hid (by
        have := IH.out m.tb (some b) (fun i => if i = it then gb + ad else Hc i) w5 (by omega) HDK.out HML.out HH5.out HX5.out (by rw [HIT.out, if_pos rfl, HST.out])
        rw [show lastT (some b) = bb from HBB.out, HTB.out] at this
        exact this)
      have HW5 := Lib.hid hw5
      clear s1 s2 HS3 HS4 HS5 HSS5 hn0 hn1 hn2 z1 h3 h4 hw5
      rw [HW5.out]
      go_wp2_with fail
      refine HCALL.out.mono ?_
      rintro e w6 ⟨rfl, H6, hon6, hall6, hx6, hg6⟩
      have HG6 : Hid (W.grownBy w6 (some X)) := Lib.hid ((HGA.out.trans HG5.out).trans hg6)
      have HX6 := Lib.hid hx6
      have HON2 : Hid (Onw l G Hc H6) := Lib.hid (by
        have h := Onw.set (G := G) Hc HML.out
        rw [HIT.out, HST.out] at h
        exact h.trans hon6)
      have HON6 : Hid (Onw l G H H6) := Lib.hid (HON.out.trans HON2.out)
      have HNX : Hid (∀ m ∈ ms.take (j + 1), some m.tb ≠ last → ∀ q x, Wk U b (m :: q) x → NB (m :: q) → H6 (idxL l x) = G x) := Lib.hid fun m' hm' hne' q x hw hn => by
        rw [HTK.out] at hm'
        rcases List.mem_append.1 hm' with h | h
        · exact HON2.out.keep (wk_end_in HUU.out HBL.out hw) (HT.out m' h hne' q x hw hn)
        · simp at h
          subst h
          cases q with
          | nil =>
            have hx : m'.tb = x := hw.2.2
            rw [← hx]
            exact hon6.keep HML.out (by rw [HIT.out, if_pos rfl, HST.out])
          | cons n' q =>
            exact hall6 (n' :: q) x hw.2.2 hn.2 (fun e => hn.1 (by injection e with e; rw [e, HC1.out])) (by simp)
      clear hon6 hall6 hx6 hg6 HCALL h5 h7
      go_wp2_with fail
      go_roundw
      case rel => exact ⟨j + 1, H6, by omega, by go_num, HG6, HX6, HON6, HNX⟩
      case measure => simp [intOf]; omega

end Go.Proofs.Ytjfdkhaepmmlfaa

namespace Go.Proofs.Ytjfdkhaepmmlfaa
open Go.RowKit

/-- what heights are handed back -/
def HgtsPost (l : List UInt8) (G : UInt8 → Int) (w : World) (e : Ending) (w' : World) : Prop :=
  ∃ H : Nat → Int, e = .returned (arr8 H) ∧ (∀ x ∈ l, H (idxL l x) = G x) ∧ Below w.heap.size w w'

theorem moves_apart {W : World} {X M : Nat} {f : Nat → Int} {A : Option Addr} {ms : List Mv} (hX : W.rowIs X 57 8 (fun i => .int .i64 (f i))) (hm : MovesIn W M A ms) (h1 : 1 ≤ ms.length) : ∀ a, A = some a → a.block ≠ X := by
  intro a ha hx
  obtain ⟨b, o, he, _, c1, _⟩ := hm 0 h1
  rw [ha] at he
  injection he with he
  subst he
  have hxe : b = X := hx
  subst hxe
  rw [Nat.zero_mul, Nat.add_zero] at c1
  by_cases ho : o < 8
  · have h := hX.cell (i := o) ho
    rw [c1] at h
    injection h with h
    cases h
  · obtain ⟨cs, hg, hsz, _⟩ := hX
    rw [cell_of_row W b o cs _ _ hg, Array.getElem?_eq_none (by omega)] at c1
    cases c1

theorem zeros8 (W : World) : (W.alloc (.cells #[.int .i64 0, .int .i64 0, .int .i64 0, .int .i64 0, .int .i64 0, .int .i64 0, .int .i64 0, .int .i64 0] 57)).rowIs W.heap.size 57 8 (fun _ => .int .i64 0) := by
  refine World.rowIs_alloc W _ _ _ fun i hi => ?_
  have hi2 : i < 8 := hi
  have h : i = 0 ∨ i = 1 ∨ i = 2 ∨ i = 3 ∨ i = 4 ∨ i = 5 ∨ i = 6 ∨ i = 7 := by omega
  rcases h with rfl | rfl | rfl | rfl | rfl | rfl | rfl | rfl <;> rfl

set_option maxRecDepth 100000 in
set_option maxHeartbeats 4000000 in
/-- impl.heightsIn -/
theorem heightsIn_any (B : ByteArray) (A : Option Addr) (cap : Nat) (es : List (ByteArray × ByteArray)) (t : ByteArray) (F : Nat → Nat) (w : World) (hs : B.size ≤ maxLen) (hE : EdgesIn w w.heap.size A es) (hl : es.length ≤ 1099511627776) (hv : treeV B es t = true) (hF : ∀ k, F k ≤ 4294967296) :
    Calls Try.prog 76 #[.agg #[.string B, .slice A es.length cap], .string t, arr16 F] w (HgtsPost B.data.toList (hgtB B es t F) w) := by
  obtain ⟨hV, hK, h6, hf, hU, hcn, hml⟩ := tree_pack hv
  have hnm := nm_ok hv
  have hne := fr_ne hf
  have hlb : B.data.toList.length = B.size := by simp
  have h2 : 2 ≤ B.data.toList.length := hV.1.1.1
  have h8 : B.data.toList.length ≤ 8 := hV.1.1.2.1
  obtain ⟨m1, m2, m3, m4⟩ := entry_exit h2 hV.1.1.2.2.2
  have hG : ∀ m ∈ mvs (edsOf B es t), hgtB B es t F m.tb = hgtB B es t F m.fr + addM F m := fun m hm => by
    refine hgt_step hf hm (hcn _ m1 _ ?_)
    obtain ⟨e, he, hmm⟩ := mem_mvs.1 hm
    rcases hmm with rfl | rfl
    · exact (hU e he).1
    · exact (hU e he).2
  have hGs : ∀ x ∈ B.data.toList, -34359738368 ≤ hgtB B es t F x ∧ hgtB B es t F x ≤ 34359738368 := fun x hx => hgt_few hF hf hU h8 m1 (hcn _ m1 _ hx)
  have hG0 : hgtB B es t F (entry B.data.toList) = 0 := hgt_self hf _
  have hdeep : DeepW (edsOf B es t) 9 (entry B.data.toList) none := (find_top hf hU h8 (fun m => mem_msP m) m1 (hcn _ m1 _ m1)).2
  have hms : ∀ m, m ∈ msP B.data.toList es (ksOf t.data.toList) ↔ m ∈ mvs (edsOf B es t) := fun m => mem_msP m
  have hen : B.extract 0 1 = ⟨#[entry B.data.toList]⟩ := bytes_one (by
    have := letter_at (p := B) (i := 0) (by omega)
    rw [Nat.zero_add] at this
    rw [this, List.getD_eq_getElem?_getD, ← m3, idxL_get m1]; rfl)
  have FEN : Hid (∀ W : World, Calls Try.prog 92 #[.agg #[.string B, .slice A es.length cap]] W fun e w' => e = .returned (.string ⟨#[entry B.data.toList]⟩) ∧ Below W.heap.size W w') := Lib.hid fun W => by
    rw [← hen]; exact entryOf_any B _ W (by omega) hs
  have FMV : Hid (∀ W : World, EdgesIn W W.heap.size A es → Calls Try.prog 106 #[.agg #[.string B, .slice A es.length cap], .string t] W fun e w' => ∃ A' c, e = .returned (.slice A' (msP B.data.toList es (ksOf t.data.toList)).length c) ∧ MovesIn w' w'.heap.size A' (msP B.data.toList es (ksOf t.data.toList)) ∧ Below W.heap.size W w') := Lib.hid fun W h => movesIn_any B A cap es t W hs h hl hV hK h6
  obtain ⟨ms, hmse⟩ : ∃ ms, msP B.data.toList es (ksOf t.data.toList) = ms := ⟨_, rfl⟩
  obtain ⟨U, hUe⟩ : ∃ U, edsOf B es t = U := ⟨_, rfl⟩
  obtain ⟨G, hGe⟩ : ∃ G, hgtB B es t F = G := ⟨_, rfl⟩
  obtain ⟨l, hle⟩ : ∃ l, B.data.toList = l := ⟨_, rfl⟩
  rw [hGe]
  rw [hmse] at FMV hms hml
  rw [hUe] at hf hU hcn hnm hne hG hdeep hms
  rw [hGe] at hG hGs hG0
  have hm1 : 1 ≤ ms.length := by rw [← hmse, msP_len]; omega
  rw [hle] at FEN m1 m3 hdeep hcn hU hG0 hGs h8
  rw [hle]
  obtain ⟨en, hee⟩ : ∃ en, entry l = en := ⟨_, rfl⟩
  rw [hee] at FEN hG0 hdeep m1 m3
  have HWK : Hid (∀ (M X N V Gw : Nat) (Am : Option Addr) (c : Nat) (H : Nat → Int) (W : World), HomeH W M X N V Gw B A es.length cap Am c ms F → W.rowIs X 57 8 (fun i => .int .i64 (H i)) → H (idxL l en) = G en → Calls Try.prog 107 #[.string ⟨#[en]⟩, .string ⟨#[]⟩, .pointer (some ⟨M, 0, none⟩), .pointer (some ⟨X, 0, none⟩), .pointer (some ⟨N, 0, none⟩), .pointer (some ⟨V, 0, none⟩), .pointer (some ⟨Gw, 0, none⟩)] W (WalkPost l G U X H en none W)) := Lib.hid fun M X N V Gw Am c H W hH hX hHb =>
    walk_fn M X N V Gw B A es.length cap Am c ms U l F G hle h8 hF hms hml hU hnm hne hG hGs 9 en none H W (Nat.le_refl _) hdeep m1 hH hX hHb
  have HCONN : Hid (∀ x ∈ l, x ≠ en → ∃ q, Wk U en q x ∧ NB q ∧ q ≠ []) := Lib.hid fun x hx hxe => by
    obtain ⟨p, hp⟩ := hcn en m1 x hx
    obtain ⟨q, h1, h2⟩ := wk_nb p en x hp
    refine ⟨q, h1, h2, ?_⟩
    rintro rfl
    exact hxe (show en = x from h1).symm
  have HG0 := Lib.hid hG0; have HM1 := Lib.hid m1; have HML1 := Lib.hid hm1
  obtain ⟨eb, heb⟩ : ∃ eb : ByteArray, (⟨#[en]⟩ : ByteArray) = eb := ⟨_, rfl⟩
  rw [heb] at FEN HWK
  clear hv hV hK h6 hf hU hcn hml hnm hne hlb h2 h8 m1 m2 m3 m4 hG hGs hG0 hdeep hms hen hmse hUe hGe hle hee hs hl hF hm1 heb
  obtain ⟨W1, hW1⟩ : ∃ W1, W1 = (((w.alloc (.cells #[.string B, .slice A es.length cap] 30)).alloc (.cells #[.int .i64 ((F 0 : Nat) : Int), .int .i64 ((F 1 : Nat) : Int), .int .i64 ((F 2 : Nat) : Int), .int .i64 ((F 3 : Nat) : Int), .int .i64 ((F 4 : Nat) : Int), .int .i64 ((F 5 : Nat) : Int), .int .i64 ((F 6 : Nat) : Int), .int .i64 ((F 7 : Nat) : Int), .int .i64 ((F 8 : Nat) : Int), .int .i64 ((F 9 : Nat) : Int), .int .i64 ((F 10 : Nat) : Int), .int .i64 ((F 11 : Nat) : Int), .int .i64 ((F 12 : Nat) : Int), .int .i64 ((F 13 : Nat) : Int), .int .i64 ((F 14 : Nat) : Int), .int .i64 ((F 15 : Nat) : Int)] 69)).alloc (.cells #[.int .i64 0, .int .i64 0, .int .i64 0, .int .i64 0, .int .i64 0, .int .i64 0, .int .i64 0, .int .i64 0] 57)).alloc (.cells #[.int .i64 0, .int .i64 0, .int .i64 0, .int .i64 0, .int .i64 0, .int .i64 0, .int .i64 0, .int .i64 0] 57) := ⟨_, rfl⟩
  have hb1 : Below w.heap.size w W1 := by rw [hW1]; exact ((((Below.refl _ _).alloc (Nat.le_refl _) _).alloc (by simp) _).alloc (by simp; omega) _).alloc (by simp; omega) _
  have hz1 : W1.heap.size = w.heap.size + 4 := by rw [hW1]; simp
  have t1 : Two W1 w.heap.size B A es.length cap := by rw [hW1]; exact ⟨by go_simp, by go_simp⟩
  have v1 : W1.rowIs (w.heap.size + 1) 69 16 (fun i => .int .i64 ((F i : Nat) : Int)) := by
    have h := arr16_row (w.alloc (.cells #[.string B, .slice A es.length cap] 30)) F
    rw [World.size_alloc] at h
    rw [hW1]; exact (h.alloc _).alloc _
  have r1 : W1.rowIs (w.heap.size + 2) 57 8 (fun _ => .int .i64 0) := by
    have h := zeros8 ((w.alloc (.cells #[.string B, .slice A es.length cap] 30)).alloc (.cells #[.int .i64 ((F 0 : Nat) : Int), .int .i64 ((F 1 : Nat) : Int), .int .i64 ((F 2 : Nat) : Int), .int .i64 ((F 3 : Nat) : Int), .int .i64 ((F 4 : Nat) : Int), .int .i64 ((F 5 : Nat) : Int), .int .i64 ((F 6 : Nat) : Int), .int .i64 ((F 7 : Nat) : Int), .int .i64 ((F 8 : Nat) : Int), .int .i64 ((F 9 : Nat) : Int), .int .i64 ((F 10 : Nat) : Int), .int .i64 ((F 11 : Nat) : Int), .int .i64 ((F 12 : Nat) : Int), .int .i64 ((F 13 : Nat) : Int), .int .i64 ((F 14 : Nat) : Int), .int .i64 ((F 15 : Nat) : Int)] 69))
    rw [World.size_alloc, World.size_alloc] at h
    rw [hW1]; exact h.alloc _
  have x1 : W1.rowIs (w.heap.size + 3) 57 8 (fun _ => .int .i64 0) := by
    have h := zeros8 (((w.alloc (.cells #[.string B, .slice A es.length cap] 30)).alloc (.cells #[.int .i64 ((F 0 : Nat) : Int), .int .i64 ((F 1 : Nat) : Int), .int .i64 ((F 2 : Nat) : Int), .int .i64 ((F 3 : Nat) : Int), .int .i64 ((F 4 : Nat) : Int), .int .i64 ((F 5 : Nat) : Int), .int .i64 ((F 6 : Nat) : Int), .int .i64 ((F 7 : Nat) : Int), .int .i64 ((F 8 : Nat) : Int), .int .i64 ((F 9 : Nat) : Int), .int .i64 ((F 10 : Nat) : Int), .int .i64 ((F 11 : Nat) : Int), .int .i64 ((F 12 : Nat) : Int), .int .i64 ((F 13 : Nat) : Int), .int .i64 ((F 14 : Nat) : Int), .int .i64 ((F 15 : Nat) : Int)] 69)).alloc (.cells #[.int .i64 0, .int .i64 0, .int .i64 0, .int .i64 0, .int .i64 0, .int .i64 0, .int .i64 0, .int .i64 0] 57))
    rw [World.size_alloc, World.size_alloc, World.size_alloc] at h
    rw [hW1]; exact h
  have HB1 := Lib.hid hb1; have HZ1 := Lib.hid hz1; have HT1 := Lib.hid t1; have HV1 := Lib.hid v1; have HR1 := Lib.hid r1; have HX1 := Lib.hid x1
  clear hb1 hz1 t1 v1 r1 x1
  unfold arr16
  go_enter Try.func76, Try.ntmps76
  go_wp2_with fail
  simp only [Nat.add_assoc, Nat.reduceAdd]
  rw [← hW1]
  clear hW1
  refine (FMV.out _ ((hE.below HB1.out).more HB1.out.size)).mono ?_
  rintro e w2 ⟨A2, c2, rfl, hm2, hb2⟩
  have hz2 : w.heap.size + 4 ≤ w2.heap.size := by have := hb2.size; have := HZ1.out; omega
  have HT2 := Lib.hid (HT1.out.below hb2 (by have := HZ1.out; omega)); have HV2 := Lib.hid (HV1.out.of_block (hb2.block _ (by have := HZ1.out; omega))); have HR2 := Lib.hid (HR1.out.of_block (hb2.block _ (by have := HZ1.out; omega))); have HX2 := Lib.hid (HX1.out.of_block (hb2.block _ (by have := HZ1.out; omega)))
  have HB2 := Lib.hid (HB1.out.trans (hb2.mono HB1.out.size)); have HM2 := Lib.hid hm2
  have HAP := Lib.hid (moves_apart (f := fun _ => 0) HX2.out hm2 HML1.out)
  clear hm2 hb2
  go_wp2_with fail
  have k0 : ((w2.alloc (.cells #[.slice A2 ms.length c2] 140)).alloc (.cells #[(.func (.func 107) #[] #[.pointer (some ⟨w2.heap.size, 0, none⟩), .pointer (some ⟨w.heap.size + 3, 0, none⟩), .pointer (some ⟨w.heap.size, 0, none⟩), .pointer (some ⟨w.heap.size + 1, 0, none⟩), .pointer (some ⟨w2.heap.size + 1, 0, none⟩)])] 142)).cell? ⟨w2.heap.size, 0, none⟩ = some (.slice A2 ms.length c2) := by go_simp
  have k1 : ((w2.alloc (.cells #[.slice A2 ms.length c2] 140)).alloc (.cells #[(.func (.func 107) #[] #[.pointer (some ⟨w2.heap.size, 0, none⟩), .pointer (some ⟨w.heap.size + 3, 0, none⟩), .pointer (some ⟨w.heap.size, 0, none⟩), .pointer (some ⟨w.heap.size + 1, 0, none⟩), .pointer (some ⟨w2.heap.size + 1, 0, none⟩)])] 142)).cell? ⟨w2.heap.size + 1, 0, none⟩ = some (.func (.func 107) #[] #[.pointer (some ⟨w2.heap.size, 0, none⟩), .pointer (some ⟨w.heap.size + 3, 0, none⟩), .pointer (some ⟨w.heap.size, 0, none⟩), .pointer (some ⟨w.heap.size + 1, 0, none⟩), .pointer (some ⟨w2.heap.size + 1, 0, none⟩)]) := by go_simp
  obtain ⟨w3, hw3⟩ : ∃ w3, (w2.alloc (.cells #[.slice A2 ms.length c2] 140)).alloc (.cells #[(.func (.func 107) #[] #[.pointer (some ⟨w2.heap.size, 0, none⟩), .pointer (some ⟨w.heap.size + 3, 0, none⟩), .pointer (some ⟨w.heap.size, 0, none⟩), .pointer (some ⟨w.heap.size + 1, 0, none⟩), .pointer (some ⟨w2.heap.size + 1, 0, none⟩)])] 142) = w3 := ⟨_, rfl⟩
  have hb3 : Below w2.heap.size w2 w3 := by rw [← hw3]; exact ((Below.refl _ _).alloc (Nat.le_refl _) _).alloc (by simp) _
  have hz3 : w3.heap.size = w2.heap.size + 2 := by rw [← hw3]; simp
  rw [hw3] at k0 k1
  have hX3 := HX2.out.of_block (hb3.block _ (by omega))
  have HH3 : Hid (HomeH w3 w2.heap.size (w.heap.size + 3) w.heap.size (w.heap.size + 1) (w2.heap.size + 1) B A es.length cap A2 c2 ms F) := Lib.hid
    ⟨k0, HT2.out.below hb3 (by omega), HV2.out.of_block (hb3.block _ (by omega)), k1, (HM2.out.below hb3).more hb3.size, HAP.out, by omega, by omega, by omega, by omega, by omega⟩
  have HX3 := Lib.hid hX3; have HR3 := Lib.hid (HR2.out.of_block (hb3.block _ (by omega))); have HB3 := Lib.hid (HB2.out.trans (hb3.mono HB2.out.size)); have HZ3 := Lib.hid hz3
  rw [hw3]
  clear hw3 hb3 hz3 hX3 k0 k1
  have HSS : Hid (∀ W, w3.grownBy W (some (w.heap.size + 3)) → (W.cell? ⟨w2.heap.size + 1, 0, none⟩ = some (.func (.func 107) #[] #[.pointer (some ⟨w2.heap.size, 0, none⟩), .pointer (some ⟨w.heap.size + 3, 0, none⟩), .pointer (some ⟨w.heap.size, 0, none⟩), .pointer (some ⟨w.heap.size + 1, 0, none⟩), .pointer (some ⟨w2.heap.size + 1, 0, none⟩)]) ∧ W.cell? ⟨w.heap.size, 0, none⟩ = some (.string B) ∧ W.cell? ⟨w.heap.size, 1, none⟩ = some (.slice A es.length cap))) := Lib.hid fun W h =>
    ⟨(HH3.out.keep h).go, (HH3.out.keep h).net.1, (HH3.out.keep h).net.2⟩
  have hgd : w3.grownBy w3.drew (some (w.heap.size + 3)) := ⟨rfl, rfl, rfl, Nat.le_refl _, fun _ _ _ => rfl⟩
  have HGD := Lib.hid hgd
  clear hgd
  go_region_held3 (fun W => W.cell? ⟨w2.heap.size + 1, 0, none⟩ = some (.func (.func 107) #[] #[.pointer (some ⟨w2.heap.size, 0, none⟩), .pointer (some ⟨w.heap.size + 3, 0, none⟩), .pointer (some ⟨w.heap.size, 0, none⟩), .pointer (some ⟨w.heap.size + 1, 0, none⟩), .pointer (some ⟨w2.heap.size + 1, 0, none⟩)]) ∧ W.cell? ⟨w.heap.size, 0, none⟩ = some (.string B) ∧ W.cell? ⟨w.heap.size, 1, none⟩ = some (.slice A es.length cap))
    (first
      | exact HSS.out _ HGD.out
      | exact HSS.out _ HG4.out
      | exact HSS.out _ HG5.out)
    (first
      | (go_at_call 92
         go_must (
         (with_reducible refine (FEN.out _).mono ?_)
         rintro e w4 ⟨rfl, hb4⟩
         have HG4 : Hid (w3.grownBy w4 (some (w.heap.size + 3))) := Lib.hid (grown_below HGD.out hb4)
         have HX4 : Hid (w4.rowIs (w.heap.size + 3) 57 8 (fun i => .int .i64 ((fun _ => (0 : Int)) i))) := Lib.hid (HX3.out.of_block (hb4.block _ HX3.out.lt))
         have HCALL := Lib.hid (HWK.out w2.heap.size (w.heap.size + 3) w.heap.size (w.heap.size + 1) (w2.heap.size + 1) A2 c2 (fun _ => 0) w4 (HH3.out.keep HG4.out) HX4.out HG0.out.symm)
         clear hb4))
      | (go_at_call 107
         go_must (
         refine HCALL.out.mono ?_
         rintro e w5 ⟨rfl, H5, hon5, hall5, hx5, hg5⟩
         have HG5 : Hid (w3.grownBy w5 (some (w.heap.size + 3))) := Lib.hid (HG4.out.trans hg5)
         have HX5 := Lib.hid hx5; have HON5 := Lib.hid hon5; have HALL5 := Lib.hid hall5
         clear hon5 hall5 hx5 hg5)))
  rename_i hHeld
  clear hHeld
  have HR5 : Hid (w5.rowIs (w.heap.size + 2) 57 8 (fun _ => .int .i64 0)) := Lib.hid (HR3.out.of_block (HG5.out.block _ HR3.out.lt (by intro e; injection e with e; omega)))
  have HB5 : Hid (Below w.heap.size w w5) := Lib.hid (HB3.out.grown HG5.out HB3.out.size (fun q e => by injection e with e; omega))
  have HFIN : Hid (∀ x ∈ l, H5 (idxL l x) = G x) := Lib.hid fun x hx => by
    by_cases he : x = en
    · rw [he]
      exact HON5.out.keep HM1.out HG0.out.symm
    · obtain ⟨q, h1, h2, h3⟩ := HCONN.out x hx he
      refine HALL5.out q x h1 h2 ?_ h3
      cases q with
      | nil => exact True.intro
      | cons m q => exact fun e => by cases e
  have q0 := HX5.out.cell (i := 0) (by omega); have s0 := HR5.out.cell (i := 0) (by omega); have f0 := HR5.out.frozen 0
  have q1 := HX5.out.cell (i := 1) (by omega); have s1 := HR5.out.cell (i := 1) (by omega); have f1 := HR5.out.frozen 1
  have q2 := HX5.out.cell (i := 2) (by omega); have s2 := HR5.out.cell (i := 2) (by omega); have f2 := HR5.out.frozen 2
  have q3 := HX5.out.cell (i := 3) (by omega); have s3 := HR5.out.cell (i := 3) (by omega); have f3 := HR5.out.frozen 3
  have q4 := HX5.out.cell (i := 4) (by omega); have s4 := HR5.out.cell (i := 4) (by omega); have f4 := HR5.out.frozen 4
  have q5 := HX5.out.cell (i := 5) (by omega); have s5 := HR5.out.cell (i := 5) (by omega); have f5 := HR5.out.frozen 5
  have q6 := HX5.out.cell (i := 6) (by omega); have s6 := HR5.out.cell (i := 6) (by omega); have f6 := HR5.out.frozen 6
  have q7 := HX5.out.cell (i := 7) (by omega); have s7 := HR5.out.cell (i := 7) (by omega); have f7 := HR5.out.frozen 7
  obtain ⟨v0, e0⟩ : ∃ v0 : Int, H5 0 = v0 := ⟨_, rfl⟩
  obtain ⟨v1, e1⟩ : ∃ v1 : Int, H5 1 = v1 := ⟨_, rfl⟩
  obtain ⟨v2, e2⟩ : ∃ v2 : Int, H5 2 = v2 := ⟨_, rfl⟩
  obtain ⟨v3, e3⟩ : ∃ v3 : Int, H5 3 = v3 := ⟨_, rfl⟩
  obtain ⟨v4, e4⟩ : ∃ v4 : Int, H5 4 = v4 := ⟨_, rfl⟩
  obtain ⟨v5, e5⟩ : ∃ v5 : Int, H5 5 = v5 := ⟨_, rfl⟩
  obtain ⟨v6, e6⟩ : ∃ v6 : Int, H5 6 = v6 := ⟨_, rfl⟩
  obtain ⟨v7, e7⟩ : ∃ v7 : Int, H5 7 = v7 := ⟨_, rfl⟩
  rw [e0] at q0; rw [e1] at q1; rw [e2] at q2; rw [e3] at q3; rw [e4] at q4; rw [e5] at q5; rw [e6] at q6; rw [e7] at q7
  have HRES : Hid (arr8 H5 = .agg #[.int .i64 v0, .int .i64 v1, .int .i64 v2, .int .i64 v3, .int .i64 v4, .int .i64 v5, .int .i64 v6, .int .i64 v7]) := Lib.hid (by unfold arr8; rw [e0, e1, e2, e3, e4, e5, e6, e7])
  clear e0 e1 e2 e3 e4 e5 e6 e7
  go_wp2_with fail
  have hbR : ∀ (W : World) (k : Nat) (u : Value), Below w.heap.size w W → Below w.heap.size w (W.setCell ⟨w.heap.size + 2, k, none⟩ u) := fun W k u h => h.setCell (by simp only; omega) _
  refine bodyPost_ret (v := .agg #[.int .i64 v0, .int .i64 v1, .int .i64 v2, .int .i64 v3, .int .i64 v4, .int .i64 v5, .int .i64 v6, .int .i64 v7]) (by simp [results, Try.results76, go_sem, s0, s1, s2, s3, s4, s5, s6, s7]) rfl ⟨H5, by rw [HRES.out], HFIN.out, ?_⟩
  exact hbR _ _ _ (hbR _ _ _ (hbR _ _ _ (hbR _ _ _ (hbR _ _ _ (hbR _ _ _ (hbR _ _ _ (hbR _ _ _ (HB5.out))))))))

end Go.Proofs.Ytjfdkhaepmmlfaa

namespace Go.Proofs.Ytjfdkhaepmmlfaa
open Go.RowKit

theorem ix16_0 (F : Nat → Nat) (w : World) : (Instr.index 69 (arr16 F) (.int .i64 ((0 : Nat) : Int))).run Try.prog w = .ok (.int .i64 ((F 0 : Nat) : Int)) w := by kernel_rfl
theorem ix16_1 (F : Nat → Nat) (w : World) : (Instr.index 69 (arr16 F) (.int .i64 ((1 : Nat) : Int))).run Try.prog w = .ok (.int .i64 ((F 1 : Nat) : Int)) w := by kernel_rfl
theorem ix16_2 (F : Nat → Nat) (w : World) : (Instr.index 69 (arr16 F) (.int .i64 ((2 : Nat) : Int))).run Try.prog w = .ok (.int .i64 ((F 2 : Nat) : Int)) w := by kernel_rfl
theorem ix16_3 (F : Nat → Nat) (w : World) : (Instr.index 69 (arr16 F) (.int .i64 ((3 : Nat) : Int))).run Try.prog w = .ok (.int .i64 ((F 3 : Nat) : Int)) w := by kernel_rfl
theorem ix16_4 (F : Nat → Nat) (w : World) : (Instr.index 69 (arr16 F) (.int .i64 ((4 : Nat) : Int))).run Try.prog w = .ok (.int .i64 ((F 4 : Nat) : Int)) w := by kernel_rfl
theorem ix16_5 (F : Nat → Nat) (w : World) : (Instr.index 69 (arr16 F) (.int .i64 ((5 : Nat) : Int))).run Try.prog w = .ok (.int .i64 ((F 5 : Nat) : Int)) w := by kernel_rfl
theorem ix16_6 (F : Nat → Nat) (w : World) : (Instr.index 69 (arr16 F) (.int .i64 ((6 : Nat) : Int))).run Try.prog w = .ok (.int .i64 ((F 6 : Nat) : Int)) w := by kernel_rfl
theorem ix16_7 (F : Nat → Nat) (w : World) : (Instr.index 69 (arr16 F) (.int .i64 ((7 : Nat) : Int))).run Try.prog w = .ok (.int .i64 ((F 7 : Nat) : Int)) w := by kernel_rfl
theorem ix16_8 (F : Nat → Nat) (w : World) : (Instr.index 69 (arr16 F) (.int .i64 ((8 : Nat) : Int))).run Try.prog w = .ok (.int .i64 ((F 8 : Nat) : Int)) w := by kernel_rfl
theorem ix16_9 (F : Nat → Nat) (w : World) : (Instr.index 69 (arr16 F) (.int .i64 ((9 : Nat) : Int))).run Try.prog w = .ok (.int .i64 ((F 9 : Nat) : Int)) w := by kernel_rfl
theorem ix16_10 (F : Nat → Nat) (w : World) : (Instr.index 69 (arr16 F) (.int .i64 ((10 : Nat) : Int))).run Try.prog w = .ok (.int .i64 ((F 10 : Nat) : Int)) w := by kernel_rfl
theorem ix16_11 (F : Nat → Nat) (w : World) : (Instr.index 69 (arr16 F) (.int .i64 ((11 : Nat) : Int))).run Try.prog w = .ok (.int .i64 ((F 11 : Nat) : Int)) w := by kernel_rfl
theorem ix16_12 (F : Nat → Nat) (w : World) : (Instr.index 69 (arr16 F) (.int .i64 ((12 : Nat) : Int))).run Try.prog w = .ok (.int .i64 ((F 12 : Nat) : Int)) w := by kernel_rfl
theorem ix16_13 (F : Nat → Nat) (w : World) : (Instr.index 69 (arr16 F) (.int .i64 ((13 : Nat) : Int))).run Try.prog w = .ok (.int .i64 ((F 13 : Nat) : Int)) w := by kernel_rfl
theorem ix16_14 (F : Nat → Nat) (w : World) : (Instr.index 69 (arr16 F) (.int .i64 ((14 : Nat) : Int))).run Try.prog w = .ok (.int .i64 ((F 14 : Nat) : Int)) w := by kernel_rfl
theorem ix16_15 (F : Nat → Nat) (w : World) : (Instr.index 69 (arr16 F) (.int .i64 ((15 : Nat) : Int))).run Try.prog w = .ok (.int .i64 ((F 15 : Nat) : Int)) w := by kernel_rfl
theorem index16 (F : Nat → Nat) {k : Nat} (hk : k < 16) (w : World) : (Instr.index 69 (arr16 F) (.int .i64 (k : Int))).run Try.prog w = .ok (.int .i64 ((F k : Nat) : Int)) w := by
  have h : k = 0 ∨ k = 1 ∨ k = 2 ∨ k = 3 ∨ k = 4 ∨ k = 5 ∨ k = 6 ∨ k = 7 ∨ k = 8 ∨ k = 9 ∨ k = 10 ∨ k = 11 ∨ k = 12 ∨ k = 13 ∨ k = 14 ∨ k = 15 := by omega
  rcases h with rfl | rfl | rfl | rfl | rfl | rfl | rfl | rfl | rfl | rfl | rfl | rfl | rfl | rfl | rfl | rfl
  · exact ix16_0 F w
  · exact ix16_1 F w
  · exact ix16_2 F w
  · exact ix16_3 F w
  · exact ix16_4 F w
  · exact ix16_5 F w
  · exact ix16_6 F w
  · exact ix16_7 F w
  · exact ix16_8 F w
  · exact ix16_9 F w
  · exact ix16_10 F w
  · exact ix16_11 F w
  · exact ix16_12 F w
  · exact ix16_13 F w
  · exact ix16_14 F w
  · exact ix16_15 F w

theorem values_acy {B : ByteArray} {A : Option Addr} {cap : Nat} {es : List (ByteArray × ByteArray)} (hv : acycV B es = true) (hBm : B.size ≤ maxLen) (W : World) (h : EdgesIn W W.heap.size A es) :
    Calls Try.prog 75 #[.agg #[.string B, .slice A es.length cap]] W fun e w' => e = .returned (arr16 (valE (ebs es) (exit_ B.data.toList))) ∧ Below W.heap.size W w' := by
  have hA := acy_v hv
  exact edgeValues_any B A cap es _ _ _ W h (lead_of hA) hBm (decB_iff.1 hv).1.2.1 hA.all

end Go.Proofs.Ytjfdkhaepmmlfaa
