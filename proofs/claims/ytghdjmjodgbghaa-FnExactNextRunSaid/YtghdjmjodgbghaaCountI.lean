/- How many paths there are from each block, by the program: a map that a closure fills. -/
import Derived.Test.YtghdjmjodgbghaaAcy
import Derived.Test.YtghdjmjodgbghaaNums
import Derived.Laws.EntriesVeiled
namespace Go.Proofs.Ytghdjmjodgbghaa
open Go.RowKit

/-- a net in which all edges lead on in O, in words that a walk can use -/
structure Lead (B : ByteArray) (es : List (ByteArray × ByteArray)) (O : List UInt8) (e0 t : UInt8) : Prop where
  few : es.length ≤ 16
  lets : Lets B.data.toList es
  topo : Topo (ebs es) O
  eight : O.length ≤ 8
  ent : e0 ∈ O
  one : 1 ≤ B.size
  small : B.size ≤ 8
  first : B.extract 0 1 = ⟨#[e0]⟩
  last : B.extract (B.size - 1) B.size = ⟨#[t]⟩
  no : ∀ y, ([t], [y]) ∉ ebs es

/-- the variables of impl.countsToExit -/
structure HomeC (W : World) (N M C G : Nat) (B : ByteArray) (A : Option Addr) (n cap : Nat) : Prop where
  net : Two W N B A n cap
  map : W.cell? ⟨C, 0, none⟩ = some (.map (some M))
  go : W.cell? ⟨G, 0, none⟩ = some (.func (.func 71) #[] #[.pointer (some ⟨C, 0, none⟩), .pointer (some ⟨N, 0, none⟩), .pointer (some ⟨G, 0, none⟩)])
  n1 : N < M
  n2 : M < C
  n3 : C < G
  n4 : G < W.heap.size
theorem HomeC.keep {W W' : World} {N M C G : Nat} {B : ByteArray} {A : Option Addr} {n cap : Nat} (h : HomeC W N M C G B A n cap) (k : W.grownBy W' (some M)) : HomeC W' N M C G B A n cap := by
  have h1 := h.n1; have h2 := h.n2; have h3 := h.n3; have h4 := h.n4; have hz := k.size
  have e : ∀ b, b < W.heap.size → b ≠ M → ∀ o, W'.cell? ⟨b, o, none⟩ = W.cell? ⟨b, o, none⟩ := fun b hb hm o => World.cell?_of_block (k.block b hb (by intro e; injection e with e; exact hm e))
  exact ⟨⟨(e N (by omega) (by omega) _).trans h.net.1, (e N (by omega) (by omega) _).trans h.net.2⟩, (e C (by omega) (by omega) _).trans h.map, (e G (by omega) (by omega) _).trans h.go, h1, h2, h3, by omega⟩

/-- what the map holds: counts, of blocks that are closed under going on -/
structure Counted (E : Eds) (t : UInt8) (f : UInt8 → Option Int) : Prop where
  agree : ∀ y v, f y = some v → v = (cntE E t y : Nat)
  closed : ∀ y, f y ≠ none → ∀ z, ([y], [z]) ∈ E → f z ≠ none
  exit : f t ≠ none
theorem Counted.put {E : Eds} {t : UInt8} {f : UInt8 → Option Int} (h : Counted E t f) {b : UInt8} (hb : ∀ z, ([b], [z]) ∈ E → f z ≠ none) : Counted E t (fun y => if y = b then some ((cntE E t b : Nat) : Int) else f y) := by
  refine ⟨fun y v hy => ?_, fun y hy z hz => ?_, ?_⟩
  · by_cases e : y = b
    · subst e; simp only [if_true] at hy; injection hy with hy; exact hy.symm
    · rw [if_neg e] at hy; exact h.agree y v hy
  · by_cases e2 : z = b
    · simp [e2]
    · rw [if_neg e2]
      by_cases e : y = b
      · subst e; exact hb z hz
      · rw [if_neg e] at hy; exact h.closed y hy z hz
  · by_cases e : t = b
    · simp [e]
    · rw [if_neg e]; exact h.exit

/-- what a call of the closure leaves -/
def CountedPost (E : Eds) (t b : UInt8) (M : Nat) (f : UInt8 → Option Int) (W : World) (e : Ending) (W' : World) : Prop :=
  e = .returned (.int .i64 (cntE E t b : Nat)) ∧ ∃ f', NumsIs W' M f' ∧ Counted E t f' ∧ (∀ y, f y ≠ none → f' y ≠ none) ∧ f' b ≠ none ∧ W.grownBy W' (some M)

set_option maxRecDepth 100000 in
set_option maxHeartbeats 4000000 in
/-- impl.countsToExit$1 -/
theorem countFrom_in (N M C G : Nat) (B : ByteArray) (A : Option Addr) (cap : Nat) (es : List (ByteArray × ByteArray)) (O : List UInt8) (e0 t : UInt8) (hL : Lead B es O e0 t) : ∀ (n : Nat) (r : List UInt8) (b : UInt8) (f : UInt8 → Option Int) (W : World),
    r.length < n → r.length ≤ 7 → Topo (ebs es) (b :: r) → HomeC W N M C G B A es.length cap → EdgesIn W N A es → NumsIs W M f → Counted (ebs es) t f →
    Calls Try.prog 71 #[.string ⟨#[b]⟩, .pointer (some ⟨C, 0, none⟩), .pointer (some ⟨N, 0, none⟩), .pointer (some ⟨G, 0, none⟩)] W (CountedPost (ebs es) t b M f W) := by
  intro n
  induction n with
  | zero =>
    intro r b f W hn
    omega
  | succ n ih =>
    intro r b f W hn h7 ht hH hE hN hC
    have h16 := hL.few
    have IH := Lib.hid ih
    have HTO := Lib.hid ht
    have n1 := hH.n1; have n2 := hH.n2; have n3 := hH.n3; have n4 := hH.n4
    have hlk := hN.lookup2 (P := Try.prog) (kt := 9) (t := 49) (e := 3) Try.underlying9 Try.underlying49 (by kernel_rfl) b
    have c0 := hH.net.2; have c1 := hH.map
    have HN := Lib.hid hN; have HC := Lib.hid hC; have HH := Lib.hid hH
    clear ih ht hN hC hH
    cases hfb : f b with
    | some v =>
      have hv := HC.out.agree b v hfb
      rw [hfb] at hlk
      simp only [Option.getD_some, Option.isSome_some] at hlk
      have HFB := Lib.hid hfb; have HV := Lib.hid hv
      clear hfb hv
      go_enter Try.func71, Try.ntmps71
      go_wp2_with fail
      go_ret
      exact ⟨by rw [← HV.out]; rfl, f, HN.out, HC.out, fun _ h => h, by rw [HFB.out]; simp, World.grownBy.refl _ _⟩
    | none =>
      rw [hfb] at hlk
      simp only [Option.getD_none, Option.isSome_none] at hlk
      have HFB := Lib.hid hfb
      clear hfb
      have hbt : b ≠ t := fun e => HC.out.exit (by rw [← e]; exact HFB.out)
      have HFIX : Hid (cntE (ebs es) t b = sumC (ebs es) (cntE (ebs es) t) b (List.range es.length)) := Lib.hid (by rw [cntE_fix HTO.out h7 hbt, ebs_len])
      clear hbt
      go_enter Try.func71, Try.ntmps71
      go_wp2_with fail
      clear hlk c0 c1
      go_loopw [8, 22] (fun a c wr => ∃ (k : Nat) (fk : UInt8 → Option Int), k ≤ es.length ∧ c = .int .i64 k ∧ a = .int .i64 (sumC (ebs es) (cntE (ebs es) t) b (List.range k) : Nat) ∧ NumsIs wr M fk ∧ Counted (ebs es) t fk ∧ (∀ y, f y ≠ none → fk y ≠ none) ∧ (∀ i, i < k → ∀ z, (ebs es)[i]? = some ([b], [z]) → fk z ≠ none) ∧ W.grownBy wr (some M)) (fun _ c _ => es.length - (intOf c).toNat)
      case atStart => exact ⟨0, f, Nat.zero_le _, rfl, rfl, HN.out, HC.out, fun _ h => h, fun i hi => absurd hi (by omega), World.grownBy.refl _ _⟩
      case round =>
        obtain ⟨k, fk, hk, rfl, rfl, hnk, hck, hle, hdn, hgr⟩ := hrel
        have hHk := HH.out.keep hgr
        have hEk : EdgesIn wr N A es := hE.grown_low hgr (by omega) (fun c hc => by intro e; injection e with e; omega)
        have hzr := hgr.size
        have HNK := Lib.hid hnk; have HCK := Lib.hid hck; have HLEQ := Lib.hid hle; have HDN := Lib.hid hdn; have HGR := Lib.hid hgr
        clear hnk hck hle hdn hgr
        have c1 := hHk.map
        have c2 := hHk.go
        have HHK := Lib.hid hHk
        by_cases hlt : k < es.length
        case neg =>
          have hkn : k = es.length := by omega
          obtain ⟨c, hc⟩ : ∃ c, cntE (ebs es) t b = c := ⟨_, rfl⟩
          have HS : Hid (sumC (ebs es) (cntE (ebs es) t) b (List.range k) = c) := Lib.hid (by rw [hkn, ← HFIX.out, hc])
          obtain ⟨w2, hrun, hset2, hg2⟩ := HNK.out.update (P := Try.prog) (kt := 9) (t := 49) (e := 3) Try.underlying9 Try.underlying49 b (c : Int)
          have HSET : Hid (NumsIs w2 M (fun y => if y = b then some ((c : Nat) : Int) else fk y)) := Lib.hid hset2
          have HPUT : Hid (Counted (ebs es) t (fun y => if y = b then some ((c : Nat) : Int) else fk y)) := Lib.hid (by
            rw [← hc]
            refine HCK.out.put fun z hz => ?_
            obtain ⟨i, hi⟩ := List.mem_iff_getElem?.1 hz
            exact HDN.out i (by have := (List.getElem?_eq_some_iff.1 hi).1; rw [ebs_len] at this; omega) z hi)
          have HG2 := Lib.hid (HGR.out.trans hg2)
          have HCE := Lib.hid hc
          clear hset2 hg2 hc c2 hHk
          rw [HS.out]
          go_wp2_with fail
          go_ret
          refine ⟨by rw [HCE.out]; rfl, _, HSET.out, HPUT.out, fun y hy => ?_, by simp, HG2.out⟩
          by_cases e : y = b
          · simp [e]
          · rw [if_neg e]; exact HLEQ.out y hy
        obtain ⟨x, y, he, h1, h2, hxl, hyl⟩ := edge_letters hL.lets hlt
        obtain ⟨eb, eo, rfl, hlow, q1, q2⟩ := hEk k hlt
        rw [h1] at q1
        rw [h2] at q2
        have HE1 := Lib.hid he
        have hba : wr.grownBy (wr.alloc (.cells #[.string ⟨#[x]⟩, .string ⟨#[y]⟩] 62)) (some M) := World.grownBy_alloc wr _ _
        have HBA := Lib.hid hba
        have HRS : Hid (sumC (ebs es) (cntE (ebs es) t) b (List.range (k + 1)) = sumC (ebs es) (cntE (ebs es) t) b (List.range k) + stepC (ebs es) (cntE (ebs es) t) b k) := Lib.hid (sumC_range _ _ _ _)
        clear he h1 h2 hba
        by_cases hxb : x = b
        case neg =>
          have hq : (x == b) = false := by simp [hxb]
          have HN2 : Hid (sumC (ebs es) (cntE (ebs es) t) b (List.range (k + 1)) = sumC (ebs es) (cntE (ebs es) t) b (List.range k)) := Lib.hid (by rw [HRS.out, stepC_no HE1.out hxb, Nat.add_zero])
          have HG6 := Lib.hid (HGR.out.trans HBA.out)
          have HNM : Hid (NumsIs (wr.alloc (.cells #[.string ⟨#[x]⟩, .string ⟨#[y]⟩] 62)) M fk) := Lib.hid (HNK.out.of_block (Below.heap_alloc _ _ _ HNK.out.lt))
          have HDN2 : Hid (∀ i, i < k + 1 → ∀ z, (ebs es)[i]? = some ([b], [z]) → fk z ≠ none) := Lib.hid fun i hi z hz => by
            by_cases hik : i < k
            · exact HDN.out i hik z hz
            · have : i = k := by omega
              subst this
              rw [HE1.out] at hz
              injection hz with hz
              injection hz with hz _
              injection hz with hz _
              exact absurd hz hxb
          clear hxb
          go_wp2_with fail
          go_roundw
          case rel => exact ⟨k + 1, fk, by omega, by go_num, by rw [HN2.out], HNM.out, HCK.out, HLEQ.out, HDN2.out, HG6.out⟩
          case measure => simp [intOf]; omega
        subst hxb
        have hq : (x == x) = true := by simp
        obtain ⟨r2, ht2, hr7, hrl⟩ := topo_to HTO.out h7 (List.mem_of_getElem? HE1.out)
        obtain ⟨c1n, hc1⟩ : ∃ c1n : Nat, sumC (ebs es) (cntE (ebs es) t) x (List.range k) = c1n := ⟨_, rfl⟩
        have hcb : c1n + cntE (ebs es) t y ≤ 8589934593 := by
          have h2 : cntE (ebs es) t y ≤ 268435456 := cntE_few (by rw [ebs_len]; exact h16) ht2 hr7
          have h1 := sumC_few (t := t) (by rw [ebs_len]; exact h16) HTO.out h7 (show k ≤ 16 by omega)
          rw [hc1] at h1
          omega
        have HN2 : Hid (sumC (ebs es) (cntE (ebs es) t) x (List.range (k + 1)) = c1n + cntE (ebs es) t y) := Lib.hid (by rw [HRS.out, stepC_yes HE1.out, hc1])
        have hNA : NumsIs (wr.alloc (.cells #[.string ⟨#[x]⟩, .string ⟨#[y]⟩] 62)) M fk := HNK.out.of_block (Below.heap_alloc _ _ _ HNK.out.lt)
        have HCALL : Hid (Calls Try.prog 71 #[.string ⟨#[y]⟩, .pointer (some ⟨C, 0, none⟩), .pointer (some ⟨N, 0, none⟩), .pointer (some ⟨G, 0, none⟩)] (wr.alloc (.cells #[.string ⟨#[x]⟩, .string ⟨#[y]⟩] 62)) (CountedPost (ebs es) t y M fk (wr.alloc (.cells #[.string ⟨#[x]⟩, .string ⟨#[y]⟩] 62)))) := Lib.hid (by
          refine IH.out r2 y fk _ (by omega) hr7 ht2 (HHK.out.keep HBA.out) ?_ hNA HCK.out
          exact hEk.grown_low HBA.out (by omega) (fun c hc => by intro e; injection e with e; omega))
        obtain ⟨c2n, hc2⟩ : ∃ c2n : Nat, cntE (ebs es) t y = c2n := ⟨_, rfl⟩
        have z1 : IntKind.i64.wrap ((c1n : Int) + (c2n : Int)) = (c1n : Int) + (c2n : Int) := IntWalk.i64_in _ (by omega)
        have HC2 := Lib.hid hc2
        rw [hc1]
        clear hc1 hcb hNA ht2 hc2
        have c3 := (HHK.out.keep HBA.out).go
        go_wp2_with fail
        refine HCALL.out.mono ?_
        rintro e w5 ⟨rfl, f5, hn5, hc5, hle5, hb5, hg5⟩
        have HG5 := Lib.hid ((HGR.out.trans HBA.out).trans hg5)
        have HN5 := Lib.hid hn5; have HC5 := Lib.hid hc5; have HB5 := Lib.hid hb5
        have HLE5 : Hid (∀ y, f y ≠ none → f5 y ≠ none) := Lib.hid fun y hy => hle5 y (HLEQ.out y hy)
        have HDN5 : Hid (∀ i, i < k + 1 → ∀ z, (ebs es)[i]? = some ([x], [z]) → f5 z ≠ none) := Lib.hid fun i hi z hz => by
          by_cases hik : i < k
          · exact hle5 z (HDN.out i hik z hz)
          · have : i = k := by omega
            subst this
            rw [HE1.out] at hz
            injection hz with hz
            injection hz with _ hz
            injection hz with hz _
            subst hz
            exact HB5.out
        rw [HC2.out]
        clear hn5 hc5 hle5 hb5 hg5 c1 c2 c3 HCALL
        go_wp2_with fail
        go_roundw
        case rel => exact ⟨k + 1, f5, by omega, by go_num, by rw [HN2.out, HC2.out, Int.natCast_add], HN5.out, HC5.out, HLE5.out, HDN5.out, HG5.out⟩
        case measure => simp [intOf]; omega

end Go.Proofs.Ytghdjmjodgbghaa
