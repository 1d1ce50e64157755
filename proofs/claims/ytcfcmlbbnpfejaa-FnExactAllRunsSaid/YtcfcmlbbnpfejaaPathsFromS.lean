/- All paths from a block, all runs: the model's functions. -/
import Derived.Test.YtcfcmlbbnpfejaaPathsS
import Derived.Test.YtcfcmlbbnpfejaaAcycS
namespace Go.Proofs.Ytcfcmlbbnpfejaa
open Go.RowKit

/-- all paths from a block, if there are no ways back and they are not too many -/
noncomputable def pathsQ (B : ByteArray) (es : List (ByteArray × ByteArray)) (b : ByteArray) : List ByteArray × Bool :=
  if acycV B es = true ∧ 0 ≤ bIdx B.data.toList b.data.toList then
    (if (pathsE (ebs es) (exit_ B.data.toList) (b.data.toList.headD 0)).length ≤ 400 then (tx (pathsE (ebs es) (exit_ B.data.toList) (b.data.toList.headD 0)), true) else ([], false))
  else ([], false)

theorem block_letter {l bl : List UInt8} (h : 0 ≤ bIdx l bl) : ∃ c, bl = [c] ∧ c ∈ l := by
  match bl with
  | [] => exact absurd h (by simp [bIdx])
  | [c] => exact ⟨c, rfl, by
      have : 0 ≤ Lib.indexByte l c := by simpa [bIdx] using h
      exact indexByte_nonneg.1 this⟩
  | _ :: _ :: _ => exact absurd h (by simp [bIdx])

set_option maxRecDepth 100000 in
set_option maxHeartbeats 2000000 in
/-- spec.PathsFrom -/
theorem specPathsFrom_any (B : ByteArray) (A : Option Addr) (cap : Nat) (es : List (ByteArray × ByteArray)) (b : ByteArray) (w : World) (hs : B.size ≤ maxLen) (hE : EdgesIn w w.heap.size A es) (hl : es.length ≤ 1099511627776) (hS : ∀ e ∈ es, e.1.size ≤ 1099511627776 ∧ e.2.size ≤ 1099511627776) :
    Calls Try.prog 50 #[.agg #[.string B, .slice A es.length cap], .string b] w (CutPost (pathsQ B es b) w) := by
  have HL := Lib.hid hl; have HM := Lib.hid hs; have HS := Lib.hid hS
  clear hl hs hS
  have hb1 : Below w.heap.size w (w.alloc (.cells #[.string B, .slice A es.length cap] 25)) := (Below.refl _ _).alloc (Nat.le_refl _) _
  have t1 := Two.made w B A es.length cap 25
  have hz1 : (w.alloc (.cells #[.string B, .slice A es.length cap] 25)).heap.size = w.heap.size + 1 := by simp
  have hd0 := t1.1; have hd1 := t1.2
  obtain ⟨v, hv⟩ : ∃ v, acycV B es = v := ⟨_, rfl⟩
  have FA : Hid (∀ W : World, EdgesIn W W.heap.size A es → Calls Try.prog 93 #[.agg #[.string B, .slice A es.length cap]] W fun e w' => e = .returned (.bool v) ∧ Below W.heap.size W w') := Lib.hid fun W h => by
    have := specIsAcyclic_any B A cap es W HM.out h HL.out HS.out
    rwa [hv] at this
  cases v with
  | false =>
    have HQ : Hid (pathsQ B es b = ([], false)) := Lib.hid (if_neg (by rw [hv]; simp))
    clear hv
    go_enter Try.func50, Try.ntmps50
    go_wp2_with fail
    refine (FA.out _ ((hE.below hb1).more hb1.size)).mono ?_
    rintro e w2 ⟨rfl, hb2⟩
    have hb2' := hb1.trans (hb2.mono hb1.size)
    have hz2 : w.heap.size + 1 ≤ w2.heap.size := by have := hb2.size; omega
    clear hb2 hd0 hd1 t1 hz1 hb1
    go_wp2_with fail
    go_ret2
    rw [HQ.out]
    exact no_texts w w2 hb2' _ rfl
  | true =>
  obtain ⟨hval, hcy⟩ := decB_iff.1 hv
  have hF := facts_of hval
  obtain ⟨htopo, hent⟩ := order_topo hF.into hcy hF.ent hF.small
  by_cases hbi : 0 ≤ bIdx B.data.toList b.data.toList
  case neg =>
    have HQ : Hid (pathsQ B es b = ([], false)) := Lib.hid (if_neg (by rintro ⟨_, h⟩; exact hbi h))
    have HBI := Lib.hid hbi
    clear hv hval hcy hF htopo hent hbi
    go_enter Try.func50, Try.ntmps50
    go_wp2_with fail
    refine (FA.out _ ((hE.below hb1).more hb1.size)).mono ?_
    rintro e w2 ⟨rfl, hb2⟩
    have t2 := t1.below hb2 (by omega)
    have hb2' := hb1.trans (hb2.mono hb1.size)
    have hz2 : w.heap.size + 1 ≤ w2.heap.size := by have := hb2.size; omega
    clear hb2 hd0 hd1 t1 hz1 hb1
    have hd0 := t2.1; have hd1 := t2.2
    go_wp2_with fail
    refine (l1Block_f B b _ _ HM.out (by have := HBI.out; omega)).mono ?_
    rintro e w3 ⟨rfl, hb3⟩
    have hb3' := hb2'.trans (hb3.mono hb2'.size)
    clear hb3 hd0 hd1 t2
    go_wp2_with fail
    go_ret2
    rw [HQ.out]
    exact no_texts w w3 hb3' _ rfl
  obtain ⟨c, hbc, hcm⟩ := block_letter hbi
  have hbe : b = ⟨#[c]⟩ := bytes_one hbc
  subst hbe
  have hco := order_all hF.into hcy hF.ent hF.small (hval.2.1 c hcm)
  obtain ⟨a0, r, hr⟩ := List.append_of_mem hco
  have ht2 : Topo (ebs es) (c :: r) := Topo.drop (a := a0) (by rw [← hr]; exact htopo)
  have hol := orderE_len hF.into hF.ent hF.small
  have hlr := congrArg List.length hr
  simp at hlr
  have hsm := hF.small
  obtain ⟨t, hte⟩ : ∃ t, exit_ B.data.toList = t := ⟨_, rfl⟩
  have hlast := hF.last
  rw [hte] at hlast
  have FP : Hid (∀ W : World, EdgesIn W W.heap.size A es → Calls Try.prog 108 #[.agg #[.string B, .slice A es.length cap], .string ⟨#[c]⟩] W (RowPost (tx ((pathsE (ebs es) t c).take 401)) W)) := Lib.hid fun W h =>
    l2From_any B A cap es B.data.toList t hF.few hF.lets HM.out hF.one hlast (r.length + 1) r c W (by omega) (by omega) ht2 h
  have HQ : Hid (pathsQ B es ⟨#[c]⟩ = if (pathsE (ebs es) t c).length ≤ 400 then (tx (pathsE (ebs es) t c), true) else ([], false)) := Lib.hid (by
    unfold pathsQ
    rw [if_pos ⟨hv, hbi⟩, hte]; rfl)
  have HBI := Lib.hid hbi
  clear hv hval hcy hF htopo hent hbi hbc hcm hco hr ht2 hol hlr hsm hte hlast
  obtain ⟨P, hP⟩ : ∃ P, pathsE (ebs es) t c = P := ⟨_, rfl⟩
  rw [hP] at FP HQ
  clear hP
  have htl : (tx (P.take 401)).length = min 401 P.length := by rw [tx_length, List.length_take]
  by_cases h4 : P.length ≤ 400
  case neg =>
    rw [if_neg h4] at HQ
    have htl2 : (tx (P.take 401)).length = 401 := by omega
    go_enter Try.func50, Try.ntmps50
    clear htl
    go_wp2_with fail
    refine (FA.out _ ((hE.below hb1).more hb1.size)).mono ?_
    rintro e w2 ⟨rfl, hb2⟩
    have t2 := t1.below hb2 (by omega)
    have hb2' := hb1.trans (hb2.mono hb1.size)
    have hz2 : w.heap.size + 1 ≤ w2.heap.size := by have := hb2.size; omega
    clear hb2 hd0 hd1 t1 hz1 hb1
    have hd0 := t2.1; have hd1 := t2.2
    go_wp2_with fail
    refine (l1Block_t B ⟨#[c]⟩ _ _ HM.out HBI.out).mono ?_
    rintro e w3 ⟨rfl, hb3⟩
    have t3 := t2.below hb3 (by omega)
    have hb3' := hb2'.trans (hb3.mono hb2'.size)
    clear hb3 hd0 hd1 t2
    have hd0 := t3.1; have hd1 := t3.2
    go_wp2_with fail
    refine (FP.out _ ((hE.below hb3').more hb3'.size)).mono ?_
    rintro e w4 ⟨A', c', rfl, h3, hb4, h5⟩
    have hb4' := hb3'.trans (hb4.mono hb3'.size)
    rw [htl2]
    clear hb4 hd0 hd1 t3 h3 h5
    go_wp2_with fail
    go_ret2
    rw [HQ.out]
    exact no_texts w w4 hb4' _ rfl
  rw [if_pos h4] at HQ
  have hpt : P.take 401 = P := List.take_of_length_le (by omega)
  rw [hpt] at FP htl
  have htl2 : (tx P).length ≤ 400 := by omega
  obtain ⟨ts, hts⟩ : ∃ ts, tx P = ts := ⟨_, rfl⟩
  rw [hts] at FP HQ htl2
  have hng : ¬ ((ts.length : Int) > 400) := by omega
  clear htl hts hpt htl2
  go_enter Try.func50, Try.ntmps50
  go_wp2_with fail
  refine (FA.out _ ((hE.below hb1).more hb1.size)).mono ?_
  rintro e w2 ⟨rfl, hb2⟩
  have t2 := t1.below hb2 (by omega)
  have hb2' := hb1.trans (hb2.mono hb1.size)
  have hz2 : w.heap.size + 1 ≤ w2.heap.size := by have := hb2.size; omega
  clear hb2 hd0 hd1 t1 hz1 hb1
  have hd0 := t2.1; have hd1 := t2.2
  go_wp2_with fail
  refine (l1Block_t B ⟨#[c]⟩ _ _ HM.out HBI.out).mono ?_
  rintro e w3 ⟨rfl, hb3⟩
  have t3 := t2.below hb3 (by omega)
  have hb3' := hb2'.trans (hb3.mono hb2'.size)
  clear hb3 hd0 hd1 t2
  have hd0 := t3.1; have hd1 := t3.2
  go_wp2_with fail
  refine (FP.out _ ((hE.below hb3').more hb3'.size)).mono ?_
  rintro e w4 ⟨A', c', rfl, h3, hb4, h5⟩
  have hb4' := hb3'.trans (hb4.mono hb3'.size)
  clear hb4 hd0 hd1 t3
  go_wp2_with fail
  go_ret2
  rw [HQ.out]
  exact ⟨A', c', rfl, h3, hb4', h5.mono hb3'.size⟩

end Go.Proofs.Ytcfcmlbbnpfejaa
