/- Values of all edges by the program. -/
import Derived.Test.YtjfdkhaepmmlfaaZ6S
import Derived.Test.YtjfdkhaepmmlfaaZ6V
import Derived.Test.YtjfdkhaepmmlfaaZ6H
import Derived.Laws.AppendOwn
namespace Go.Proofs.Ytjfdkhaepmmlfaa
open Go.RowKit

set_option maxRecDepth 100000 in
set_option maxHeartbeats 2000000 in
/-- slices.Clone, of numbers -/
theorem cloneInts_any (X cap : Nat) (xs : List Int) (w : World) (hX : X < w.heap.size) (hc : ∀ i, (h : i < xs.length) → w.cell? ⟨X, i, none⟩ = some (.int .i64 xs[i])) (hl : xs.length ≤ 16) :
    Calls Try.prog 89 #[.slice (some ⟨X, 0, none⟩) xs.length cap] w fun e w' => ∃ A c, e = .returned (.slice A xs.length c) ∧ IntsIn w' w'.heap.size A xs ∧ Below w.heap.size w w' ∧ OwnInts w' w.heap.size A xs.length := by
  obtain ⟨i0, hi, hi0, hi1, hi2⟩ := info_parts intInfo
  have HI := Lib.hid hi; have HI0 := Lib.hid hi0; have HI1 := Lib.hid hi1; have HI2 := Lib.hid hi2
  have hba : Below w.heap.size w (w.alloc (.cells #[] 3)) := (Below.refl _ _).alloc (Nat.le_refl _) _
  have HOWN : Hid ((w.alloc (.cells #[] 3)).ownsRow w.heap.size 3 1 (.slice (some ⟨w.heap.size, 0, none⟩) 0 0) 0 []) := Lib.hid
    ⟨rfl, .inr ⟨w.heap.size, 0, #[], rfl, Nat.le_refl _, heap_alloc_new _ _, by simp, by simp, by simp, by simp⟩⟩
  have HNEW : Hid (∀ j u, (xs.map (Value.int .i64))[j]? = some u → (w.alloc (.cells #[] 3)).cell? ((⟨X, 0, none⟩ : Addr).add j) = some u) := Lib.hid fun j u hu => by
    rw [List.getElem?_map] at hu
    have hj : j < xs.length := by
      rcases Nat.lt_or_ge j xs.length with h | h
      · exact h
      · rw [List.getElem?_eq_none h] at hu; simp at hu
    rw [List.getElem?_eq_getElem hj] at hu
    simp at hu
    subst hu
    have e : ((⟨X, 0, none⟩ : Addr).add j) = ⟨X, j, none⟩ := by unfold Addr.add; split <;> simp_all
    rw [e]
    exact (hba.cell (p := ⟨X, j, none⟩) hX).trans (hc j hj)
  have HONE : Hid (∀ u ∈ xs.map (Value.int .i64), u.oneCell' = true) := Lib.hid fun u hu => by
    obtain ⟨x, _, rfl⟩ := List.mem_map.1 hu
    rfl
  have HBA := Lib.hid hba
  have HLEN : Hid ((xs.map (Value.int .i64)).length = xs.length * 1) := Lib.hid (by simp)
  have HZ : Hid (w.heap.size ≤ (w.alloc (.cells #[] 3)).heap.size) := Lib.hid (by simp)
  have hnil : ∀ W : World, (binOp BinOp.eql 52 (.slice (some ⟨X, 0, none⟩) xs.length cap) (.slice none 0 0)).run Try.prog W = .ok (.bool false) W := fun W => by kernel_rfl
  clear hi hi0 hi1 hi2 hba hc hX
  go_enter Try.func89, Try.ntmps89
  go_wp2_with (
    at_builtin
    refine wpList_append_own _ rfl (.tmp 5) (.tmp 6) 52 rfl w.heap.size 3 i0 (.int .i64 0) 1 8 Try.underlying52 HI.out HI0.out HI1.out HI2.out rfl (by decide) _ 0 [] rfl HOWN.out ⟨X, 0, none⟩ xs.length cap (xs.map (Value.int .i64)) rfl HLEN.out HNEW.out HONE.out (by unfold maxLen; omega) (by omega) HZ.out ?_
    intro v9 w9 hown9 hgr9 _
    go_must (
    have HOWN9 := Lib.hid hown9
    have HB9 : Hid (Below w.heap.size w w9) := Lib.hid (HBA.out.grown hgr9 HZ.out (fun _ e => Nat.le_of_not_lt fun hq => ownI_ne HOWN.out hq e.symm))
    clear hown9 hgr9))
  have hown := HOWN9.out
  simp only [Nat.zero_add, List.nil_append] at hown
  obtain ⟨A, c, rfl, h1, h2⟩ := own_ints hown
  go_ret
  exact ⟨A, c, rfl, h1, HB9.out, h2⟩

set_option maxRecDepth 100000 in
set_option maxHeartbeats 4000000 in
/-- impl.ValuesOf -/
theorem implValuesOf_any (B : ByteArray) (A : Option Addr) (cap : Nat) (es : List (ByteArray × ByteArray)) (w : World) (hs : B.size ≤ maxLen) (hE : EdgesIn w w.heap.size A es) (hl : es.length ≤ 1099511627776) (hS : ∀ e ∈ es, e.1.size ≤ 1099511627776 ∧ e.2.size ≤ 1099511627776) :
    Calls Try.prog 51 #[.agg #[.string B, .slice A es.length cap]] w (ValsPost (valuesV B es) w) := by
  have HL := Lib.hid hl; have HM := Lib.hid hs; have HS := Lib.hid hS
  clear hl hs hS
  have hb1 : Below w.heap.size w (w.alloc (.cells #[.string B, .slice A es.length cap] 30)) := (Below.refl _ _).alloc (Nat.le_refl _) _
  have t1 := Two.made w B A es.length cap 30
  have hz1 : (w.alloc (.cells #[.string B, .slice A es.length cap] 30)).heap.size = w.heap.size + 1 := by simp
  obtain ⟨v, hv⟩ : ∃ v, acycV B es = v := ⟨_, rfl⟩
  have FA : Hid (∀ W : World, EdgesIn W W.heap.size A es → Calls Try.prog 34 #[.agg #[.string B, .slice A es.length cap]] W fun e w' => e = .returned (.bool v) ∧ Below W.heap.size W w') := Lib.hid fun W h => by
    have := implIsAcyclic_any B A cap es W HM.out h HL.out HS.out
    rwa [hv] at this
  cases v with
  | false =>
    have HN : Hid (valuesV B es = ([], false)) := Lib.hid (if_neg (by rw [hv]; simp))
    clear hv
    go_enter Try.func51, Try.ntmps51
    go_wp2_with fail
    refine (FA.out _ ((hE.below hb1).more hb1.size)).mono ?_
    rintro e w2 ⟨rfl, hb2⟩
    have hb2' := hb1.trans (hb2.mono hb1.size)
    clear hb2 t1
    go_wp2_with fail
    refine bodyPost_ret (v := .tuple #[.slice none 0 0, .bool false]) (by simp [results, Try.results51, go_sem]) rfl ?_
    rw [HN.out]
    exact ⟨none, 0, rfl, fun k hk => absurd hk (by simp), hb2', .inl ⟨rfl, rfl⟩⟩
  | true =>
    have h16 := (acy_v hv).F.few
    have FV : Hid (∀ W : World, EdgesIn W W.heap.size A es → Calls Try.prog 75 #[.agg #[.string B, .slice A es.length cap]] W fun e w' => e = .returned (arr16 (valE (ebs es) (exit_ B.data.toList))) ∧ Below W.heap.size W w') := Lib.hid fun W h => values_acy hv HM.out W h
    obtain ⟨F, hF⟩ : ∃ F, valE (ebs es) (exit_ B.data.toList) = F := ⟨_, rfl⟩
    have HN : Hid (valuesV B es = ((List.range es.length).map (fun k => ((F k : Nat) : Int)), true)) := Lib.hid ((if_pos hv).trans (by rw [hF]))
    rw [hF] at FV
    obtain ⟨xs, hxs⟩ : ∃ xs, (List.range es.length).map (fun k => ((F k : Nat) : Int)) = xs := ⟨_, rfl⟩
    have hxl : xs.length = es.length := by rw [← hxs]; simp
    have HXA : Hid (∀ i, (h : i < xs.length) → xs[i] = ((F i : Nat) : Int)) := Lib.hid fun i h => by
      subst hxs; simp
    rw [hxs] at HN
    have HXL := Lib.hid hxl
    have a2 : (es.length : Int) ≤ 16 := by omega
    clear hv hF hxs hxl
    go_enter Try.func51, Try.ntmps51
    go_wp2_with fail
    refine (FA.out _ ((hE.below hb1).more hb1.size)).mono ?_
    rintro e w2 ⟨rfl, hb2⟩
    have hb2' := hb1.trans (hb2.mono hb1.size)
    have t2 := t1.below hb2 (by omega)
    have hz2 : w.heap.size + 1 ≤ w2.heap.size := by have := hb2.size; omega
    have hd0 := t2.1; have hd1 := t2.2
    clear hb2 t1 hz1 hb1
    go_wp2_with fail
    refine (FV.out _ ((hE.below hb2').more hb2'.size)).mono ?_
    rintro e w3 ⟨rfl, hb3⟩
    have hb3' := hb2'.trans (hb3.mono hb2'.size)
    have t3 := t2.below hb3 (by omega)
    have hz3 : w.heap.size + 1 ≤ w3.heap.size := by have := hb3.size; omega
    have hrow := arr16_row w3 F
    have hb4 : Below w3.heap.size w3 (w3.alloc (.cells #[.int .i64 ((F 0 : Nat) : Int), .int .i64 ((F 1 : Nat) : Int), .int .i64 ((F 2 : Nat) : Int), .int .i64 ((F 3 : Nat) : Int), .int .i64 ((F 4 : Nat) : Int), .int .i64 ((F 5 : Nat) : Int), .int .i64 ((F 6 : Nat) : Int), .int .i64 ((F 7 : Nat) : Int), .int .i64 ((F 8 : Nat) : Int), .int .i64 ((F 9 : Nat) : Int), .int .i64 ((F 10 : Nat) : Int), .int .i64 ((F 11 : Nat) : Int), .int .i64 ((F 12 : Nat) : Int), .int .i64 ((F 13 : Nat) : Int), .int .i64 ((F 14 : Nat) : Int), .int .i64 ((F 15 : Nat) : Int)] 69)) := (Below.refl _ _).alloc (Nat.le_refl _) _
    have hz4 : (w3.alloc (.cells #[.int .i64 ((F 0 : Nat) : Int), .int .i64 ((F 1 : Nat) : Int), .int .i64 ((F 2 : Nat) : Int), .int .i64 ((F 3 : Nat) : Int), .int .i64 ((F 4 : Nat) : Int), .int .i64 ((F 5 : Nat) : Int), .int .i64 ((F 6 : Nat) : Int), .int .i64 ((F 7 : Nat) : Int), .int .i64 ((F 8 : Nat) : Int), .int .i64 ((F 9 : Nat) : Int), .int .i64 ((F 10 : Nat) : Int), .int .i64 ((F 11 : Nat) : Int), .int .i64 ((F 12 : Nat) : Int), .int .i64 ((F 13 : Nat) : Int), .int .i64 ((F 14 : Nat) : Int), .int .i64 ((F 15 : Nat) : Int)] 69)).heap.size = w3.heap.size + 1 := by simp
    have t4 := t3.below hb4 (by omega)
    clear hd0 hd1 hb3 t2 t3 hz2 hb2'
    have hd0 := t4.1; have hd1 := t4.2
    have HROW := Lib.hid hrow; have HB4 := Lib.hid (hb3'.trans (hb4.mono hb3'.size)); have HZ4 := Lib.hid hz4
    clear hrow hb4 hz4 t4 hb3'
    unfold arr16
    go_wp2_with fail
    generalize hW4 : w3.alloc (.cells #[.int .i64 ((F 0 : Nat) : Int), .int .i64 ((F 1 : Nat) : Int), .int .i64 ((F 2 : Nat) : Int), .int .i64 ((F 3 : Nat) : Int), .int .i64 ((F 4 : Nat) : Int), .int .i64 ((F 5 : Nat) : Int), .int .i64 ((F 6 : Nat) : Int), .int .i64 ((F 7 : Nat) : Int), .int .i64 ((F 8 : Nat) : Int), .int .i64 ((F 9 : Nat) : Int), .int .i64 ((F 10 : Nat) : Int), .int .i64 ((F 11 : Nat) : Int), .int .i64 ((F 12 : Nat) : Int), .int .i64 ((F 13 : Nat) : Int), .int .i64 ((F 14 : Nat) : Int), .int .i64 ((F 15 : Nat) : Int)] 69) = w4 at HROW HB4 HZ4 hd0 hd1 ⊢
    clear hW4
    have hcl := cloneInts_any w3.heap.size 16 xs w4 (by have := HZ4.out; omega) (fun i h => by rw [HXA.out i h]; exact HROW.out.cell (i := i) (by have := HXL.out; omega)) (by have := HXL.out; omega)
    rw [HXL.out] at hcl
    refine hcl.mono ?_
    clear hcl
    rintro e w5 ⟨A5, c5, rfl, hX5, hb5, hO5⟩
    have hb5' := HB4.out.trans (hb5.mono HB4.out.size)
    have HX5 := Lib.hid hX5; have HO5 := Lib.hid hO5
    clear hd0 hd1 hb5 hX5 hO5
    go_wp2_with fail
    refine bodyPost_ret (v := .tuple #[.slice A5 es.length c5, .bool true]) (by simp [results, Try.results51, go_sem]) rfl ?_
    rw [HN.out]
    refine ⟨A5, c5, by rw [HXL.out], HX5.out, hb5', ?_⟩
    rcases HO5.out with h | ⟨g, r, f, e1, e2, rest⟩
    · exact .inl (by rw [HXL.out]; exact h)
    · exact .inr ⟨g, r, f, e1, by have := HB4.out.size; omega, by rw [HXL.out]; exact rest⟩

end Go.Proofs.Ytjfdkhaepmmlfaa
