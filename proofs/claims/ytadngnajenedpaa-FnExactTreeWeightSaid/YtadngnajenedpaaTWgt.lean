/- The weight of a tree: TreeWeight by the program and by the model. -/
import Derived.Test.YtadngnajenedpaaWgt
import Derived.Test.YtadngnajenedpaaOneInt
import Derived.Test.YtadngnajenedpaaTreeF
import Derived.Test.YtadngnajenedpaaTreeN
namespace Go.Proofs.Ytadngnajenedpaa
open Go.RowKit

/-- the sum of the weights of edges -/
def sumW (xs : List Int) : List Nat → Int
  | [] => 0
  | k :: r => xs.getD k 0 + sumW xs r
theorem sumW_snoc (xs : List Int) (k : Nat) : ∀ r : List Nat, sumW xs (r ++ [k]) = sumW xs r + xs.getD k 0
  | [] => by simp [sumW]
  | a :: r => by
    show xs.getD a 0 + sumW xs (r ++ [k]) = _
    rw [sumW_snoc xs k r]
    show _ = xs.getD a 0 + sumW xs r + xs.getD k 0
    omega
theorem sumW_few {xs : List Int} (h : ∀ x ∈ xs, 0 ≤ x ∧ x ≤ 99) : ∀ r : List Nat, 0 ≤ sumW xs r ∧ sumW xs r ≤ 99 * (r.length : Int)
  | [] => by simp [sumW]
  | a :: r => by
    obtain ⟨h1, h2⟩ := sumW_few h r
    have h3 : 0 ≤ xs.getD a 0 ∧ xs.getD a 0 ≤ 99 := by
      rw [List.getD_eq_getElem?_getD]
      cases hx : xs[a]? with
      | none => simp
      | some x => simpa using h x (List.mem_of_getElem? hx)
    show 0 ≤ xs.getD a 0 + sumW xs r ∧ xs.getD a 0 + sumW xs r ≤ _
    simp only [List.length_cons]
    omega
theorem ks_take {l : List UInt8} {i : Nat} (h : i < l.length) : (ksOf l).take (i + 1) = (ksOf l).take i ++ [(l.getD i 0).toNat - 97] := by
  rw [List.take_add_one]
  simp [ksOf, List.getD, h]

/-- the weight of a tree, or -1 -/
noncomputable def tweightV (B : ByteArray) (es : List (ByteArray × ByteArray)) (xs : List Int) (t : ByteArray) : Int := if weightsV B es xs = true ∧ treeV B es t = true then sumW xs (ksOf t.data.toList) else -1

set_option maxRecDepth 100000 in
set_option maxHeartbeats 4000000 in
/-- spec.TreeWeight -/
theorem specTreeWeight_any (B : ByteArray) (A : Option Addr) (cap : Nat) (es : List (ByteArray × ByteArray)) (P : Option Addr) (pcap : Nat) (xs : List Int) (b : ByteArray) (w : World) (hs : B.size ≤ maxLen) (hE : EdgesIn w w.heap.size A es) (hl : es.length ≤ 1099511627776) (hS : ∀ e ∈ es, e.1.size ≤ 1099511627776 ∧ e.2.size ≤ 1099511627776) (hX : IntsIn w w.heap.size P xs) (hxl : xs.length ≤ 1099511627776) (hbz : b.size ≤ 1099511627776) :
    Calls Try.prog 28 #[.agg #[.string B, .slice A es.length cap], .slice P xs.length pcap, .string b] w (IntPost (tweightV B es xs b) w) := by
  obtain ⟨v, hv⟩ : ∃ v, weightsV B es xs = v := ⟨_, rfl⟩
  obtain ⟨u, hu⟩ : ∃ u, treeV B es b = u := ⟨_, rfl⟩
  have FA : Hid (∀ W : World, EdgesIn W W.heap.size A es → IntsIn W W.heap.size P xs → Calls Try.prog 12 #[.agg #[.string B, .slice A es.length cap], .slice P xs.length pcap] W fun e w' => e = .returned (.bool v) ∧ Below W.heap.size W w') := Lib.hid fun W h h' => by
    have := specWeightsValid_any B A cap es P pcap xs W hs h hl hS h' hxl
    rwa [hv] at this
  have FT : Hid (∀ W : World, EdgesIn W W.heap.size A es → Calls Try.prog 18 #[.agg #[.string B, .slice A es.length cap], .string b] W fun e w' => e = .returned (.bool u) ∧ Below W.heap.size W w') := Lib.hid fun W h => by
    have := specIsTree_any B A cap es b W hs h hl hS hbz
    rwa [hu] at this
  have FI : Hid (∀ (k : Nat) (c : UInt8) (s : ByteArray), s.data.toList = [c] → eIdx es.length [c] = k → ∀ W : World, Calls Try.prog 59 #[.agg #[.string B, .slice A es.length cap], .string s] W fun e w' => e = .returned (.int .i64 (k : Int)) ∧ Below W.heap.size W w') := Lib.hid fun k c s hs hi W => by
    have := l1Index_any (.string B) A es.length cap s W hl
    rwa [hs, hi] at this
  have hb1 : Below w.heap.size w (w.alloc (.cells #[.string B, .slice A es.length cap] 30)) := (Below.refl _ _).alloc (Nat.le_refl _) _
  have t1 := Two.made w B A es.length cap 30
  have hz1 : (w.alloc (.cells #[.string B, .slice A es.length cap] 30)).heap.size = w.heap.size + 1 := by simp
  clear hs hl hS hxl
  cases v with
  | false =>
    have HN : Hid (tweightV B es xs b = -1) := Lib.hid (if_neg fun h => by rw [hv] at h; exact absurd h.1 (by simp))
    clear hv hu
    go_enter Try.func28, Try.ntmps28
    go_wp2_with fail
    refine (FA.out _ ((hE.below hb1).more hb1.size) ((hX.below hb1).more hb1.size)).mono ?_
    rintro e w2 ⟨rfl, hb2⟩
    have hb2' := hb1.trans (hb2.mono hb1.size)
    clear hb2 t1
    go_wp2_with fail
    go_ret
    exact ⟨ret_int HN.out.symm, hb2'⟩
  | true =>
  cases u with
  | false =>
    have HN : Hid (tweightV B es xs b = -1) := Lib.hid (if_neg fun h => by rw [hu] at h; exact absurd h.2 (by simp))
    clear hv hu
    go_enter Try.func28, Try.ntmps28
    go_wp2_with fail
    refine (FA.out _ ((hE.below hb1).more hb1.size) ((hX.below hb1).more hb1.size)).mono ?_
    rintro e w2 ⟨rfl, hb2⟩
    have hb2' := hb1.trans (hb2.mono hb1.size)
    have t2 := t1.below hb2 (by omega)
    have hd0 := t2.1; have hd1 := t2.2
    clear hb2 t1
    go_wp2_with fail
    refine (FT.out _ ((hE.below hb2').more hb2'.size)).mono ?_
    rintro e w3 ⟨rfl, hb3⟩
    have hb3' := hb2'.trans (hb3.mono hb2'.size)
    clear hb3 hd0 hd1 t2
    go_wp2_with fail
    go_ret
    exact ⟨ret_int HN.out.symm, hb3'⟩
  | true =>
  have hw := decB_iff.1 hv
  have ht := decB_iff.1 hu
  have HW := Lib.hid hw.2.2; have HK := Lib.hid ht.2.1; have HXE := Lib.hid hw.2.1
  have hb6 : b.size ≤ 6 := by
    have := ht.2.2.1
    have := (valid_sizes ht.1).1
    omega
  have HLEN : Hid (b.data.toList.length = b.size) := Lib.hid (by simp)
  have HN : Hid (tweightV B es xs b = sumW xs (ksOf b.data.toList)) := Lib.hid (if_pos ⟨hv, hu⟩)
  clear hv hu hw ht
  go_enter Try.func28, Try.ntmps28
  go_wp2_with fail
  refine (FA.out _ ((hE.below hb1).more hb1.size) ((hX.below hb1).more hb1.size)).mono ?_
  rintro e w2 ⟨rfl, hb2⟩
  have hb2' := hb1.trans (hb2.mono hb1.size)
  have t2 := t1.below hb2 (by omega)
  have hz2 := hb2.size
  have hd0 := t2.1; have hd1 := t2.2
  clear hb2 t1 FA
  go_wp2_with fail
  refine (FT.out _ ((hE.below hb2').more hb2'.size)).mono ?_
  rintro e w3 ⟨rfl, hb3⟩
  have hb3' := hb2'.trans (hb3.mono hb2'.size)
  have t3 := t2.below hb3 (by omega)
  have hz3 : w.heap.size < w3.heap.size := by have := hb3.size; omega
  clear hb3 hd0 hd1 t2 FT hb2' hz2
  go_wp2_with fail
  go_loopw [7, 21] (fun a c wr => ∃ i : Nat, i ≤ b.size ∧ c = .int .i64 i ∧ a = .int .i64 (sumW xs ((ksOf b.data.toList).take i)) ∧ Below w3.heap.size w3 wr) (fun _ c _ => b.size - (intOf c).toNat)
  case atStart => exact ⟨0, Nat.zero_le _, rfl, rfl, Below.refl _ _⟩
  case round =>
    obtain ⟨i, hi, rfl, rfl, hb⟩ := hrel
    have hbw := hb3'.trans (hb.mono hb3'.size)
    have tr := t3.below hb (by omega)
    have hzr := hb.size
    by_cases hlt : i < b.size
    case neg =>
      have HEND : Hid (sumW xs ((ksOf b.data.toList).take i) = sumW xs (ksOf b.data.toList)) := Lib.hid (by rw [List.take_of_length_le (by simp [ksOf]; omega)])
      rw [HEND.out]
      clear tr t3
      go_wp2_with fail
      go_ret
      exact ⟨ret_int HN.out.symm, hbw⟩
    have hex := letter_at (p := b) hlt
    have hka := HK.out.at (i := i) (by have := HLEN.out; omega)
    have hkt := ks_take (l := b.data.toList) (i := i) (by have := HLEN.out; omega)
    obtain ⟨c, hc⟩ : ∃ c, b.data.toList.getD i 0 = c := ⟨_, rfl⟩
    rw [hc] at hex hka hkt
    obtain ⟨k, hk⟩ : ∃ k, c.toNat - 97 = k := ⟨_, rfl⟩
    rw [hk] at hka hkt
    have HFX := Lib.hid (FI.out k c (b.extract i (i + 1)) hex hka.1)
    have hkx : k < xs.length := by have := HXE.out; omega
    obtain ⟨x, hx⟩ : ∃ x, xs[k] = x := ⟨_, rfl⟩
    have hxd : xs.getD k 0 = x := by rw [List.getD_eq_getElem?_getD, List.getElem?_eq_getElem hkx, hx]; rfl
    have hnx : sumW xs ((ksOf b.data.toList).take (i + 1)) = sumW xs ((ksOf b.data.toList).take i) + x := by rw [hkt, sumW_snoc, hxd]
    have hx99 := HW.out x (by rw [← hx]; exact List.getElem_mem hkx)
    have hs99 := sumW_few HW.out ((ksOf b.data.toList).take i)
    have hln : ((ksOf b.data.toList).take i).length ≤ 6 := by rw [List.length_take]; simp [ksOf]; omega
    obtain ⟨pb, po, rfl, hpl, hpc⟩ := hX k hkx
    rw [hx] at hpc
    have hpr : wr.cell? ⟨pb, po + k, none⟩ = some (.int .i64 x) := (hbw.cell (by simp only; omega)).trans hpc
    obtain ⟨s, hs⟩ : ∃ s, sumW xs ((ksOf b.data.toList).take i) = s := ⟨_, rfl⟩
    rw [hs] at hnx hs99 ⊢
    have HNX := Lib.hid hnx
    have z1 : IntKind.i64.wrap (s + x) = s + x := IntWalk.i64_in _ (by omega)
    have a1 : (0 : Int) ≤ (i : Int) := by omega
    have a4 : (0 : Int) ≤ (i : Int) + 1 := by omega
    have a5 : ((i : Int) + 1).toNat = i + 1 := by omega
    have a6 : (i : Int) + 1 ≤ (b.size : Int) := by omega
    have a7 : i + 1 ≤ b.size := by omega
    have a8 : (i : Int) ≤ (i : Int) + 1 := by omega
    have a9 : IntKind.i64.wrap ((i : Int) + 1) = (i : Int) + 1 := IntWalk.i64_in _ (by omega)
    have a10 : (0 : Int) ≤ (k : Int) := by omega
    have a11 : (k : Int) < (xs.length : Int) := by omega
    have x0 : ∀ x : After wr, x.W.cell? ⟨w.heap.size, 0, none⟩ = some (.string B) := fun x => x.cell (by simp only; omega) tr.1
    have x1 : ∀ x : After wr, x.W.cell? ⟨w.heap.size, 1, none⟩ = some (.slice A es.length cap) := fun x => x.cell (by simp only; omega) tr.2
    have x2 : ∀ y : After wr, y.W.cell? ⟨pb, po + k, none⟩ = some (.int .i64 x) := fun y => y.cell (by simp only; omega) hpr
    clear hex hka hkt hc hk hx hxd hnx hx99 hs99 hln hpc hs hpr
    go_wp2_with fail
    refine wp_region_below (by kernel_rfl) (by kernel_rfl) ?_
    repeat (go_big_quiet_step ((go_at_call 59; exact After.call (HFX.out _))))
    refine wpQuiet_nil ?_
    rintro _ ⟨xw, rfl⟩
    clear x0 x1 x2
    go_wp2_with fail
    go_roundw
    case rel => exact ⟨i + 1, by omega, by go_num, by rw [HNX.out], hb.trans (xw.h.mono hb.size)⟩
    case measure => simp [intOf]; omega

set_option maxRecDepth 100000 in
set_option maxHeartbeats 4000000 in
/-- impl.TreeWeight -/
theorem implTreeWeight_any (B : ByteArray) (A : Option Addr) (cap : Nat) (es : List (ByteArray × ByteArray)) (P : Option Addr) (pcap : Nat) (xs : List Int) (b : ByteArray) (w : World) (hs : B.size ≤ maxLen) (hE : EdgesIn w w.heap.size A es) (hl : es.length ≤ 1099511627776) (hS : ∀ e ∈ es, e.1.size ≤ 1099511627776 ∧ e.2.size ≤ 1099511627776) (hX : IntsIn w w.heap.size P xs) (hxl : xs.length ≤ 1099511627776) (hbz : b.size ≤ 1099511627776) :
    Calls Try.prog 29 #[.agg #[.string B, .slice A es.length cap], .slice P xs.length pcap, .string b] w (IntPost (tweightV B es xs b) w) := by
  obtain ⟨v, hv⟩ : ∃ v, weightsV B es xs = v := ⟨_, rfl⟩
  obtain ⟨u, hu⟩ : ∃ u, treeV B es b = u := ⟨_, rfl⟩
  have FA : Hid (∀ W : World, EdgesIn W W.heap.size A es → IntsIn W W.heap.size P xs → Calls Try.prog 15 #[.agg #[.string B, .slice A es.length cap], .slice P xs.length pcap] W fun e w' => e = .returned (.bool v) ∧ Below W.heap.size W w') := Lib.hid fun W h h' => by
    have := implWeightsValid_any B A cap es P pcap xs W hs h hl hS h' hxl
    rwa [hv] at this
  have FT : Hid (∀ W : World, EdgesIn W W.heap.size A es → Calls Try.prog 19 #[.agg #[.string B, .slice A es.length cap], .string b] W fun e w' => e = .returned (.bool u) ∧ Below W.heap.size W w') := Lib.hid fun W h => by
    have := implIsTree_any B A cap es b W hs h hl hS hbz
    rwa [hu] at this
  have FI : Hid (∀ (k : Nat) (c : UInt8) (s : ByteArray), s.data.toList = [c] → eIdx es.length [c] = k → ∀ W : World, Calls Try.prog 62 #[.agg #[.string B, .slice A es.length cap], .string s] W fun e w' => e = .returned (.int .i64 (k : Int)) ∧ Below W.heap.size W w') := Lib.hid fun k c s hs hi W => by
    have := edgeIndex_any (.string B) A es.length cap s W hl
    rwa [hs, hi] at this
  have hb1 : Below w.heap.size w (w.alloc (.cells #[.string B, .slice A es.length cap] 30)) := (Below.refl _ _).alloc (Nat.le_refl _) _
  have t1 := Two.made w B A es.length cap 30
  have hz1 : (w.alloc (.cells #[.string B, .slice A es.length cap] 30)).heap.size = w.heap.size + 1 := by simp
  clear hs hl hS hxl
  cases v with
  | false =>
    have HN : Hid (tweightV B es xs b = -1) := Lib.hid (if_neg fun h => by rw [hv] at h; exact absurd h.1 (by simp))
    clear hv hu
    go_enter Try.func29, Try.ntmps29
    go_wp2_with fail
    refine (FA.out _ ((hE.below hb1).more hb1.size) ((hX.below hb1).more hb1.size)).mono ?_
    rintro e w2 ⟨rfl, hb2⟩
    have hb2' := hb1.trans (hb2.mono hb1.size)
    clear hb2 t1
    go_wp2_with fail
    go_ret
    exact ⟨ret_int HN.out.symm, hb2'⟩
  | true =>
  cases u with
  | false =>
    have HN : Hid (tweightV B es xs b = -1) := Lib.hid (if_neg fun h => by rw [hu] at h; exact absurd h.2 (by simp))
    clear hv hu
    go_enter Try.func29, Try.ntmps29
    go_wp2_with fail
    refine (FA.out _ ((hE.below hb1).more hb1.size) ((hX.below hb1).more hb1.size)).mono ?_
    rintro e w2 ⟨rfl, hb2⟩
    have hb2' := hb1.trans (hb2.mono hb1.size)
    have t2 := t1.below hb2 (by omega)
    have hd0 := t2.1; have hd1 := t2.2
    clear hb2 t1
    go_wp2_with fail
    refine (FT.out _ ((hE.below hb2').more hb2'.size)).mono ?_
    rintro e w3 ⟨rfl, hb3⟩
    have hb3' := hb2'.trans (hb3.mono hb2'.size)
    clear hb3 hd0 hd1 t2
    go_wp2_with fail
    go_ret
    exact ⟨ret_int HN.out.symm, hb3'⟩
  | true =>
  have hw := decB_iff.1 hv
  have ht := decB_iff.1 hu
  have HW := Lib.hid hw.2.2; have HK := Lib.hid ht.2.1; have HXE := Lib.hid hw.2.1
  have hb6 : b.size ≤ 6 := by
    have := ht.2.2.1
    have := (valid_sizes ht.1).1
    omega
  have HLEN : Hid (b.data.toList.length = b.size) := Lib.hid (by simp)
  have HN : Hid (tweightV B es xs b = sumW xs (ksOf b.data.toList)) := Lib.hid (if_pos ⟨hv, hu⟩)
  clear hv hu hw ht
  go_enter Try.func29, Try.ntmps29
  go_wp2_with fail
  refine (FA.out _ ((hE.below hb1).more hb1.size) ((hX.below hb1).more hb1.size)).mono ?_
  rintro e w2 ⟨rfl, hb2⟩
  have hb2' := hb1.trans (hb2.mono hb1.size)
  have t2 := t1.below hb2 (by omega)
  have hz2 := hb2.size
  have hd0 := t2.1; have hd1 := t2.2
  clear hb2 t1 FA
  go_wp2_with fail
  refine (FT.out _ ((hE.below hb2').more hb2'.size)).mono ?_
  rintro e w3 ⟨rfl, hb3⟩
  have hb3' := hb2'.trans (hb3.mono hb2'.size)
  have t3 := t2.below hb3 (by omega)
  have hz3 : w.heap.size < w3.heap.size := by have := hb3.size; omega
  clear hb3 hd0 hd1 t2 FT hb2' hz2
  go_wp2_with fail
  go_loopw [7, 21] (fun a c wr => ∃ i : Nat, i ≤ b.size ∧ c = .int .i64 i ∧ a = .int .i64 (sumW xs ((ksOf b.data.toList).take i)) ∧ Below w3.heap.size w3 wr) (fun _ c _ => b.size - (intOf c).toNat)
  case atStart => exact ⟨0, Nat.zero_le _, rfl, rfl, Below.refl _ _⟩
  case round =>
    obtain ⟨i, hi, rfl, rfl, hb⟩ := hrel
    have hbw := hb3'.trans (hb.mono hb3'.size)
    have tr := t3.below hb (by omega)
    have hzr := hb.size
    by_cases hlt : i < b.size
    case neg =>
      have HEND : Hid (sumW xs ((ksOf b.data.toList).take i) = sumW xs (ksOf b.data.toList)) := Lib.hid (by rw [List.take_of_length_le (by simp [ksOf]; omega)])
      rw [HEND.out]
      clear tr t3
      go_wp2_with fail
      go_ret
      exact ⟨ret_int HN.out.symm, hbw⟩
    have hex := letter_at (p := b) hlt
    have hka := HK.out.at (i := i) (by have := HLEN.out; omega)
    have hkt := ks_take (l := b.data.toList) (i := i) (by have := HLEN.out; omega)
    obtain ⟨c, hc⟩ : ∃ c, b.data.toList.getD i 0 = c := ⟨_, rfl⟩
    rw [hc] at hex hka hkt
    obtain ⟨k, hk⟩ : ∃ k, c.toNat - 97 = k := ⟨_, rfl⟩
    rw [hk] at hka hkt
    have HFX := Lib.hid (FI.out k c (b.extract i (i + 1)) hex hka.1)
    have hkx : k < xs.length := by have := HXE.out; omega
    obtain ⟨x, hx⟩ : ∃ x, xs[k] = x := ⟨_, rfl⟩
    have hxd : xs.getD k 0 = x := by rw [List.getD_eq_getElem?_getD, List.getElem?_eq_getElem hkx, hx]; rfl
    have hnx : sumW xs ((ksOf b.data.toList).take (i + 1)) = sumW xs ((ksOf b.data.toList).take i) + x := by rw [hkt, sumW_snoc, hxd]
    have hx99 := HW.out x (by rw [← hx]; exact List.getElem_mem hkx)
    have hs99 := sumW_few HW.out ((ksOf b.data.toList).take i)
    have hln : ((ksOf b.data.toList).take i).length ≤ 6 := by rw [List.length_take]; simp [ksOf]; omega
    obtain ⟨pb, po, rfl, hpl, hpc⟩ := hX k hkx
    rw [hx] at hpc
    have hpr : wr.cell? ⟨pb, po + k, none⟩ = some (.int .i64 x) := (hbw.cell (by simp only; omega)).trans hpc
    obtain ⟨s, hs⟩ : ∃ s, sumW xs ((ksOf b.data.toList).take i) = s := ⟨_, rfl⟩
    rw [hs] at hnx hs99 ⊢
    have HNX := Lib.hid hnx
    have z1 : IntKind.i64.wrap (s + x) = s + x := IntWalk.i64_in _ (by omega)
    have a1 : (0 : Int) ≤ (i : Int) := by omega
    have a4 : (0 : Int) ≤ (i : Int) + 1 := by omega
    have a5 : ((i : Int) + 1).toNat = i + 1 := by omega
    have a6 : (i : Int) + 1 ≤ (b.size : Int) := by omega
    have a7 : i + 1 ≤ b.size := by omega
    have a8 : (i : Int) ≤ (i : Int) + 1 := by omega
    have a9 : IntKind.i64.wrap ((i : Int) + 1) = (i : Int) + 1 := IntWalk.i64_in _ (by omega)
    have a10 : (0 : Int) ≤ (k : Int) := by omega
    have a11 : (k : Int) < (xs.length : Int) := by omega
    have x0 : ∀ x : After wr, x.W.cell? ⟨w.heap.size, 0, none⟩ = some (.string B) := fun x => x.cell (by simp only; omega) tr.1
    have x1 : ∀ x : After wr, x.W.cell? ⟨w.heap.size, 1, none⟩ = some (.slice A es.length cap) := fun x => x.cell (by simp only; omega) tr.2
    have x2 : ∀ y : After wr, y.W.cell? ⟨pb, po + k, none⟩ = some (.int .i64 x) := fun y => y.cell (by simp only; omega) hpr
    clear hex hka hkt hc hk hx hxd hnx hx99 hs99 hln hpc hs hpr
    go_wp2_with fail
    refine wp_region_below (by kernel_rfl) (by kernel_rfl) ?_
    repeat (go_big_quiet_step ((go_at_call 62; exact After.call (HFX.out _))))
    refine wpQuiet_nil ?_
    rintro _ ⟨xw, rfl⟩
    clear x0 x1 x2
    go_wp2_with fail
    go_roundw
    case rel => exact ⟨i + 1, by omega, by go_num, by rw [HNX.out], hb.trans (xw.h.mono hb.size)⟩
    case measure => simp [intOf]; omega

end Go.Proofs.Ytadngnajenedpaa
