/- The reader of drawn bytes: a number drawn. What is drawn is not said, but that it lies in its bounds. -/
import Derived.Test.YtkclbjgnaichhaaNet1
import Derived.Test.YtkclbjgnaichhaaMem
import Derived.BigRegion
import Derived.BigQuiet
import Derived.Laws.Bits64
namespace Go.Proofs.Ytkclbjgnaichhaa
open Go.RowKit

/-- bytes as they lie in memory -/
def BytesIn (w : World) (M : Nat) (A : Option Addr) (xs : List UInt8) : Prop :=
  ∀ k, (h : k < xs.length) → ∃ b o, A = some ⟨b, o, none⟩ ∧ b < M ∧ w.cell? ⟨b, o + k, none⟩ = some (.int .u8 xs[k].toNat)
/-- a reader in a block of its own -/
structure Rd (w : World) (R M : Nat) (A : Option Addr) (cap : Nat) (xs : List UInt8) (p : Nat) : Prop where
  row : w.rowIs R 58 2 (fun i => if i = 0 then .slice A xs.length cap else .int .i64 (p : Int))
  bytes : BytesIn w M A xs
  low : M ≤ R
  few : xs.length ≤ 2000

theorem xor_nat (a b : Nat) (ha : a < 9223372036854775808) (hb : b < 9223372036854775808) : bits .xor .i64 (a : Int) (b : Int) = ((a ^^^ b : Nat) : Int) := by
  have hx : a ^^^ b < 2 ^ 63 := Nat.xor_lt_two_pow (by omega) (by omega)
  have h1 : (BitVec.ofInt 64 (a : Int)).toNat = a := by
    rw [BitVec.ofInt_natCast, BitVec.toNat_ofNat]; exact Nat.mod_eq_of_lt (by omega)
  have h2 : (BitVec.ofInt 64 (b : Int)).toNat = b := by
    rw [BitVec.ofInt_natCast, BitVec.toNat_ofNat]; exact Nat.mod_eq_of_lt (by omega)
  show IntKind.i64.wrap ((BitVec.ofInt 64 (a : Int) ^^^ BitVec.ofInt 64 (b : Int)).toNat : Int) = _
  rw [BitVec.toNat_xor, h1, h2]
  exact IntWalk.i64_in _ (by omega)

theorem Rd.drewN {w : World} {R M : Nat} {A : Option Addr} {cap : Nat} {xs : List UInt8} {p : Nat} (h : Rd w R M A cap xs p) (k : Nat) : Rd (w.drewN k) R M A cap xs p := ⟨h.row, h.bytes, h.low, h.few⟩

/-- a number below a bound was handed back -/
def Drawn (n : Nat) (e : Ending) : Prop := ∃ k : Nat, (k < n ∨ k = 0) ∧ e = .returned (.int .i64 (k : Int))

theorem only_cell {a w : World} {g i : Nat} {u : Value} (h : a.grownBy w (some g)) : a.grownBy (w.setCell ⟨g, i, none⟩ u) (some g) :=
  ⟨h.os, h.tape, h.output, by simpa [World.setCell] using h.size, fun k hk hne => (Below.heap_setCell _ _ _ _ (fun e => hne (by rw [e]))).trans (h.block k hk hne)⟩

set_option maxRecDepth 100000 in
set_option maxHeartbeats 4000000 in
/-- spec.(*l16Rd).pick -/
theorem pick_any (R M : Nat) (A : Option Addr) (cap : Nat) (xs : List UInt8) (p n : Nat) (w : World) (hr : Rd w R M A cap xs p) (hp : p ≤ 100000) (hn : n ≤ 100000) :
    Calls Try.prog 55 #[.pointer (some ⟨R, 0, none⟩), .int .i64 (n : Int)] w
      fun e w' => Drawn n e ∧ Rd w' R M A cap xs (p + 1) ∧ w.grownBy w' (some R) := by
  have c0 := hr.row.cell (i := 0) (by omega); have c1 := hr.row.cell (i := 1) (by omega)
  have f1 := hr.row.frozen 1
  simp only [if_true] at c0
  have e10 : (1 : Nat) = 0 ↔ False := by simp
  simp only [e10, if_false] at c1
  have HR := Lib.hid hr
  have z1 : IntKind.i64.wrap ((p : Int) + 1) = ((p + 1 : Nat) : Int) := by rw [IntWalk.i64_in _ (by omega)]; omega
  clear e10 hr
  obtain ⟨w1, hw1⟩ : ∃ w1, w.setCell ⟨R, 1, none⟩ (.int .i64 ((p : Int) + 1)) = w1 := ⟨_, rfl⟩
  have hrow1 : w1.rowIs R 58 2 (fun i => if i = 0 then .slice A xs.length cap else .int .i64 ((p + 1 : Nat) : Int)) := by
    rw [← hw1]
    refine (HR.out.row.set 1 _).congr fun i hi => ?_
    match i, hi with
    | 0, _ => rfl
    | 1, _ => exact congrArg (Value.int .i64) (by omega)
  have hg1 : w.grownBy w1 (some R) := by rw [← hw1]; exact only_cell (World.grownBy.refl w _)
  have hby : BytesIn w1 M A xs := by
    intro k hk
    obtain ⟨b, o, e, hl, h1⟩ := HR.out.bytes k hk
    refine ⟨b, o, e, hl, ?_⟩
    rw [← hw1]
    have := HR.out.low
    exact (World.cell?_setCell_other _ _ _ _ (by intro h; injection h with h; omega)).trans h1
  have HRD : Hid (Rd w1 R M A cap xs (p + 1)) := Lib.hid ⟨hrow1, hby, HR.out.low, HR.out.few⟩
  have HG := Lib.hid hg1
  have HBY := Lib.hid hby
  have d0 := hrow1.cell (i := 0) (by omega); have d1 := hrow1.cell (i := 1) (by omega)
  simp only [if_true] at d0
  have e10 : (1 : Nat) = 0 ↔ False := by simp
  simp only [e10, if_false] at d1
  clear e10 hrow1 hg1 hby
  by_cases h0 : n < 1
  · have h0' : (n : Int) < 1 := by omega
    clear h0
    go_enter Try.func55, Try.ntmps55
    go_wp2_with fail
    go_ret
    exact ⟨⟨0, .inr rfl, rfl⟩, HRD.out, HG.out⟩
  have h0' : ¬ ((n : Int) < 1) := by omega
  by_cases hx0 : xs.length = 0
  · have hx : ((xs.length : Int) == 0) = true := by simp [hx0]
    clear h0 hx0
    go_enter Try.func55, Try.ntmps55
    go_wp2_with fail
    go_ret
    exact ⟨⟨0, .inr rfl, rfl⟩, HRD.out, HG.out⟩
  have hx : ((xs.length : Int) == 0) = false := by rw [beq_eq_false_iff_ne]; omega
  have z2 : IntKind.i64.wrap (((p + 1 : Nat) : Int) - 1) = (p : Int) := by rw [IntWalk.i64_in _ (by omega)]; omega
  have hn0 : ((n : Int) == 0) = false := by rw [beq_eq_false_iff_ne]; omega
  have hn1 : (n : Int) ≠ 0 := by omega
  by_cases hpl : p < xs.length
  · obtain ⟨b, o, rfl, hl, hc⟩ := HBY.out p hpl
    have hpi : (p : Int) < (xs.length : Int) := by omega
    obtain ⟨x, hxx⟩ : ∃ x : Nat, (xs[p]).toNat = x := ⟨_, rfl⟩
    rw [hxx] at hc
    have hx8 : x < 256 := by rw [← hxx]; exact xs[p].toNat_lt
    have HN : Hid (0 < n) := Lib.hid (by omega)
    clear hxx h0 hx0
    go_enter Try.func55, Try.ntmps55
    go_wp2_with fail
    go_ret
    exact ⟨⟨x % n, .inl (Nat.mod_lt _ HN.out), ret_int (by rw [Int.natCast_emod])⟩, HRD.out, HG.out⟩
  have hpi : ¬ ((p : Int) < (xs.length : Int)) := by omega
  have hlen : 0 < xs.length := by omega
  have hfew := HR.out.few
  obtain ⟨l, hll⟩ : ∃ l, xs.length = l := ⟨_, rfl⟩
  obtain ⟨i1, hi1⟩ : ∃ i1, p % l = i1 := ⟨_, rfl⟩
  obtain ⟨i2, hi2⟩ : ∃ i2, (p * 7 + 3) % l = i2 := ⟨_, rfl⟩
  have hi1l : i1 < l := by rw [← hi1]; exact Nat.mod_lt _ (by omega)
  have hi2l : i2 < l := by rw [← hi2]; exact Nat.mod_lt _ (by omega)
  obtain ⟨b, o, rfl, hl, hc1⟩ := HBY.out i1 (by omega)
  obtain ⟨b', o', hbo, hl', hc2⟩ := HBY.out i2 (by omega)
  injection hbo with hbo
  injection hbo with e1 e2 _
  subst e1 e2
  obtain ⟨x1, hx1⟩ : ∃ x : Nat, (xs[i1]).toNat = x := ⟨_, rfl⟩
  obtain ⟨x2, hx2⟩ : ∃ x : Nat, (xs[i2]).toNat = x := ⟨_, rfl⟩
  rw [hx1] at hc1
  rw [hx2] at hc2
  have hx1b : x1 < 256 := by rw [← hx1]; exact xs[i1].toNat_lt
  have hx2b : x2 < 256 := by rw [← hx2]; exact xs[i2].toNat_lt
  obtain ⟨p7, hp7⟩ : ∃ p7, p * 7 = p7 := ⟨_, rfl⟩
  obtain ⟨p73, hp73⟩ : ∃ p73, p7 + 3 = p73 := ⟨_, rfl⟩
  obtain ⟨a1, ha1⟩ : ∃ a, x1 * 131 = a := ⟨_, rfl⟩
  obtain ⟨a2, ha2⟩ : ∃ a, x2 * 1117 = a := ⟨_, rfl⟩
  obtain ⟨a3, ha3⟩ : ∃ a, a1 + a2 = a := ⟨_, rfl⟩
  obtain ⟨a4, ha4⟩ : ∃ a, p * 29 = a := ⟨_, rfl⟩
  obtain ⟨a5, ha5⟩ : ∃ a, a3 + a4 = a := ⟨_, rfl⟩
  obtain ⟨a6, ha6⟩ : ∃ a, p / l = a := ⟨_, rfl⟩
  obtain ⟨a7, ha7⟩ : ∃ a, a6 * 53 = a := ⟨_, rfl⟩
  obtain ⟨a8, ha8⟩ : ∃ a, a5 + a7 = a := ⟨_, rfl⟩
  have ha6b : a6 ≤ p := by rw [← ha6]; exact Nat.div_le_self _ _
  have w1' : IntKind.i64.wrap ((p : Int) * 7) = (p7 : Int) := by rw [IntWalk.i64_in _ (by omega)]; omega
  have w2' : IntKind.i64.wrap ((p7 : Int) + 3) = (p73 : Int) := by rw [IntWalk.i64_in _ (by omega)]; omega
  have w3' : IntKind.i64.wrap ((x1 : Int) * 131) = (a1 : Int) := by rw [IntWalk.i64_in _ (by omega)]; omega
  have w4' : IntKind.i64.wrap ((x2 : Int) * 1117) = (a2 : Int) := by rw [IntWalk.i64_in _ (by omega)]; omega
  have w5' : IntKind.i64.wrap ((a1 : Int) + (a2 : Int)) = (a3 : Int) := by rw [IntWalk.i64_in _ (by omega)]; omega
  have w6' : IntKind.i64.wrap ((p : Int) * 29) = (a4 : Int) := by rw [IntWalk.i64_in _ (by omega)]; omega
  have w7' : IntKind.i64.wrap ((a3 : Int) + (a4 : Int)) = (a5 : Int) := by rw [IntWalk.i64_in _ (by omega)]; omega
  have w8' : IntKind.i64.wrap ((a6 : Int) * 53) = (a7 : Int) := by rw [IntWalk.i64_in _ (by omega)]; omega
  have w9' : IntKind.i64.wrap ((a5 : Int) + (a7 : Int)) = (a8 : Int) := by rw [IntWalk.i64_in _ (by omega)]; omega
  obtain ⟨a9, ha9⟩ : ∃ a, a8 / 64 = a := ⟨_, rfl⟩
  obtain ⟨y, hy⟩ : ∃ y, a8 ^^^ a9 = y := ⟨_, rfl⟩
  have v1 : IntKind.i64.wrap (x1 : Int) = (x1 : Int) := IntWalk.i64_in _ (by omega)
  have v2 : IntKind.i64.wrap (x2 : Int) = (x2 : Int) := IntWalk.i64_in _ (by omega)
  have v5 : IntKind.i64.wrap (a6 : Int) = (a6 : Int) := IntWalk.i64_in _ (by omega)
  have v3 : IntKind.i64.wrap ((a8 : Int).tdiv 64) = (a9 : Int) := by
    rw [show ((a8 : Int).tdiv 64) = (a9 : Int) by rw [← ha9]; rfl]
    exact IntWalk.i64_in _ (by omega)
  have v4 : bits .xor .i64 (a8 : Int) (a9 : Int) = (y : Int) := by rw [xor_nat _ _ (by omega) (by omega), hy]
  have V4 := Lib.hid v4
  have V6 : Hid (wrap64 ((a8 : Int) / 64) = (a9 : Int)) := Lib.hid (by
    rw [show ((a8 : Int) / 64) = (a9 : Int) by rw [← ha9]; rfl]
    unfold wrap64; omega)
  clear v3 v4 hy ha9
  have m1 : (p : Int) % (l : Int) = (i1 : Int) := by rw [← hi1, Int.natCast_emod]
  have m2 : (p73 : Int) % (l : Int) = (i2 : Int) := by rw [← hp73, ← hp7, ← hi2]; simp
  have m3 : (p : Int) / (l : Int) = (a6 : Int) := by rw [← ha6, Int.natCast_ediv]
  have hl0 : ((l : Int) == 0) = false := by rw [beq_eq_false_iff_ne]; omega
  have hl1 : (l : Int) ≠ 0 := by omega
  have HN : Hid (0 < n) := Lib.hid (by omega)
  have HA8 : Hid (a8 ≤ 1000000000) := Lib.hid (by omega)
  rw [hll] at d0 hx hpi
  rw [hll] at c0
  have hi1i : (i1 : Int) < (l : Int) := by omega
  have hi2i : (i2 : Int) < (l : Int) := by omega
  clear hi1 hi2 hx1 hx2 hp7 hp73 ha1 ha2 ha3 ha4 ha5 ha6 ha7 ha8 ha6b h0 hx0 hpl hlen hfew hx1b hx2b
  go_enter Try.func55, Try.ntmps55
  go_wp2_with fail
  go_quiet (fail)
  go_wp2_with fail
  go_ret
  exact ⟨⟨y % n, .inl (Nat.mod_lt _ HN.out), ret_int (by
    show (bits .xor .i64 (a8 : Int) (wrap64 ((a8 : Int) / 64))).tmod (n : Int) = ((y % n : Nat) : Int)
    rw [V6.out, V4.out]; rfl)⟩, HRD.out.drewN _, ⟨HG.out.os, HG.out.tape, HG.out.output, HG.out.size, HG.out.block⟩⟩

/-- a text of a list was handed back -/
def DrawnT (ts : List ByteArray) (e : Ending) : Prop := ∃ s, s ∈ ts ∧ e = .returned (.string s)
/-- a number of a list was handed back -/
def DrawnI (xs : List Nat) (e : Ending) : Prop := ∃ x, x ∈ xs ∧ e = .returned (.int .i64 ((x : Nat) : Int))

set_option maxRecDepth 100000 in
/-- spec.(*l16Rd).of -/
theorem of_any (R M : Nat) (A : Option Addr) (cap : Nat) (xs : List UInt8) (p X c : Nat) (ts : List ByteArray) (w : World) (hr : Rd w R M A cap xs p) (hp : p ≤ 100000) (h1 : 1 ≤ ts.length) (h2 : ts.length ≤ 1000)
    (hX : X ≠ R) (hXl : X < w.heap.size) (hc : ∀ i, (h : i < ts.length) → w.cell? ⟨X, i, none⟩ = some (.string ts[i])) :
    Calls Try.prog 56 #[.pointer (some ⟨R, 0, none⟩), .slice (some ⟨X, 0, none⟩) ts.length c] w
      fun e w' => DrawnT ts e ∧ Rd w' R M A cap xs (p + 1) ∧ w.grownBy w' (some R) := by
  have HR := Lib.hid hr; have HC := Lib.hid hc
  clear hr hc
  go_enter Try.func56, Try.ntmps56
  go_wp2_with fail
  refine (pick_any R M A cap xs p ts.length w HR.out hp (by omega)).mono ?_
  rintro e w2 ⟨⟨k, hk, rfl⟩, hr2, hg2⟩
  have hkl : k < ts.length := by omega
  have hck : w2.cell? ⟨X, k, none⟩ = some (.string ts[k]) := (World.cell?_of_block (hg2.block X hXl (by intro h; injection h with h; exact hX h))).trans (HC.out k hkl)
  have hki : (k : Int) < (ts.length : Int) := by omega
  have HR2 := Lib.hid hr2; have HG2 := Lib.hid hg2
  clear hr2 hg2 hk
  go_wp2_with fail
  go_ret
  exact ⟨⟨ts[k], List.getElem_mem hkl, rfl⟩, HR2.out, HG2.out⟩

set_option maxRecDepth 100000 in
/-- spec.(*l16Rd).num -/
theorem num_any (R M : Nat) (A : Option Addr) (cap : Nat) (xs : List UInt8) (p X c : Nat) (ts : List Nat) (w : World) (hr : Rd w R M A cap xs p) (hp : p ≤ 100000) (h1 : 1 ≤ ts.length) (h2 : ts.length ≤ 1000)
    (hX : X ≠ R) (hXl : X < w.heap.size) (hc : ∀ i, (h : i < ts.length) → w.cell? ⟨X, i, none⟩ = some (.int .i64 ((ts[i] : Nat) : Int))) :
    Calls Try.prog 68 #[.pointer (some ⟨R, 0, none⟩), .slice (some ⟨X, 0, none⟩) ts.length c] w
      fun e w' => DrawnI ts e ∧ Rd w' R M A cap xs (p + 1) ∧ w.grownBy w' (some R) := by
  have HR := Lib.hid hr; have HC := Lib.hid hc
  clear hr hc
  go_enter Try.func68, Try.ntmps68
  go_wp2_with fail
  refine (pick_any R M A cap xs p ts.length w HR.out hp (by omega)).mono ?_
  rintro e w2 ⟨⟨k, hk, rfl⟩, hr2, hg2⟩
  have hkl : k < ts.length := by omega
  have hck : w2.cell? ⟨X, k, none⟩ = some (.int .i64 ((ts[k] : Nat) : Int)) := (World.cell?_of_block (hg2.block X hXl (by intro h; injection h with h; exact hX h))).trans (HC.out k hkl)
  have hki : (k : Int) < (ts.length : Int) := by omega
  have HR2 := Lib.hid hr2; have HG2 := Lib.hid hg2
  clear hr2 hg2 hk
  go_wp2_with fail
  go_ret
  exact ⟨⟨ts[k], List.getElem_mem hkl, rfl⟩, HR2.out, HG2.out⟩

set_option maxRecDepth 100000 in
/-- spec.l16Open: a reader of the bytes, of two thousand at most -/
theorem open16_any (A : Option Addr) (cap : Nat) (xs : List UInt8) (w : World) (hb : BytesIn w w.heap.size A xs) (hl : xs.length ≤ 1048576) (hcap : xs.length ≤ cap) :
    Calls Try.prog 26 #[.slice A xs.length cap] w
      fun e w' => e = .returned (.pointer (some ⟨w.heap.size, 0, none⟩)) ∧ (∃ c, Rd w' w.heap.size w.heap.size A c (xs.take 2000) 0) ∧ Below w.heap.size w w' := by
  have key : ∀ (W : World) (c : Nat), w.alloc (.cells #[.slice A (xs.take 2000).length c, .int .i64 0] 58) = W → Rd W w.heap.size w.heap.size A c (xs.take 2000) 0 ∧ Below w.heap.size w W := fun W c hW => by
    subst hW
    refine ⟨⟨World.rowIs_alloc w #[.slice A (xs.take 2000).length c, .int .i64 0] 58 _ (fun i hi => by
      match i, hi with
      | 0, _ => rfl
      | 1, _ => rfl), fun k hk => ?_, Nat.le_refl _, by simp; omega⟩, (Below.refl _ _).alloc (Nat.le_refl _) _⟩
    have hk' : k < xs.length := by simp at hk; omega
    obtain ⟨b, o, e, hl', h1⟩ := hb k hk'
    refine ⟨b, o, e, hl', ?_⟩
    rw [World.cell?_alloc_lt _ _ _ (by simpa using hl'), h1, List.getElem_take]
  by_cases h2 : 2000 < xs.length
  · have h2' : (xs.length : Int) > 2000 := by omega
    have hc2 : (2000 : Int) ≤ (cap : Int) := by omega
    have hc3 : 2000 ≤ cap := by omega
    have ht : (xs.take 2000).length = 2000 := by simp; omega
    rw [ht] at key
    have KEY := Lib.hid key
    clear key ht
    go_enter Try.func26, Try.ntmps26
    go_wp2_with fail
    go_ret
    obtain ⟨k1, k2⟩ := KEY.out _ _ rfl
    exact ⟨rfl, ⟨_, k1⟩, k2⟩
  · have h2' : ¬ ((xs.length : Int) > 2000) := by omega
    have ht : (xs.take 2000).length = xs.length := by simp; omega
    rw [ht] at key
    have KEY := Lib.hid key
    clear key ht
    go_enter Try.func26, Try.ntmps26
    go_wp2_with fail
    go_ret
    obtain ⟨k1, k2⟩ := KEY.out _ _ rfl
    exact ⟨rfl, ⟨_, k1⟩, k2⟩

end Go.Proofs.Ytkclbjgnaichhaa
