/- The reader of drawn bytes: a text drawn. -/
import Derived.Test.YtkclbjgnaichhaaTurn
import Derived.Test.YtkclbjgnaichhaaPick
namespace Go.Proofs.Ytkclbjgnaichhaa
open Go.RowKit

theorem Rd.alloc {w : World} {R M : Nat} {A : Option Addr} {cap : Nat} {xs : List UInt8} {p : Nat} (h : Rd w R M A cap xs p) (o : Obj) (hR : R < w.heap.size) : Rd (w.alloc o) R M A cap xs p := by
  refine ⟨h.row.of_block (Below.heap_alloc _ _ _ hR), fun k hk => ?_, h.low, h.few⟩
  obtain ⟨b, o', e, hl, h1⟩ := h.bytes k hk
  have := h.low
  exact ⟨b, o', e, hl, (World.cell?_alloc_lt _ _ _ (by simp only; omega)).trans h1⟩
/-- a short text was handed back -/
def ShortT (e : Ending) : Prop := ∃ s : ByteArray, s.size ≤ 2 ∧ e = .returned (.string s)
theorem grown_alloc {w w' : World} {o : Obj} {row : Option Nat} (h : (w.alloc o).grownBy w' row) : w.grownBy w' row := by
  have hz := h.size
  rw [World.size_alloc] at hz
  exact ⟨h.os, h.tape, h.output, by omega, fun b hb hne => (h.block b (by rw [World.size_alloc]; omega) hne).trans (Below.heap_alloc _ _ _ hb)⟩
theorem strs_cells (w : World) (ts : List ByteArray) (i : Nat) (h : i < ts.length) : (w.alloc (.cells (ts.map Value.string).toArray 9)).cell? ⟨w.heap.size, i, none⟩ = some (.string ts[i]) := by
  have hr := World.rowIs_alloc w (ts.map Value.string).toArray 9 (fun i => (ts.map Value.string).getD i (.bool true)) (fun i hi => by
    have hi' : i < ts.length := by simpa using hi
    simp [hi'])
  rw [hr.cell (i := i) (by simpa using h)]
  simp [h]

set_option maxRecDepth 100000 in
set_option maxHeartbeats 2000000 in
/-- spec.l1Ename -/
theorem ename_any (R M : Nat) (A : Option Addr) (cap : Nat) (xs : List UInt8) (p : Nat) (w : World) (hr : Rd w R M A cap xs p) (hp : p ≤ 100000) (hR : R < w.heap.size) :
    Calls Try.prog 64 #[.pointer (some ⟨R, 0, none⟩)] w fun e w' => ShortT e ∧ Rd w' R M A cap xs (p + 1) ∧ w.grownBy w' (some R) := by
  obtain ⟨ts, hts⟩ : ∃ ts : List ByteArray, ts = [⟨#[97]⟩, ⟨#[98]⟩, ⟨#[99]⟩, ⟨#[100]⟩, ⟨#[101]⟩, ⟨#[97]⟩, ⟨#[102]⟩, ⟨#[103]⟩, ⟨#[112]⟩, ⟨#[113]⟩, ⟨#[]⟩, ⟨#[97, 98]⟩, ⟨#[65]⟩] := ⟨_, rfl⟩
  have hl : ts.length = 13 := by rw [hts]; rfl
  have hsh : ∀ s ∈ ts, s.size ≤ 2 := by
    rw [hts]
    intro s hs
    simp only [List.mem_cons, List.not_mem_nil, or_false] at hs
    rcases hs with rfl | rfl | rfl | rfl | rfl | rfl | rfl | rfl | rfl | rfl | rfl | rfl | rfl <;> decide
  have hc := strs_cells w ts
  rw [hts] at hc
  have hall : (w.alloc (.cells (List.map Value.string [⟨#[97]⟩, ⟨#[98]⟩, ⟨#[99]⟩, ⟨#[100]⟩, ⟨#[101]⟩, ⟨#[97]⟩, ⟨#[102]⟩, ⟨#[103]⟩, ⟨#[112]⟩, ⟨#[113]⟩, ⟨#[]⟩, ⟨#[97, 98]⟩, ⟨#[65]⟩]).toArray 9)) = w.alloc (.cells #[.string ⟨#[97]⟩, .string ⟨#[98]⟩, .string ⟨#[99]⟩, .string ⟨#[100]⟩, .string ⟨#[101]⟩, .string ⟨#[97]⟩, .string ⟨#[102]⟩, .string ⟨#[103]⟩, .string ⟨#[112]⟩, .string ⟨#[113]⟩, .string ⟨#[]⟩, .string ⟨#[97, 98]⟩, .string ⟨#[65]⟩] 9) := rfl
  rw [hall] at hc
  obtain ⟨w1, hw1⟩ : ∃ w1, w.alloc (.cells #[.string ⟨#[97]⟩, .string ⟨#[98]⟩, .string ⟨#[99]⟩, .string ⟨#[100]⟩, .string ⟨#[101]⟩, .string ⟨#[97]⟩, .string ⟨#[102]⟩, .string ⟨#[103]⟩, .string ⟨#[112]⟩, .string ⟨#[113]⟩, .string ⟨#[]⟩, .string ⟨#[97, 98]⟩, .string ⟨#[65]⟩] 9) = w1 := ⟨_, rfl⟩
  rw [hw1] at hc
  have hrd1 : Rd w1 R M A cap xs p := by rw [← hw1]; exact hr.alloc _ hR
  have hz1 : w1.heap.size = w.heap.size + 1 := by rw [← hw1]; simp
  have HG : Hid (∀ w', w1.grownBy w' (some R) → w.grownBy w' (some R)) := Lib.hid fun w' h => by rw [← hw1] at h; exact grown_alloc h
  have hof := of_any R M A cap xs p w.heap.size 13 ts w1 hrd1 hp (by omega) (by omega) (by omega) (by omega) (fun i h => by
    have h' := h
    simp only [hts] at h' ⊢
    exact hc i h')
  rw [hl] at hof
  have HOF := Lib.hid hof; have HSH := Lib.hid hsh
  clear hof hsh hc hall hrd1 hts
  go_enter Try.func64, Try.ntmps64
  go_wp2_with fail
  refine HOF.out.mono ?_
  rintro e w2 ⟨⟨s, hs, rfl⟩, hr2, hg2⟩
  have HS := Lib.hid (HSH.out s hs); have HR2 := Lib.hid hr2; have HG2 := Lib.hid (HG.out _ hg2)
  clear hs hr2 hg2
  go_wp2_with fail
  go_ret
  exact ⟨⟨s, HS.out, rfl⟩, HR2.out, HG2.out⟩

set_option maxRecDepth 100000 in
set_option maxHeartbeats 2000000 in
/-- spec.l1Bname -/
theorem bname_any (R M : Nat) (A : Option Addr) (cap : Nat) (xs : List UInt8) (p : Nat) (w : World) (hr : Rd w R M A cap xs p) (hp : p ≤ 100000) (hR : R < w.heap.size) :
    Calls Try.prog 28 #[.pointer (some ⟨R, 0, none⟩)] w fun e w' => ShortT e ∧ Rd w' R M A cap xs (p + 1) ∧ w.grownBy w' (some R) := by
  obtain ⟨ts, hts⟩ : ∃ ts : List ByteArray, ts = [⟨#[65]⟩, ⟨#[66]⟩, ⟨#[67]⟩, ⟨#[68]⟩, ⟨#[66]⟩, ⟨#[69]⟩, ⟨#[72]⟩, ⟨#[]⟩, ⟨#[65, 66]⟩, ⟨#[90]⟩] := ⟨_, rfl⟩
  have hl : ts.length = 10 := by rw [hts]; rfl
  have hsh : ∀ s ∈ ts, s.size ≤ 2 := by
    rw [hts]
    intro s hs
    simp only [List.mem_cons, List.not_mem_nil, or_false] at hs
    rcases hs with rfl | rfl | rfl | rfl | rfl | rfl | rfl | rfl | rfl | rfl <;> decide
  have hc := strs_cells w ts
  rw [hts] at hc
  have hall : (w.alloc (.cells (List.map Value.string [⟨#[65]⟩, ⟨#[66]⟩, ⟨#[67]⟩, ⟨#[68]⟩, ⟨#[66]⟩, ⟨#[69]⟩, ⟨#[72]⟩, ⟨#[]⟩, ⟨#[65, 66]⟩, ⟨#[90]⟩]).toArray 9)) = w.alloc (.cells #[.string ⟨#[65]⟩, .string ⟨#[66]⟩, .string ⟨#[67]⟩, .string ⟨#[68]⟩, .string ⟨#[66]⟩, .string ⟨#[69]⟩, .string ⟨#[72]⟩, .string ⟨#[]⟩, .string ⟨#[65, 66]⟩, .string ⟨#[90]⟩] 9) := rfl
  rw [hall] at hc
  obtain ⟨w1, hw1⟩ : ∃ w1, w.alloc (.cells #[.string ⟨#[65]⟩, .string ⟨#[66]⟩, .string ⟨#[67]⟩, .string ⟨#[68]⟩, .string ⟨#[66]⟩, .string ⟨#[69]⟩, .string ⟨#[72]⟩, .string ⟨#[]⟩, .string ⟨#[65, 66]⟩, .string ⟨#[90]⟩] 9) = w1 := ⟨_, rfl⟩
  rw [hw1] at hc
  have hrd1 : Rd w1 R M A cap xs p := by rw [← hw1]; exact hr.alloc _ hR
  have hz1 : w1.heap.size = w.heap.size + 1 := by rw [← hw1]; simp
  have HG : Hid (∀ w', w1.grownBy w' (some R) → w.grownBy w' (some R)) := Lib.hid fun w' h => by rw [← hw1] at h; exact grown_alloc h
  have hof := of_any R M A cap xs p w.heap.size 10 ts w1 hrd1 hp (by omega) (by omega) (by omega) (by omega) (fun i h => by
    have h' := h
    simp only [hts] at h' ⊢
    exact hc i h')
  rw [hl] at hof
  have HOF := Lib.hid hof; have HSH := Lib.hid hsh
  clear hof hsh hc hall hrd1 hts
  go_enter Try.func28, Try.ntmps28
  go_wp2_with fail
  refine HOF.out.mono ?_
  rintro e w2 ⟨⟨s, hs, rfl⟩, hr2, hg2⟩
  have HS := Lib.hid (HSH.out s hs); have HR2 := Lib.hid hr2; have HG2 := Lib.hid (HG.out _ hg2)
  clear hs hr2 hg2
  go_wp2_with fail
  go_ret
  exact ⟨⟨s, HS.out, rfl⟩, HR2.out, HG2.out⟩

end Go.Proofs.Ytkclbjgnaichhaa
