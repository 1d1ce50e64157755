/- Paths: an edge by its letter; what a path is. -/
import Derived.Test.YtpeafheljcjlhaaGreatEndsS
import Derived.Test.YtpeafheljcjlhaaGreatNetQ
import Derived.Deep.RegionHeld3
namespace Go.Proofs.YtpeafheljcjlhaaGreat
open Go.RowKit

set_option maxRecDepth 100000 in
set_option maxHeartbeats 2000000 in
/-- spec.l2Edge -/
theorem l2Edge_any (B : ByteArray) (A : Option Addr) (cap : Nat) (es : List (ByteArray × ByteArray)) (b : ByteArray) (k : Nat) (w : World) (hE : EdgesIn w w.heap.size A es) (hl : es.length ≤ 1099511627776) (hk : k < es.length) (hi : eIdx es.length b.data.toList = k) :
    Calls Tryz.prog 47 #[.agg #[.string B, .slice A es.length cap], .string b] w fun e w' => e = .returned (.agg #[.string es[k].1, .string es[k].2]) ∧ Below w.heap.size w w' := by
  have HL := Lib.hid hl; have HI := Lib.hid hi
  clear hl hi
  obtain ⟨eb, eo, rfl, hlow, h1, h2⟩ := hE k hk
  have hb1 : Below w.heap.size w (w.alloc (.cells #[.string B, .slice (some ⟨eb, eo, none⟩) es.length cap] 31)) := (Below.refl _ _).alloc (Nat.le_refl _) _
  have t1 := Two.made w B (some ⟨eb, eo, none⟩) es.length cap 31
  have hz1 : (w.alloc (.cells #[.string B, .slice (some ⟨eb, eo, none⟩) es.length cap] 31)).heap.size = w.heap.size + 1 := by simp
  have g1 := (hb1.cell (p := ⟨eb, eo + k * 2, none⟩) hlow).trans h1
  have g2 := (hb1.cell (p := ⟨eb, eo + k * 2 + 1, none⟩) hlow).trans h2
  clear h1 h2 hE
  go_enter Tryz.func47, Tryz.ntmps47
  go_wp2_with fail
  generalize hW1 : w.alloc (.cells #[.string B, .slice (some ⟨eb, eo, none⟩) es.length cap] 31) = w1 at hb1 t1 hz1 g1 g2 ⊢
  clear hW1
  have hb2 : Below (w.heap.size + 1) w1 (w1.alloc (.cells #[.string ⟨#[]⟩, .string ⟨#[]⟩] 70)) := (Below.refl _ _).alloc (by omega) _
  have hr2 : (w1.alloc (.cells #[.string ⟨#[]⟩, .string ⟨#[]⟩] 70)).rowIs (w.heap.size + 1) 70 2 (fun _ => .string ⟨#[]⟩) := by
    have h := World.rowIs_alloc w1 #[.string ⟨#[]⟩, .string ⟨#[]⟩] 70 (fun _ => .string ⟨#[]⟩) (fun i hi => by
      match i, hi with
      | 0, _ => rfl
      | 1, _ => rfl)
    rwa [hz1] at h
  have hz2 : (w1.alloc (.cells #[.string ⟨#[]⟩, .string ⟨#[]⟩] 70)).heap.size = w.heap.size + 2 := by simp; omega
  generalize hW2 : w1.alloc (.cells #[.string ⟨#[]⟩, .string ⟨#[]⟩] 70) = w2 at hb2 hr2 hz2 ⊢
  clear hW2
  have hS : ∀ W, Below (w.heap.size + 1) w1 W → (W.cell? ⟨w.heap.size, 0, none⟩ = some (.string B) ∧ W.cell? ⟨w.heap.size, 1, none⟩ = some (.slice (some ⟨eb, eo, none⟩) es.length cap) ∧ W.cell? ⟨eb, eo + k * 2, none⟩ = some (.string es[k].1) ∧ W.cell? ⟨eb, eo + k * 2 + 1, none⟩ = some (.string es[k].2) ∧ Below (w.heap.size + 1) w1 W) :=
    fun W h => ⟨(h.cell (by simp only; omega)).trans t1.1, (h.cell (by simp only; omega)).trans t1.2, (h.cell (by simp only; omega)).trans g1, (h.cell (by simp only; omega)).trans g2, h⟩
  have HSS := Lib.hid hS; have HR2 := Lib.hid hr2; have HB2 := Lib.hid hb2; have HZ2 := Lib.hid hz2; have HB1 := Lib.hid hb1
  clear hS hr2 hb2 t1 g1 g2 hz2 hb1
  go_region_held3 (fun W => W.cell? ⟨w.heap.size, 0, none⟩ = some (.string B) ∧ W.cell? ⟨w.heap.size, 1, none⟩ = some (.slice (some ⟨eb, eo, none⟩) es.length cap) ∧ W.cell? ⟨eb, eo + k * 2, none⟩ = some (.string es[k].1) ∧ W.cell? ⟨eb, eo + k * 2 + 1, none⟩ = some (.string es[k].2) ∧ Below (w.heap.size + 1) w1 W)
    (first
      | exact HSS.out _ HB2.out.drew
      | exact HSS.out _ hb4'
      | exact HSS.out _ ((hb4'.setCell (by simp) _).setCell (by simp) _))
    (first
      | (go_at_call 87; refine (l1Index_any _ _ es.length cap b _ HL.out).mono ?_; rw [HI.out]; rintro e w4 ⟨rfl, hb4⟩
         have hb4' : Below (w.heap.size + 1) w1 w4 := HB2.out.drew.trans (hb4.mono (by have := HZ2.out; simp; omega))
         have hr4 := HR2.out.drew.of_block (hb4.block (w.heap.size + 1) (by have := HZ2.out; simp; omega))
         have q0 := hr4.cell (i := 0) (by omega); have q1 := hr4.cell (i := 1) (by omega)
         have f0 := hr4.frozen 0; have f1 := hr4.frozen 1
         clear hb4 hr4))
  rename_i hHeld
  have hfin := hHeld.2.2.2.2
  clear hHeld
  go_wp2_with fail
  refine bodyPost_ret (v := .agg #[.string es[k].1, .string es[k].2]) (by simp [results, Tryz.results47, go_sem, q0, q1]) rfl ⟨rfl, HB1.out.trans (hfin.mono (by omega))⟩

theorem edge_from (a b : ByteArray) (w : World) : (Instr.field 70 (.agg #[.string a, .string b]) 0).run Tryz.prog w = .ok (.string a) w := by kernel_rfl
theorem edge_to (a b : ByteArray) (w : World) : (Instr.field 70 (.agg #[.string a, .string b]) 1).run Tryz.prog w = .ok (.string b) w := by kernel_rfl

/-- the edge that a letter names -/
def edgeOf (es : List (ByteArray × ByteArray)) (c : UInt8) : ByteArray × ByteArray := es.getD (c.toNat - 97) (⟨#[]⟩, ⟨#[]⟩)
/-- letter number i of a text goes on from where the one ahead came to -/
def Goes (es : List (ByteArray × ByteArray)) (l : List UInt8) (i : Nat) : Prop := 0 ≤ eIdx es.length [l.getD i 0] ∧ (0 < i → (edgeOf es (l.getD (i - 1) 0)).2 = (edgeOf es (l.getD i 0)).1)
/-- a path -/
def PathOk (es : List (ByteArray × ByteArray)) (l : List UInt8) : Prop := l.length ≤ 60 ∧ ∀ i, i < l.length → Goes es l i

/-- a letter of a text, as a text -/
theorem letter_at {p : ByteArray} {i : Nat} (h : i < p.size) : (p.extract i (i + 1)).data.toList = [p.data.toList.getD i 0] := by
  have hl : i < p.data.toList.length := by simpa using h
  rw [Lib.extract_data, show i + 1 - i = 1 by omega, List.drop_eq_getElem_cons hl]
  simp [List.getD, h]
theorem edgeOf_at {es : List (ByteArray × ByteArray)} {c : UInt8} {k : Nat} (hk : k < es.length) (h : eIdx es.length [c] = k) : edgeOf es c = es[k] := by
  unfold eIdx at h
  simp only at h
  split at h
  · have : c.toNat - 97 = k := by omega
    simp [edgeOf, this, List.getD, hk]
  · omega

/-- one truth, and all that lay is kept -/
def BoolPost (v : Bool) (w : World) (e : Ending) (w' : World) : Prop := e = .returned (.bool v) ∧ Below w.heap.size w w'

/-- whether a text is a path of a net -/
noncomputable def pathV (B : ByteArray) (es : List (ByteArray × ByteArray)) (p : ByteArray) : Bool := decB (Valid B.data.toList (ebs es) ∧ PathOk es p.data.toList)

theorem eIdx_name {n k : Nat} (h : k < n) (hn : n ≤ 100) : eIdx n [nameOf k] = k := by
  have := nameOf_toNat (k := k) (by omega)
  simp only [eIdx]
  rw [if_pos (by omega)]
  omega

end Go.Proofs.YtpeafheljcjlhaaGreat
