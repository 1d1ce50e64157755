/- The way order by the model: spec.l3Order. -/
import Derived.Test.YtpeafheljcjlhaaGreatVisitS
import Derived.Test.YtpeafheljcjlhaaGreatSpec2
import Derived.Test.YtpeafheljcjlhaaGreatRegion
import Derived.Test.YtpeafheljcjlhaaGreatEntry
namespace Go.Proofs.YtpeafheljcjlhaaGreat
open Go.RowKit

theorem one_byte {b : ByteArray} {c : UInt8} (h : b.data.toList = [c]) : b = ⟨#[c]⟩ := bytes_ext (by rw [h])

theorem into_of {l : List UInt8} {es : List (ByteArray × ByteArray)} (h : Lets l es) : Into l (ebs es) := by
  intro x y hm
  simp only [ebs, List.mem_map, Prod.mk.injEq] at hm
  obtain ⟨e, he, h1, h2⟩ := hm
  obtain ⟨x', y', hx', hy', _, hy⟩ := h e he
  rw [hy'] at h2
  injection h2 with h2
  subst h2; exact hy

theorem edge_letters {es : List (ByteArray × ByteArray)} {l : List UInt8} (hL : Lets l es) {k : Nat} (h : k < es.length) : ∃ x y, (ebs es)[k]? = some ([x], [y]) ∧ es[k].1 = ⟨#[x]⟩ ∧ es[k].2 = ⟨#[y]⟩ ∧ x ∈ l ∧ y ∈ l := by
  obtain ⟨x, y, hx, hy, hxl, hyl⟩ := hL es[k] (List.getElem_mem h)
  exact ⟨x, y, by simp only [ebs, List.getElem?_map, List.getElem?_eq_getElem h, Option.map_some, hx, hy], bytes_one hx, bytes_one hy, hxl, hyl⟩

/-- what a valid net is, in words that a walk can use -/
structure Facts (B : ByteArray) (es : List (ByteArray × ByteArray)) : Prop where
  few : es.length ≤ 16
  small : B.data.toList.length ≤ 8
  lets : Lets B.data.toList es
  into : Into B.data.toList (ebs es)
  ent : entry B.data.toList ∈ B.data.toList
  one : 1 ≤ B.size
  eight : B.size ≤ 8
  first : B.extract 0 1 = ⟨#[entry B.data.toList]⟩
  last : B.extract (B.size - 1) B.size = ⟨#[exit_ B.data.toList]⟩
theorem facts_of {B : ByteArray} {es : List (ByteArray × ByteArray)} (hv : Valid B.data.toList (ebs es)) : Facts B es := by
  have hB1 : 1 ≤ B.size := by have h := hv.1.1.1; have e : B.data.toList.length = B.size := (by simp); omega
  have hLE := lets_of hv.1.2
  exact ⟨(valid_sizes hv).2, hv.1.1.2.1, hLE, into_of hLE, (entry_bytes hB1).2, hB1, (valid_sizes hv).1, one_byte (entry_bytes hB1).1, one_byte (exit_bytes hB1).1⟩

set_option maxRecDepth 100000 in
set_option maxHeartbeats 2000000 in
/-- spec.l3Order -/
theorem l3Order_any (B : ByteArray) (A : Option Addr) (cap : Nat) (es : List (ByteArray × ByteArray)) (w : World) (hE : EdgesIn w w.heap.size A es) (hF : Facts B es) (hBm : B.size ≤ maxLen) :
    Calls Tryz.prog 85 #[.agg #[.string B, .slice A es.length cap]] w fun e w' => e = .returned (.string ⟨(orderE B.data.toList (ebs es)).toArray⟩) ∧ Below w.heap.size w w' := by
  have hB1 := hF.one
  obtain ⟨st, hst⟩ : ∃ st, visit (ebs es) 8 (entry B.data.toList) ([], []) = st := ⟨_, rfl⟩
  have HO : Hid (orderE B.data.toList (ebs es) = st.2) := Lib.hid (by rw [← hst]; rfl)
  have FS : Hid (∀ W : World, EdgesIn W W.heap.size A es → Calls Tryz.prog 113 #[.agg #[.string B, .slice A es.length cap], .string (B.extract 0 1), .string ⟨#[]⟩, .string ⟨#[]⟩] W fun e w' => e = .returned (.tuple #[.string ⟨st.1.toArray⟩, .string ⟨st.2.toArray⟩]) ∧ Below W.heap.size W w') := Lib.hid fun W h => by
    have := l3Visit_any B A cap es B.data.toList (by have := hF.few; omega) hF.lets hF.into hF.small 8 (entry B.data.toList) ([], []) W h ⟨by simp, by simp, by simp⟩ hF.ent (by simp) (by have := hF.small; simpa using this)
    rw [hst] at this
    rw [hF.first]
    exact this
  have hb1 : Below w.heap.size w (w.alloc (.cells #[.string B, .slice A es.length cap] 31)) := (Below.refl _ _).alloc (Nat.le_refl _) _
  have t1 := Two.made w B A es.length cap 31
  have hz1 : (w.alloc (.cells #[.string B, .slice A es.length cap] 31)).heap.size = w.heap.size + 1 := by simp
  have HM := Lib.hid hBm
  clear hst hF hBm
  go_enter Tryz.func85, Tryz.ntmps85
  go_wp2_with fail
  generalize hW1 : w.alloc (.cells #[.string B, .slice A es.length cap] 31) = w1 at hb1 t1 hz1 ⊢
  clear hW1
  have x0 : ∀ x : After w1, x.W.cell? ⟨w.heap.size, 0, none⟩ = some (.string B) := fun x => x.cell (by simp only; omega) t1.1
  have x1 : ∀ x : After w1, x.W.cell? ⟨w.heap.size, 1, none⟩ = some (.slice A es.length cap) := fun x => x.cell (by simp only; omega) t1.2
  have xE : ∀ x : After w1, EdgesIn x.W x.W.heap.size A es := fun x => ((hE.below hb1).below (x.h.mono hb1.size)).more (Nat.le_trans hb1.size x.h.size)
  have XE := Lib.hid xE; clear xE t1
  refine wp_region_below (by kernel_rfl) (by kernel_rfl) ?_
  repeat (go_big_quiet_step ((first
    | (go_at_call 113; exact After.call (FS.out _ (XE.out _)))
    | (go_at_call 49; exact After.call (l1Entry_any _ _ _ hB1 HM.out)))))
  refine wpQuiet_nil ?_
  rintro _ ⟨x, rfl⟩
  clear x0 x1
  go_wp2
  go_ret
  exact ⟨by rw [HO.out]; rfl, hb1.trans (x.h.mono hb1.size)⟩

end Go.Proofs.YtpeafheljcjlhaaGreat
