/- The way from a block to a block, by the program: WayIn. -/
import Derived.Test.YtadngnajenedpaaWayI
import Derived.Test.YtadngnajenedpaaTreeN
namespace Go.Proofs.Ytadngnajenedpaa
open Go.RowKit

/-- a way that never turns back at once -/
def NbWay (U : List Ed) (a b : UInt8) (p : List Mv) : Prop := Wk U a p b ∧ NB p
/-- the way -/
noncomputable def wayP (U : List Ed) (a b : UInt8) : List Mv := open Classical in if h : ∃ p, NbWay U a b p then h.choose else []
theorem wayP_eq {U : List Ed} (hf : Fr U) {a b : UInt8} {p : List Mv} (h : NbWay U a b p) : wayP U a b = p := by
  have hex : ∃ p, NbWay U a b p := ⟨p, h⟩
  unfold wayP
  rw [dif_pos hex]
  exact wk_unique U hf a b _ _ hex.choose_spec.1 hex.choose_spec.2 h.1 h.2
theorem wk_in {U : List Ed} {l : List UInt8} (hU : ∀ e ∈ U, e.a ∈ l ∧ e.b ∈ l) : ∀ {p : List Mv} {a b : UInt8}, a ∈ l → Wk U a p b → ∀ x ∈ stops a p, x ∈ l
  | [], a, b, ha, _, x, hx => by
    simp [stops] at hx
    subst hx; exact ha
  | m :: p, a, b, ha, h, x, hx => by
    rcases List.mem_cons.1 hx with rfl | hx
    · exact ha
    · refine wk_in hU (p := p) (a := m.tb) ?_ h.2.2 x (by simpa [stops] using hx)
      obtain ⟨e, he, hm⟩ := mem_mvs.1 h.1
      rcases hm with rfl | rfl
      · exact (hU e he).2
      · exact (hU e he).1
theorem nb_short {U : List Ed} {l : List UInt8} (hf : Fr U) (hU : ∀ e ∈ U, e.a ∈ l ∧ e.b ∈ l) (h8 : l.length ≤ 8) {p : List Mv} {a b : UInt8} (ha : a ∈ l) (h : NbWay U a b p) : p.length ≤ 7 := by
  have := nodup_len (wk_nodup hf h.1 h.2) (wk_in hU ha h.1)
  simp [stops] at this
  omega
/-- the search finds the way -/
theorem find_top {U : List Ed} {l : List UInt8} {ms : List Mv} (hf : Fr U) (hU : ∀ e ∈ U, e.a ∈ l ∧ e.b ∈ l) (h8 : l.length ≤ 8) (hm : ∀ m, m ∈ ms ↔ m ∈ mvs U) {a b : UInt8} (ha : a ∈ l) (hc : Cn U a b) : findF ms b 9 a none = some (wayP U a b) ∧ DeepW U 9 a none := by
  obtain ⟨p0, h0⟩ := hc
  obtain ⟨q, h1, h2⟩ := wk_nb p0 a b h0
  have hl := nb_short hf hU h8 ha ⟨h1, h2⟩
  have hne := findF_all (t := b) (fun m h => (hm m).2 h) 9 a none q h1 h2 (by cases q <;> simp [okL]) (by omega)
  refine ⟨?_, fun q x hw hn _ => by have := nb_short hf hU h8 ha ⟨hw, hn⟩; omega⟩
  cases hr : findF ms b 9 a none with
  | none => exact absurd hr hne
  | some p =>
    obtain ⟨k1, k2, _⟩ := findF_sound (fun m h => (hm m).1 h) 9 a none p hr
    rw [wayP_eq hf ⟨k1, k2⟩]
theorem mem_msP {l : List UInt8} {es : List (ByteArray × ByteArray)} {ks : List Nat} (m : Mv) : m ∈ msP l es ks ↔ m ∈ mvs (edsT l es ks) := by
  unfold msP edsT
  rw [mem_mvs, mem_mvs]
  constructor
  · rintro ⟨e, he, hm⟩
    refine ⟨e, ?_, hm⟩
    rcases List.mem_cons.1 he with rfl | he
    · exact List.mem_append_right _ List.mem_cons_self
    · exact List.mem_append_left _ (List.mem_reverse.2 he)
  · rintro ⟨e, he, hm⟩
    refine ⟨e, ?_, hm⟩
    rcases List.mem_append.1 he with he | he
    · exact List.mem_cons_of_mem _ (List.mem_reverse.1 he)
    · simp at he; subst he; exact List.mem_cons_self

set_option maxRecDepth 100000 in
set_option maxHeartbeats 1000000 in
/-- impl.wayAlong -/
theorem wayAlong_any (A : Option Addr) (c : Nat) (ms : List Mv) (U : List Ed) (l : List UInt8) (a b : UInt8) (w : World) (hM : MovesIn w w.heap.size A ms) (hms : ms.length ≤ 100) (hf : Fr U) (hU : ∀ e ∈ U, e.a ∈ l ∧ e.b ∈ l) (h8 : l.length ≤ 8) (hm : ∀ m, m ∈ ms ↔ m ∈ mvs U) (ha : a ∈ l) (hc : Cn U a b) :
    Calls Try.prog 57 #[.slice A ms.length c, .string ⟨#[a]⟩, .string ⟨#[b]⟩] w fun e w' => e = .returned (.string ⟨(txtM (wayP U a b)).toArray⟩) ∧ Below w.heap.size w w' := by
  obtain ⟨h1, h2⟩ := find_top hf hU h8 hm ha hc
  obtain ⟨W0, hW0⟩ : ∃ W0, W0 = ((w.alloc (.cells #[.slice A ms.length c] 68)).alloc (.cells #[.string ⟨#[b]⟩] 9)).alloc (.cells #[.func (.func 93) #[] #[.pointer (some ⟨w.heap.size + 1, 0, none⟩), .pointer (some ⟨w.heap.size, 0, none⟩), .pointer (some ⟨w.heap.size + 2, 0, none⟩)]] 114) := ⟨_, rfl⟩
  have hb0 : Below w.heap.size w W0 := by rw [hW0]; exact (((Below.refl _ _).alloc (Nat.le_refl _) _).alloc (by simp) _).alloc (by simp; omega) _
  have hz0 : W0.heap.size = w.heap.size + 3 := by rw [hW0]; simp
  have b0 : W0.heap[w.heap.size]? = some (.cells #[.slice A ms.length c] 68 (0, 0)) := by
    rw [hW0]; exact alloc_old _ _ (alloc_old _ _ (heap_alloc_new _ _))
  have b1 : W0.heap[w.heap.size + 1]? = some (.cells #[.string ⟨#[b]⟩] 9 (0, 0)) := by
    rw [hW0]; exact alloc_old _ _ (alloc_at _ _ (by simp))
  have b2 : W0.heap[w.heap.size + 2]? = some (.cells #[.func (.func 93) #[] #[.pointer (some ⟨w.heap.size + 1, 0, none⟩), .pointer (some ⟨w.heap.size, 0, none⟩), .pointer (some ⟨w.heap.size + 2, 0, none⟩)]] 114 (0, 0)) := by
    rw [hW0]; exact alloc_at _ _ (by simp)
  have hH : HomeF W0 w.heap.size A c ms b := ⟨by simp [World.cell?, b0], by simp [World.cell?, b1], by simp [World.cell?, b2], (hM.below hb0).more hb0.size, by omega⟩
  have hfn := find_fn w.heap.size A c ms U b (fun m h => (hm m).1 h) hms 9 a none W0 (Nat.le_refl _) h2 hH
  rw [h1] at hfn
  have HF : Hid (Calls Try.prog 93 #[.string ⟨#[a]⟩, .string ⟨#[]⟩, .pointer (some ⟨w.heap.size + 1, 0, none⟩), .pointer (some ⟨w.heap.size, 0, none⟩), .pointer (some ⟨w.heap.size + 2, 0, none⟩)] W0 fun e W' => e = .returned (.tuple #[.string ⟨(txtM (wayP U a b)).toArray⟩, .bool true]) ∧ Below W0.heap.size W0 W') := Lib.hid hfn
  obtain ⟨r, hr⟩ : ∃ r : ByteArray, (⟨(txtM (wayP U a b)).toArray⟩ : ByteArray) = r := ⟨_, rfl⟩
  rw [hr] at HF ⊢
  have n2 := hH.fn
  have HB0 := Lib.hid hb0
  clear hfn h1 h2 hH hM hf hU hm hc hr b0 b1 b2 hb0
  rw [hW0] at n2
  go_enter Try.func57, Try.ntmps57
  go_wp2_with fail
  simp only [Nat.add_assoc, Nat.reduceAdd]
  rw [← hW0]
  clear n2 hW0
  refine HF.out.mono ?_
  rintro e w5 ⟨rfl, hb5⟩
  have hb5' := HB0.out.trans (hb5.mono HB0.out.size)
  clear hb5
  go_wp2_with fail
  go_ret
  exact ⟨rfl, hb5'⟩

end Go.Proofs.Ytadngnajenedpaa
