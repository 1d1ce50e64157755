/- The way order of a net without ways round has each block once. No program here. -/
import Derived.Test.YtcfcmlbbnpfejabLongE
namespace Go.Proofs.Ytcfcmlbbnpfejab

theorem nodup_full {a b : List UInt8} (ha : a.Nodup) (hs : ∀ x ∈ a, x ∈ b) (hl : b.length ≤ a.length) : b.Nodup := by
  have h : ∀ s x t, b = s ++ x :: t → x ∉ t := by
    intro s x t hb hx
    have h1 := nodup_len (b := s ++ t) ha (fun y hy => by
      have := hs y hy
      rw [hb] at this
      rcases List.mem_append.1 this with h | h
      · exact List.mem_append_left _ h
      · rcases List.mem_cons.1 h with e | h
        · subst e; exact List.mem_append_right _ hx
        · exact List.mem_append_right _ h)
    rw [hb] at hl
    simp at h1 hl; omega
  have main : ∀ b : List UInt8, (∀ s x t, b = s ++ x :: t → x ∉ t) → b.Nodup := by
    intro b
    induction b with
    | nil => intro _; simp
    | cons y t ih =>
      intro h
      exact List.nodup_cons.2 ⟨h [] y t rfl, ih fun s x u e => h (y :: s) x u (by rw [e]; rfl)⟩
  exact main b h

theorem order_nodup {l : List UInt8} {E : Eds} (hl : Into l E) (hc : ¬ Cyc l E) (he : entry l ∈ l) (h8 : l.length ≤ 8) : (orderE l E).Nodup := by
  have h0 : GoneOk l (([], []) : Gone) := ⟨by simp, by simp, by simp⟩
  have h := visit_deep hl hc 8 (entry l) [] ([], []) h0 (by simp) (by simp [Trail]) (by simpa using he) (by simp; omega) ⟨by simp [Topo], by simp⟩
  have hon := visit_on hl 8 (entry l) ([], []) h0 he (by simp)
  have hb := hon.bal
  simp only [List.length_nil, Nat.add_zero] at hb
  exact nodup_full hon.ok.nodup (fun x hx => (h.1.cover x hx).resolve_right (by simp)) (by unfold orderE; omega)

/-- no edge leads from a block to itself -/
theorem topo_self {E : Eds} : ∀ (n : Nat) (r : List UInt8) (b : UInt8), r.length ≤ n → Topo E (b :: r) → ([b], [b]) ∉ E
  | 0, r, b, hn, ht, he => by
    have := ht.1 b he
    have hr : r = [] := List.length_eq_zero_iff.1 (by omega)
    subst hr; simp at this
  | n + 1, r, b, hn, ht, he => by
    obtain ⟨a, r2, hr⟩ := List.append_of_mem (ht.1 b he)
    have hl := congrArg List.length hr
    simp at hl
    exact topo_self n r2 b (by omega) (Topo.drop (a := a) (by rw [← hr]; exact ht.2)) he

/-- what is known of the blocks: the longest paths of those that are done -/
def tab (E : Eds) (l done : List UInt8) (i : Nat) : List UInt8 := match l[i]? with
  | some c => if c ∈ done then longE E c else []
  | none => []
theorem tab_len (E : Eds) (l done : List UInt8) (i : Nat) : (tab E l done i).length ≤ 8 := by
  unfold tab
  split
  · split
    · exact longE_len _ _
    · simp
  · simp
theorem tab_in {E : Eds} {l done : List UInt8} {i : Nat} {c : UInt8} (h : l[i]? = some c) (hc : c ∈ done) : tab E l done i = longE E c := by
  unfold tab; rw [h]; simp only; rw [if_pos hc]
theorem tab_out {E : Eds} {l done : List UInt8} {i : Nat} {c : UInt8} (h : l[i]? = some c) (hc : c ∉ done) : tab E l done i = [] := by
  unfold tab; rw [h]; simp only; rw [if_neg hc]
theorem tab_nil (E : Eds) (l : List UInt8) (i : Nat) : tab E l [] i = [] := by
  unfold tab; split
  · simp
  · rfl
theorem tab_cons {E : Eds} {l r : List UInt8} {b : UInt8} {h : Nat} (hn : l.Nodup) (hb : l[h]? = some b) (i : Nat) : tab E l (b :: r) i = if i = h then longE E b else tab E l r i := by
  by_cases hi : i = h
  · subst hi; rw [if_pos rfl, tab_in hb (by simp)]
  · rw [if_neg hi]
    unfold tab
    cases hc : l[i]? with
    | none => rfl
    | some c =>
      have hne : c ≠ b := fun e => hi (by
        subst e
        have h1 : i < l.length := (List.getElem?_eq_some_iff.1 hc).1
        exact (List.getElem?_inj h1 hn).1 (hc.trans hb.symm))
      simp only [List.mem_cons, hne, false_or]

end Go.Proofs.Ytcfcmlbbnpfejab
