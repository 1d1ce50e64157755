/- A tree hangs together, and has no way round. -/
import Derived.Test.YtadngnajenedpaaWayT
namespace Go.Proofs.Ytadngnajenedpaa
open Go.RowKit

/-- an edge of a net -/
def edK (es : List (ByteArray × ByteArray)) (k : Nat) : Ed := ⟨nameOf k, (es.getD k (⟨#[]⟩, ⟨#[]⟩)).1.data.toList.headD 0, (es.getD k (⟨#[]⟩, ⟨#[]⟩)).2.data.toList.headD 0⟩
/-- the edge from the exit to the entry -/
def edZ (l : List UInt8) : Ed := ⟨122, exit_ l, entry l⟩
/-- the edges of a tree, the newest first -/
def edsT (l : List UInt8) (es : List (ByteArray × ByteArray)) (ks : List Nat) : List Ed := (ks.map (edK es)).reverse ++ [edZ l]

/-- the place of a block -/
def idxL (l : List UInt8) (c : UInt8) : Nat := (Lib.indexByte l c).toNat
theorem idxL_get {l : List UInt8} {c : UInt8} (h : c ∈ l) : l[idxL l c]? = some c := indexByte_get h
theorem idxL_lt {l : List UInt8} {c : UInt8} (h : c ∈ l) : idxL l c < l.length := (List.getElem?_eq_some_iff.1 (idxL_get h)).1
theorem idxL_inj {l : List UInt8} {a b : UInt8} (ha : a ∈ l) (hb : b ∈ l) (h : idxL l a = idxL l b) : a = b := by
  have h1 := idxL_get ha
  rw [h, idxL_get hb] at h1
  injection h1 with h1
  exact h1.symm
theorem edK_at {l : List UInt8} {es : List (ByteArray × ByteArray)} (h : EdgesOk l (ebs es)) {k : Nat} (hk : k < es.length) :
    es[k].1 = ⟨#[(edK es k).a]⟩ ∧ es[k].2 = ⟨#[(edK es k).b]⟩ ∧ (edK es k).a ∈ l ∧ (edK es k).b ∈ l ∧ endsN l (ebs es) k = (idxL l (edK es k).a, idxL l (edK es k).b) := by
  obtain ⟨x, y, i, j, h1, h2, h3, h4, h5, _, _⟩ := ends_at h hk
  have hg : es.getD k (⟨#[]⟩, ⟨#[]⟩) = es[k] := by simp [List.getD, hk]
  have ea : (edK es k).a = x := by unfold edK; rw [hg, h1]; rfl
  have eb : (edK es k).b = y := by unfold edK; rw [hg, h2]; rfl
  rw [ea, eb]
  refine ⟨h1, h2, indexByte_nonneg.1 (by omega), indexByte_nonneg.1 (by omega), ?_⟩
  rw [h3]
  unfold idxL
  rw [h4, h5]
  rfl

/-- labels tell which blocks hang together -/
def Good (l : List UInt8) (f : Nat → Nat) (U : List Ed) : Prop := (∀ e ∈ U, e.a ∈ l ∧ e.b ∈ l) ∧ ∀ a ∈ l, ∀ b ∈ l, (f (idxL l a) = f (idxL l b) ↔ Cn U a b)
theorem good_nil (l : List UInt8) : Good l (fun i => i) [] := by
  refine ⟨fun e he => by simp at he, fun a ha b hb => ⟨fun h => ?_, ?_⟩⟩
  · rw [idxL_inj ha hb h]; exact Cn.refl _ _
  · rintro ⟨p, h⟩
    cases p with
    | nil => have : a = b := h; rw [this]
    | cons m p => have := h.1; simp [mvs] at this
theorem good_step {l : List UInt8} {f : Nat → Nat} {U : List Ed} {e : Ed} {x y : UInt8} (h : Good l f U) (ha : e.a ∈ l) (hb : e.b ∈ l) (hxy : (x = e.a ∧ y = e.b) ∨ (x = e.b ∧ y = e.a)) : Good l (joinL f (idxL l x) (idxL l y)) (e :: U) := by
  have hsub : ∀ e' ∈ U, e' ∈ e :: U := fun e' h => List.mem_cons_of_mem _ h
  have hcxy : Cn (e :: U) x y := by
    rcases hxy with ⟨rfl, rfl⟩ | ⟨rfl, rfl⟩
    · exact Cn.step List.mem_cons_self
    · exact Cn.back List.mem_cons_self
  have hx : x ∈ l := by rcases hxy with ⟨rfl, _⟩ | ⟨rfl, _⟩ <;> assumption
  have hy : y ∈ l := by rcases hxy with ⟨_, rfl⟩ | ⟨_, rfl⟩ <;> assumption
  refine ⟨fun e' he => ?_, fun a hal b hbl => ⟨fun hj => ?_, ?_⟩⟩
  · rcases List.mem_cons.1 he with rfl | he
    · exact ⟨ha, hb⟩
    · exact h.1 e' he
  · have up : ∀ {c d : UInt8}, c ∈ l → d ∈ l → f (idxL l c) = f (idxL l d) → Cn (e :: U) c d := fun hc hd hh => ((h.2 _ hc _ hd).1 hh).more hsub
    unfold joinL at hj
    by_cases c1 : f (idxL l a) = f (idxL l y)
    · rw [if_pos c1] at hj
      by_cases c2 : f (idxL l b) = f (idxL l y)
      · exact (up hal hy c1).trans (up hbl hy c2).symm
      · rw [if_neg c2] at hj
        exact (up hal hy c1).trans (hcxy.symm.trans (up hx hbl hj))
    · rw [if_neg c1] at hj
      by_cases c2 : f (idxL l b) = f (idxL l y)
      · rw [if_pos c2] at hj
        exact (up hal hx hj).trans (hcxy.trans (up hbl hy c2).symm)
      · rw [if_neg c2] at hj
        exact up hal hbl hj
  · rintro ⟨p, hp⟩
    have hstep : ∀ m ∈ mvs (e :: U), m.fr ∈ l ∧ m.tb ∈ l ∧ joinL f (idxL l x) (idxL l y) (idxL l m.fr) = joinL f (idxL l x) (idxL l y) (idxL l m.tb) := by
      intro m hm
      have hxyj : joinL f (idxL l x) (idxL l y) (idxL l x) = joinL f (idxL l x) (idxL l y) (idxL l y) := by
        unfold joinL
        rw [if_pos rfl]
        split
        · rfl
        · rfl
      rcases (mvs_cons e U m).1 hm with hm | hm
      · have he : (m.fr = e.a ∧ m.tb = e.b) ∨ (m.fr = e.b ∧ m.tb = e.a) := by
          rcases hm with rfl | rfl
          · exact .inl ⟨rfl, rfl⟩
          · exact .inr ⟨rfl, rfl⟩
        rcases he with ⟨e1, e2⟩ | ⟨e1, e2⟩ <;> rcases hxy with ⟨e3, e4⟩ | ⟨e3, e4⟩ <;> rw [e1, e2]
        · refine ⟨ha, hb, ?_⟩; rw [← e3, ← e4]; exact hxyj
        · refine ⟨ha, hb, ?_⟩; rw [← e3, ← e4]; exact hxyj.symm
        · refine ⟨hb, ha, ?_⟩; rw [← e3, ← e4]; exact hxyj.symm
        · refine ⟨hb, ha, ?_⟩; rw [← e3, ← e4]; exact hxyj
      · obtain ⟨e', he', hm'⟩ := mem_mvs.1 hm
        obtain ⟨h1, h2⟩ := h.1 e' he'
        have hff : f (idxL l e'.a) = f (idxL l e'.b) := (h.2 _ h1 _ h2).2 (Cn.step he')
        have hjj : joinL f (idxL l x) (idxL l y) (idxL l e'.a) = joinL f (idxL l x) (idxL l y) (idxL l e'.b) := by unfold joinL; rw [hff]
        rcases hm' with rfl | rfl
        · exact ⟨h1, h2, hjj⟩
        · exact ⟨h2, h1, hjj.symm⟩
    clear hbl
    induction p generalizing a with
    | nil => have : a = b := hp; rw [this]
    | cons m p ih =>
      obtain ⟨h1, h2, h3⟩ := hstep m hp.1
      rw [← hp.2.1, h3]
      exact ih m.tb h2 hp.2.2

/-- the labels that there are -/
def att (n : Nat) (f : Nat → Nat) : List Nat := (List.range n).filter fun v => (List.range n).any fun i => f i == v
theorem mem_att {n : Nat} {f : Nat → Nat} {v : Nat} : v ∈ att n f ↔ v < n ∧ ∃ i, i < n ∧ f i = v := by
  unfold att
  rw [List.mem_filter, List.any_eq_true]
  simp
theorem att_nodup (n : Nat) (f : Nat → Nat) : (att n f).Nodup := List.Pairwise.filter _ List.nodup_range
theorem att_join {n : Nat} {f : Nat → Nat} {a b : Nat} (hf : ∀ i, i < n → f i < n) (ha : a < n) (hb : b < n) (hne : ¬ f a = f b) : (att n (joinL f a b)).length + 1 ≤ (att n f).length := by
  have hnot : f b ∉ att n (joinL f a b) := fun h => by
    obtain ⟨_, i, hi, he⟩ := mem_att.1 h
    unfold joinL at he
    split at he
    · exact hne he
    · rename_i c; exact c he
  have h := nodup_len (a := f b :: att n (joinL f a b)) (b := att n f) (List.nodup_cons.2 ⟨hnot, att_nodup _ _⟩) (fun v hv => by
    rcases List.mem_cons.1 hv with rfl | hv
    · exact mem_att.2 ⟨hf b hb, b, hb, rfl⟩
    · obtain ⟨h1, i, hi, he⟩ := mem_att.1 hv
      unfold joinL at he
      split at he
      · exact mem_att.2 ⟨h1, a, ha, he⟩
      · exact mem_att.2 ⟨h1, i, hi, he⟩)
  simpa using h

/-- edges that make no way round make none, and join one label with another each -/
theorem forest_good {l : List UInt8} {es : List (ByteArray × ByteArray)} (hE : EdgesOk l (ebs es)) : ∀ (ks : List Nat) (f : Nat → Nat) (U : List Ed), (∀ k ∈ ks, k < es.length) → (∀ i, i < l.length → f i < l.length) → forest (endsN l (ebs es)) f ks = true → Good l f U → Fr U →
    ∃ f', Good l f' ((ks.map (edK es)).reverse ++ U) ∧ Fr ((ks.map (edK es)).reverse ++ U) ∧ (∀ i, i < l.length → f' i < l.length) ∧ (att l.length f').length + ks.length ≤ (att l.length f).length
  | [], f, U, _, hlt, _, hg, hf => ⟨f, hg, hf, hlt, Nat.le_refl _⟩
  | k :: r, f, U, hks, hlt, ho, hg, hf => by
    have hk := hks k List.mem_cons_self
    obtain ⟨_, _, ha, hb, he⟩ := edK_at hE hk
    have hne : ¬ f (endsN l (ebs es) k).1 = f (endsN l (ebs es) k).2 := fun h => by
      rw [forest_no h] at ho; cases ho
    rw [forest_yes hne] at ho
    simp only [he] at hne ho
    have hg' := good_step hg ha hb (.inl ⟨rfl, rfl⟩)
    have hf' : Fr (edK es k :: U) := ⟨hf, fun hc => hne ((hg.2 _ ha _ hb).2 hc)⟩
    obtain ⟨f', h1, h2, h3, h4⟩ := forest_good hE r _ (edK es k :: U) (fun x hx => hks x (List.mem_cons_of_mem _ hx)) (joinL_lt hlt (idxL_lt ha)) ho hg' hf'
    have h5 := att_join hlt (idxL_lt ha) (idxL_lt hb) hne
    have e : ((k :: r).map (edK es)).reverse ++ U = (r.map (edK es)).reverse ++ (edK es k :: U) := by simp
    rw [e]
    refine ⟨f', h1, h2, h3, ?_⟩
    simp only [List.length_cons]
    omega

theorem entry_exit {l : List UInt8} (h2 : 2 ≤ l.length) (hn : l.Nodup) : entry l ∈ l ∧ exit_ l ∈ l ∧ idxL l (entry l) = 0 ∧ idxL l (exit_ l) = l.length - 1 := by
  have h0 : l[0]? = some (entry l) := by
    match l, h2 with
    | a :: r, _ => rfl
  have h1 : l[l.length - 1]? = some (exit_ l) := by
    unfold exit_
    rw [← List.getLast?_eq_getElem?]
    match l, h2 with
    | a :: r, _ => simp [List.getLastD_eq_getLast?, List.getLast?_cons]
  refine ⟨List.mem_of_getElem? h0, List.mem_of_getElem? h1, ?_, ?_⟩
  · unfold idxL; rw [indexByte_of_get hn h0]; rfl
  · unfold idxL; rw [indexByte_of_get hn h1]; omega

/-- a tree: no way round, all hangs together -/
theorem tree_ways {l : List UInt8} {es : List (ByteArray × ByteArray)} {ks : List Nat} (hB : BlocksOk l) (hE : EdgesOk l (ebs es)) (hks : ∀ k ∈ ks, k < es.length) (hlen : ks.length + 2 = l.length) (hf : forest (endsN l (ebs es)) (fresh l.length) ks = true) :
    Fr (edsT l es ks) ∧ (∀ e ∈ edsT l es ks, e.a ∈ l ∧ e.b ∈ l) ∧ ∀ a ∈ l, ∀ b ∈ l, Cn (edsT l es ks) a b := by
  obtain ⟨h1, h2, h3, h4⟩ := entry_exit (by omega) hB.2.2.2
  have hz := good_step (good_nil l) (e := edZ l) (x := entry l) (y := exit_ l) h2 h1 (.inr ⟨rfl, rfl⟩)
  rw [h3, h4] at hz
  have hne : entry l ≠ exit_ l := fun e => by rw [e] at h3; omega
  have hfz : Fr [edZ l] := by
    refine ⟨True.intro, fun ⟨p, hp⟩ => ?_⟩
    cases p with
    | nil => exact hne (show exit_ l = entry l from hp).symm
    | cons m p => have := hp.1; simp [mvs] at this
  obtain ⟨f', g1, g2, g3, g4⟩ := forest_good hE ks (fresh l.length) [edZ l] hks (fresh_lt _ _ (by omega)) hf hz hfz
  refine ⟨g2, g1.1, fun a ha b hb => (g1.2 a ha b hb).1 ?_⟩
  have hstart : (att l.length (fresh l.length)).length + 1 ≤ l.length := by
    have := att_join (n := l.length) (f := fun i => i) (a := 0) (b := l.length - 1) (fun i hi => hi) (by omega) (by omega) (by omega)
    have h5 := nodup_len (a := att l.length fun i => i) (b := List.range l.length) (att_nodup _ _) (fun v hv => by simpa using (mem_att.1 hv).1)
    simp only [List.length_range] at h5
    unfold fresh
    omega
  refine Classical.byContradiction fun hc => ?_
  have m1 : f' (idxL l a) ∈ att l.length f' := mem_att.2 ⟨g3 _ (idxL_lt ha), _, idxL_lt ha, rfl⟩
  have m2 : f' (idxL l b) ∈ att l.length f' := mem_att.2 ⟨g3 _ (idxL_lt hb), _, idxL_lt hb, rfl⟩
  have h6 := nodup_len (a := [f' (idxL l a), f' (idxL l b)]) (b := att l.length f') (by simp [hc]) (fun v hv => by
    simp only [List.mem_cons, List.not_mem_nil, or_false] at hv
    rcases hv with rfl | rfl <;> assumption)
  simp only [List.length_cons, List.length_nil] at h6
  omega

end Go.Proofs.Ytadngnajenedpaa
