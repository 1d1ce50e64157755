/- The way order of a net without ways round: all edges lead on in it. No program here. -/
import Derived.Test.YtcfcmlbbnpfejaaDfs
import Derived.Test.YtcfcmlbbnpfejaaCyc
namespace Go.Proofs.Ytcfcmlbbnpfejaa

/-- a walk, its last block first -/
def Trail (E : Eds) : List UInt8 → Prop
  | [] => True
  | [_] => True
  | c :: b :: r => ([b], [c]) ∈ E ∧ Trail E (b :: r)

theorem trail_seg {E : Eds} : ∀ (r : List UInt8) (b : UInt8), Trail E (b :: r) → ∀ c ∈ b :: r, ∃ K : List UInt8, b ∈ K ∧ c ∈ K ∧ (∀ x ∈ K, x ∈ b :: r) ∧ ∀ x ∈ K, x ≠ c → EntL E K x
  | r, b, ht, c, hc => by
    by_cases hcb : c = b
    · exact ⟨[b], by simp, by simp [hcb], by simp, fun x hx hne => by simp at hx; exact absurd (hx.trans hcb.symm) hne⟩
    · match r, ht, hc with
      | [], _, hc => simp at hc; exact absurd hc hcb
      | b' :: r', ht, hc =>
        obtain ⟨K, h1, h2, h3, h4⟩ := trail_seg r' b' ht.2 c (by
          rcases List.mem_cons.1 hc with h | h
          · exact absurd h hcb
          · exact h)
        refine ⟨b :: K, by simp, by simp [h2], fun x hx => ?_, fun x hx hne => ?_⟩
        · rcases List.mem_cons.1 hx with h | h
          · simp [h]
          · exact List.mem_cons_of_mem _ (h3 x h)
        · rcases List.mem_cons.1 hx with h | h
          · subst h; exact ⟨b', by simp [h1], ht.1⟩
          · exact (h4 x h hne).more fun z hz => by simp [hz]

/-- without ways round, a walk comes to no block twice -/
theorem trail_new {l : List UInt8} {E : Eds} {r : List UInt8} {b c : UInt8} (h : ¬ Cyc l E) (ht : Trail E (b :: r)) (hl : ∀ x ∈ b :: r, x ∈ l) (he : ([b], [c]) ∈ E) : c ∉ b :: r := fun hc => by
  obtain ⟨K, h1, h2, h3, h4⟩ := trail_seg r b ht c hc
  refine h ⟨K, fun e => by rw [e] at h1; simp at h1, fun x hx => hl x (h3 x hx), fun x hx => ?_⟩
  by_cases hxc : x = c
  · subst hxc; exact ⟨b, h1, he⟩
  · exact h4 x hx hxc

/-- edges lead to blocks that stand behind -/
def Topo (E : Eds) : List UInt8 → Prop
  | [] => True
  | x :: r => (∀ y, ([x], [y]) ∈ E → y ∈ r) ∧ Topo E r
theorem Topo.drop {E : Eds} : ∀ {a r : List UInt8}, Topo E (a ++ r) → Topo E r
  | [], _, h => h
  | _ :: a, _, h => Topo.drop (a := a) h.2
theorem Topo.closed {E : Eds} : ∀ {r : List UInt8}, Topo E r → ∀ x ∈ r, ∀ y, ([x], [y]) ∈ E → y ∈ r
  | [], _, x, hx, _, _ => by simp at hx
  | a :: r, h, x, hx, y, he => by
    rcases List.mem_cons.1 hx with e | hx
    · subst e; exact List.mem_cons_of_mem _ (h.1 y he)
    · exact List.mem_cons_of_mem _ (Topo.closed h.2 x hx y he)

/-- while blocks are gone through: those that are put lead on, the others that are begun lie on the walk -/
structure Deep (E : Eds) (r : List UInt8) (st : Gone) : Prop where
  topo : Topo E st.2
  cover : ∀ x ∈ st.1, x ∈ st.2 ∨ x ∈ r

theorem mem_tos {E : Eds} {b c : UInt8} : c ∈ tos E b ↔ ([b], [c]) ∈ E := by
  unfold tos
  rw [List.mem_filterMap]
  constructor
  · rintro ⟨e, he, h⟩
    unfold toFrom at h
    split at h
    · rename_i x y
      split at h
      · rename_i hx; injection h with h; subst h; subst hx; exact he
      · cases h
    · cases h
  · intro h; exact ⟨_, h, by simp [toFrom]⟩

theorem visit_deep {l : List UInt8} {E : Eds} (hl : Into l E) (hc : ¬ Cyc l E) : ∀ (f : Nat) (b : UInt8) (r : List UInt8) (st : Gone), GoneOk l st → b ∉ st.1 → Trail E (b :: r) → (∀ x ∈ b :: r, x ∈ l) → l.length ≤ st.1.length + f → Deep E r st →
    Deep E r (visit E f b st) ∧ b ∈ (visit E f b st).2 ∧ ∀ x ∈ st.2, x ∈ (visit E f b st).2
  | 0, b, r, st, h, hn, _, hs, hf, _ => by
    have h1 := nodup_len (a := b :: st.1) (b := l) (List.nodup_cons.2 ⟨hn, h.nodup⟩) (fun x hx => by
      rcases List.mem_cons.1 hx with e | hx
      · subst e; exact hs _ (by simp)
      · exact h.sub x hx)
    simp at h1; omega
  | f + 1, b, r, st, h, hn, ht, hs, hf, hd => by
    have hb : b ∈ l := hs b (by simp)
    have h0 := begin_ok h hb hn
    have hd0 : Deep E (b :: r) (st.1 ++ [b], st.2) := ⟨hd.topo, fun x hx => by
      rcases List.mem_append.1 hx with hx | hx
      · rcases hd.cover x hx with h | h
        · exact .inl h
        · exact .inr (by simp [h])
      · simp at hx; exact .inr (by simp [hx])⟩
    have hp : ∀ cs : List UInt8, (∀ c ∈ cs, ([b], [c]) ∈ E) → Deep E (b :: r) (partV E f (st.1 ++ [b], st.2) cs) ∧ (∀ c ∈ cs, c ∈ (partV E f (st.1 ++ [b], st.2) cs).2) ∧ ∀ x ∈ st.2, x ∈ (partV E f (st.1 ++ [b], st.2) cs).2 := by
      intro cs
      induction cs with
      | nil => intro _; exact ⟨hd0, by simp, fun x hx => hx⟩
      | cons c cs ih =>
        intro hcs
        obtain ⟨i1, i2, i3⟩ := ih (fun x hx => hcs x (by simp [hx]))
        have hon := partV_on hl f _ h0 cs (fun x hx => hl _ _ (hcs x (by simp [hx])))
        rw [partV_cons]
        have he := hcs c (by simp)
        by_cases hm : c ∈ (partV E f (st.1 ++ [b], st.2) cs).1
        · rw [stepV_no hm]
          have hin : c ∈ (partV E f (st.1 ++ [b], st.2) cs).2 := (i1.cover c hm).resolve_right (trail_new hc ht hs he)
          exact ⟨i1, fun x hx => by
            rcases List.mem_cons.1 hx with e | hx
            · subst e; exact hin
            · exact i2 x hx, i3⟩
        · rw [stepV_yes hm]
          have hlen : (st.1 ++ [b]).length ≤ (partV E f (st.1 ++ [b], st.2) cs).1.length := by
            obtain ⟨t, ht⟩ := hon.pre
            simp only at ht
            rw [← ht]; simp
          obtain ⟨j1, j2, j3⟩ := visit_deep hl hc f c (b :: r) _ hon.ok hm ⟨he, ht⟩ (fun x hx => by
            rcases List.mem_cons.1 hx with e | hx
            · subst e; exact hl _ _ he
            · exact hs x hx) (by simp at hlen; omega) i1
          exact ⟨j1, fun x hx => by
            rcases List.mem_cons.1 hx with e | hx
            · subst e; exact j2
            · exact j3 x (i2 x hx), fun x hx => j3 x (i3 x hx)⟩
    obtain ⟨k1, k2, k3⟩ := hp (tos E b) (fun c hc => mem_tos.1 hc)
    rw [visit_succ]
    refine ⟨⟨⟨fun y hy => k2 y (mem_tos.2 hy), k1.topo⟩, fun x hx => ?_⟩, by simp, fun x hx => by simp [k3 x hx]⟩
    rcases k1.cover x hx with h | h
    · exact .inl (by simp [h])
    · rcases List.mem_cons.1 h with e | h
      · exact .inl (by simp [e])
      · exact .inr h

/-- the way order of a net without ways round -/
theorem order_topo {l : List UInt8} {E : Eds} (hl : Into l E) (hc : ¬ Cyc l E) (he : entry l ∈ l) (h8 : l.length ≤ 8) : Topo E (orderE l E) ∧ entry l ∈ orderE l E := by
  have h := visit_deep hl hc 8 (entry l) [] ([], []) ⟨by simp, by simp, by simp⟩ (by simp) (by simp [Trail]) (by simpa using he) (by simp; omega) ⟨by simp [Topo], by simp⟩
  exact ⟨h.1.topo, h.2.1⟩
theorem order_all {l : List UInt8} {E : Eds} (hl : Into l E) (hc : ¬ Cyc l E) (he : entry l ∈ l) (h8 : l.length ≤ 8) {x : UInt8} (hw : Way E (entry l) x) : x ∈ orderE l E := by
  obtain ⟨h1, h2⟩ := order_topo hl hc he h8
  induction hw with
  | refl => exact h2
  | step _ hx ih => exact h1.closed _ ih _ hx
end Go.Proofs.Ytcfcmlbbnpfejaa
