/- Ways in a tree, heights: pure. -/
import Derived.Test.YtjfdkhaepmmlfaaZ6T
import Derived.Test.YtjfdkhaepmmlfaaNetQ
import Derived.Test.YtjfdkhaepmmlfaaGraph
import Derived.Test.YtjfdkhaepmmlfaaZ6A
import Derived.Laws.AppendOwn
import Derived.Deep.RegionHeld3
namespace Go.Proofs.Ytjfdkhaepmmlfaa
open Go.RowKit

/-- an edge of a tree: its name, the block that it leaves, the block to which it comes -/
structure Ed where
  nm : UInt8
  a : UInt8
  b : UInt8
/-- an edge as it is gone -/
structure Mv where
  sg : UInt8
  nm : UInt8
  fr : UInt8
  tb : UInt8
def plus (e : Ed) : Mv := ⟨43, e.nm, e.a, e.b⟩
def minus (e : Ed) : Mv := ⟨45, e.nm, e.b, e.a⟩
/-- all moves along edges -/
def mvs (U : List Ed) : List Mv := U.flatMap fun e => [plus e, minus e]
theorem mem_mvs {U : List Ed} {m : Mv} : m ∈ mvs U ↔ ∃ e ∈ U, m = plus e ∨ m = minus e := by simp [mvs]
theorem mvs_cons (e : Ed) (U : List Ed) (m : Mv) : m ∈ mvs (e :: U) ↔ (m = plus e ∨ m = minus e) ∨ m ∈ mvs U := by
  simp [mvs, or_assoc]

/-- a way along moves -/
def Wk (U : List Ed) : UInt8 → List Mv → UInt8 → Prop
  | a, [], b => a = b
  | a, m :: p, b => m ∈ mvs U ∧ m.fr = a ∧ Wk U m.tb p b
/-- a way that never turns back at once -/
def NB : List Mv → Prop
  | [] => True
  | [_] => True
  | m :: n :: p => n.tb ≠ m.fr ∧ NB (n :: p)
theorem NB.tail {m : Mv} : ∀ {p : List Mv}, NB (m :: p) → NB p
  | [], _ => True.intro
  | _ :: _, h => h.2
theorem Wk.append {U : List Ed} : ∀ {p : List Mv} {a b c : UInt8} {q : List Mv}, Wk U a p b → Wk U b q c → Wk U a (p ++ q) c
  | [], a, b, c, q, h, k => by have : a = b := h; subst this; exact k
  | m :: p, a, b, c, q, h, k => ⟨h.1, h.2.1, Wk.append h.2.2 k⟩
theorem Wk.split {U : List Ed} : ∀ {p : List Mv} {a c : UInt8} {q : List Mv}, Wk U a (p ++ q) c → ∃ b, Wk U a p b ∧ Wk U b q c
  | [], a, c, q, h => ⟨a, rfl, h⟩
  | m :: p, a, c, q, h => by
    obtain ⟨b, h1, h2⟩ := Wk.split (p := p) h.2.2
    exact ⟨b, ⟨h.1, h.2.1, h1⟩, h2⟩
theorem Wk.more {U V : List Ed} (hUV : ∀ e ∈ U, e ∈ V) : ∀ {p : List Mv} {a b : UInt8}, Wk U a p b → Wk V a p b
  | [], a, b, h => h
  | m :: p, a, b, h => by
    refine ⟨?_, h.2.1, Wk.more hUV h.2.2⟩
    obtain ⟨e, he, hm⟩ := mem_mvs.1 h.1
    exact mem_mvs.2 ⟨e, hUV e he, hm⟩
theorem NB.right : ∀ {p q : List Mv}, NB (p ++ q) → NB q
  | [], _, h => h
  | _ :: p, _, h => NB.right (p := p) (NB.tail h)
theorem NB.left : ∀ {p q : List Mv}, NB (p ++ q) → NB p
  | [], _, _ => True.intro
  | [_], _, _ => True.intro
  | _ :: n :: p, _, h => ⟨h.1, NB.left (p := n :: p) h.2⟩

/-- two blocks hang together -/
def Cn (U : List Ed) (a b : UInt8) : Prop := ∃ p, Wk U a p b
theorem Cn.refl (U : List Ed) (a : UInt8) : Cn U a a := ⟨[], rfl⟩
theorem Cn.trans {U : List Ed} {a b c : UInt8} : Cn U a b → Cn U b c → Cn U a c := fun ⟨p, h⟩ ⟨q, k⟩ => ⟨p ++ q, h.append k⟩
theorem Cn.step {U : List Ed} {e : Ed} (h : e ∈ U) : Cn U e.a e.b := ⟨[plus e], mem_mvs.2 ⟨e, h, .inl rfl⟩, rfl, rfl⟩
theorem Cn.back {U : List Ed} {e : Ed} (h : e ∈ U) : Cn U e.b e.a := ⟨[minus e], mem_mvs.2 ⟨e, h, .inr rfl⟩, rfl, rfl⟩
theorem Cn.symm {U : List Ed} {a b : UInt8} : Cn U a b → Cn U b a := by
  rintro ⟨p, h⟩
  induction p generalizing a with
  | nil => have : a = b := h; subst this; exact Cn.refl _ _
  | cons m p ih =>
    refine (ih h.2.2).trans ?_
    obtain ⟨e, he, hm⟩ := mem_mvs.1 h.1
    rw [← h.2.1]
    rcases hm with rfl | rfl
    · exact Cn.back he
    · exact Cn.step he
theorem Cn.more {U V : List Ed} (hUV : ∀ e ∈ U, e ∈ V) {a b : UInt8} : Cn U a b → Cn V a b := fun ⟨p, h⟩ => ⟨p, h.more hUV⟩

/-- no way round: the newest edge first -/
def Fr : List Ed → Prop
  | [] => True
  | e :: U => Fr U ∧ ¬ Cn U e.a e.b

/-- the newest edge is gone once at most -/
theorem wk_parts {e : Ed} {U : List Ed} (hn : ¬ Cn U e.a e.b) (hu : ∀ (a : UInt8) (p : List Mv), Wk U a p a → NB p → p = []) : ∀ (p : List Mv) (a b : UInt8), Wk (e :: U) a p b → NB p →
    Wk U a p b ∨ ∃ p0 m p1, p = p0 ++ m :: p1 ∧ (m = plus e ∨ m = minus e) ∧ Wk U a p0 m.fr ∧ Wk U m.tb p1 b
  | [], a, b, h, _ => .inl h
  | m1 :: r, a, b, h, hb => by
    have hm1 := (mvs_cons e U m1).1 h.1
    rcases wk_parts hn hu r m1.tb b h.2.2 hb.tail with h1 | ⟨p0, m, p1, hr, hm, h1, h2⟩
    · rcases hm1 with hm1 | hm1
      · exact .inr ⟨[], m1, r, rfl, hm1, h.2.1.symm, h1⟩
      · exact .inl ⟨hm1, h.2.1, h1⟩
    · rcases hm1 with hm1 | hm1
      · exfalso
        have hc : Cn U m1.tb m.fr := ⟨p0, h1⟩
        rcases hm1 with rfl | rfl <;> rcases hm with rfl | rfl
        · exact hn hc.symm
        · have h0 := hu _ p0 h1 (by rw [hr] at hb; exact (NB.tail hb).left)
          subst h0
          rw [hr] at hb
          exact hb.1 rfl
        · have h0 := hu _ p0 h1 (by rw [hr] at hb; exact (NB.tail hb).left)
          subst h0
          rw [hr] at hb
          exact hb.1 rfl
        · exact hn hc
      · exact .inr ⟨m1 :: p0, m, p1, by rw [hr]; rfl, hm, ⟨hm1, h.2.1, h1⟩, h2⟩

/-- there is only one way that never turns back at once -/
theorem wk_unique : ∀ (U : List Ed), Fr U → ∀ (a b : UInt8) (p q : List Mv), Wk U a p b → NB p → Wk U a q b → NB q → p = q
  | [], _, a, b, p, q, hp, _, hq, _ => by
    have h0 : ∀ (p : List Mv), Wk [] a p b → p = [] := fun p h => by
      cases p with
      | nil => rfl
      | cons m p => have := h.1; simp [mvs] at this
    rw [h0 p hp, h0 q hq]
  | e :: U, hf, a, b, p, q, hp, hpn, hq, hqn => by
    have ih := wk_unique U hf.1
    have hu : ∀ (a : UInt8) (p : List Mv), Wk U a p a → NB p → p = [] := fun a p h1 h2 => ih a a p [] h1 h2 rfl True.intro
    have hends : ∀ {m : Mv}, (m = plus e ∨ m = minus e) → ¬ Cn U m.fr m.tb := by
      rintro m (rfl | rfl)
      · exact hf.2
      · exact fun h => hf.2 h.symm
    rcases wk_parts hf.2 hu p a b hp hpn with h1 | ⟨p0, m, p1, rfl, hm, h1, h2⟩
    · rcases wk_parts hf.2 hu q a b hq hqn with k1 | ⟨q0, n, q1, rfl, hn, k1, k2⟩
      · exact ih a b p q h1 hpn k1 hqn
      · exact (hends hn ((Cn.symm ⟨q0, k1⟩).trans (Cn.trans ⟨p, h1⟩ (Cn.symm ⟨q1, k2⟩)))).elim
    · rcases wk_parts hf.2 hu q a b hq hqn with k1 | ⟨q0, n, q1, rfl, hn, k1, k2⟩
      · exact (hends hm ((Cn.symm ⟨p0, h1⟩).trans (Cn.trans ⟨q, k1⟩ (Cn.symm ⟨p1, h2⟩)))).elim
      · by_cases hmn : m = n
        · subst hmn
          rw [ih a m.fr p0 q0 h1 hpn.left k1 hqn.left, ih m.tb b p1 q1 h2 (NB.tail hpn.right) k2 (NB.tail hqn.right)]
        · have hx : n.fr = m.tb := by
            rcases hm with rfl | rfl <;> rcases hn with rfl | rfl
            · exact absurd rfl hmn
            · rfl
            · rfl
            · exact absurd rfl hmn
          exact (hends hm (by rw [← hx]; exact (Cn.symm ⟨p0, h1⟩).trans ⟨q0, k1⟩)).elim

/-- where there is a way, there is one that never turns back at once -/
theorem wk_nb {U : List Ed} : ∀ (p : List Mv) (a b : UInt8), Wk U a p b → ∃ q, Wk U a q b ∧ NB q
  | [], a, b, h => ⟨[], h, True.intro⟩
  | m :: p, a, b, h => by
    obtain ⟨q, h1, h2⟩ := wk_nb p m.tb b h.2.2
    cases q with
    | nil => exact ⟨[m], ⟨h.1, h.2.1, h1⟩, True.intro⟩
    | cons n q =>
      by_cases hn : n.tb = m.fr
      · refine ⟨q, ?_, NB.tail h2⟩
        have := h1.2.2
        rw [hn, h.2.1] at this
        exact this
      · exact ⟨m :: n :: q, ⟨h.1, h.2.1, h1⟩, hn, h2⟩

/-- the blocks that a way comes to -/
def stops (a : UInt8) (p : List Mv) : List UInt8 := a :: p.map (·.tb)
theorem wk_to_stop {U : List Ed} : ∀ {p : List Mv} {a b c : UInt8}, Wk U a p b → c ∈ stops a p → ∃ p0 p1, p = p0 ++ p1 ∧ Wk U a p0 c ∧ Wk U c p1 b
  | p, a, b, c, h, hc => by
    cases p with
    | nil =>
      simp [stops] at hc
      subst hc
      exact ⟨[], [], rfl, rfl, h⟩
    | cons m p =>
      rcases List.mem_cons.1 hc with rfl | hc
      · exact ⟨[], m :: p, rfl, rfl, h⟩
      · obtain ⟨p0, p1, hp, h1, h2⟩ := wk_to_stop (p := p) (a := m.tb) h.2.2 (by simpa [stops] using hc)
        exact ⟨m :: p0, p1, by rw [hp]; rfl, ⟨h.1, h.2.1, h1⟩, h2⟩
/-- it comes to each block once at most -/
theorem wk_nodup {U : List Ed} (hf : Fr U) : ∀ {p : List Mv} {a b : UInt8}, Wk U a p b → NB p → (stops a p).Nodup
  | [], a, b, _, _ => by simp [stops]
  | m :: p, a, b, h, hn => by
    have ih := wk_nodup hf (p := p) h.2.2 hn.tail
    refine List.nodup_cons.2 ⟨fun hc => ?_, ih⟩
    have hc' : a ∈ stops m.tb p := by simpa [stops] using hc
    obtain ⟨p0, p1, hp, h1, h2⟩ := wk_to_stop h.2.2 hc'
    have : m :: p0 = [] := wk_unique U hf a a (m :: p0) [] ⟨h.1, h.2.1, h1⟩ (by rw [hp] at hn; exact NB.left (p := m :: p0) hn) rfl True.intro
    cases this

end Go.Proofs.Ytjfdkhaepmmlfaa

namespace Go.Proofs.Ytjfdkhaepmmlfaa
open Go.RowKit

/-- an edge of a net -/
def edK (es : List (ByteArray × ByteArray)) (k : Nat) : Ed := ⟨nameOf k, (es.getD k (⟨#[]⟩, ⟨#[]⟩)).1.data.toList.headD 0, (es.getD k (⟨#[]⟩, ⟨#[]⟩)).2.data.toList.headD 0⟩
/-- the edge from the exit to the entry -/
def edZ (l : List UInt8) : Ed := ⟨122, exit_ l, entry l⟩
/-- the edges of a tree, the newest first -/
def edsT (l : List UInt8) (es : List (ByteArray × ByteArray)) (ks : List Nat) : List Ed := (ks.map (edK es)).reverse ++ [edZ l]

/-- the place of a block -/
def idxL (l : List UInt8) (c : UInt8) : Nat := (Lib.indexByte l c).toNat
theorem idxL_get {l : List UInt8} {c : UInt8} (h : c ∈ l) : l[idxL l c]? = some c := indexByte_get h
theorem idxL_lt {l : List UInt8} {c : UInt8} (h : c ∈ l) : idxL l c < l.length := (List.getElem?_eq_some_iff.1 (idxL_get h)).1
theorem idxL_inj {l : List UInt8} {a b : UInt8} (ha : a ∈ l) (hb : b ∈ l) (h : idxL l a = idxL l b) : a = b := by
  have h1 := idxL_get ha
  rw [h, idxL_get hb] at h1
  injection h1 with h1
  exact h1.symm
theorem edK_at {l : List UInt8} {es : List (ByteArray × ByteArray)} (h : EdgesOk l (ebs es)) {k : Nat} (hk : k < es.length) :
    es[k].1 = ⟨#[(edK es k).a]⟩ ∧ es[k].2 = ⟨#[(edK es k).b]⟩ ∧ (edK es k).a ∈ l ∧ (edK es k).b ∈ l ∧ endsN l (ebs es) k = (idxL l (edK es k).a, idxL l (edK es k).b) := by
  obtain ⟨x, y, i, j, h1, h2, h3, h4, h5, _, _⟩ := ends_at h hk
  have hg : es.getD k (⟨#[]⟩, ⟨#[]⟩) = es[k] := by simp [List.getD, hk]
  have ea : (edK es k).a = x := by unfold edK; rw [hg, h1]; rfl
  have eb : (edK es k).b = y := by unfold edK; rw [hg, h2]; rfl
  rw [ea, eb]
  refine ⟨h1, h2, indexByte_nonneg.1 (by omega), indexByte_nonneg.1 (by omega), ?_⟩
  rw [h3]
  unfold idxL
  rw [h4, h5]
  rfl

/-- labels tell which blocks hang together -/
def Good (l : List UInt8) (f : Nat → Nat) (U : List Ed) : Prop := (∀ e ∈ U, e.a ∈ l ∧ e.b ∈ l) ∧ ∀ a ∈ l, ∀ b ∈ l, (f (idxL l a) = f (idxL l b) ↔ Cn U a b)
theorem good_nil (l : List UInt8) : Good l (fun i => i) [] := by
  refine ⟨fun e he => by simp at he, fun a ha b hb => ⟨fun h => ?_, ?_⟩⟩
  · rw [idxL_inj ha hb h]; exact Cn.refl _ _
  · rintro ⟨p, h⟩
    cases p with
    | nil => have : a = b := h; rw [this]
    | cons m p => have := h.1; simp [mvs] at this
theorem good_step {l : List UInt8} {f : Nat → Nat} {U : List Ed} {e : Ed} {x y : UInt8} (h : Good l f U) (ha : e.a ∈ l) (hb : e.b ∈ l) (hxy : (x = e.a ∧ y = e.b) ∨ (x = e.b ∧ y = e.a)) : Good l (joinL f (idxL l x) (idxL l y)) (e :: U) := by
  have hsub : ∀ e' ∈ U, e' ∈ e :: U := fun e' h => List.mem_cons_of_mem _ h
  have hcxy : Cn (e :: U) x y := by
    rcases hxy with ⟨rfl, rfl⟩ | ⟨rfl, rfl⟩
    · exact Cn.step List.mem_cons_self
    · exact Cn.back List.mem_cons_self
  have hx : x ∈ l := by rcases hxy with ⟨rfl, _⟩ | ⟨rfl, _⟩ <;> assumption
  have hy : y ∈ l := by rcases hxy with ⟨_, rfl⟩ | ⟨_, rfl⟩ <;> assumption
  refine ⟨fun e' he => ?_, fun a hal b hbl => ⟨fun hj => ?_, ?_⟩⟩
  · rcases List.mem_cons.1 he with rfl | he
    · exact ⟨ha, hb⟩
    · exact h.1 e' he
  · have up : ∀ {c d : UInt8}, c ∈ l → d ∈ l → f (idxL l c) = f (idxL l d) → Cn (e :: U) c d := fun hc hd hh => ((h.2 _ hc _ hd).1 hh).more hsub
    unfold joinL at hj
    by_cases c1 : f (idxL l a) = f (idxL l y)
    · rw [if_pos c1] at hj
      by_cases c2 : f (idxL l b) = f (idxL l y)
      · exact (up hal hy c1).trans (up hbl hy c2).symm
      · rw [if_neg c2] at hj
        exact (up hal hy c1).trans (hcxy.symm.trans (up hx hbl hj))
    · rw [if_neg c1] at hj
      by_cases c2 : f (idxL l b) = f (idxL l y)
      · rw [if_pos c2] at hj
        exact (up hal hx hj).trans (hcxy.trans (up hbl hy c2).symm)
      · rw [if_neg c2] at hj
        exact up hal hbl hj
  · rintro ⟨p, hp⟩
    have hstep : ∀ m ∈ mvs (e :: U), m.fr ∈ l ∧ m.tb ∈ l ∧ joinL f (idxL l x) (idxL l y) (idxL l m.fr) = joinL f (idxL l x) (idxL l y) (idxL l m.tb) := by
      intro m hm
      have hxyj : joinL f (idxL l x) (idxL l y) (idxL l x) = joinL f (idxL l x) (idxL l y) (idxL l y) := by
        unfold joinL
        rw [if_pos rfl]
        split
        · rfl
        · rfl
      rcases (mvs_cons e U m).1 hm with hm | hm
      · have he : (m.fr = e.a ∧ m.tb = e.b) ∨ (m.fr = e.b ∧ m.tb = e.a) := by
          rcases hm with rfl | rfl
          · exact .inl ⟨rfl, rfl⟩
          · exact .inr ⟨rfl, rfl⟩
        rcases he with ⟨e1, e2⟩ | ⟨e1, e2⟩ <;> rcases hxy with ⟨e3, e4⟩ | ⟨e3, e4⟩ <;> rw [e1, e2]
        · refine ⟨ha, hb, ?_⟩; rw [← e3, ← e4]; exact hxyj
        · refine ⟨ha, hb, ?_⟩; rw [← e3, ← e4]; exact hxyj.symm
        · refine ⟨hb, ha, ?_⟩; rw [← e3, ← e4]; exact hxyj.symm
        · refine ⟨hb, ha, ?_⟩; rw [← e3, ← e4]; exact hxyj
      · obtain ⟨e', he', hm'⟩ := mem_mvs.1 hm
        obtain ⟨h1, h2⟩ := h.1 e' he'
        have hff : f (idxL l e'.a) = f (idxL l e'.b) := (h.2 _ h1 _ h2).2 (Cn.step he')
        have hjj : joinL f (idxL l x) (idxL l y) (idxL l e'.a) = joinL f (idxL l x) (idxL l y) (idxL l e'.b) := by unfold joinL; rw [hff]
        rcases hm' with rfl | rfl
        · exact ⟨h1, h2, hjj⟩
        · exact ⟨h2, h1, hjj.symm⟩
    clear hbl
    induction p generalizing a with
    | nil => have : a = b := hp; rw [this]
    | cons m p ih =>
      obtain ⟨h1, h2, h3⟩ := hstep m hp.1
      rw [← hp.2.1, h3]
      exact ih m.tb h2 hp.2.2

/-- the labels that there are -/
def att (n : Nat) (f : Nat → Nat) : List Nat := (List.range n).filter fun v => (List.range n).any fun i => f i == v
theorem mem_att {n : Nat} {f : Nat → Nat} {v : Nat} : v ∈ att n f ↔ v < n ∧ ∃ i, i < n ∧ f i = v := by
  unfold att
  rw [List.mem_filter, List.any_eq_true]
  simp
theorem att_nodup (n : Nat) (f : Nat → Nat) : (att n f).Nodup := List.Pairwise.filter _ List.nodup_range
theorem att_join {n : Nat} {f : Nat → Nat} {a b : Nat} (hf : ∀ i, i < n → f i < n) (ha : a < n) (hb : b < n) (hne : ¬ f a = f b) : (att n (joinL f a b)).length + 1 ≤ (att n f).length := by
  have hnot : f b ∉ att n (joinL f a b) := fun h => by
    obtain ⟨_, i, hi, he⟩ := mem_att.1 h
    unfold joinL at he
    split at he
    · exact hne he
    · rename_i c; exact c he
  have h := nodup_len (a := f b :: att n (joinL f a b)) (b := att n f) (List.nodup_cons.2 ⟨hnot, att_nodup _ _⟩) (fun v hv => by
    rcases List.mem_cons.1 hv with rfl | hv
    · exact mem_att.2 ⟨hf b hb, b, hb, rfl⟩
    · obtain ⟨h1, i, hi, he⟩ := mem_att.1 hv
      unfold joinL at he
      split at he
      · exact mem_att.2 ⟨h1, a, ha, he⟩
      · exact mem_att.2 ⟨h1, i, hi, he⟩)
  simpa using h

/-- edges that make no way round make none, and join one label with another each -/
theorem forest_good {l : List UInt8} {es : List (ByteArray × ByteArray)} (hE : EdgesOk l (ebs es)) : ∀ (ks : List Nat) (f : Nat → Nat) (U : List Ed), (∀ k ∈ ks, k < es.length) → (∀ i, i < l.length → f i < l.length) → forest (endsN l (ebs es)) f ks = true → Good l f U → Fr U →
    ∃ f', Good l f' ((ks.map (edK es)).reverse ++ U) ∧ Fr ((ks.map (edK es)).reverse ++ U) ∧ (∀ i, i < l.length → f' i < l.length) ∧ (att l.length f').length + ks.length ≤ (att l.length f).length
  | [], f, U, _, hlt, _, hg, hf => ⟨f, hg, hf, hlt, Nat.le_refl _⟩
  | k :: r, f, U, hks, hlt, ho, hg, hf => by
    have hk := hks k List.mem_cons_self
    obtain ⟨_, _, ha, hb, he⟩ := edK_at hE hk
    have hne : ¬ f (endsN l (ebs es) k).1 = f (endsN l (ebs es) k).2 := fun h => by
      rw [forest_no h] at ho; cases ho
    rw [forest_yes hne] at ho
    simp only [he] at hne ho
    have hg' := good_step hg ha hb (.inl ⟨rfl, rfl⟩)
    have hf' : Fr (edK es k :: U) := ⟨hf, fun hc => hne ((hg.2 _ ha _ hb).2 hc)⟩
    obtain ⟨f', h1, h2, h3, h4⟩ := forest_good hE r _ (edK es k :: U) (fun x hx => hks x (List.mem_cons_of_mem _ hx)) (joinL_lt hlt (idxL_lt ha)) ho hg' hf'
    have h5 := att_join hlt (idxL_lt ha) (idxL_lt hb) hne
    have e : ((k :: r).map (edK es)).reverse ++ U = (r.map (edK es)).reverse ++ (edK es k :: U) := by simp
    rw [e]
    refine ⟨f', h1, h2, h3, ?_⟩
    simp only [List.length_cons]
    omega

theorem entry_exit {l : List UInt8} (h2 : 2 ≤ l.length) (hn : l.Nodup) : entry l ∈ l ∧ exit_ l ∈ l ∧ idxL l (entry l) = 0 ∧ idxL l (exit_ l) = l.length - 1 := by
  have h0 : l[0]? = some (entry l) := by
    match l, h2 with
    | a :: r, _ => rfl
  have h1 : l[l.length - 1]? = some (exit_ l) := by
    unfold exit_
    rw [← List.getLast?_eq_getElem?]
    match l, h2 with
    | a :: r, _ => simp [List.getLastD_eq_getLast?, List.getLast?_cons]
  refine ⟨List.mem_of_getElem? h0, List.mem_of_getElem? h1, ?_, ?_⟩
  · unfold idxL; rw [indexByte_of_get hn h0]; rfl
  · unfold idxL; rw [indexByte_of_get hn h1]; omega

/-- a tree: no way round, all hangs together -/
theorem tree_ways {l : List UInt8} {es : List (ByteArray × ByteArray)} {ks : List Nat} (hB : BlocksOk l) (hE : EdgesOk l (ebs es)) (hks : ∀ k ∈ ks, k < es.length) (hlen : ks.length + 2 = l.length) (hf : forest (endsN l (ebs es)) (fresh l.length) ks = true) :
    Fr (edsT l es ks) ∧ (∀ e ∈ edsT l es ks, e.a ∈ l ∧ e.b ∈ l) ∧ ∀ a ∈ l, ∀ b ∈ l, Cn (edsT l es ks) a b := by
  obtain ⟨h1, h2, h3, h4⟩ := entry_exit (by omega) hB.2.2.2
  have hz := good_step (good_nil l) (e := edZ l) (x := entry l) (y := exit_ l) h2 h1 (.inr ⟨rfl, rfl⟩)
  rw [h3, h4] at hz
  have hne : entry l ≠ exit_ l := fun e => by rw [e] at h3; omega
  have hfz : Fr [edZ l] := by
    refine ⟨True.intro, fun ⟨p, hp⟩ => ?_⟩
    cases p with
    | nil => exact hne (show exit_ l = entry l from hp).symm
    | cons m p => have := hp.1; simp [mvs] at this
  obtain ⟨f', g1, g2, g3, g4⟩ := forest_good hE ks (fresh l.length) [edZ l] hks (fresh_lt _ _ (by omega)) hf hz hfz
  refine ⟨g2, g1.1, fun a ha b hb => (g1.2 a ha b hb).1 ?_⟩
  have hstart : (att l.length (fresh l.length)).length + 1 ≤ l.length := by
    have := att_join (n := l.length) (f := fun i => i) (a := 0) (b := l.length - 1) (fun i hi => hi) (by omega) (by omega) (by omega)
    have h5 := nodup_len (a := att l.length fun i => i) (b := List.range l.length) (att_nodup _ _) (fun v hv => by simpa using (mem_att.1 hv).1)
    simp only [List.length_range] at h5
    unfold fresh
    omega
  refine Classical.byContradiction fun hc => ?_
  have m1 : f' (idxL l a) ∈ att l.length f' := mem_att.2 ⟨g3 _ (idxL_lt ha), _, idxL_lt ha, rfl⟩
  have m2 : f' (idxL l b) ∈ att l.length f' := mem_att.2 ⟨g3 _ (idxL_lt hb), _, idxL_lt hb, rfl⟩
  have h6 := nodup_len (a := [f' (idxL l a), f' (idxL l b)]) (b := att l.length f') (by simp [hc]) (fun v hv => by
    simp only [List.mem_cons, List.not_mem_nil, or_false] at hv
    rcases hv with rfl | rfl <;> assumption)
  simp only [List.length_cons, List.length_nil] at h6
  omega

end Go.Proofs.Ytjfdkhaepmmlfaa

namespace Go.Proofs.Ytjfdkhaepmmlfaa
open Go.RowKit

section
variable {w : World} {P : Program}
/-- an append to a row of the call's own, where a region draws its order -/
theorem step_append_own' {ops : Array Oper} {o : Oper} {a : Act} {K : Act → World → Prop} {Q : Exit → Act → World → Prop} {E : Prop} (hgd : o.guard = none) (s x : Operand) (t : TypeId)
    (ho : o.op = .call { callee := .builtin .append, args := #[s, x], argTypes := #[t, t] })
    (base : Nat) (e : TypeId) (i : TypeInfo) (z : Value) (size bytes : Nat) (ht : P.underlying t = some (.slice e)) (hi : P.info? e = some i) (hz : i.zero = some z)
    (hsize : i.size = size) (hby : i.bytes = bytes) (hzs : z.cells.size = size) (hsz : 0 < size)
    (v : Value) (n : Nat) (xs : List Value) (hs : a.eval s = v) (hown : w.ownsRow base e size v n xs)
    (ad : Addr) (m c : Nat) (news : List Value) (hx : a.eval x = .slice (some ad) m c) (hl : news.length = m * size) (hnews : ∀ j u, news[j]? = some u → w.cell? (ad.add j) = some u) (h1 : ∀ u ∈ news, u.oneCell' = true)
    (h63 : n + m ≤ maxLen) (hbytes : (n + m) * bytes ≤ 140737488355328) (hbase : base ≤ w.heap.size)
    (h : ∀ v' w', w'.ownsRow base e size v' (n + m) (xs ++ news) → w.grownBy w' v.ownBlock → K (a.put o.dst v') w') :
    if Region.wanted o (yielded ops a.tmps) = true then Oper.wp P o a w K Q else E := by
  have hw : Region.wanted o (yielded ops a.tmps) = true := by simp [Region.wanted, hgd]
  rw [if_pos hw]
  exact wp_append_own w s x t ho base e i z size bytes ht hi hz hsize hby hzs hsz v n xs hs hown ad m c news hx hl hnews h1 h63 hbytes hbase fun v' w' h2 h3 _ => h v' w' h2 h3
end

theorem add_none (b o n : Nat) : (⟨b, o, none⟩ : Addr).add n = ⟨b, o + n, none⟩ := by unfold Addr.add; split <;> simp_all
theorem own_block {W : World} {base n : Nat} {T : TypeId} {z : Nat} {v : Value} {xs : List Value} (h : W.ownsRow base T z v n xs) {c : Nat} (hc : c < base) : some c ≠ v.ownBlock := by
  rcases h.2 with ⟨rfl, _⟩ | ⟨g, cap, cur, rfl, hb, _⟩
  · intro e; cases e
  · intro e
    have e' : some c = some g := e
    injection e' with e'; omega

end Go.Proofs.Ytjfdkhaepmmlfaa

namespace Go.Proofs.Ytjfdkhaepmmlfaa
open Go.RowKit

/-- impl.entryOf -/
theorem entryOf_any (B : ByteArray) (sl : Value) (w : World) (hs : 1 ≤ B.size) (hl : B.size ≤ maxLen) :
    Calls Try.prog 92 #[.agg #[.string B, sl]] w fun e w' => e = .returned (.string (B.extract 0 1)) ∧ Below w.heap.size w w' := by
  unfold maxLen at hl
  go_enter Try.func92, Try.ntmps92
  go_wp2
  go_ret
  exact ⟨rfl, (Below.refl _ _).alloc (Nat.le_refl _) _⟩
/-- impl.exitOf -/
theorem exitOf_any (B : ByteArray) (sl : Value) (w : World) (hs : 1 ≤ B.size) (hl : B.size ≤ maxLen) :
    Calls Try.prog 90 #[.agg #[.string B, sl]] w fun e w' => e = .returned (.string (B.extract (B.size - 1) B.size)) ∧ Below w.heap.size w w' := by
  unfold maxLen at hl
  go_enter Try.func90, Try.ntmps90
  go_wp2
  go_ret
  exact ⟨rfl, (Below.refl _ _).alloc (Nat.le_refl _) _⟩

end Go.Proofs.Ytjfdkhaepmmlfaa

namespace Go.Proofs.Ytjfdkhaepmmlfaa
open Go.RowKit

theorem moveInfo : (Try.prog.info? 144).map (fun i => (i.zero, i.size, i.bytes)) = some (some (.agg #[.string ⟨#[]⟩, .string ⟨#[]⟩, .string ⟨#[]⟩]), 3, 48) := by kernel_rfl

/-- a move, as cells -/
def mvC (m : Mv) : List Value := [.string ⟨#[m.sg, m.nm]⟩, .string ⟨#[m.fr]⟩, .string ⟨#[m.tb]⟩]
def cellsM (ms : List Mv) : List Value := ms.flatMap mvC
theorem cellsM_len (ms : List Mv) : (cellsM ms).length = ms.length * 3 := by
  induction ms with
  | nil => rfl
  | cons m ms ih => show (mvC m ++ cellsM ms).length = _; rw [List.length_append, ih]; simp [mvC]; omega
theorem cellsM_append (a b : List Mv) : cellsM (a ++ b) = cellsM a ++ cellsM b := by simp [cellsM]
theorem cellsM_at : ∀ {ms : List Mv} {i : Nat}, (hi : i < ms.length) → (cellsM ms)[i * 3]? = some (.string ⟨#[ms[i].sg, ms[i].nm]⟩) ∧ (cellsM ms)[i * 3 + 1]? = some (.string ⟨#[ms[i].fr]⟩) ∧ (cellsM ms)[i * 3 + 2]? = some (.string ⟨#[ms[i].tb]⟩)
  | m :: ms, 0, _ => ⟨rfl, rfl, rfl⟩
  | m :: ms, i + 1, hi => by
    obtain ⟨h1, h2, h3⟩ := cellsM_at (ms := ms) (i := i) (by simpa using hi)
    have e1 : (i + 1) * 3 = i * 3 + 3 := by omega
    have e2 : cellsM (m :: ms) = .string ⟨#[m.sg, m.nm]⟩ :: .string ⟨#[m.fr]⟩ :: .string ⟨#[m.tb]⟩ :: cellsM ms := rfl
    rw [e1, e2]
    exact ⟨h1, h2, h3⟩
theorem cellsM_one (ms : List Mv) : ∀ u ∈ cellsM ms, u.oneCell' = true := by
  intro u hu
  obtain ⟨m, _, hm⟩ := List.mem_flatMap.1 hu
  simp only [mvC, List.mem_cons, List.not_mem_nil, or_false] at hm
  rcases hm with rfl | rfl | rfl <;> rfl

/-- moves as they lie in memory -/
def MovesIn (w : World) (M : Nat) (A : Option Addr) (ms : List Mv) : Prop :=
  ∀ k, (h : k < ms.length) → ∃ b o, A = some ⟨b, o, none⟩ ∧ b < M ∧ w.cell? ⟨b, o + k * 3, none⟩ = some (.string ⟨#[ms[k].sg, ms[k].nm]⟩) ∧ w.cell? ⟨b, o + k * 3 + 1, none⟩ = some (.string ⟨#[ms[k].fr]⟩) ∧ w.cell? ⟨b, o + k * 3 + 2, none⟩ = some (.string ⟨#[ms[k].tb]⟩)
theorem MovesIn.below {w w' : World} {B : Nat} {A : Option Addr} {ms : List Mv} (h : MovesIn w B A ms) (hb : Below B w w') : MovesIn w' B A ms := by
  intro k hk
  obtain ⟨b, o, e, hl, h1, h2, h3⟩ := h k hk
  exact ⟨b, o, e, hl, (hb.cell hl).trans h1, (hb.cell hl).trans h2, (hb.cell hl).trans h3⟩
theorem MovesIn.more {w : World} {B B' : Nat} {A : Option Addr} {ms : List Mv} (h : MovesIn w B A ms) (hb : B ≤ B') : MovesIn w B' A ms := by
  intro k hk
  obtain ⟨b, o, e, hl, h1, h2, h3⟩ := h k hk
  exact ⟨b, o, e, by omega, h1, h2, h3⟩

/-- both moves along an edge, as texts -/
def bothC (nb x y : ByteArray) : List Value := [.string (⟨#[43]⟩ ++ nb), .string x, .string y, .string (⟨#[45]⟩ ++ nb), .string y, .string x]
theorem both_at (e : Ed) : bothC ⟨#[e.nm]⟩ ⟨#[e.a]⟩ ⟨#[e.b]⟩ = cellsM [plus e, minus e] := by
  have h1 : (⟨#[43]⟩ : ByteArray) ++ ⟨#[e.nm]⟩ = ⟨#[43, e.nm]⟩ := str_ext (by rw [Go.Joins.data_append]; rfl)
  have h2 : (⟨#[45]⟩ : ByteArray) ++ ⟨#[e.nm]⟩ = ⟨#[45, e.nm]⟩ := str_ext (by rw [Go.Joins.data_append]; rfl)
  unfold bothC
  rw [h1, h2]
  rfl

set_option maxRecDepth 100000 in
set_option maxHeartbeats 2000000 in
/-- impl.movesAlong -/
theorem movesAlong_any (nb x y : ByteArray) (w : World) (hn : nb.size ≤ 2) :
    Calls Try.prog 121 #[.string nb, .agg #[.string x, .string y]] w fun e w' => ∃ g, e = .returned (.slice (some ⟨g, 0, none⟩) 2 2) ∧ w'.heap[g]? = some (.cells (bothC nb x y).toArray 144 (0, 0)) ∧ w.heap.size ≤ g ∧ Below w.heap.size w w' := by
  have s1 : ¬ 9223372036854775807 < (⟨#[43]⟩ : ByteArray).size + nb.size := by
    have : (⟨#[43]⟩ : ByteArray).size = 1 := rfl
    omega
  have s2 : ¬ 9223372036854775807 < (⟨#[45]⟩ : ByteArray).size + nb.size := by
    have : (⟨#[45]⟩ : ByteArray).size = 1 := rfl
    omega
  have hc0 : (w.alloc (.cells #[.string x, .string y] 104)).cell? ⟨w.heap.size, 0, none⟩ = some (.string x) := by go_simp
  have hc1 : (w.alloc (.cells #[.string x, .string y] 104)).cell? ⟨w.heap.size, 1, none⟩ = some (.string y) := by go_simp
  obtain ⟨W1, hW1⟩ : ∃ W1, W1 = w.alloc (.cells #[.string x, .string y] 104) := ⟨_, rfl⟩
  have hb1 : Below w.heap.size w W1 := by rw [hW1]; exact (Below.refl _ _).alloc (Nat.le_refl _) _
  have hz1 : W1.heap.size = w.heap.size + 1 := by rw [hW1]; simp
  have HB1 := Lib.hid hb1; have HZ1 := Lib.hid hz1
  rw [← hW1] at hc0 hc1
  clear hb1 hz1
  go_enter Try.func121, Try.ntmps121
  rw [hW1] at hc0 hc1
  go_wp2_with fail
  go_ret
  rw [← hW1]
  refine ⟨W1.heap.size, ?_, ?_, by have := HZ1.out; omega, HB1.out.alloc HB1.out.size _⟩
  · rw [HZ1.out]; rfl
  · exact heap_alloc_new _ _

theorem own_moves {w : World} {base g n : Nat} {ms : List Mv} (hb : base ≤ g) (hn : ms.length = n) (hm : n ≤ maxLen) (h : w.heap[g]? = some (.cells (cellsM ms).toArray 144 (0, 0))) : w.ownsRow base 144 3 (.slice (some ⟨g, 0, none⟩) n n) n (cellsM ms) := by
  refine ⟨by rw [cellsM_len, hn], .inr ⟨g, n, _, rfl, hb, h, Nat.le_refl _, hm, ?_, ?_⟩⟩
  · simp [cellsM_len, hn]
  · exact List.take_of_length_le (by rw [cellsM_len, hn]; exact Nat.le_refl _)
theorem moves_of_own {w : World} {base n : Nat} {v : Value} {ms : List Mv} (hn : ms.length = n) (h : w.ownsRow base 144 3 v n (cellsM ms)) : ∃ A c, v = .slice A n c ∧ MovesIn w w.heap.size A ms := by
  rcases h.2 with ⟨rfl, h0⟩ | ⟨g, cap, cur, rfl, hb, hg, _⟩
  · exact ⟨none, 0, by rw [h0], fun k hk => by omega⟩
  · refine ⟨some ⟨g, 0, none⟩, cap, rfl, fun k hk => ?_⟩
    obtain ⟨h1, h2, h3⟩ := cellsM_at hk
    have hc := h.cells (g := g) rfl
    have q1 := hc _ _ h1
    have q2 := hc _ _ h2
    have q3 := hc _ _ h3
    rw [add_none] at q1 q2 q3
    have hl : g < w.heap.size := (Array.getElem?_eq_some_iff.1 hg).1
    exact ⟨g, 0, rfl, hl, by simpa using q1, by simpa [Nat.add_assoc] using q2, by simpa [Nat.add_assoc] using q3⟩

theorem ks_takeM {l : List UInt8} {i : Nat} (h : i < l.length) : (ksOf l).take (i + 1) = (ksOf l).take i ++ [(l.getD i 0).toNat - 97] := by
  rw [List.take_add_one]
  simp [ksOf, List.getD, h]

/-- the moves of a tree, as the program has them -/
def msP (l : List UInt8) (es : List (ByteArray × ByteArray)) (ks : List Nat) : List Mv := mvs (edZ l :: ks.map (edK es))
theorem msP_len (l : List UInt8) (es : List (ByteArray × ByteArray)) (ks : List Nat) : (msP l es ks).length = 2 + 2 * ks.length := by
  have : ∀ U : List Ed, (mvs U).length = 2 * U.length := by
    intro U
    induction U with
    | nil => rfl
    | cons e U ih => show ([plus e, minus e] ++ mvs U).length = _; rw [List.length_append, ih]; simp; omega
  unfold msP
  rw [this]
  simp; omega
theorem msP_snoc (l : List UInt8) (es : List (ByteArray × ByteArray)) (ks : List Nat) (k : Nat) : msP l es (ks ++ [k]) = msP l es ks ++ [plus (edK es k), minus (edK es k)] := by simp [msP, mvs]

set_option maxRecDepth 100000 in
set_option maxHeartbeats 8000000 in
/-- impl.movesIn -/
theorem movesIn_any (B : ByteArray) (A : Option Addr) (cap : Nat) (es : List (ByteArray × ByteArray)) (b : ByteArray) (w : World) (hs : B.size ≤ maxLen) (hE : EdgesIn w w.heap.size A es) (hl : es.length ≤ 1099511627776) (hV : Valid B.data.toList (ebs es)) (hK : Known es.length b.data.toList) (hb6 : b.size ≤ 6) :
    Calls Try.prog 106 #[.agg #[.string B, .slice A es.length cap], .string b] w fun e w' => ∃ A' c, e = .returned (.slice A' (msP B.data.toList es (ksOf b.data.toList)).length c) ∧ MovesIn w' w'.heap.size A' (msP B.data.toList es (ksOf b.data.toList)) ∧ Below w.heap.size w w' := by
  obtain ⟨i0, hi, hi0, hi1, hi2⟩ := info_parts moveInfo
  have HI := Lib.hid hi; have HI0 := Lib.hid hi0; have HI1 := Lib.hid hi1; have HI2 := Lib.hid hi2
  have h2 : 2 ≤ B.size := by have := hV.1.1.1; simpa using this
  have HL := Lib.hid hl
  have H16 := Lib.hid (valid_sizes hV).2
  have HLEN : Hid (b.data.toList.length = b.size) := Lib.hid (by simp)
  have HEO := Lib.hid hV.1.2; have HK := Lib.hid hK
  have hlb : B.data.toList.length = B.size := by simp
  obtain ⟨m1, m2, m3, m4⟩ := entry_exit (l := B.data.toList) (by omega) hV.1.1.2.2.2
  have hen : B.extract 0 1 = ⟨#[entry B.data.toList]⟩ := bytes_one (by
    have := letter_at (p := B) (i := 0) (by omega)
    rw [Nat.zero_add] at this
    rw [this, List.getD_eq_getElem?_getD, ← m3, idxL_get m1]; rfl)
  have hex : B.extract (B.size - 1) B.size = ⟨#[exit_ B.data.toList]⟩ := bytes_one (by
    have := letter_at (p := B) (i := B.size - 1) (by omega)
    rw [show B.size - 1 + 1 = B.size by omega] at this
    rw [this, List.getD_eq_getElem?_getD, ← hlb, ← m4, idxL_get m2]; rfl)
  have FEN : Hid (∀ W : World, Calls Try.prog 92 #[.agg #[.string B, .slice A es.length cap]] W fun e w' => e = .returned (.string ⟨#[entry B.data.toList]⟩) ∧ Below W.heap.size W w') := Lib.hid fun W => by
    rw [← hen]; exact entryOf_any B _ W (by omega) hs
  have FEX : Hid (∀ W : World, Calls Try.prog 90 #[.agg #[.string B, .slice A es.length cap]] W fun e w' => e = .returned (.string ⟨#[exit_ B.data.toList]⟩) ∧ Below W.heap.size W w') := Lib.hid fun W => by
    rw [← hex]; exact exitOf_any B _ W (by omega) hs
  have FMA : Hid (∀ (e : Ed) (W : World), Calls Try.prog 121 #[.string ⟨#[e.nm]⟩, .agg #[.string ⟨#[e.a]⟩, .string ⟨#[e.b]⟩]] W fun r w' => ∃ g, r = .returned (.slice (some ⟨g, 0, none⟩) 2 2) ∧ w'.heap[g]? = some (.cells (cellsM [plus e, minus e]).toArray 144 (0, 0)) ∧ W.heap.size ≤ g ∧ Below W.heap.size W w') := Lib.hid fun e W => by
    rw [← both_at]; exact movesAlong_any _ _ _ W (by show (⟨#[e.nm]⟩ : ByteArray).size ≤ 2; exact Nat.le_succ 1)
  have FI : Hid (∀ (k : Nat) (c : UInt8) (s : ByteArray), s.data.toList = [c] → eIdx es.length [c] = k → ∀ W : World, Calls Try.prog 122 #[.agg #[.string B, .slice A es.length cap], .string s] W fun e w' => e = .returned (.int .i64 (k : Int)) ∧ Below W.heap.size W w') := Lib.hid fun k c s hs hi W => by
    have := edgeIndex_any (.string B) A es.length cap s W HL.out
    rwa [hs, hi] at this
  have HZED : Hid (msP B.data.toList es [] = [plus (edZ B.data.toList), minus (edZ B.data.toList)]) := Lib.hid rfl
  have FMZ := Lib.hid (FMA.out (edZ B.data.toList))
  obtain ⟨l, hll⟩ : ∃ l, B.data.toList = l := ⟨_, rfl⟩
  rw [hll] at FEN FEX FMZ HZED HEO ⊢
  have hb1 : Below w.heap.size w (w.alloc (.cells #[.string B, .slice A es.length cap] 30)) := (Below.refl _ _).alloc (Nat.le_refl _) _
  have t1 := Two.made w B A es.length cap 30
  have hz1 : (w.alloc (.cells #[.string B, .slice A es.length cap] 30)).heap.size = w.heap.size + 1 := by simp
  have hC : ∀ W, Below (w.heap.size + 1) (w.alloc (.cells #[.string B, .slice A es.length cap] 30)) W → (W.cell? ⟨w.heap.size, 0, none⟩ = some (.string B) ∧ W.cell? ⟨w.heap.size, 1, none⟩ = some (.slice A es.length cap)) := fun W h => ⟨(h.cell (by simp only; omega)).trans t1.1, (h.cell (by simp only; omega)).trans t1.2⟩
  have HSS := Lib.hid hC; have HT1 := Lib.hid t1; have HB1 := Lib.hid hb1; have HZ1 := Lib.hid hz1
  clear hl hs hV hK hi hi0 hi1 hi2 hen hex m1 m2 m3 m4 hlb hll h2 hC t1 hb1 hz1
  unfold edZ at FMZ
  go_enter Try.func106, Try.ntmps106
  go_wp2_with fail
  generalize hW1 : w.alloc (.cells #[.string B, .slice A es.length cap] 30) = w1 at HSS HT1 HB1 HZ1 ⊢
  clear hW1
  go_region_held3 (fun W => W.cell? ⟨w.heap.size, 0, none⟩ = some (.string B) ∧ W.cell? ⟨w.heap.size, 1, none⟩ = some (.slice A es.length cap))
    (first
      | exact HSS.out _ (Below.refl _ _).drew
      | exact HSS.out _ HB2.out
      | exact HSS.out _ HB3.out
      | exact HSS.out _ HB4.out)
    (first
      | (go_at_call 90
         go_must (
         refine (FEX.out _).mono ?_
         rintro e w2 ⟨rfl, hb2⟩
         have HB2 : Hid (Below (w.heap.size + 1) w1 w2) := Lib.hid ((Below.refl _ _).drew.trans (hb2.mono (show w.heap.size + 1 ≤ w1.heap.size from by have := HZ1.out; omega)))
         clear hb2))
      | (go_at_call 92
         go_must (
         refine (FEN.out _).mono ?_
         rintro e w3 ⟨rfl, hb3⟩
         have HB3 : Hid (Below (w.heap.size + 1) w1 w3) := Lib.hid (HB2.out.trans (hb3.mono (by have := HZ1.out; have := HB2.out.size; omega)))
         clear hb3))
      | (go_at_call 121
         go_must (
         refine (FMZ.out _).mono ?_
         rintro e w4 ⟨g, rfl, hg4, hgl, hb4⟩
         have HB4 : Hid (Below (w.heap.size + 1) w1 w4) := Lib.hid (HB3.out.trans (hb4.mono (by have := HZ1.out; have := HB3.out.size; omega)))
         have HG4 := Lib.hid hg4
         have HGL : Hid (w.heap.size + 1 ≤ g) := Lib.hid (by have := HB3.out.size; have := HZ1.out; omega)
         clear hb4 hg4 hgl)))
  rename_i hHeld
  clear hHeld
  have HT4 : Hid (Two w4 w.heap.size B A es.length cap) := Lib.hid (HT1.out.below HB4.out (by omega))
  have HBW4 : Hid (Below w.heap.size w w4) := Lib.hid (HB1.out.trans (HB4.out.mono (by omega)))
  have HOWN4 : Hid (w4.ownsRow (w.heap.size + 1) 144 3 (.slice (some ⟨g, 0, none⟩) 2 2) 2 (cellsM (msP l es []))) := Lib.hid (own_moves HGL.out (by rw [HZED.out]; rfl) (by unfold maxLen; omega) HG4.out)
  have HZ4 : Hid (w.heap.size + 1 ≤ w4.heap.size) := Lib.hid (by have := HB4.out.size; have := HZ1.out; omega)
  go_wp2_with fail
  go_loopw [5, 16] (fun vv c wr => ∃ i : Nat, i ≤ b.size ∧ c = .int .i64 i ∧ Hid (wr.ownsRow (w.heap.size + 1) 144 3 vv (2 + 2 * i) (cellsM (msP l es ((ksOf b.data.toList).take i)))) ∧ Hid (Two wr w.heap.size B A es.length cap) ∧ Below w.heap.size w wr ∧ w.heap.size + 1 ≤ wr.heap.size) (fun _ c _ => b.size - (intOf c).toNat)
  case atStart => exact ⟨0, Nat.zero_le _, rfl, HOWN4, HT4, HBW4.out, HZ4.out⟩
  case round =>
    clear HOWN4 HT4 HBW4 HZ4 HB4 HB3 HB2 HG4 HGL HT1 HB1 HZ1 HSS
    obtain ⟨i, hi, rfl, HOWN, HT, hb, hz⟩ := hrel
    by_cases hlt : i < b.size
    case neg =>
      have hib : i = b.size := by omega
      have hmm : msP l es ((ksOf b.data.toList).take i) = msP l es (ksOf b.data.toList) := by rw [List.take_of_length_le (by simp [ksOf]; omega)]
      have hown := HOWN.out
      rw [hmm] at hown
      have hln : (msP l es (ksOf b.data.toList)).length = 2 + 2 * i := by rw [msP_len, hib]; simp [ksOf]
      obtain ⟨A', c', hv, hmv⟩ := moves_of_own hln hown
      have HMV := Lib.hid hmv; have HLN := Lib.hid hln; have HV := Lib.hid hv
      clear hmm hown hln hmv hib hv
      go_wp2_with fail
      go_ret
      exact ⟨A', c', by rw [HLN.out]; exact congrArg Ending.returned HV.out, HMV.out, hb⟩
    have hex := letter_at (p := b) hlt
    have hka := HK.out.at (i := i) (by have := HLEN.out; omega)
    have hkt := ks_takeM (l := b.data.toList) (i := i) (by have := HLEN.out; omega)
    obtain ⟨c, hc⟩ : ∃ c, b.data.toList.getD i 0 = c := ⟨_, rfl⟩
    rw [hc] at hex hka hkt
    obtain ⟨k, hk⟩ : ∃ k, c.toNat - 97 = k := ⟨_, rfl⟩
    rw [hk] at hka hkt
    have hcn : nameOf k = c := by
      have h97 : 97 ≤ c.toNat := by
        have := hka.1
        unfold eIdx at this
        simp only at this
        split at this
        · rename_i q; exact q.1
        · omega
      apply UInt8.toNat_inj.1
      rw [nameOf_toNat (by have := H16.out; have := hka.2; omega)]
      omega
    have HFX := Lib.hid (FI.out k c (b.extract i (i + 1)) hex hka.1)
    obtain ⟨q1, q2, q3, q4, _⟩ := edK_at HEO.out hka.2
    have hkey : b.extract i (i + 1) = ⟨#[(edK es k).nm]⟩ := by
      rw [show (edK es k).nm = c from hcn]; exact bytes_one hex
    have HMS : Hid (msP l es ((ksOf b.data.toList).take (i + 1)) = msP l es ((ksOf b.data.toList).take i) ++ [plus (edK es k), minus (edK es k)]) := Lib.hid (by rw [hkt, msP_snoc])
    have HFM : Hid (∀ W : World, Calls Try.prog 121 #[.string (b.extract i (i + 1)), .agg #[.string es[k].1, .string es[k].2]] W fun r w' => ∃ g, r = .returned (.slice (some ⟨g, 0, none⟩) 2 2) ∧ w'.heap[g]? = some (.cells (cellsM [plus (edK es k), minus (edK es k)]).toArray 144 (0, 0)) ∧ W.heap.size ≤ g ∧ Below W.heap.size W w') := Lib.hid fun W => by
      rw [hkey, q1, q2]; exact FMA.out (edK es k) W
    obtain ⟨eb, eo, rfl, hlow, g1, g2⟩ := (hE.below hb) k hka.2
    have hkn : k < es.length := hka.2
    obtain ⟨e1, he1⟩ : ∃ e1, es[k].1 = e1 := ⟨_, rfl⟩
    obtain ⟨e2, he2⟩ : ∃ e2, es[k].2 = e2 := ⟨_, rfl⟩
    rw [he1] at g1 HFM
    rw [he2] at g2 HFM
    have a1 : (0 : Int) ≤ (i : Int) := by omega
    have a4 : (0 : Int) ≤ (i : Int) + 1 := by omega
    have a5 : ((i : Int) + 1).toNat = i + 1 := by omega
    have a6 : (i : Int) + 1 ≤ (b.size : Int) := by omega
    have a7 : i + 1 ≤ b.size := by omega
    have a8 : (i : Int) ≤ (i : Int) + 1 := by omega
    have a9 : IntKind.i64.wrap ((i : Int) + 1) = (i : Int) + 1 := IntWalk.i64_in _ (by omega)
    have b1 : (0 : Int) ≤ (k : Int) := by omega
    have b2 : (k : Int) < (es.length : Int) := by omega
    have hC : ∀ W, Below (w.heap.size + 1) wr W → (W.cell? ⟨w.heap.size, 0, none⟩ = some (.string B) ∧ W.cell? ⟨w.heap.size, 1, none⟩ = some (.slice (some ⟨eb, eo, none⟩) es.length cap) ∧ W.cell? ⟨eb, eo + k * 2, none⟩ = some (.string e1) ∧ W.cell? ⟨eb, eo + k * 2 + 1, none⟩ = some (.string e2)) := fun W h => ⟨(h.cell (by simp only; omega)).trans HT.out.1, (h.cell (by simp only; omega)).trans HT.out.2, (h.cell (by simp only; omega)).trans g1, (h.cell (by simp only; omega)).trans g2⟩
    have HSS := Lib.hid hC; have HBB := Lib.hid hb; have HZZ := Lib.hid hz
    clear hex hka hkt hc hk hcn q1 q2 q3 q4 hkey hC g1 g2 hkn he1 he2 hb hz hlow
    go_wp2_with fail
    go_region_held3 (fun W => W.cell? ⟨w.heap.size, 0, none⟩ = some (.string B) ∧ W.cell? ⟨w.heap.size, 1, none⟩ = some (.slice (some ⟨eb, eo, none⟩) es.length cap) ∧ W.cell? ⟨eb, eo + k * 2, none⟩ = some (.string e1) ∧ W.cell? ⟨eb, eo + k * 2 + 1, none⟩ = some (.string e2))
      (first
        | exact HSS.out _ (Below.refl _ _).drew
        | exact HSS.out _ HB5.out
        | exact HSS.out _ HB6.out
        | exact HSS.out _ HB7.out)
      (first
        | (go_at_call 122
           go_must (
           refine (HFX.out _).mono ?_
           rintro e w5 ⟨rfl, hb5⟩
           have HB5 : Hid (Below (w.heap.size + 1) wr w5) := Lib.hid ((Below.refl _ _).drew.trans (hb5.mono (show w.heap.size + 1 ≤ wr.heap.size from HZZ.out)))
           have HO5 := Lib.hid (ownsRow_of_block HOWN.out fun q hq => hb5.block q (ownBlock_lt HOWN.out hq).2)
           clear hb5))
        | (go_at_call 121
           go_must (
           refine (HFM.out _).mono ?_
           rintro e w6 ⟨g, rfl, hg6, hgl, hb6⟩
           have HB6 : Hid (Below (w.heap.size + 1) wr w6) := Lib.hid (HB5.out.trans (hb6.mono (by have := HZZ.out; have := HB5.out.size; omega)))
           have HO6 := Lib.hid (ownsRow_of_block HO5.out fun q hq => hb6.block q (ownBlock_lt HO5.out hq).2)
           have HNEW : Hid (∀ j u, (cellsM [plus (edK es k), minus (edK es k)])[j]? = some u → w6.cell? ((⟨g, 0, none⟩ : Addr).add j) = some u) := Lib.hid fun j u hu => by
             rw [add_none, Nat.zero_add]
             simp only [World.cell?, hg6]
             simpa using hu
           have HZ6 : Hid (w.heap.size + 1 ≤ w6.heap.size) := Lib.hid (by have := HB6.out.size; have := HZZ.out; omega)
           clear hb6 hg6 hgl))
        | (refine step_append_own' rfl (.tmp 24) (.tmp 33) 140 rfl (w.heap.size + 1) 144 i0 (.agg #[.string ⟨#[]⟩, .string ⟨#[]⟩, .string ⟨#[]⟩]) 3 48 Try.underlying140 HI.out HI0.out HI1.out HI2.out rfl (by decide) _ (2 + 2 * i) _ rfl HO6.out ⟨g, 0, none⟩ 2 2 (cellsM [plus (edK es k), minus (edK es k)]) rfl rfl HNEW.out (cellsM_one _) (by unfold maxLen; omega) (by omega) HZ6.out ?_
           go_must (
           intro v7 w7 hown7 hgr7
           have HOWN7 := Lib.hid hown7
           have HB7 : Hid (Below (w.heap.size + 1) wr w7) := Lib.hid (HB6.out.grown hgr7 HZ6.out (fun _ e => Nat.le_of_not_lt fun hq => own_block HO6.out hq e.symm))
           clear hown7 hgr7)))
    rename_i hHeld
    clear hHeld
    have HO8 : Hid (w7.ownsRow (w.heap.size + 1) 144 3 v7 (2 + 2 * (i + 1)) (cellsM (msP l es ((ksOf b.data.toList).take (i + 1))))) := Lib.hid (by
      have := HOWN7.out
      rw [← cellsM_append, ← HMS.out] at this
      rwa [show 2 + 2 * (i + 1) = 2 + 2 * i + 2 by omega])
    go_wp2_with fail
    go_roundw
    case rel => exact ⟨i + 1, by omega, by go_num, HO8, Lib.hid (HT.out.below HB7.out (by omega)), HBB.out.trans (HB7.out.mono (by omega)), by have := HB7.out.size; have := HZZ.out; omega⟩
    case measure => simp [intOf]; omega

end Go.Proofs.Ytjfdkhaepmmlfaa

namespace Go.Proofs.Ytjfdkhaepmmlfaa
open Go.RowKit

/-- a way as a text -/
def txtM (p : List Mv) : List UInt8 := p.flatMap fun m => [m.sg, m.nm]
theorem txtM_len (p : List Mv) : (txtM p).length = 2 * p.length := by
  induction p with
  | nil => rfl
  | cons m p ih => show ([m.sg, m.nm] ++ txtM p).length = _; rw [List.length_append, ih]; simp; omega
/-- the search: the first move that leads on -/
def findF (M : List Mv) (t : UInt8) : Nat → UInt8 → Option UInt8 → Option (List Mv)
  | 0, _, _ => none
  | k + 1, b, last => if b = t then some [] else M.findSome? fun m => if m.fr = b ∧ some m.tb ≠ last then (findF M t k m.tb (some b)).map (m :: ·) else none
theorem findF_len {M : List Mv} {t : UInt8} : ∀ (k : Nat) (b : UInt8) (last : Option UInt8) (p : List Mv), findF M t k b last = some p → p.length < k
  | 0, b, last, p, h => by cases h
  | k + 1, b, last, p, h => by
    unfold findF at h
    split at h
    · injection h with h; subst h; simp
    · obtain ⟨m, _, hm⟩ := List.exists_of_findSome?_eq_some h
      split at hm
      · obtain ⟨q, hq, rfl⟩ := Option.map_eq_some_iff.1 hm
        have := findF_len k m.tb (some b) q hq
        simp; omega
      · cases hm
/-- a way's first move does not lead back -/
def okL (last : Option UInt8) : List Mv → Prop
  | [] => True
  | m :: _ => some m.tb ≠ last
theorem findF_sound {M : List Mv} {U : List Ed} {t : UInt8} (hM : ∀ m ∈ M, m ∈ mvs U) : ∀ (k : Nat) (b : UInt8) (last : Option UInt8) (p : List Mv), findF M t k b last = some p → Wk U b p t ∧ NB p ∧ okL last p
  | 0, b, last, p, h => by cases h
  | k + 1, b, last, p, h => by
    unfold findF at h
    split at h
    · rename_i e; injection h with h; subst h; exact ⟨e, True.intro, True.intro⟩
    · obtain ⟨m, hmM, hm⟩ := List.exists_of_findSome?_eq_some h
      split at hm
      · rename_i hc
        obtain ⟨q, hq, rfl⟩ := Option.map_eq_some_iff.1 hm
        obtain ⟨h1, h2, h3⟩ := findF_sound hM k m.tb (some b) q hq
        refine ⟨⟨hM m hmM, hc.1, h1⟩, ?_, hc.2⟩
        cases q with
        | nil => exact True.intro
        | cons n q => exact ⟨fun e => h3 (by rw [e, hc.1]), h2⟩
      · cases hm
theorem findF_all {M : List Mv} {U : List Ed} {t : UInt8} (hM : ∀ m ∈ mvs U, m ∈ M) : ∀ (k : Nat) (b : UInt8) (last : Option UInt8) (p : List Mv), Wk U b p t → NB p → okL last p → p.length < k → findF M t k b last ≠ none
  | 0, b, last, p, _, _, _, h => by omega
  | k + 1, b, last, p, hw, hn, ho, hl => by
    unfold findF
    split
    · simp
    · rename_i hb
      cases p with
      | nil => exact absurd hw hb
      | cons m p =>
        have hp : findF M t k m.tb (some b) ≠ none := by
          refine findF_all hM k m.tb (some b) p hw.2.2 hn.tail ?_ (by simp at hl; omega)
          cases p with
          | nil => exact True.intro
          | cons n p => exact fun e => hn.1 (by injection e with e; rw [e, hw.2.1])
        intro hnone
        rw [List.findSome?_eq_none_iff] at hnone
        have := hnone m (hM m hw.1)
        rw [if_pos ⟨hw.2.1, ho⟩] at this
        simp at this
        exact hp this
/-- all ways on are shorter -/
def DeepW (U : List Ed) (k : Nat) (b : UInt8) (last : Option UInt8) : Prop := ∀ (q : List Mv) (x : UInt8), Wk U b q x → NB q → okL last q → q.length < k
theorem DeepW.step {U : List Ed} {k : Nat} {b : UInt8} {last : Option UInt8} (h : DeepW U (k + 1) b last) {m : Mv} (hm : m ∈ mvs U) (hf : m.fr = b) (hl : some m.tb ≠ last) : DeepW U k m.tb (some b) := by
  intro q x hw hn ho
  have := h (m :: q) x ⟨hm, hf, hw⟩ (by
    cases q with
    | nil => exact True.intro
    | cons n q => exact ⟨fun e => ho (by rw [e, hf]), hn⟩) hl
  simp at this
  omega

/-- what the search hands back -/
def fv (o : Option (List Mv)) : ByteArray × Bool := match o with
  | none => (⟨#[]⟩, false)
  | some p => (⟨(txtM p).toArray⟩, true)
/-- the block ahead, as a text -/
def lastT (last : Option UInt8) : ByteArray := match last with
  | none => ⟨#[]⟩
  | some c => ⟨#[c]⟩
theorem one_eq (x y : UInt8) : ((⟨#[x]⟩ : ByteArray).toList == (⟨#[y]⟩ : ByteArray).toList) = (x == y) := by
  rw [Lib.toList_data, Lib.toList_data]
  show ([x] == [y]) = _
  simp
theorem last_eq (x : UInt8) (last : Option UInt8) : ((⟨#[x]⟩ : ByteArray).toList == (lastT last).toList) = (some x == last) := by
  cases last with
  | none => rw [Lib.toList_data, Lib.toList_data]; rfl
  | some c => rw [show lastT (some c) = ⟨#[c]⟩ from rfl, one_eq]; simp

end Go.Proofs.Ytjfdkhaepmmlfaa

namespace Go.Proofs.Ytjfdkhaepmmlfaa
open Go.RowKit

/-- a way that never turns back at once -/
def NbWay (U : List Ed) (a b : UInt8) (p : List Mv) : Prop := Wk U a p b ∧ NB p
/-- the way -/
noncomputable def wayP (U : List Ed) (a b : UInt8) : List Mv := open Classical in if h : ∃ p, NbWay U a b p then h.choose else []
theorem wayP_eq {U : List Ed} (hf : Fr U) {a b : UInt8} {p : List Mv} (h : NbWay U a b p) : wayP U a b = p := by
  have hex : ∃ p, NbWay U a b p := ⟨p, h⟩
  unfold wayP
  rw [dif_pos hex]
  exact wk_unique U hf a b _ _ hex.choose_spec.1 hex.choose_spec.2 h.1 h.2
theorem wk_in {U : List Ed} {l : List UInt8} (hU : ∀ e ∈ U, e.a ∈ l ∧ e.b ∈ l) : ∀ {p : List Mv} {a b : UInt8}, a ∈ l → Wk U a p b → ∀ x ∈ stops a p, x ∈ l
  | [], a, b, ha, _, x, hx => by
    simp [stops] at hx
    subst hx; exact ha
  | m :: p, a, b, ha, h, x, hx => by
    rcases List.mem_cons.1 hx with rfl | hx
    · exact ha
    · refine wk_in hU (p := p) (a := m.tb) ?_ h.2.2 x (by simpa [stops] using hx)
      obtain ⟨e, he, hm⟩ := mem_mvs.1 h.1
      rcases hm with rfl | rfl
      · exact (hU e he).2
      · exact (hU e he).1
theorem nb_short {U : List Ed} {l : List UInt8} (hf : Fr U) (hU : ∀ e ∈ U, e.a ∈ l ∧ e.b ∈ l) (h8 : l.length ≤ 8) {p : List Mv} {a b : UInt8} (ha : a ∈ l) (h : NbWay U a b p) : p.length ≤ 7 := by
  have := nodup_len (wk_nodup hf h.1 h.2) (wk_in hU ha h.1)
  simp [stops] at this
  omega
/-- the search finds the way -/
theorem find_top {U : List Ed} {l : List UInt8} {ms : List Mv} (hf : Fr U) (hU : ∀ e ∈ U, e.a ∈ l ∧ e.b ∈ l) (h8 : l.length ≤ 8) (hm : ∀ m, m ∈ ms ↔ m ∈ mvs U) {a b : UInt8} (ha : a ∈ l) (hc : Cn U a b) : findF ms b 9 a none = some (wayP U a b) ∧ DeepW U 9 a none := by
  obtain ⟨p0, h0⟩ := hc
  obtain ⟨q, h1, h2⟩ := wk_nb p0 a b h0
  have hl := nb_short hf hU h8 ha ⟨h1, h2⟩
  have hne := findF_all (t := b) (fun m h => (hm m).2 h) 9 a none q h1 h2 (by cases q <;> simp [okL]) (by omega)
  refine ⟨?_, fun q x hw hn _ => by have := nb_short hf hU h8 ha ⟨hw, hn⟩; omega⟩
  cases hr : findF ms b 9 a none with
  | none => exact absurd hr hne
  | some p =>
    obtain ⟨k1, k2, _⟩ := findF_sound (fun m h => (hm m).1 h) 9 a none p hr
    rw [wayP_eq hf ⟨k1, k2⟩]
theorem mem_msP {l : List UInt8} {es : List (ByteArray × ByteArray)} {ks : List Nat} (m : Mv) : m ∈ msP l es ks ↔ m ∈ mvs (edsT l es ks) := by
  unfold msP edsT
  rw [mem_mvs, mem_mvs]
  constructor
  · rintro ⟨e, he, hm⟩
    refine ⟨e, ?_, hm⟩
    rcases List.mem_cons.1 he with rfl | he
    · exact List.mem_append_right _ List.mem_cons_self
    · exact List.mem_append_left _ (List.mem_reverse.2 he)
  · rintro ⟨e, he, hm⟩
    refine ⟨e, ?_, hm⟩
    rcases List.mem_append.1 he with he | he
    · exact List.mem_cons_of_mem _ (List.mem_reverse.1 he)
    · simp at he; subst he; exact List.mem_cons_self

end Go.Proofs.Ytjfdkhaepmmlfaa

namespace Go.Proofs.Ytjfdkhaepmmlfaa
open Go.RowKit

/-- what a move adds -/
def addM (F : Nat → Nat) (m : Mv) : Int := if m.nm = 122 then 0 else if m.sg = 45 then -((F (m.nm.toNat - 97) : Nat) : Int) else ((F (m.nm.toNat - 97) : Nat) : Int)
def sumM (F : Nat → Nat) : List Mv → Int
  | [] => 0
  | m :: p => addM F m + sumM F p
theorem sumM_append (F : Nat → Nat) : ∀ (p q : List Mv), sumM F (p ++ q) = sumM F p + sumM F q
  | [], q => by simp [sumM]
  | m :: p, q => by
    have ih := sumM_append F p q
    show addM F m + sumM F (p ++ q) = addM F m + sumM F p + sumM F q
    omega
theorem sumM_one (F : Nat → Nat) (m : Mv) : sumM F [m] = addM F m := by simp [sumM]
/-- the move back -/
def backM (m : Mv) : Mv := ⟨if m.sg = 43 then 45 else 43, m.nm, m.tb, m.fr⟩
theorem back_mem {U : List Ed} {m : Mv} (h : m ∈ mvs U) : backM m ∈ mvs U := by
  obtain ⟨e, he, hm⟩ := mem_mvs.1 h
  refine mem_mvs.2 ⟨e, he, ?_⟩
  rcases hm with rfl | rfl
  · exact .inr rfl
  · exact .inl rfl
theorem add_back {U : List Ed} (F : Nat → Nat) {m : Mv} (h : m ∈ mvs U) : addM F (backM m) = - addM F m := by
  obtain ⟨e, _, hm⟩ := mem_mvs.1 h
  rcases hm with rfl | rfl
  · unfold addM backM plus
    by_cases hz : e.nm = 122
    · simp [hz]
    · simp [hz]
  · unfold addM backM minus
    by_cases hz : e.nm = 122
    · simp [hz]
    · simp [hz]
theorem add_few {F : Nat → Nat} (hF : ∀ k, F k ≤ 4294967296) (m : Mv) : -4294967296 ≤ addM F m ∧ addM F m ≤ 4294967296 := by
  unfold addM
  have := hF (m.nm.toNat - 97)
  split
  · omega
  · split <;> omega
theorem sum_few {F : Nat → Nat} (hF : ∀ k, F k ≤ 4294967296) : ∀ (p : List Mv), -(4294967296 * (p.length : Int)) ≤ sumM F p ∧ sumM F p ≤ 4294967296 * (p.length : Int)
  | [] => by simp [sumM]
  | m :: p => by
    have h1 := add_few hF m
    have h2 := sum_few hF p
    simp only [sumM, List.length_cons]
    omega

theorem nbH_snoc : ∀ {p : List Mv} {n m : Mv}, NB (p ++ [n]) → m.tb ≠ n.fr → NB (p ++ [n, m])
  | [], _, _, _, h => ⟨h, True.intro⟩
  | [_], _, _, h, k => ⟨h.1, k, True.intro⟩
  | _ :: y :: p, _, _, h, k => ⟨h.1, nbH_snoc (p := y :: p) h.2 k⟩

/-- the height of a block -/
noncomputable def hgtM (F : Nat → Nat) (U : List Ed) (e b : UInt8) : Int := sumM F (wayP U e b)
theorem hgt_way {F : Nat → Nat} {U : List Ed} (hf : Fr U) {a b : UInt8} {p : List Mv} (h : NbWay U a b p) : hgtM F U a b = sumM F p := by
  unfold hgtM; rw [wayP_eq hf h]
theorem hgt_self {F : Nat → Nat} {U : List Ed} (hf : Fr U) (a : UInt8) : hgtM F U a a = 0 := by
  rw [hgt_way hf (p := []) ⟨rfl, True.intro⟩]; rfl
/-- along a move the height grows by what it adds -/
theorem hgt_step {F : Nat → Nat} {U : List Ed} (hf : Fr U) {a : UInt8} {m : Mv} (hm : m ∈ mvs U) (hc : Cn U a m.fr) : hgtM F U a m.tb = hgtM F U a m.fr + addM F m := by
  obtain ⟨p0, h0⟩ := hc
  obtain ⟨p, h1, h2⟩ := wk_nb p0 a m.fr h0
  rw [hgt_way hf ⟨h1, h2⟩]
  have hone : Wk U m.fr [m] m.tb := ⟨hm, rfl, rfl⟩
  rcases List.eq_nil_or_concat p with rfl | ⟨p', n, rfl⟩
  · have he : a = m.fr := h1
    subst he
    rw [hgt_way hf (p := [m]) ⟨hone, True.intro⟩]
    simp [sumM]
  · rw [List.concat_eq_append] at h1 h2 ⊢
    by_cases ht : m.tb = n.fr
    · obtain ⟨c, k1, k2⟩ := Wk.split h1
      have hcn : c = n.fr := k2.2.1.symm
      have hntb : n.tb = m.fr := k2.2.2
      rw [hcn, ← ht] at k1
      have hb : Wk U m.tb [backM m] m.fr := ⟨back_mem hm, rfl, rfl⟩
      have hn : Wk U m.tb [n] m.fr := ⟨k2.1, ht.symm, hntb⟩
      have hnb := wk_unique U hf m.tb m.fr [n] [backM m] hn True.intro hb True.intro
      injection hnb with hnb _
      rw [hgt_way hf (p := p') ⟨k1, h2.left⟩, sumM_append, sumM_one, hnb, add_back F hm]
      omega
    · rw [hgt_way hf (p := p' ++ [n] ++ [m]) ⟨h1.append hone, by
        have := nbH_snoc h2 ht
        simpa using this⟩, sumM_append _ (p' ++ [n]) [m], sumM_one]
theorem hgt_few {F : Nat → Nat} (hF : ∀ k, F k ≤ 4294967296) {U : List Ed} {l : List UInt8} (hf : Fr U) (hU : ∀ e ∈ U, e.a ∈ l ∧ e.b ∈ l) (h8 : l.length ≤ 8) {a b : UInt8} (ha : a ∈ l) (hc : Cn U a b) : -34359738368 ≤ hgtM F U a b ∧ hgtM F U a b ≤ 34359738368 := by
  obtain ⟨p0, h0⟩ := hc
  obtain ⟨p, h1, h2⟩ := wk_nb p0 a b h0
  have hl := nb_short hf hU h8 ha ⟨h1, h2⟩
  rw [hgt_way hf ⟨h1, h2⟩]
  have := sum_few hF p
  omega

end Go.Proofs.Ytjfdkhaepmmlfaa

namespace Go.Proofs.Ytjfdkhaepmmlfaa
open Go.RowKit

/-- the edges of a tree and z -/
def edsOf (B : ByteArray) (es : List (ByteArray × ByteArray)) (t : ByteArray) : List Ed := edsT B.data.toList es (ksOf t.data.toList)
theorem bIdx_one {l : List UInt8} {f : ByteArray} (h : 0 ≤ bIdx l f.data.toList) : f = ⟨#[f.data.toList.headD 0]⟩ ∧ f.data.toList.headD 0 ∈ l := by
  obtain ⟨c, hc, hm, _⟩ := bIdx_some h
  have : f.data.toList.headD 0 = c := by rw [hc]; rfl
  rw [this]
  exact ⟨bytes_one hc, hm⟩

/-- what a tree gives -/
theorem tree_pack {B : ByteArray} {es : List (ByteArray × ByteArray)} {t : ByteArray} (h : treeV B es t = true) :
    Valid B.data.toList (ebs es) ∧ Known es.length t.data.toList ∧ t.size ≤ 6 ∧ Fr (edsOf B es t) ∧ (∀ e ∈ edsOf B es t, e.a ∈ B.data.toList ∧ e.b ∈ B.data.toList) ∧ (∀ a ∈ B.data.toList, ∀ b ∈ B.data.toList, Cn (edsOf B es t) a b) ∧ (msP B.data.toList es (ksOf t.data.toList)).length ≤ 100 := by
  obtain ⟨hV, hK, hsz, hfo⟩ := decB_iff.1 h
  have h8 := (valid_sizes hV).1
  have hl : t.data.toList.length = t.size := by simp
  have hlb : B.data.toList.length = B.size := by simp
  have hks : ∀ k ∈ ksOf t.data.toList, k < es.length := by
    intro k hk
    unfold ksOf at hk
    obtain ⟨c, hc, rfl⟩ := List.mem_map.1 hk
    obtain ⟨i, hi, he⟩ := List.mem_iff_getElem.1 hc
    have := (hK.at (i := i) hi).2
    rw [List.getD_eq_getElem?_getD, List.getElem?_eq_getElem hi, he] at this
    exact this
  obtain ⟨h1, h2, h3⟩ := tree_ways (ks := ksOf t.data.toList) hV.1.1 hV.1.2 hks (by unfold ksOf; rw [List.length_map]; omega) (by rw [hlb]; exact hfo)
  refine ⟨hV, hK, by omega, h1, h2, h3, ?_⟩
  rw [msP_len]
  unfold ksOf
  rw [List.length_map]
  omega

end Go.Proofs.Ytjfdkhaepmmlfaa

namespace Go.Proofs.Ytjfdkhaepmmlfaa
open Go.RowKit

/-- a name of an edge, or z -/
def NmOk (c : UInt8) : Prop := c = 122 ∨ 97 ≤ c.toNat ∧ c.toNat < 113

/-- moves along edges of a net, and z -/
def OfNet (n : Nat) (p : List Mv) : Prop := ∀ m ∈ p, m.nm = 122 ∨ ∃ k, k < n ∧ m.nm = nameOf k
theorem fr_ne : ∀ {U : List Ed}, Fr U → ∀ e ∈ U, e.a ≠ e.b
  | e :: U, h, x, hx => by
    rcases List.mem_cons.1 hx with rfl | hx
    · intro he
      refine h.2 ?_
      rw [he]
      exact Cn.refl _ _
    · exact fr_ne h.1 x hx
theorem nm_ok {B : ByteArray} {es : List (ByteArray × ByteArray)} {t : ByteArray} (h : treeV B es t = true) : ∀ e ∈ edsOf B es t, NmOk e.nm := by
  obtain ⟨hV, hK, _⟩ := tree_pack h
  have h16 := (valid_sizes hV).2
  intro e he
  unfold edsOf edsT at he
  rcases List.mem_append.1 he with he | he
  · obtain ⟨k, hk, rfl⟩ := List.mem_map.1 (List.mem_reverse.1 he)
    unfold ksOf at hk
    obtain ⟨c, hc, rfl⟩ := List.mem_map.1 hk
    obtain ⟨i, hi, hx⟩ := List.mem_iff_getElem.1 hc
    have := (hK.at (i := i) hi).2
    rw [List.getD_eq_getElem?_getD, List.getElem?_eq_getElem hi, hx] at this
    have hlt : c.toNat - 97 < es.length := this
    right
    show 97 ≤ (nameOf (c.toNat - 97)).toNat ∧ (nameOf (c.toNat - 97)).toNat < 113
    rw [nameOf_toNat (by omega)]
    omega
  · simp at he
    subst he
    exact .inl rfl

theorem of_tree {B : ByteArray} {es : List (ByteArray × ByteArray)} {t : ByteArray} (h : treeV B es t = true) : ∀ e ∈ edsOf B es t, e.nm = 122 ∨ ∃ k, k < es.length ∧ e.nm = nameOf k := by
  obtain ⟨hV, hK, _⟩ := tree_pack h
  intro e he
  unfold edsOf edsT at he
  rcases List.mem_append.1 he with he | he
  · obtain ⟨k, hk, rfl⟩ := List.mem_map.1 (List.mem_reverse.1 he)
    unfold ksOf at hk
    obtain ⟨c, hc, rfl⟩ := List.mem_map.1 hk
    obtain ⟨i, hi, hx⟩ := List.mem_iff_getElem.1 hc
    have := (hK.at (i := i) hi).2
    rw [List.getD_eq_getElem?_getD, List.getElem?_eq_getElem hi, hx] at this
    exact .inr ⟨_, this, rfl⟩
  · simp at he
    subst he
    exact .inl rfl
/-- the height of a block, by the values of a net -/
noncomputable def hgtB (B : ByteArray) (es : List (ByteArray × ByteArray)) (t : ByteArray) (F : Nat → Nat) (x : UInt8) : Int := hgtM F (edsOf B es t) (entry B.data.toList) x

theorem wk_of {n : Nat} {U : List Ed} (hU : ∀ e ∈ U, e.nm = 122 ∨ ∃ k, k < n ∧ e.nm = nameOf k) : ∀ {p : List Mv} {a b : UInt8}, Wk U a p b → OfNet n p
  | [], _, _, _ => fun m hm => by cases hm
  | m :: p, a, b, h => fun x hx => by
    rcases List.mem_cons.1 hx with rfl | hx
    · obtain ⟨e, he, hm⟩ := mem_mvs.1 h.1
      rcases hm with rfl | rfl
      · exact hU e he
      · exact hU e he
    · exact wk_of hU h.2.2 x hx
/-- what the way from the entry to a block is -/
theorem way_pack {B : ByteArray} {es : List (ByteArray × ByteArray)} {t : ByteArray} (h : treeV B es t = true) {x : UInt8} (hx : x ∈ B.data.toList) : OfNet es.length (wayP (edsOf B es t) (entry B.data.toList) x) ∧ (wayP (edsOf B es t) (entry B.data.toList) x).length ≤ 7 := by
  obtain ⟨hV, _, _, hf, hU, hcn, _⟩ := tree_pack h
  have h2 : 2 ≤ B.data.toList.length := hV.1.1.1
  obtain ⟨m1, _⟩ := entry_exit h2 hV.1.1.2.2.2
  obtain ⟨p0, h0⟩ := hcn _ m1 _ hx
  obtain ⟨p, h1, h2⟩ := wk_nb p0 _ _ h0
  rw [wayP_eq hf ⟨h1, h2⟩]
  exact ⟨wk_of (of_tree h) h1, nb_short hf hU hV.1.1.2.1 m1 ⟨h1, h2⟩⟩

/-- the step of an edge -/
def stpE (F : Nat → Nat) (G : UInt8 → Int) (es : List (ByteArray × ByteArray)) (k : Nat) : Int := ((F k : Nat) : Int) + G (edK es k).a - G (edK es k).b
/-- what values and heights may be -/
structure Tame (l : List UInt8) (F : Nat → Nat) (G : UInt8 → Int) : Prop where
  val : ∀ k, F k ≤ 4294967296
  hgt : ∀ x ∈ l, -34359738368 ≤ G x ∧ G x ≤ 34359738368

theorem tame_of {B : ByteArray} {es : List (ByteArray × ByteArray)} {t : ByteArray} {F : Nat → Nat} (ht : treeV B es t = true) (hF : ∀ k, F k ≤ 4294967296) : Tame B.data.toList F (hgtB B es t F) := by
  obtain ⟨hV, _, _, hf, hU, hcn, _⟩ := tree_pack ht
  have h2 : 2 ≤ B.data.toList.length := hV.1.1.1
  obtain ⟨m1, _⟩ := entry_exit h2 hV.1.1.2.2.2
  exact ⟨hF, fun x hx => hgt_few hF hf hU hV.1.1.2.1 m1 (hcn _ m1 _ hx)⟩
theorem stp_few {l : List UInt8} {F : Nat → Nat} {G : UInt8 → Int} (h : Tame l F G) {es : List (ByteArray × ByteArray)} (hE : EdgesOk l (ebs es)) {k : Nat} (hk : k < es.length) : -137438953472 ≤ stpE F G es k ∧ stpE F G es k ≤ 137438953472 := by
  obtain ⟨_, _, ha, hb, _⟩ := edK_at hE hk
  have h1 := h.hgt _ ha; have h2 := h.hgt _ hb; have h3 := h.val k
  unfold stpE
  omega

end Go.Proofs.Ytjfdkhaepmmlfaa

namespace Go.Proofs.Ytjfdkhaepmmlfaa
open Go.RowKit

/-- a number, and whether there is one -/
noncomputable def ibV (ok : Prop) (v : Int) : Int × Bool := open Classical in if ok then (v, true) else (0, false)
theorem ibV_yes {ok : Prop} {v : Int} (h : ok) : ibV ok v = (v, true) := if_pos h
theorem ibV_no {ok : Prop} {v : Int} (h : ¬ ok) : ibV ok v = (0, false) := if_neg h
def IBPost (q : Int × Bool) (w : World) (e : Ending) (w' : World) : Prop := e = .returned (.tuple #[.int .i64 q.1, .bool q.2]) ∧ Below w.heap.size w w'

/-- the values of a net -/
noncomputable def valB (B : ByteArray) (es : List (ByteArray × ByteArray)) : Nat → Nat := valE (ebs es) (exit_ B.data.toList)
/-- the steps of a net with a tree -/
noncomputable def stpB (B : ByteArray) (es : List (ByteArray × ByteArray)) (t : ByteArray) (k : Nat) : Int := stpE (valB B es) (hgtB B es t (valB B es)) es k

noncomputable def heightV (B : ByteArray) (es : List (ByteArray × ByteArray)) (t b : ByteArray) : Int × Bool := ibV (askV B es t = true ∧ 0 ≤ bIdx B.data.toList b.data.toList) (hgtB B es t (valB B es) (b.data.toList.headD 0))
noncomputable def stpV (B : ByteArray) (es : List (ByteArray × ByteArray)) (t b : ByteArray) : Int × Bool := ibV (askV B es t = true ∧ 0 ≤ eIdx es.length b.data.toList) (stpB B es t (eIdx es.length b.data.toList).toNat)
noncomputable def stpsV (B : ByteArray) (es : List (ByteArray × ByteArray)) (t : ByteArray) : List Int × Bool := if askV B es t = true then ((List.range es.length).map (stpB B es t), true) else ([], false)
def sumK : List Int → Int
  | [] => 0
  | x :: r => x + sumK r
theorem sumK_append : ∀ (a b : List Int), sumK (a ++ b) = sumK a + sumK b
  | [], b => by simp [sumK]
  | x :: a, b => by
    have := sumK_append a b
    show x + sumK (a ++ b) = x + sumK a + sumK b
    omega
/-- how many are not zero -/
def cntK (xs : List Int) : Nat := (xs.filter fun x => x != 0).length
theorem cntK_snoc (xs : List Int) (x : Int) : cntK (xs ++ [x]) = cntK xs + if x = 0 then 0 else 1 := by
  unfold cntK
  rw [List.filter_append, List.length_append]
  by_cases h : x = 0
  · simp [h]
  · simp [h]
theorem cntK_le (xs : List Int) : cntK xs ≤ xs.length := List.length_filter_le _ _
noncomputable def addsTV (B : ByteArray) (es : List (ByteArray × ByteArray)) (t : ByteArray) : Int := if askV B es t = true then ((cntK ((List.range es.length).map (stpB B es t)) : Nat) : Int) else -1
noncomputable def sumTV (B : ByteArray) (es : List (ByteArray × ByteArray)) (t p : ByteArray) : Int × Bool := ibV (askV B es t = true ∧ pathV B es p = true) (sumK ((ksOf p.data.toList).map (stpB B es t)))
noncomputable def addsOnV (B : ByteArray) (es : List (ByteArray × ByteArray)) (t p : ByteArray) : Int := if askV B es t = true ∧ pathV B es p = true then ((cntK ((ksOf p.data.toList).map (stpB B es t)) : Nat) : Int) else -1

theorem valB_few {B : ByteArray} {es : List (ByteArray × ByteArray)} (ha : ∀ k, valE (ebs es) (exit_ B.data.toList) k ≤ 4294967296) : ∀ k, valB B es k ≤ 4294967296 := ha

end Go.Proofs.Ytjfdkhaepmmlfaa
