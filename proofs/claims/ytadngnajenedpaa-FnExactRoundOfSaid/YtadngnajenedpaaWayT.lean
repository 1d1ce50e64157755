/- Ways in a tree: there is one, and only one that does not turn back at once. -/
import Derived.Test.YtadngnajenedpaaPart
namespace Go.Proofs.Ytadngnajenedpaa
open Go.RowKit

/-- an edge of a tree: its name, the block that it leaves, the block to which it comes -/
structure Ed where
  nm : UInt8
  a : UInt8
  b : UInt8
/-- an edge as it is gone -/
structure Mv where
  sg : UInt8
  nm : UInt8
  fr : UInt8
  tb : UInt8
def plus (e : Ed) : Mv := ⟨43, e.nm, e.a, e.b⟩
def minus (e : Ed) : Mv := ⟨45, e.nm, e.b, e.a⟩
/-- all moves along edges -/
def mvs (U : List Ed) : List Mv := U.flatMap fun e => [plus e, minus e]
theorem mem_mvs {U : List Ed} {m : Mv} : m ∈ mvs U ↔ ∃ e ∈ U, m = plus e ∨ m = minus e := by simp [mvs]
theorem mvs_cons (e : Ed) (U : List Ed) (m : Mv) : m ∈ mvs (e :: U) ↔ (m = plus e ∨ m = minus e) ∨ m ∈ mvs U := by
  simp [mvs, or_assoc]

/-- a way along moves -/
def Wk (U : List Ed) : UInt8 → List Mv → UInt8 → Prop
  | a, [], b => a = b
  | a, m :: p, b => m ∈ mvs U ∧ m.fr = a ∧ Wk U m.tb p b
/-- a way that never turns back at once -/
def NB : List Mv → Prop
  | [] => True
  | [_] => True
  | m :: n :: p => n.tb ≠ m.fr ∧ NB (n :: p)
theorem NB.tail {m : Mv} : ∀ {p : List Mv}, NB (m :: p) → NB p
  | [], _ => True.intro
  | _ :: _, h => h.2
theorem Wk.append {U : List Ed} : ∀ {p : List Mv} {a b c : UInt8} {q : List Mv}, Wk U a p b → Wk U b q c → Wk U a (p ++ q) c
  | [], a, b, c, q, h, k => by have : a = b := h; subst this; exact k
  | m :: p, a, b, c, q, h, k => ⟨h.1, h.2.1, Wk.append h.2.2 k⟩
theorem Wk.split {U : List Ed} : ∀ {p : List Mv} {a c : UInt8} {q : List Mv}, Wk U a (p ++ q) c → ∃ b, Wk U a p b ∧ Wk U b q c
  | [], a, c, q, h => ⟨a, rfl, h⟩
  | m :: p, a, c, q, h => by
    obtain ⟨b, h1, h2⟩ := Wk.split (p := p) h.2.2
    exact ⟨b, ⟨h.1, h.2.1, h1⟩, h2⟩
theorem Wk.more {U V : List Ed} (hUV : ∀ e ∈ U, e ∈ V) : ∀ {p : List Mv} {a b : UInt8}, Wk U a p b → Wk V a p b
  | [], a, b, h => h
  | m :: p, a, b, h => by
    refine ⟨?_, h.2.1, Wk.more hUV h.2.2⟩
    obtain ⟨e, he, hm⟩ := mem_mvs.1 h.1
    exact mem_mvs.2 ⟨e, hUV e he, hm⟩
theorem NB.right : ∀ {p q : List Mv}, NB (p ++ q) → NB q
  | [], q, h => h
  | m :: p, q, h => NB.right (p := p) (NB.tail h)
theorem NB.left : ∀ {p q : List Mv}, NB (p ++ q) → NB p
  | [], q, _ => True.intro
  | [m], q, _ => True.intro
  | m :: n :: p, q, h => ⟨h.1, NB.left (p := n :: p) h.2⟩

/-- two blocks hang together -/
def Cn (U : List Ed) (a b : UInt8) : Prop := ∃ p, Wk U a p b
theorem Cn.refl (U : List Ed) (a : UInt8) : Cn U a a := ⟨[], rfl⟩
theorem Cn.trans {U : List Ed} {a b c : UInt8} : Cn U a b → Cn U b c → Cn U a c := fun ⟨p, h⟩ ⟨q, k⟩ => ⟨p ++ q, h.append k⟩
theorem Cn.step {U : List Ed} {e : Ed} (h : e ∈ U) : Cn U e.a e.b := ⟨[plus e], mem_mvs.2 ⟨e, h, .inl rfl⟩, rfl, rfl⟩
theorem Cn.back {U : List Ed} {e : Ed} (h : e ∈ U) : Cn U e.b e.a := ⟨[minus e], mem_mvs.2 ⟨e, h, .inr rfl⟩, rfl, rfl⟩
theorem Cn.symm {U : List Ed} {a b : UInt8} : Cn U a b → Cn U b a := by
  rintro ⟨p, h⟩
  induction p generalizing a with
  | nil => have : a = b := h; subst this; exact Cn.refl _ _
  | cons m p ih =>
    refine (ih h.2.2).trans ?_
    obtain ⟨e, he, hm⟩ := mem_mvs.1 h.1
    rw [← h.2.1]
    rcases hm with rfl | rfl
    · exact Cn.back he
    · exact Cn.step he
theorem Cn.more {U V : List Ed} (hUV : ∀ e ∈ U, e ∈ V) {a b : UInt8} : Cn U a b → Cn V a b := fun ⟨p, h⟩ => ⟨p, h.more hUV⟩

/-- no way round: the newest edge first -/
def Fr : List Ed → Prop
  | [] => True
  | e :: U => Fr U ∧ ¬ Cn U e.a e.b

/-- the newest edge is gone once at most -/
theorem wk_parts {e : Ed} {U : List Ed} (hn : ¬ Cn U e.a e.b) (hu : ∀ (a : UInt8) (p : List Mv), Wk U a p a → NB p → p = []) : ∀ (p : List Mv) (a b : UInt8), Wk (e :: U) a p b → NB p →
    Wk U a p b ∨ ∃ p0 m p1, p = p0 ++ m :: p1 ∧ (m = plus e ∨ m = minus e) ∧ Wk U a p0 m.fr ∧ Wk U m.tb p1 b
  | [], a, b, h, _ => .inl h
  | m1 :: r, a, b, h, hb => by
    have hm1 := (mvs_cons e U m1).1 h.1
    rcases wk_parts hn hu r m1.tb b h.2.2 hb.tail with h1 | ⟨p0, m, p1, hr, hm, h1, h2⟩
    · rcases hm1 with hm1 | hm1
      · exact .inr ⟨[], m1, r, rfl, hm1, h.2.1.symm, h1⟩
      · exact .inl ⟨hm1, h.2.1, h1⟩
    · rcases hm1 with hm1 | hm1
      · exfalso
        have hc : Cn U m1.tb m.fr := ⟨p0, h1⟩
        rcases hm1 with rfl | rfl <;> rcases hm with rfl | rfl
        · exact hn hc.symm
        · have h0 := hu _ p0 h1 (by rw [hr] at hb; exact (NB.tail hb).left)
          subst h0
          rw [hr] at hb
          exact hb.1 rfl
        · have h0 := hu _ p0 h1 (by rw [hr] at hb; exact (NB.tail hb).left)
          subst h0
          rw [hr] at hb
          exact hb.1 rfl
        · exact hn hc
      · exact .inr ⟨m1 :: p0, m, p1, by rw [hr]; rfl, hm, ⟨hm1, h.2.1, h1⟩, h2⟩

/-- there is only one way that never turns back at once -/
theorem wk_unique : ∀ (U : List Ed), Fr U → ∀ (a b : UInt8) (p q : List Mv), Wk U a p b → NB p → Wk U a q b → NB q → p = q
  | [], _, a, b, p, q, hp, _, hq, _ => by
    have h0 : ∀ (p : List Mv), Wk [] a p b → p = [] := fun p h => by
      cases p with
      | nil => rfl
      | cons m p => have := h.1; simp [mvs] at this
    rw [h0 p hp, h0 q hq]
  | e :: U, hf, a, b, p, q, hp, hpn, hq, hqn => by
    have ih := wk_unique U hf.1
    have hu : ∀ (a : UInt8) (p : List Mv), Wk U a p a → NB p → p = [] := fun a p h1 h2 => ih a a p [] h1 h2 rfl True.intro
    have hends : ∀ {m : Mv}, (m = plus e ∨ m = minus e) → ¬ Cn U m.fr m.tb := by
      rintro m (rfl | rfl)
      · exact hf.2
      · exact fun h => hf.2 h.symm
    rcases wk_parts hf.2 hu p a b hp hpn with h1 | ⟨p0, m, p1, rfl, hm, h1, h2⟩
    · rcases wk_parts hf.2 hu q a b hq hqn with k1 | ⟨q0, n, q1, rfl, hn, k1, k2⟩
      · exact ih a b p q h1 hpn k1 hqn
      · exact (hends hn ((Cn.symm ⟨q0, k1⟩).trans (Cn.trans ⟨p, h1⟩ (Cn.symm ⟨q1, k2⟩)))).elim
    · rcases wk_parts hf.2 hu q a b hq hqn with k1 | ⟨q0, n, q1, rfl, hn, k1, k2⟩
      · exact (hends hm ((Cn.symm ⟨p0, h1⟩).trans (Cn.trans ⟨q, k1⟩ (Cn.symm ⟨p1, h2⟩)))).elim
      · by_cases hmn : m = n
        · subst hmn
          rw [ih a m.fr p0 q0 h1 hpn.left k1 hqn.left, ih m.tb b p1 q1 h2 (NB.tail hpn.right) k2 (NB.tail hqn.right)]
        · have hx : n.fr = m.tb := by
            rcases hm with rfl | rfl <;> rcases hn with rfl | rfl
            · exact absurd rfl hmn
            · rfl
            · rfl
            · exact absurd rfl hmn
          exact (hends hm (by rw [← hx]; exact (Cn.symm ⟨p0, h1⟩).trans ⟨q0, k1⟩)).elim

/-- where there is a way, there is one that never turns back at once -/
theorem wk_nb {U : List Ed} : ∀ (p : List Mv) (a b : UInt8), Wk U a p b → ∃ q, Wk U a q b ∧ NB q
  | [], a, b, h => ⟨[], h, True.intro⟩
  | m :: p, a, b, h => by
    obtain ⟨q, h1, h2⟩ := wk_nb p m.tb b h.2.2
    cases q with
    | nil => exact ⟨[m], ⟨h.1, h.2.1, h1⟩, True.intro⟩
    | cons n q =>
      by_cases hn : n.tb = m.fr
      · refine ⟨q, ?_, NB.tail h2⟩
        have := h1.2.2
        rw [hn, h.2.1] at this
        exact this
      · exact ⟨m :: n :: q, ⟨h.1, h.2.1, h1⟩, hn, h2⟩

/-- the blocks that a way comes to -/
def stops (a : UInt8) (p : List Mv) : List UInt8 := a :: p.map (·.tb)
theorem wk_to_stop {U : List Ed} : ∀ {p : List Mv} {a b c : UInt8}, Wk U a p b → c ∈ stops a p → ∃ p0 p1, p = p0 ++ p1 ∧ Wk U a p0 c ∧ Wk U c p1 b
  | p, a, b, c, h, hc => by
    cases p with
    | nil =>
      simp [stops] at hc
      subst hc
      exact ⟨[], [], rfl, rfl, h⟩
    | cons m p =>
      rcases List.mem_cons.1 hc with rfl | hc
      · exact ⟨[], m :: p, rfl, rfl, h⟩
      · obtain ⟨p0, p1, hp, h1, h2⟩ := wk_to_stop (p := p) (a := m.tb) h.2.2 (by simpa [stops] using hc)
        exact ⟨m :: p0, p1, by rw [hp]; rfl, ⟨h.1, h.2.1, h1⟩, h2⟩
/-- it comes to each block once at most -/
theorem wk_nodup {U : List Ed} (hf : Fr U) : ∀ {p : List Mv} {a b : UInt8}, Wk U a p b → NB p → (stops a p).Nodup
  | [], a, b, _, _ => by simp [stops]
  | m :: p, a, b, h, hn => by
    have ih := wk_nodup hf (p := p) h.2.2 hn.tail
    refine List.nodup_cons.2 ⟨fun hc => ?_, ih⟩
    have hc' : a ∈ stops m.tb p := by simpa [stops] using hc
    obtain ⟨p0, p1, hp, h1, h2⟩ := wk_to_stop h.2.2 hc'
    have : m :: p0 = [] := wk_unique U hf a a (m :: p0) [] ⟨h.1, h.2.1, h1⟩ (by rw [hp] at hn; exact NB.left (p := m :: p0) hn) rfl True.intro
    cases this

end Go.Proofs.Ytadngnajenedpaa
