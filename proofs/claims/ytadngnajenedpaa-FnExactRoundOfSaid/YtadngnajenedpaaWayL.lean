/- A search for a way, block by block. -/
import Derived.Test.YtadngnajenedpaaWayJ
import Derived.Test.YtadngnajenedpaaWayK
namespace Go.Proofs.Ytadngnajenedpaa
open Go.RowKit

/-- blocks that were met, and the ways to them -/
abbrev MetW := List (UInt8 × List Mv)
def keysW (D : MetW) : List UInt8 := D.map (·.1)
structure MetP (U : List Ed) (a : UInt8) (D : MetW) : Prop where
  ways : ∀ x ∈ D, NbWay U a x.1 x.2 ∧ ∀ s ∈ stops a x.2, s ∈ keysW D
  nodup : (keysW D).Nodup
  start : a ∈ keysW D
theorem metP_one (U : List Ed) (a : UInt8) : MetP U a [(a, [])] := by
  refine ⟨fun x hx => ?_, by simp [keysW], by simp [keysW]⟩
  simp at hx
  subst hx
  exact ⟨⟨rfl, True.intro⟩, fun s hs => by simpa [stops, keysW] using hs⟩
theorem nb_snoc {U : List Ed} {m : Mv} : ∀ (p : List Mv) (a : UInt8), Wk U a p m.fr → NB p → (∀ s ∈ stops a p, s ≠ m.tb) → NB (p ++ [m])
  | [], a, _, _, _ => True.intro
  | [n], a, h, _, hs => ⟨fun e => hs a (by simp [stops]) (by rw [← h.2.1]; exact e.symm), True.intro⟩
  | n :: n2 :: p, a, h, hn, hs => ⟨hn.1, nb_snoc (n2 :: p) n.tb h.2.2 hn.2 (fun s hs' => hs s (by
      have e : stops a (n :: n2 :: p) = a :: stops n.tb (n2 :: p) := rfl
      rw [e]; exact List.mem_cons_of_mem _ hs'))⟩
theorem stops_snoc (a : UInt8) (p : List Mv) (m : Mv) : stops a (p ++ [m]) = stops a p ++ [m.tb] := by simp [stops]
theorem wk_last {U : List Ed} : ∀ {p : List Mv} {a b : UInt8}, Wk U a p b → b ∈ stops a p
  | [], a, b, h => by have : a = b := h; subst this; simp [stops]
  | m :: p, a, b, h => by
    have := wk_last (p := p) h.2.2
    have e : stops a (m :: p) = a :: stops m.tb p := rfl
    rw [e]; exact List.mem_cons_of_mem _ this
theorem keysW_append (D : MetW) (x : UInt8 × List Mv) : keysW (D ++ [x]) = keysW D ++ [x.1] := by simp [keysW]
theorem MetP.push {U : List Ed} {a b : UInt8} {p : List Mv} {m : Mv} {D : MetW} (h : MetP U a D) (hx : (b, p) ∈ D) (hm : m ∈ mvs U) (hb : m.fr = b) (hn : m.tb ∉ keysW D) : MetP U a (D ++ [(m.tb, p ++ [m])]) := by
  obtain ⟨⟨h1, h2⟩, h3⟩ := h.ways _ hx
  subst hb
  refine ⟨fun x hx => ?_, ?_, by rw [keysW_append]; exact List.mem_append_left _ h.start⟩
  · rw [keysW_append]
    rcases List.mem_append.1 hx with hx | hx
    · exact ⟨(h.ways x hx).1, fun s hs => List.mem_append_left _ ((h.ways x hx).2 s hs)⟩
    · simp at hx
      subst hx
      refine ⟨⟨h1.append ⟨hm, rfl, rfl⟩, nb_snoc p a h1 h2 fun s hs e => hn (e ▸ h3 s hs)⟩, fun s hs => ?_⟩
      rw [stops_snoc] at hs
      rcases List.mem_append.1 hs with hs | hs
      · exact List.mem_append_left _ (h3 s hs)
      · exact List.mem_append_right _ hs
  · rw [keysW_append]
    exact List.nodup_append.2 ⟨h.nodup, by simp, fun x hx y hy => by simp at hy; subst hy; exact fun e => hn (e ▸ hx)⟩
theorem MetP.len {U : List Ed} {a : UInt8} {D : MetW} {l : List UInt8} (h : MetP U a D) (hU : ∀ e ∈ U, e.a ∈ l ∧ e.b ∈ l) (ha : a ∈ l) : D.length ≤ l.length := by
  have := nodup_len h.nodup (b := l) (fun x hx => by
    obtain ⟨y, hy, rfl⟩ := List.mem_map.1 hx
    have := (h.ways y hy).1.1
    exact wk_in hU ha this _ (wk_last this))
  simpa [keysW] using this
/-- what lies behind the first blocks was met -/
def Clo (U : List Ed) (D : MetW) (i : Nat) : Prop := ∀ j x, j < i → D[j]? = some x → ∀ m ∈ mvs U, m.fr = x.1 → m.tb ∈ keysW D
theorem clo_reach {U : List Ed} {D : MetW} {t : UInt8} (h : Clo U D D.length) : ∀ (p : List Mv) (c : UInt8), c ∈ keysW D → Wk U c p t → t ∈ keysW D
  | [], c, hc, hw => by have : c = t := hw; rw [← this]; exact hc
  | m :: p, c, hc, hw => by
    obtain ⟨x, hx, hxc⟩ := List.mem_map.1 hc
    obtain ⟨j, hj, he⟩ := List.mem_iff_getElem.1 hx
    refine clo_reach h p m.tb (h j x hj (by rw [List.getElem?_eq_getElem hj, he]) m hw.1 ?_) hw.2.2
    rw [hw.2.1]; exact hxc.symm
theorem Clo.next {U : List Ed} {D D1 : MetW} {i : Nat} {b : UInt8} {p : List Mv} {outs : List Mv} (h : Clo U D i) (hp : D <+: D1) (hi : D[i]? = some (b, p)) (hou : ∀ m ∈ mvs U, m.fr = b → m ∈ outs) (hin : ∀ m ∈ outs, m.tb ∈ keysW D1) : Clo U D1 (i + 1) := by
  obtain ⟨r, hr⟩ := hp
  have hil : i < D.length := (List.getElem?_eq_some_iff.1 hi).1
  intro j x hj hx m hm hf
  have hj2 : D[j]? = some x := by rw [← hr, List.getElem?_append_left (by omega)] at hx; exact hx
  by_cases hji : j < i
  · have := h j x hji hj2 m hm hf
    rw [← hr]; simp only [keysW, List.map_append]; exact List.mem_append_left _ this
  · have : j = i := by omega
    subst this
    rw [hi] at hj2
    injection hj2 with e
    subst e
    exact hin m (hou m hm hf)
theorem mem_outM {U : List Ed} {c : UInt8} {m : Mv} : m ∈ outM U c ↔ m ∈ mvs U ∧ m.fr = c := by
  unfold outM; rw [List.mem_filter]; simp
theorem mem_outT {l : List UInt8} {es : List (ByteArray × ByteArray)} {ks : List Nat} {c : UInt8} {m : Mv} : m ∈ outM (ks.map (edK es) ++ [edZ l]) c ↔ m ∈ mvs (edsT l es ks) ∧ m.fr = c := by
  rw [mem_outM, mem_mvs, mem_mvs]
  unfold edsT
  simp only [List.mem_append, List.mem_reverse]

/-- the ways, as cells -/
def txtsW (D : MetW) : List Value := D.map fun x => .string ⟨(txtM x.2).toArray⟩
/-- what holds while the model searches -/
structure SeaW (w : World) (B : ByteArray) (A : Option Addr) (n cap : Nat) (v : Value) (D : MetW) (wr : World) : Prop where
  below : Below w.heap.size w wr
  two : Two wr w.heap.size B A n cap
  own : wr.ownsRow (w.heap.size + 1) 9 1 v D.length (txtsW D)
  size : w.heap.size + 1 ≤ wr.heap.size
theorem SeaW.go {w wr W : World} {B : ByteArray} {A : Option Addr} {n cap : Nat} {v : Value} {D : MetW} (h : SeaW w B A n cap v D wr) (k : Below wr.heap.size wr W) : SeaW w B A n cap v D W :=
  ⟨h.below.trans (k.mono h.below.size), h.two.below k (by have := h.size; omega), ownsRow_of_block h.own fun b hb => k.block b (ownBlock_lt h.own hb).2, Nat.le_trans h.size k.size⟩
theorem SeaW.push {w wr W : World} {B : ByteArray} {A : Option Addr} {n cap : Nat} {v v' : Value} {D D' : MetW} (h : SeaW w B A n cap v D wr) (k : wr.grownBy W v.ownBlock) (hq : W.ownsRow (w.heap.size + 1) 9 1 v' D'.length (txtsW D')) : SeaW w B A n cap v' D' W := by
  have hn : ∀ c, c < w.heap.size + 1 → some c ≠ v.ownBlock := fun c hc => own_block h.own hc
  exact ⟨h.below.grown k h.below.size (fun q e => Nat.le_of_not_lt fun hq => hn q (by omega) e.symm), h.two.grown k (by have := h.size; omega) (hn _ (by omega)), hq, Nat.le_trans h.size k.size⟩
/-- texts that an append leaves alone -/
structure Beside (v : Value) (A : Option Addr) (ts : List ByteArray) (W : World) : Prop where
  texts : TextsIn W W.heap.size A ts
  apart : ∀ a, A = some a → a.block < W.heap.size ∧ some a.block ≠ v.ownBlock
theorem Beside.push {v v' : Value} {A : Option Addr} {ts : List ByteArray} {W W' : World} (h : Beside v A ts W) (k : W.grownBy W' v.ownBlock) (hat : v'.ownBlock = v.ownBlock ∨ v'.ownBlock = some W.heap.size) : Beside v' A ts W' := by
  refine ⟨(h.texts.grown_low k (Nat.le_refl _) fun a e => (h.apart a e).2).more k.size, fun a e => ?_⟩
  obtain ⟨h1, h2⟩ := h.apart a e
  refine ⟨Nat.lt_of_lt_of_le h1 k.size, ?_⟩
  rcases hat with hat | hat
  · rw [hat]; exact h2
  · rw [hat]; intro e; injection e with e; omega
theorem Beside.go {v : Value} {A : Option Addr} {ts : List ByteArray} {W W' : World} (h : Beside v A ts W) (k : Below W.heap.size W W') : Beside v A ts W' :=
  ⟨(h.texts.below k).more k.size, fun a e => ⟨Nat.lt_of_lt_of_le (h.apart a e).1 k.size, (h.apart a e).2⟩⟩
theorem beside_own {W' : World} {v : Value} {A : Option Addr} {ts : List ByteArray} {n base : Nat} (h : TextsIn W' W'.heap.size A ts) (ho : OwnTexts W' base A n) (hv : ∀ q, v.ownBlock = some q → q < base) : Beside v A ts W' := by
  refine ⟨h, fun a e => ?_⟩
  rcases ho with ⟨_, h⟩ | ⟨g, _, _, h, hg, hlt, _⟩
  · rw [h] at e; cases e
  · rw [h] at e; injection e with e; subst e
    exact ⟨hlt, fun e => by have := hv g e.symm; omega⟩

section
variable {w : World} {P : Program}
/-- an append to a row of the call's own, where a region draws its order: what the row held stays where it lay; and where the row then lies -/
theorem step_append_keptW {ops : Array Oper} {o : Oper} {a : Act} {K : Act → World → Prop} {Q : Exit → Act → World → Prop} {E : Prop} (hgd : o.guard = none) (s x : Operand) (t : TypeId)
    (ho : o.op = .call { callee := .builtin .append, args := #[s, x], argTypes := #[t, t] })
    (base : Nat) (e : TypeId) (i : TypeInfo) (z : Value) (size bytes : Nat) (ht : P.underlying t = some (.slice e)) (hi : P.info? e = some i) (hz : i.zero = some z)
    (hsize : i.size = size) (hby : i.bytes = bytes) (hzs : z.cells.size = size) (hsz : 0 < size)
    (g0 c0 : Nat) (n : Nat) (xs : List Value) (hs : a.eval s = .slice (some ⟨g0, 0, none⟩) n c0) (hown : w.ownsRow base e size (.slice (some ⟨g0, 0, none⟩) n c0) n xs)
    (ad : Addr) (m c : Nat) (news : List Value) (hx : a.eval x = .slice (some ad) m c) (hl : news.length = m * size) (hnews : ∀ j u, news[j]? = some u → w.cell? (ad.add j) = some u) (h1 : ∀ u ∈ news, u.oneCell' = true)
    (h63 : n + m ≤ maxLen) (hbytes : (n + m) * bytes ≤ 140737488355328) (hbase : base ≤ w.heap.size)
    (h : ∀ v' w', w'.ownsRow base e size v' (n + m) (xs ++ news) → w.grownBy w' (Value.slice (some ⟨g0, 0, none⟩) n c0).ownBlock → (∀ j u, xs[j]? = some u → w'.cell? ((⟨g0, 0, none⟩ : Addr).add j) = some u) → (v'.ownBlock = some g0 ∨ v'.ownBlock = some w.heap.size) → K (a.put o.dst v') w') :
    if Region.wanted o (yielded ops a.tmps) = true then Oper.wp P o a w K Q else E := by
  have hw : Region.wanted o (yielded ops a.tmps) = true := by simp [Region.wanted, hgd]
  rw [if_pos hw]
  obtain ⟨v', w', hr, h2, h3, -, h5⟩ := run_append_own_at (P := P) w base t o.type e i z size bytes ht hi hz hsize hby hzs hsz _ n xs hown ad m c news hl hnews h1 h63 hbytes hbase
  have hk : ∀ j u, xs[j]? = some u → w'.cell? ((⟨g0, 0, none⟩ : Addr).add j) = some u := by
    have hcs := hown.cells (g := g0) rfl
    subst hsize
    subst hby
    rcases hown.2 with ⟨h, -⟩ | ⟨g, cap, cur, hv, hbg, hg, hnc, hcm, hcz, htake⟩
    · simp at h
    · injection hv with e1 e2 e3
      injection e1 with e1
      injection e1 with e1
      subst e1; subst e3
      by_cases hroom : n + m ≤ c0
      · have hfit : n * i.size + news.length ≤ cur.size := by rw [hl, hcz, ← Nat.add_mul]; exact Nat.mul_le_mul_right _ hroom
        have hr2 := run_append_room (P := P) w t o.type e i ht hi g0 n c0 cur hg ad m c news hl hnews h1 hroom hfit
        rw [hr2] at hr
        injection hr with e4 e5
        subst e4
        intro j u hj
        refine h2.cells (g := g0) rfl j u ?_
        rw [List.getElem?_append_left (List.getElem?_eq_some_iff.1 hj).1]
        exact hj
      · have hr2 := run_append_grow (P := P) w t o.type e i z ht hi hz ⟨g0, 0, none⟩ n c0 xs hown.1 hcs ad m c news hl hnews (by omega) (by simp only [maxLen] at h63; omega) (growslice_fits (by omega) hbytes)
        rw [hr2] at hr
        injection hr with e4 e5
        subst e5
        intro j u hj
        rw [← hcs j u hj]
        have hlt : g0 < w.drew.heap.size := (Array.getElem?_eq_some_iff.1 hg).1
        have hadd : ((⟨g0, 0, none⟩ : Addr).add j).block = g0 := by unfold Addr.add; split <;> simp_all
        exact (World.cell?_of_block (by rw [hadd]; exact heap_alloc_old w.drew _ hlt)).trans rfl
  unfold Oper.wp execOp
  simp only [ho, resolve, invoke, builtin, Sem.run_bind, Sem.run_pure, Result.andThen_ok, List.map_toArray, List.map_cons, List.map_nil, hs, hx, hr]
  exact h v' w' h2 h3 hk h5
end

end Go.Proofs.Ytadngnajenedpaa
