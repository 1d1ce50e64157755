/- The moves from a block in a tree, by the model: spec.l5Steps. -/
import Derived.Test.YtadngnajenedpaaWayF
import Derived.Test.YtadngnajenedpaaTextsB
import Derived.Test.YtadngnajenedpaaPaths
import Derived.Test.YtadngnajenedpaaAppend
import Derived.Test.YtadngnajenedpaaSpec2
import Derived.Maps.AppendAt
import Derived.BigRegion
namespace Go.Proofs.Ytadngnajenedpaa
open Go.RowKit

/-- the moves from a block -/
def outM (U : List Ed) (c : UInt8) : List Mv := (mvs U).filter fun m => m.fr == c
theorem outM_append (U V : List Ed) (c : UInt8) : outM (U ++ V) c = outM U c ++ outM V c := by simp [outM, mvs]
theorem outM_one (e : Ed) (c : UInt8) : outM [e] c = (if e.a = c then [plus e] else []) ++ (if e.b = c then [minus e] else []) := by
  simp only [outM, mvs, List.flatMap_cons, List.flatMap_nil, List.append_nil]
  have h1 : (plus e).fr = e.a := rfl
  have h2 : (minus e).fr = e.b := rfl
  by_cases c1 : e.a = c <;> by_cases c2 : e.b = c <;> simp [List.filter_cons, h1, h2, c1, c2]
theorem outM_len (U : List Ed) (c : UInt8) : (outM U c).length ≤ 2 * U.length := by
  refine Nat.le_trans (List.length_filter_le _ _) ?_
  induction U with
  | nil => exact Nat.le_refl _
  | cons e U ih =>
    show ([plus e, minus e] ++ mvs U).length ≤ _
    rw [List.length_append]
    simp only [List.length_cons, List.length_nil]
    omega
theorem ks_takeK {l : List UInt8} {i : Nat} (h : i < l.length) : (ksOf l).take (i + 1) = (ksOf l).take i ++ [(l.getD i 0).toNat - 97] := by
  rw [List.take_add_one]
  simp [ksOf, List.getD, h]
theorem edge_madeK (w : World) : ∀ w' : World, Below (w.drew.alloc (.cells #[.string ⟨#[]⟩, .string ⟨#[]⟩] 72)).heap.size (w.drew.alloc (.cells #[.string ⟨#[]⟩, .string ⟨#[]⟩] 72)) w' →
  w'.cell? ⟨w.heap.size, 0, none⟩ = some (.string ⟨#[]⟩) ∧ w'.cell? ⟨w.heap.size, 1, none⟩ = some (.string ⟨#[]⟩) ∧ w'.frozen? ⟨w.heap.size, 0, none⟩ = false ∧ w'.frozen? ⟨w.heap.size, 1, none⟩ = false := fun w' h =>
  ⟨(h.cell (by simp)).trans (by go_simp), (h.cell (by simp)).trans (by go_simp), (h.frozen (by simp)).trans (by go_simp), (h.frozen (by simp)).trans (by go_simp)⟩
/-- as texts -/
def sgT (m : Mv) : ByteArray := ⟨#[m.sg, m.nm]⟩
def tbT (m : Mv) : ByteArray := ⟨#[m.tb]⟩

/-- two rows of the call's own, apart -/
structure Rows2 (w : World) (B : ByteArray) (A : Option Addr) (n cap : Nat) (v t : Value) (D : List Mv) (wr : World) : Prop where
  below : Below w.heap.size w wr
  two : Two wr w.heap.size B A n cap
  ownS : wr.ownsRow (w.heap.size + 1) 9 1 v D.length ((D.map sgT).map Value.string)
  ownT : wr.ownsRow (w.heap.size + 1) 9 1 t D.length ((D.map tbT).map Value.string)
  apart : ∀ q, v.ownBlock = some q → t.ownBlock ≠ some q
  size : w.heap.size + 1 ≤ wr.heap.size
theorem Rows2.go {w wr W : World} {B : ByteArray} {A : Option Addr} {n cap : Nat} {v t : Value} {D : List Mv} (h : Rows2 w B A n cap v t D wr) (k : Below wr.heap.size wr W) : Rows2 w B A n cap v t D W :=
  ⟨h.below.trans (k.mono h.below.size), h.two.below k (by have := h.size; omega), ownsRow_of_block h.ownS fun b hb => k.block b (ownBlock_lt h.ownS hb).2, ownsRow_of_block h.ownT fun b hb => k.block b (ownBlock_lt h.ownT hb).2, h.apart, Nat.le_trans h.size k.size⟩
/-- between the appends: the one row has its move, the other not yet -/
structure Rows2M (w : World) (B : ByteArray) (A : Option Addr) (n cap : Nat) (v t : Value) (D : List Mv) (m : Mv) (wr : World) : Prop where
  below : Below w.heap.size w wr
  two : Two wr w.heap.size B A n cap
  ownS : wr.ownsRow (w.heap.size + 1) 9 1 v (D.length + 1) (((D ++ [m]).map sgT).map Value.string)
  ownT : wr.ownsRow (w.heap.size + 1) 9 1 t D.length ((D.map tbT).map Value.string)
  apart : ∀ q, v.ownBlock = some q → t.ownBlock ≠ some q
  size : w.heap.size + 1 ≤ wr.heap.size
theorem Rows2M.go {w wr W : World} {B : ByteArray} {A : Option Addr} {n cap : Nat} {v t : Value} {D : List Mv} {m : Mv} (h : Rows2M w B A n cap v t D m wr) (k : Below wr.heap.size wr W) : Rows2M w B A n cap v t D m W :=
  ⟨h.below.trans (k.mono h.below.size), h.two.below k (by have := h.size; omega), ownsRow_of_block h.ownS fun b hb => k.block b (ownBlock_lt h.ownS hb).2, ownsRow_of_block h.ownT fun b hb => k.block b (ownBlock_lt h.ownT hb).2, h.apart, Nat.le_trans h.size k.size⟩
theorem Rows2.push {w wr W : World} {B : ByteArray} {A : Option Addr} {n cap : Nat} {v v' t : Value} {D : List Mv} {m : Mv} {s : ByteArray} (h : Rows2 w B A n cap v t D wr) (hs : s = sgT m) (k : wr.grownBy W v.ownBlock) (hat : v'.ownBlock = v.ownBlock ∨ v'.ownBlock = some wr.heap.size) (hq : W.ownsRow (w.heap.size + 1) 9 1 v' (D.length + 1) ((D.map sgT).map Value.string ++ [.string s])) : Rows2M w B A n cap v' t D m W := by
  have hn : ∀ c, c < w.heap.size + 1 → some c ≠ v.ownBlock := fun c hc => ownV_ne h.ownS hc
  refine ⟨h.below.grown k h.below.size (fun q e => Nat.le_of_not_lt fun hq => hn q (by omega) e.symm), h.two.grown k (by have := h.size; omega) (hn _ (by omega)), ?_, ?_, ?_, Nat.le_trans h.size k.size⟩
  · rw [hs] at hq; simpa using hq
  · exact ownsRow_of_block h.ownT fun b hb => k.block b (ownBlock_lt h.ownT hb).2 fun e => h.apart b e.symm hb
  · intro q hq2 hq3
    rcases hat with e | e
    · rw [e] at hq2; exact h.apart q hq2 hq3
    · rw [e] at hq2; injection hq2 with hq2; have := (ownBlock_lt h.ownT hq3).2; omega
theorem Rows2M.push {w wr W : World} {B : ByteArray} {A : Option Addr} {n cap : Nat} {v t t' : Value} {D : List Mv} {m : Mv} {s : ByteArray} (h : Rows2M w B A n cap v t D m wr) (hs : s = tbT m) (k : wr.grownBy W t.ownBlock) (hat : t'.ownBlock = t.ownBlock ∨ t'.ownBlock = some wr.heap.size) (hq : W.ownsRow (w.heap.size + 1) 9 1 t' (D.length + 1) ((D.map tbT).map Value.string ++ [.string s])) : Rows2 w B A n cap v t' (D ++ [m]) W := by
  have hn : ∀ c, c < w.heap.size + 1 → some c ≠ t.ownBlock := fun c hc => ownV_ne h.ownT hc
  refine ⟨h.below.grown k h.below.size (fun q e => Nat.le_of_not_lt fun hq => hn q (by omega) e.symm), h.two.grown k (by have := h.size; omega) (hn _ (by omega)), ?_, ?_, ?_, Nat.le_trans h.size k.size⟩
  · rw [List.length_append]
    exact ownsRow_of_block h.ownS fun b hb => k.block b (ownBlock_lt h.ownS hb).2 fun e => h.apart b hb e.symm
  · rw [hs] at hq; simpa using hq
  · intro q hq2 hq3
    rcases hat with e | e
    · rw [e] at hq3; exact h.apart q hq2 hq3
    · rw [e] at hq3; injection hq3 with hq3; have := (ownBlock_lt h.ownS hq2).2; omega

section
variable {w : World} {P : Program}
/-- an append to a row of the call's own, where a region draws its order; and where the row then lies -/
theorem step_append_at {ops : Array Oper} {o : Oper} {a : Act} {K : Act → World → Prop} {Q : Exit → Act → World → Prop} {E : Prop} (hgd : o.guard = none) (s x : Operand) (t : TypeId)
    (ho : o.op = .call { callee := .builtin .append, args := #[s, x], argTypes := #[t, t] })
    (base : Nat) (e : TypeId) (i : TypeInfo) (z : Value) (size bytes : Nat) (ht : P.underlying t = some (.slice e)) (hi : P.info? e = some i) (hz : i.zero = some z)
    (hsize : i.size = size) (hby : i.bytes = bytes) (hzs : z.cells.size = size) (hsz : 0 < size)
    (v : Value) (n : Nat) (xs : List Value) (hs : a.eval s = v) (hown : w.ownsRow base e size v n xs)
    (ad : Addr) (m c : Nat) (news : List Value) (hx : a.eval x = .slice (some ad) m c) (hl : news.length = m * size) (hnews : ∀ j u, news[j]? = some u → w.cell? (ad.add j) = some u) (h1 : ∀ u ∈ news, u.oneCell' = true)
    (h63 : n + m ≤ maxLen) (hbytes : (n + m) * bytes ≤ 140737488355328) (hbase : base ≤ w.heap.size)
    (h : ∀ v' w', w'.ownsRow base e size v' (n + m) (xs ++ news) → w.grownBy w' v.ownBlock → (v'.ownBlock = v.ownBlock ∨ v'.ownBlock = some w.heap.size) → K (a.put o.dst v') w') :
    if Region.wanted o (yielded ops a.tmps) = true then Oper.wp P o a w K Q else E := by
  have hw : Region.wanted o (yielded ops a.tmps) = true := by simp [Region.wanted, hgd]
  rw [if_pos hw]
  obtain ⟨v', w', hr, h2, h3, -, h5⟩ := run_append_own_at (P := P) w base t o.type e i z size bytes ht hi hz hsize hby hzs hsz v n xs hown ad m c news hl hnews h1 h63 hbytes hbase
  unfold Oper.wp execOp
  simp only [ho, resolve, invoke, builtin, Sem.run_bind, Sem.run_pure, Result.andThen_ok, List.map_toArray, List.map_cons, List.map_nil, hs, hx, hr]
  exact h v' w' h2 h3 h5
end

/-- an edge in memory, apart from both rows -/
structure EdgeAt (W : World) (g : Nat) (x y : ByteArray) (v t : Value) : Prop where
  c0 : W.cell? ⟨g, 0, none⟩ = some (.string x)
  c1 : W.cell? ⟨g, 1, none⟩ = some (.string y)
  lt : g < W.heap.size
  nv : v.ownBlock ≠ some g
  nt : t.ownBlock ≠ some g
theorem EdgeAt.go {W W' : World} {g : Nat} {x y : ByteArray} {v t : Value} (h : EdgeAt W g x y v t) (k : Below W.heap.size W W') : EdgeAt W' g x y v t :=
  ⟨(k.cell h.lt).trans h.c0, (k.cell h.lt).trans h.c1, Nat.lt_of_lt_of_le h.lt k.size, h.nv, h.nt⟩
theorem EdgeAt.pushS {W W' : World} {g : Nat} {x y : ByteArray} {v v' t : Value} (h : EdgeAt W g x y v t) (k : W.grownBy W' v.ownBlock) (hat : v'.ownBlock = v.ownBlock ∨ v'.ownBlock = some W.heap.size) : EdgeAt W' g x y v' t := by
  have hb := k.block g h.lt (fun e => h.nv e.symm)
  refine ⟨(World.cell?_of_block hb).trans h.c0, (World.cell?_of_block hb).trans h.c1, Nat.lt_of_lt_of_le h.lt k.size, fun e => ?_, h.nt⟩
  rcases hat with q | q
  · rw [q] at e; exact h.nv e
  · rw [q] at e; injection e with e; have := h.lt; omega
theorem EdgeAt.pushT {W W' : World} {g : Nat} {x y : ByteArray} {v t t' : Value} (h : EdgeAt W g x y v t) (k : W.grownBy W' t.ownBlock) (hat : t'.ownBlock = t.ownBlock ∨ t'.ownBlock = some W.heap.size) : EdgeAt W' g x y v t' := by
  have hb := k.block g h.lt (fun e => h.nt e.symm)
  refine ⟨(World.cell?_of_block hb).trans h.c0, (World.cell?_of_block hb).trans h.c1, Nat.lt_of_lt_of_le h.lt k.size, h.nv, fun e => ?_⟩
  rcases hat with q | q
  · rw [q] at e; exact h.nt e
  · rw [q] at e; injection e with e; have := h.lt; omega
theorem one_cell (s : ByteArray) : ∀ u ∈ [Value.string s], u.oneCell' = true := by
  intro u hu; simp at hu; subst hu; rfl

theorem sz_ok {n : Nat} (h : n ≤ 110) : n + 1 ≤ maxLen ∧ (n + 1) * 16 ≤ 140737488355328 := ⟨by unfold maxLen; omega, by omega⟩

/-- what the moves from a block are handed back as -/
def StepsPost (D : List Mv) (w : World) (e : Ending) (w' : World) : Prop :=
  ∃ A1 c1 A2 c2, e = .returned (.tuple #[.slice A1 D.length c1, .slice A2 D.length c2]) ∧ TextsIn w' w'.heap.size A1 (D.map sgT) ∧ TextsIn w' w'.heap.size A2 (D.map tbT) ∧ OwnTexts w' w.heap.size A1 D.length ∧ OwnTexts w' w.heap.size A2 D.length ∧ Below w.heap.size w w'

theorem steps_post {w W : World} {B : ByteArray} {A : Option Addr} {n cap : Nat} {v t : Value} {D : List Mv} (h : Rows2 w B A n cap v t D W) : StepsPost D w (.returned (.tuple #[v, t])) W := by
  obtain ⟨A1, c1, hv, h1, h2⟩ := own_texts (ts := D.map sgT) (by have := h.ownS; rwa [← List.length_map (f := sgT)] at this)
  obtain ⟨A2, c2, ht, h3, h4⟩ := own_texts (ts := D.map tbT) (by have := h.ownT; rwa [← List.length_map (f := tbT)] at this)
  rw [List.length_map] at hv ht h2 h4
  exact ⟨A1, c1, A2, c2, by rw [hv, ht], h1, h3, h2.mono (by omega), h4.mono (by omega), h.below⟩

set_option maxRecDepth 100000 in
set_option maxHeartbeats 1000000 in
/-- spec.l5Steps -/
theorem l5Steps_any (B : ByteArray) (A : Option Addr) (cap : Nat) (es : List (ByteArray × ByteArray)) (b : ByteArray) (c : UInt8) (ct : ByteArray) (hct : ct = ⟨#[c]⟩) (w : World) (hs : B.size ≤ maxLen) (hE : EdgesIn w w.heap.size A es) (hl : es.length ≤ 1099511627776) (hV : Valid B.data.toList (ebs es)) (hK : Known es.length b.data.toList) (hb6 : b.size ≤ 6) :
    Calls Try.prog 91 #[.agg #[.string B, .slice A es.length cap], .string b, .string ct] w (StepsPost (outM ((ksOf b.data.toList).map (edK es) ++ [edZ B.data.toList]) c) w) := by
  obtain ⟨i0, hi, hi0, hi1, hi2⟩ := info_parts textCell
  have HI := Lib.hid hi; have HI0 := Lib.hid hi0; have HI1 := Lib.hid hi1; have HI2 := Lib.hid hi2
  have h2 : 2 ≤ B.size := by have := hV.1.1.1; simpa using this
  have HL := Lib.hid hl
  have H16 := Lib.hid (valid_sizes hV).2
  have HLEN : Hid (b.data.toList.length = b.size) := Lib.hid (by simp)
  have HEO := Lib.hid hV.1.2; have HK := Lib.hid hK
  have hlb : B.data.toList.length = B.size := by simp
  obtain ⟨m1, m2, m3, m4⟩ := entry_exit (l := B.data.toList) (by omega) hV.1.1.2.2.2
  have hen : B.extract 0 1 = ⟨#[entry B.data.toList]⟩ := bytes_one (by
    have := letter_at (p := B) (i := 0) (by omega)
    rw [Nat.zero_add] at this
    rw [this, List.getD_eq_getElem?_getD, ← m3, idxL_get m1]; rfl)
  have hex : B.extract (B.size - 1) B.size = ⟨#[exit_ B.data.toList]⟩ := bytes_one (by
    have := letter_at (p := B) (i := B.size - 1) (by omega)
    rw [show B.size - 1 + 1 = B.size by omega] at this
    rw [this, List.getD_eq_getElem?_getD, ← hlb, ← m4, idxL_get m2]; rfl)
  obtain ⟨l, hll⟩ : ∃ l, B.data.toList = l := ⟨_, rfl⟩
  obtain ⟨xe, hxe⟩ : ∃ xe, exit_ l = xe := ⟨_, rfl⟩
  obtain ⟨ye, hye⟩ : ∃ ye, entry l = ye := ⟨_, rfl⟩
  rw [hll, hye] at hen
  rw [hll, hxe] at hex
  rw [hll] at HEO ⊢
  have hne : ¬ xe = ye := fun e => by
    rw [hll, hye] at m3; rw [hll, hxe, e, m3] at m4; rw [← hll] at m4; omega
  obtain ⟨xt, hxt⟩ : ∃ xt : ByteArray, (⟨#[xe]⟩ : ByteArray) = xt := ⟨_, rfl⟩
  obtain ⟨yt, hyt⟩ : ∃ yt : ByteArray, (⟨#[ye]⟩ : ByteArray) = yt := ⟨_, rfl⟩
  have HXT := Lib.hid hxt; have HYT := Lib.hid hyt; have HCT := Lib.hid hct
  rw [hxt] at hex
  rw [hyt] at hen
  have HZE : Hid (edZ l = ⟨122, xe, ye⟩) := Lib.hid (by rw [← hxe, ← hye]; rfl)
  have FEN : Hid (∀ W : World, Calls Try.prog 71 #[.agg #[.string B, .slice A es.length cap]] W fun e w' => e = .returned (.string yt) ∧ Below W.heap.size W w') := Lib.hid fun W => by
    rw [← hen]; exact l1Entry_any B _ W (by omega) hs
  have FEX : Hid (∀ W : World, Calls Try.prog 72 #[.agg #[.string B, .slice A es.length cap]] W fun e w' => e = .returned (.string xt) ∧ Below W.heap.size W w') := Lib.hid fun W => by
    rw [← hex]; exact l1Exit_any B _ W (by omega) hs
  have hb1 : Below w.heap.size w (w.alloc (.cells #[.string B, .slice A es.length cap] 30)) := (Below.refl _ _).alloc (Nat.le_refl _) _
  have t1 := Two.made w B A es.length cap 30
  have hz1 : (w.alloc (.cells #[.string B, .slice A es.length cap] 30)).heap.size = w.heap.size + 1 := by simp
  have HROW : Hid (Rows2 w B A es.length cap (.slice (some ⟨w.heap.size + 1, 0, none⟩) 0 0) (.slice (some ⟨w.heap.size + 2, 0, none⟩) 0 0) [] (((w.alloc (.cells #[.string B, .slice A es.length cap] 30)).alloc (.cells #[] 9)).alloc (.cells #[] 9))) := by
    have hba1 : Below (w.alloc (.cells #[.string B, .slice A es.length cap] 30)).heap.size (w.alloc (.cells #[.string B, .slice A es.length cap] 30)) ((w.alloc (.cells #[.string B, .slice A es.length cap] 30)).alloc (.cells #[] 9)) := (Below.refl _ _).alloc (Nat.le_refl _) _
    have hba2 := hba1.alloc (by simp) (.cells #[] 9)
    have ho1 := World.ownsRow_lit (base := w.heap.size + 1) (w.alloc (.cells #[.string B, .slice A es.length cap] 30)) (e := 9) (size := 1) #[] 0 (by simp) (by unfold maxLen; omega) rfl
    have ho2 := World.ownsRow_lit (base := w.heap.size + 1) ((w.alloc (.cells #[.string B, .slice A es.length cap] 30)).alloc (.cells #[] 9)) (e := 9) (size := 1) #[] 0 (by simp) (by unfold maxLen; omega) rfl
    have hz2 : ((w.alloc (.cells #[.string B, .slice A es.length cap] 30)).alloc (.cells #[] 9)).heap.size = w.heap.size + 2 := by simp
    rw [hz1] at ho1
    rw [hz2] at ho2
    refine ⟨hb1.trans (hba2.mono hb1.size), t1.below hba2 (by omega), ownsRow_of_block ho1 fun q hq => ?_, ho2, fun q h1 h2 => ?_, by simp⟩
    · have := (ownBlock_lt ho1 hq).2
      exact heap_alloc_old _ _ this
    · injection h1 with h1; injection h2 with h2; have h1' : w.heap.size + 1 = q := h1; have h2' : w.heap.size + 2 = q := h2; omega
  clear hxt hyt hct hl hs hV hK hi hi0 hi1 hi2 hen hex m1 m2 m3 m4 hlb hll h2 hxe hye
  go_enter Try.func91, Try.ntmps91
  go_wp2_with fail
  go_loopw [8, 9, 16] (fun vv tt cc wr => ∃ i : Nat, i ≤ b.size ∧ cc = .int .i64 i ∧ Rows2 w B A es.length cap vv tt (outM (((ksOf b.data.toList).take i).map (edK es)) c) wr) (fun _ _ c _ => b.size - (intOf c).toNat)
  case atStart => exact ⟨0, Nat.zero_le _, rfl, by simpa [outM, mvs] using HROW.out⟩
  case round =>
    clear HROW
    obtain ⟨i, hi, rfl, hrow⟩ := hrel
    have hlen := HLEN.out
    by_cases hlt : i < b.size
    case neg =>
      have hib : i = b.size := by omega
      have hke : (ksOf b.data.toList).take i = ksOf b.data.toList := List.take_of_length_le (by simp [ksOf]; omega)
      rw [hke] at hrow
      have HOM : Hid (outM ((ksOf b.data.toList).map (edK es) ++ [edZ l]) c = outM ((ksOf b.data.toList).map (edK es)) c ++ ((if xe = c then [plus (edZ l)] else []) ++ (if ye = c then [minus (edZ l)] else []))) := Lib.hid (by
        rw [outM_append, outM_one, HZE.out])
      have HLD : Hid ((outM ((ksOf b.data.toList).map (edK es)) c).length ≤ 100) := Lib.hid (by
        refine Nat.le_trans (outM_len _ _) ?_
        rw [List.length_map]; simp [ksOf]; omega)
      obtain ⟨D, hD⟩ : ∃ D, outM ((ksOf b.data.toList).map (edK es)) c = D := ⟨_, rfl⟩
      rw [hD] at hrow HOM HLD
      have HROW := Lib.hid hrow
      have hd0 := hrow.two.1; have hd1 := hrow.two.2
      clear hke hib hD hrow hlen
      go_wp2_with fail
      by_cases cx : xe = c
      · have hcy : ¬ ye = c := fun h => hne (cx.trans h.symm)
        have HDD : Hid (outM ((ksOf b.data.toList).map (edK es) ++ [edZ l]) c = D ++ [plus (edZ l)]) := Lib.hid (by rw [HOM.out, if_pos cx, if_neg hcy]; rfl)
        have hq : ct = xt := by rw [HCT.out, ← cx, HXT.out]
        have hf : (ct.toList == yt.toList) = false := by rw [HCT.out, ← HYT.out]; simp [Lib.toList_data]; exact fun h => hcy h.symm
        subst hq
        clear hcy
        refine (FEX.out _).mono ?_
        rintro e w1 ⟨rfl, hb1⟩
        have HR1 := Lib.hid (HROW.out.go hb1)
        have hk01 := HR1.out.two.1; have hk11 := HR1.out.two.2
        clear hb1
        have hbasa : Below w1.heap.size w1 (w1.alloc (.cells #[.string (⟨#[43, 122]⟩)] 9)) := (Below.refl _ _).alloc (Nat.le_refl _) _
        have HRAsa := Lib.hid (HR1.out.go hbasa)
        have HSZsa : Hid ((D).length + 1 ≤ maxLen ∧ ((D).length + 1) * 16 ≤ 140737488355328) := Lib.hid (sz_ok (by have := HLD.out; (try simp only [List.length_append, List.length_cons, List.length_nil]); omega))
        clear hbasa
        go_wp2_with (first
          | (at_builtin
             refine wpList_append_own_at _ rfl (.tmp 67) (.tmp 68) 111 rfl (w.heap.size + 1) 9 i0 (.string ⟨#[]⟩) 1 16 Try.underlying111 HI.out HI0.out HI1.out HI2.out rfl (by decide) _ (D).length (((D).map sgT).map Value.string) rfl HRAsa.out.ownS ⟨w1.heap.size, 0, none⟩ 1 1 [.string (⟨#[43, 122]⟩)] rfl rfl (cell_one_new w1 (.string (⟨#[43, 122]⟩)) 9) (one_cell (⟨#[43, 122]⟩)) (HSZsa.out).1 (HSZsa.out).2 HRAsa.out.size ?_
             intro vsa wsa hownsa hgrsa _ hatsa
             go_must (
             have HRsa := Lib.hid (HRAsa.out.push (m := plus (edZ l)) (by rw [HZE.out]; rfl) hgrsa hatsa hownsa)
             have hj0 := HRsa.out.two.1; have hj1 := HRsa.out.two.2
             clear hownsa hgrsa hatsa)))
        refine (FEN.out _).mono ?_
        rintro e w3 ⟨rfl, hb3⟩
        have HR3 := Lib.hid (HRsa.out.go hb3)
        clear hb3 hj0 hj1
        have hbasb : Below w3.heap.size w3 (w3.alloc (.cells #[.string (yt)] 9)) := (Below.refl _ _).alloc (Nat.le_refl _) _
        have HRAsb := Lib.hid (HR3.out.go hbasb)
        have HSZsb : Hid ((D).length + 1 ≤ maxLen ∧ ((D).length + 1) * 16 ≤ 140737488355328) := Lib.hid (sz_ok (by have := HLD.out; (try simp only [List.length_append, List.length_cons, List.length_nil]); omega))
        clear hbasb
        go_wp2_with (first
          | (at_builtin
             refine wpList_append_own_at _ rfl (.tmp 70) (.tmp 73) 111 rfl (w.heap.size + 1) 9 i0 (.string ⟨#[]⟩) 1 16 Try.underlying111 HI.out HI0.out HI1.out HI2.out rfl (by decide) _ (D).length (((D).map tbT).map Value.string) rfl HRAsb.out.ownT ⟨w3.heap.size, 0, none⟩ 1 1 [.string (yt)] rfl rfl (cell_one_new w3 (.string (yt)) 9) (one_cell (yt)) (HSZsb.out).1 (HSZsb.out).2 HRAsb.out.size ?_
             intro vsb wsb hownsb hgrsb _ hatsb
             go_must (
             have HRsb := Lib.hid (HRAsb.out.push (m := plus (edZ l)) (by rw [← HYT.out, HZE.out]; rfl) hgrsb hatsb hownsb)
             have hj0 := HRsb.out.two.1; have hj1 := HRsb.out.two.2
             clear hownsb hgrsb hatsb)))
        refine (FEN.out _).mono ?_
        rintro e w5 ⟨rfl, hb5⟩
        have HR5 := Lib.hid (HRsb.out.go hb5)
        clear hb5 hj0 hj1
        go_wp2_with fail
        go_ret2
        rw [HDD.out]
        exact steps_post HR5.out
      have hfx : (ct.toList == xt.toList) = false := by rw [HCT.out, ← HXT.out]; simp [Lib.toList_data]; exact fun h => cx h.symm
      refine (FEX.out _).mono ?_
      rintro e w1 ⟨rfl, hb1⟩
      have HR1 := Lib.hid (HROW.out.go hb1)
      have hk01 := HR1.out.two.1; have hk11 := HR1.out.two.2
      clear hb1
      by_cases cy : ye = c
      · have HDD : Hid (outM ((ksOf b.data.toList).map (edK es) ++ [edZ l]) c = D ++ [minus (edZ l)]) := Lib.hid (by rw [HOM.out, if_neg cx, if_pos cy]; rfl)
        have hq : ct = yt := by rw [HCT.out, ← cy, HYT.out]
        subst hq
        go_wp2_with fail
        refine (FEN.out _).mono ?_
        rintro e w2 ⟨rfl, hb2⟩
        have HR2 := Lib.hid (HR1.out.go hb2)
        have hk02 := HR2.out.two.1; have hk12 := HR2.out.two.2
        clear hb2
        have hbasa : Below w2.heap.size w2 (w2.alloc (.cells #[.string (⟨#[45, 122]⟩)] 9)) := (Below.refl _ _).alloc (Nat.le_refl _) _
        have HRAsa := Lib.hid (HR2.out.go hbasa)
        have HSZsa : Hid ((D).length + 1 ≤ maxLen ∧ ((D).length + 1) * 16 ≤ 140737488355328) := Lib.hid (sz_ok (by have := HLD.out; (try simp only [List.length_append, List.length_cons, List.length_nil]); omega))
        clear hbasa
        go_wp2_with (first
          | (at_builtin
             refine wpList_append_own_at _ rfl (.tmp 79) (.tmp 80) 111 rfl (w.heap.size + 1) 9 i0 (.string ⟨#[]⟩) 1 16 Try.underlying111 HI.out HI0.out HI1.out HI2.out rfl (by decide) _ (D).length (((D).map sgT).map Value.string) rfl HRAsa.out.ownS ⟨w2.heap.size, 0, none⟩ 1 1 [.string (⟨#[45, 122]⟩)] rfl rfl (cell_one_new w2 (.string (⟨#[45, 122]⟩)) 9) (one_cell (⟨#[45, 122]⟩)) (HSZsa.out).1 (HSZsa.out).2 HRAsa.out.size ?_
             intro vsa wsa hownsa hgrsa _ hatsa
             go_must (
             have HRsa := Lib.hid (HRAsa.out.push (m := minus (edZ l)) (by rw [HZE.out]; rfl) hgrsa hatsa hownsa)
             have hj0 := HRsa.out.two.1; have hj1 := HRsa.out.two.2
             clear hownsa hgrsa hatsa)))
        refine (FEX.out _).mono ?_
        rintro e w3 ⟨rfl, hb3⟩
        have HR3 := Lib.hid (HRsa.out.go hb3)
        clear hb3 hj0 hj1
        have hbasb : Below w3.heap.size w3 (w3.alloc (.cells #[.string (xt)] 9)) := (Below.refl _ _).alloc (Nat.le_refl _) _
        have HRAsb := Lib.hid (HR3.out.go hbasb)
        have HSZsb : Hid ((D).length + 1 ≤ maxLen ∧ ((D).length + 1) * 16 ≤ 140737488355328) := Lib.hid (sz_ok (by have := HLD.out; (try simp only [List.length_append, List.length_cons, List.length_nil]); omega))
        clear hbasb
        go_wp2_with (first
          | (at_builtin
             refine wpList_append_own_at _ rfl (.tmp 82) (.tmp 85) 111 rfl (w.heap.size + 1) 9 i0 (.string ⟨#[]⟩) 1 16 Try.underlying111 HI.out HI0.out HI1.out HI2.out rfl (by decide) _ (D).length (((D).map tbT).map Value.string) rfl HRAsb.out.ownT ⟨w3.heap.size, 0, none⟩ 1 1 [.string (xt)] rfl rfl (cell_one_new w3 (.string (xt)) 9) (one_cell (xt)) (HSZsb.out).1 (HSZsb.out).2 HRAsb.out.size ?_
             intro vsb wsb hownsb hgrsb _ hatsb
             go_must (
             have HRsb := Lib.hid (HRAsb.out.push (m := minus (edZ l)) (by rw [← HXT.out, HZE.out]; rfl) hgrsb hatsb hownsb)
             have hj0 := HRsb.out.two.1; have hj1 := HRsb.out.two.2
             clear hownsb hgrsb hatsb)))
        go_wp2_with fail
        go_ret2
        rw [HDD.out]
        exact steps_post HRsb.out
      have hfy : (ct.toList == yt.toList) = false := by rw [HCT.out, ← HYT.out]; simp [Lib.toList_data]; exact fun h => cy h.symm
      have HDD : Hid (outM ((ksOf b.data.toList).map (edK es) ++ [edZ l]) c = D) := Lib.hid (by rw [HOM.out, if_neg cx, if_neg cy]; exact List.append_nil _)
      go_wp2_with fail
      refine (FEN.out _).mono ?_
      rintro e w2 ⟨rfl, hb2⟩
      have HR2 := Lib.hid (HR1.out.go hb2)
      have hk02 := HR2.out.two.1; have hk12 := HR2.out.two.2
      clear hb2
      go_wp2_with fail
      go_ret2
      rw [HDD.out]
      exact steps_post HR2.out
    have hex := letter_at (p := b) hlt
    have hka := HK.out.at (i := i) (by have := HLEN.out; omega)
    have hkt := ks_takeK (l := b.data.toList) (i := i) (by have := HLEN.out; omega)
    obtain ⟨ch, hc⟩ : ∃ ch, b.data.toList.getD i 0 = ch := ⟨_, rfl⟩
    rw [hc] at hex hka hkt
    obtain ⟨k, hk⟩ : ∃ k, ch.toNat - 97 = k := ⟨_, rfl⟩
    rw [hk] at hka hkt
    have hcn : nameOf k = ch := by
      have h97 : 97 ≤ ch.toNat := by
        have := hka.1
        unfold eIdx at this
        simp only at this
        split at this
        · rename_i q; exact q.1
        · omega
      apply UInt8.toNat_inj.1
      rw [nameOf_toNat (by have := H16.out; have := hka.2; omega)]
      omega
    have hkl : k < es.length := hka.2
    obtain ⟨q1, q2, _, _, _⟩ := edK_at HEO.out hkl
    have HIX : Hid (eIdx es.length (b.extract i (i + 1)).data.toList = k) := Lib.hid (by rw [hex]; exact hka.1)
    obtain ⟨e, he⟩ : ∃ e, edK es k = e := ⟨_, rfl⟩
    have hnm : e.nm = ch := by rw [← he]; exact hcn
    rw [he] at q1 q2
    have HKEY : Hid (b.extract i (i + 1) = ⟨#[e.nm]⟩) := Lib.hid (by rw [hnm]; exact bytes_one hex)
    have HOM : Hid (outM (((ksOf b.data.toList).take (i + 1)).map (edK es)) c = outM (((ksOf b.data.toList).take i).map (edK es)) c ++ ((if e.a = c then [plus e] else []) ++ (if e.b = c then [minus e] else []))) := Lib.hid (by rw [hkt, List.map_append, outM_append, List.map_cons, List.map_nil, he, outM_one])
    obtain ⟨ea, hea⟩ : ∃ ea : ByteArray, (⟨#[e.a]⟩ : ByteArray) = ea := ⟨_, rfl⟩
    obtain ⟨eb, heb⟩ : ∃ eb : ByteArray, (⟨#[e.b]⟩ : ByteArray) = eb := ⟨_, rfl⟩
    have HEA := Lib.hid hea.symm; have HEB := Lib.hid heb.symm
    rw [hea] at q1
    rw [heb] at q2
    have HX := Lib.hid q1; have HY := Lib.hid q2
    have HLD : Hid ((outM (((ksOf b.data.toList).take i).map (edK es)) c).length ≤ 100) := Lib.hid (by
      refine Nat.le_trans (outM_len _ _) ?_
      rw [List.length_map, List.length_take]; omega)
    obtain ⟨D, hD⟩ : ∃ D, outM (((ksOf b.data.toList).take i).map (edK es)) c = D := ⟨_, rfl⟩
    rw [hD] at hrow HOM HLD
    have HROW := Lib.hid hrow
    have hS : ∀ W, Below wr.heap.size wr W → (W.cell? ⟨w.heap.size, 0, none⟩ = some (.string B) ∧ W.cell? ⟨w.heap.size, 1, none⟩ = some (.slice A es.length cap) ∧ Below wr.heap.size wr W) :=
      fun W h => ⟨(HROW.out.go h).two.1, (HROW.out.go h).two.2, h⟩
    have HSS := Lib.hid hS
    have HA : Hid (∀ W, Below wr.heap.size wr W → EdgesIn W W.heap.size A es) := Lib.hid fun W h => (hE.below (HROW.out.go h).below).more (HROW.out.go h).below.size
    have HF := Lib.hid (edge_madeK wr)
    have a1 : (0 : Int) ≤ (i : Int) := by omega
    have a4 : (0 : Int) ≤ (i : Int) + 1 := by omega
    have a5 : ((i : Int) + 1).toNat = i + 1 := by omega
    have a6 : (i : Int) + 1 ≤ (b.size : Int) := by omega
    have a7 : i + 1 ≤ b.size := by omega
    have a8 : (i : Int) ≤ (i : Int) + 1 := by omega
    have a9 : IntKind.i64.wrap ((i : Int) + 1) = (i : Int) + 1 := IntWalk.i64_in _ (by omega)
    clear hea heb hex hka hkt hc hk hcn q1 q2 he hnm hD hrow hS
    go_wp2_with fail
    go_region_held3 (fun W => W.cell? ⟨w.heap.size, 0, none⟩ = some (.string B) ∧ W.cell? ⟨w.heap.size, 1, none⟩ = some (.slice A es.length cap) ∧ Below wr.heap.size wr W)
      (first
        | exact HSS.out _ (Below.refl _ _).drew
        | exact HSS.out _ ((Below.refl _ _).drew.trans hb4)
        | exact HSS.out _ ((Below.refl _ _).drew.alloc (by simp) _)
        | exact HSS.out _ (((Below.refl _ _).drew.alloc (by simp) _).trans (hb4.mono (by simp)))
        | exact HSS.out _ (((Below.refl _ _).drew.trans hb4).alloc (by first | exact hb4.size | (have := hb4.size; simpa using this)) _)
        | exact HSS.out _ (((((Below.refl _ _).drew.alloc (by simp) _).trans (hb4.mono (by simp))).setCell (by simp) _).setCell (by simp) _)
        | exact HSS.out _ (((((Below.refl _ _).drew.trans hb4).alloc (by first | exact hb4.size | (have := hb4.size; simpa using this)) _).setCell (by first | exact hb4.size | (have := hb4.size; simpa using this)) _).setCell (by first | exact hb4.size | (have := hb4.size; simpa using this)) _))
      (first
        | (go_at_call 61; refine (l2Edge_any B A cap es _ k _ (HA.out _ (by first | exact (Below.refl _ _).drew | exact (Below.refl _ _).drew.alloc (by simp) _)) (by have := HL.out; omega) hkl HIX.out).mono ?_; rw [HX.out, HY.out]; rintro e w4 ⟨rfl, hb4⟩
           first | (have hp := HF.out w4 hb4; obtain ⟨hp0, hp1, hp2, hp3⟩ := hp) | (clear HF)))
    all_goals
      rename_i hHeld
      first
        | (have hc0 : ((w4.setCell ⟨wr.heap.size, 0, none⟩ (.string ea)).setCell ⟨wr.heap.size, 1, none⟩ (.string eb)).cell? ⟨wr.heap.size, 0, none⟩ = some (.string ea) := (World.cell?_setCell_other _ _ _ _ (by intro e; injection e with _ e; omega)).trans (World.cell?_setCell_same' _ _ _ (by rw [hp0]; rfl))
           have hc1 : ((w4.setCell ⟨wr.heap.size, 0, none⟩ (.string ea)).setCell ⟨wr.heap.size, 1, none⟩ (.string eb)).cell? ⟨wr.heap.size, 1, none⟩ = some (.string eb) := World.cell?_setCell_same' _ _ _ (by rw [World.cell?_setCell_other _ _ _ _ (by intro e; injection e with _ e; omega), hp1]; rfl)
           have hg2 : wr.heap.size < ((w4.setCell ⟨wr.heap.size, 0, none⟩ (.string ea)).setCell ⟨wr.heap.size, 1, none⟩ (.string eb)).heap.size := by
             have := hb4.size
             simp at this
             simp [World.setCell]; omega
           have hx5 := hHeld.2.2
           generalize (w4.setCell ⟨wr.heap.size, 0, none⟩ (.string ea)).setCell ⟨wr.heap.size, 1, none⟩ (.string eb) = W5 at hc0 hc1 hg2 hx5 ⊢
           clear hHeld hb4 hp0 hp1 hp2 hp3
           obtain ⟨g, hge⟩ : ∃ g, wr.heap.size = g := ⟨_, rfl⟩
           rw [hge] at hc0 hc1 hg2 ⊢
           have hg1 : wr.heap.size ≤ g := by omega
           clear hge)
        | (have hc0 : (w4.alloc (.cells #[.string ea, .string eb] 72)).cell? ⟨w4.heap.size, 0, none⟩ = some (.string ea) := by go_simp
           have hc1 : (w4.alloc (.cells #[.string ea, .string eb] 72)).cell? ⟨w4.heap.size, 1, none⟩ = some (.string eb) := by go_simp
           have hg2 : w4.heap.size < (w4.alloc (.cells #[.string ea, .string eb] 72)).heap.size := by simp
           have hg1 : wr.heap.size ≤ w4.heap.size := by have := hb4.size; simpa using this
           have hx5 := hHeld.2.2
           generalize w4.alloc (.cells #[.string ea, .string eb] 72) = W5 at hc0 hc1 hg2 hx5 ⊢
           clear hHeld hb4
           obtain ⟨g, hge⟩ : ∃ g, w4.heap.size = g := ⟨_, rfl⟩
           rw [hge] at hc0 hc1 hg2 hg1 ⊢
           clear hge)
      have HROW5 := Lib.hid (HROW.out.go hx5)
      have HE5 : Hid (EdgeAt W5 g ea eb u8 u9) := Lib.hid ⟨hc0, hc1, hg2, fun q => by have := (ownBlock_lt HROW.out.ownS q).2; omega, fun q => by have := (ownBlock_lt HROW.out.ownT q).2; omega⟩
      clear hx5 HSS HA hc0 hc1 hg1 hg2 HROW
      by_cases ca : e.a = c <;> by_cases cb : e.b = c
      · have HDD : Hid (outM (((ksOf b.data.toList).take (i + 1)).map (edK es)) c = D ++ [plus e] ++ [minus e]) := Lib.hid (by rw [HOM.out, if_pos ca, if_pos cb]; simp)
        have hqa : ct = ea := by rw [HCT.out, HEA.out, ca]
        subst hqa
        have hqb : ct = eb := by rw [HCT.out, HEB.out, cb]
        subst hqb
        have hd0 := HE5.out.c0; have hd1 := HE5.out.c1
        have hbapa : Below W5.heap.size W5 (W5.alloc (.cells #[.string (⟨#[43]⟩ ++ b.extract i (i + 1))] 9)) := (Below.refl _ _).alloc (Nat.le_refl _) _
        have HRApa := Lib.hid (HROW5.out.go hbapa)
        have HEApa := Lib.hid (HE5.out.go hbapa)
        have HSZpa : Hid ((D).length + 1 ≤ maxLen ∧ ((D).length + 1) * 16 ≤ 140737488355328) := Lib.hid (sz_ok (by have := HLD.out; (try simp only [List.length_append, List.length_cons, List.length_nil]); omega))
        clear hbapa
        go_wp2_with (first
          | (at_builtin
             refine wpList_append_own_at _ rfl (.tmp 30) (.tmp 37) 111 rfl (w.heap.size + 1) 9 i0 (.string ⟨#[]⟩) 1 16 Try.underlying111 HI.out HI0.out HI1.out HI2.out rfl (by decide) _ (D).length (((D).map sgT).map Value.string) rfl HRApa.out.ownS ⟨W5.heap.size, 0, none⟩ 1 1 [.string (⟨#[43]⟩ ++ b.extract i (i + 1))] rfl rfl (cell_one_new W5 (.string (⟨#[43]⟩ ++ b.extract i (i + 1))) 9) (one_cell (⟨#[43]⟩ ++ b.extract i (i + 1))) (HSZpa.out).1 (HSZpa.out).2 HRApa.out.size ?_
             intro vpa wpa hownpa hgrpa _ hatpa
             go_must (
             have HRpa := Lib.hid (HRApa.out.push (m := plus e) (by rw [HKEY.out]; exact bytes_ext (by rw [Go.Joins.data_append]; rfl)) hgrpa hatpa hownpa)
             have HEpa := Lib.hid (HEApa.out.pushS hgrpa hatpa)
             have hc0p := HEpa.out.c0; have hc1p := HEpa.out.c1
             have hbapb : Below wpa.heap.size wpa (wpa.alloc (.cells #[.string (ct)] 9)) := (Below.refl _ _).alloc (Nat.le_refl _) _
             have HRApb := Lib.hid (HRpa.out.go hbapb)
             have HEApb := Lib.hid (HEpa.out.go hbapb)
             have HSZpb : Hid ((D).length + 1 ≤ maxLen ∧ ((D).length + 1) * 16 ≤ 140737488355328) := Lib.hid (sz_ok (by have := HLD.out; (try simp only [List.length_append, List.length_cons, List.length_nil]); omega))
             clear hbapb
             clear hownpa hgrpa hatpa))
          | (at_builtin
             refine wpList_append_own_at _ rfl (.tmp 39) (.tmp 42) 111 rfl (w.heap.size + 1) 9 i0 (.string ⟨#[]⟩) 1 16 Try.underlying111 HI.out HI0.out HI1.out HI2.out rfl (by decide) _ (D).length (((D).map tbT).map Value.string) rfl HRApb.out.ownT ⟨wpa.heap.size, 0, none⟩ 1 1 [.string (ct)] rfl rfl (cell_one_new wpa (.string (ct)) 9) (one_cell (ct)) (HSZpb.out).1 (HSZpb.out).2 HRApb.out.size ?_
             intro vpb wpb hownpb hgrpb _ hatpb
             go_must (
             have HRpb := Lib.hid (HRApb.out.push (m := plus e) HEB.out hgrpb hatpb hownpb)
             have HEpb := Lib.hid (HEApb.out.pushT hgrpb hatpb)
             have hd0p := HEpb.out.c0; have hd1p := HEpb.out.c1
             have hbama : Below wpb.heap.size wpb (wpb.alloc (.cells #[.string (⟨#[45]⟩ ++ b.extract i (i + 1))] 9)) := (Below.refl _ _).alloc (Nat.le_refl _) _
             have HRAma := Lib.hid (HRpb.out.go hbama)
             have HEAma := Lib.hid (HEpb.out.go hbama)
             have HSZma : Hid ((D ++ [plus e]).length + 1 ≤ maxLen ∧ ((D ++ [plus e]).length + 1) * 16 ≤ 140737488355328) := Lib.hid (sz_ok (by have := HLD.out; (try simp only [List.length_append, List.length_cons, List.length_nil]); omega))
             clear hbama
             clear hownpb hgrpb hatpb))
          | (at_builtin
             refine wpList_append_own_at _ rfl (.tmp 48) (.tmp 55) 111 rfl (w.heap.size + 1) 9 i0 (.string ⟨#[]⟩) 1 16 Try.underlying111 HI.out HI0.out HI1.out HI2.out rfl (by decide) _ (D ++ [plus e]).length (((D ++ [plus e]).map sgT).map Value.string) rfl HRAma.out.ownS ⟨wpb.heap.size, 0, none⟩ 1 1 [.string (⟨#[45]⟩ ++ b.extract i (i + 1))] rfl rfl (cell_one_new wpb (.string (⟨#[45]⟩ ++ b.extract i (i + 1))) 9) (one_cell (⟨#[45]⟩ ++ b.extract i (i + 1))) (HSZma.out).1 (HSZma.out).2 HRAma.out.size ?_
             intro vma wma hownma hgrma _ hatma
             go_must (
             have HRma := Lib.hid (HRAma.out.push (m := minus e) (by rw [HKEY.out]; exact bytes_ext (by rw [Go.Joins.data_append]; rfl)) hgrma hatma hownma)
             have HEma := Lib.hid (HEAma.out.pushS hgrma hatma)
             have hc0m := HEma.out.c0; have hc1m := HEma.out.c1
             have hbamb : Below wma.heap.size wma (wma.alloc (.cells #[.string (ct)] 9)) := (Below.refl _ _).alloc (Nat.le_refl _) _
             have HRAmb := Lib.hid (HRma.out.go hbamb)
             have HEAmb := Lib.hid (HEma.out.go hbamb)
             have HSZmb : Hid ((D ++ [plus e]).length + 1 ≤ maxLen ∧ ((D ++ [plus e]).length + 1) * 16 ≤ 140737488355328) := Lib.hid (sz_ok (by have := HLD.out; (try simp only [List.length_append, List.length_cons, List.length_nil]); omega))
             clear hbamb
             clear hownma hgrma hatma))
          | (at_builtin
             refine wpList_append_own_at _ rfl (.tmp 57) (.tmp 60) 111 rfl (w.heap.size + 1) 9 i0 (.string ⟨#[]⟩) 1 16 Try.underlying111 HI.out HI0.out HI1.out HI2.out rfl (by decide) _ (D ++ [plus e]).length (((D ++ [plus e]).map tbT).map Value.string) rfl HRAmb.out.ownT ⟨wma.heap.size, 0, none⟩ 1 1 [.string (ct)] rfl rfl (cell_one_new wma (.string (ct)) 9) (one_cell (ct)) (HSZmb.out).1 (HSZmb.out).2 HRAmb.out.size ?_
             intro vmb wmb hownmb hgrmb _ hatmb
             go_must (
             have HRmb := Lib.hid (HRAmb.out.push (m := minus e) HEA.out hgrmb hatmb hownmb)
             have HEmb := Lib.hid (HEAmb.out.pushT hgrmb hatmb)
             have hd0m := HEmb.out.c0; have hd1m := HEmb.out.c1
             clear hownmb hgrmb hatmb)))
        go_roundw
        case rel => exact ⟨i + 1, by omega, by go_num, by rw [HDD.out]; exact HRmb.out⟩
        case measure => simp [intOf]; omega
      · have HDD : Hid (outM (((ksOf b.data.toList).take (i + 1)).map (edK es)) c = D ++ [plus e]) := Lib.hid (by rw [HOM.out, if_pos ca, if_neg cb]; simp)
        have hqa : ct = ea := by rw [HCT.out, HEA.out, ca]
        subst hqa
        have hqb : (eb.toList == ct.toList) = false := by rw [HCT.out, HEB.out]; simp [Lib.toList_data]; exact cb
        have hd0 := HE5.out.c0; have hd1 := HE5.out.c1
        have hbapa : Below W5.heap.size W5 (W5.alloc (.cells #[.string (⟨#[43]⟩ ++ b.extract i (i + 1))] 9)) := (Below.refl _ _).alloc (Nat.le_refl _) _
        have HRApa := Lib.hid (HROW5.out.go hbapa)
        have HEApa := Lib.hid (HE5.out.go hbapa)
        have HSZpa : Hid ((D).length + 1 ≤ maxLen ∧ ((D).length + 1) * 16 ≤ 140737488355328) := Lib.hid (sz_ok (by have := HLD.out; (try simp only [List.length_append, List.length_cons, List.length_nil]); omega))
        clear hbapa
        go_wp2_with (first
          | (at_builtin
             refine wpList_append_own_at _ rfl (.tmp 30) (.tmp 37) 111 rfl (w.heap.size + 1) 9 i0 (.string ⟨#[]⟩) 1 16 Try.underlying111 HI.out HI0.out HI1.out HI2.out rfl (by decide) _ (D).length (((D).map sgT).map Value.string) rfl HRApa.out.ownS ⟨W5.heap.size, 0, none⟩ 1 1 [.string (⟨#[43]⟩ ++ b.extract i (i + 1))] rfl rfl (cell_one_new W5 (.string (⟨#[43]⟩ ++ b.extract i (i + 1))) 9) (one_cell (⟨#[43]⟩ ++ b.extract i (i + 1))) (HSZpa.out).1 (HSZpa.out).2 HRApa.out.size ?_
             intro vpa wpa hownpa hgrpa _ hatpa
             go_must (
             have HRpa := Lib.hid (HRApa.out.push (m := plus e) (by rw [HKEY.out]; exact bytes_ext (by rw [Go.Joins.data_append]; rfl)) hgrpa hatpa hownpa)
             have HEpa := Lib.hid (HEApa.out.pushS hgrpa hatpa)
             have hc0p := HEpa.out.c0; have hc1p := HEpa.out.c1
             have hbapb : Below wpa.heap.size wpa (wpa.alloc (.cells #[.string (eb)] 9)) := (Below.refl _ _).alloc (Nat.le_refl _) _
             have HRApb := Lib.hid (HRpa.out.go hbapb)
             have HEApb := Lib.hid (HEpa.out.go hbapb)
             have HSZpb : Hid ((D).length + 1 ≤ maxLen ∧ ((D).length + 1) * 16 ≤ 140737488355328) := Lib.hid (sz_ok (by have := HLD.out; (try simp only [List.length_append, List.length_cons, List.length_nil]); omega))
             clear hbapb
             clear hownpa hgrpa hatpa))
          | (at_builtin
             refine wpList_append_own_at _ rfl (.tmp 39) (.tmp 42) 111 rfl (w.heap.size + 1) 9 i0 (.string ⟨#[]⟩) 1 16 Try.underlying111 HI.out HI0.out HI1.out HI2.out rfl (by decide) _ (D).length (((D).map tbT).map Value.string) rfl HRApb.out.ownT ⟨wpa.heap.size, 0, none⟩ 1 1 [.string (eb)] rfl rfl (cell_one_new wpa (.string (eb)) 9) (one_cell (eb)) (HSZpb.out).1 (HSZpb.out).2 HRApb.out.size ?_
             intro vpb wpb hownpb hgrpb _ hatpb
             go_must (
             have HRpb := Lib.hid (HRApb.out.push (m := plus e) HEB.out hgrpb hatpb hownpb)
             have HEpb := Lib.hid (HEApb.out.pushT hgrpb hatpb)
             have hd0p := HEpb.out.c0; have hd1p := HEpb.out.c1
             clear hownpb hgrpb hatpb)))
        go_roundw
        case rel => exact ⟨i + 1, by omega, by go_num, by rw [HDD.out]; exact HRpb.out⟩
        case measure => simp [intOf]; omega
      · have HDD : Hid (outM (((ksOf b.data.toList).take (i + 1)).map (edK es)) c = D ++ [minus e]) := Lib.hid (by rw [HOM.out, if_neg ca, if_pos cb]; simp)
        have hqa : (ea.toList == ct.toList) = false := by rw [HCT.out, HEA.out]; simp [Lib.toList_data]; exact ca
        have hqb : ct = eb := by rw [HCT.out, HEB.out, cb]
        subst hqb
        have hd0 := HE5.out.c0; have hd1 := HE5.out.c1
        have hbama : Below W5.heap.size W5 (W5.alloc (.cells #[.string (⟨#[45]⟩ ++ b.extract i (i + 1))] 9)) := (Below.refl _ _).alloc (Nat.le_refl _) _
        have HRAma := Lib.hid (HROW5.out.go hbama)
        have HEAma := Lib.hid (HE5.out.go hbama)
        have HSZma : Hid ((D).length + 1 ≤ maxLen ∧ ((D).length + 1) * 16 ≤ 140737488355328) := Lib.hid (sz_ok (by have := HLD.out; (try simp only [List.length_append, List.length_cons, List.length_nil]); omega))
        clear hbama
        go_wp2_with (first
          | (at_builtin
             refine wpList_append_own_at _ rfl (.tmp 48) (.tmp 55) 111 rfl (w.heap.size + 1) 9 i0 (.string ⟨#[]⟩) 1 16 Try.underlying111 HI.out HI0.out HI1.out HI2.out rfl (by decide) _ (D).length (((D).map sgT).map Value.string) rfl HRAma.out.ownS ⟨W5.heap.size, 0, none⟩ 1 1 [.string (⟨#[45]⟩ ++ b.extract i (i + 1))] rfl rfl (cell_one_new W5 (.string (⟨#[45]⟩ ++ b.extract i (i + 1))) 9) (one_cell (⟨#[45]⟩ ++ b.extract i (i + 1))) (HSZma.out).1 (HSZma.out).2 HRAma.out.size ?_
             intro vma wma hownma hgrma _ hatma
             go_must (
             have HRma := Lib.hid (HRAma.out.push (m := minus e) (by rw [HKEY.out]; exact bytes_ext (by rw [Go.Joins.data_append]; rfl)) hgrma hatma hownma)
             have HEma := Lib.hid (HEAma.out.pushS hgrma hatma)
             have hc0m := HEma.out.c0; have hc1m := HEma.out.c1
             have hbamb : Below wma.heap.size wma (wma.alloc (.cells #[.string (ea)] 9)) := (Below.refl _ _).alloc (Nat.le_refl _) _
             have HRAmb := Lib.hid (HRma.out.go hbamb)
             have HEAmb := Lib.hid (HEma.out.go hbamb)
             have HSZmb : Hid ((D).length + 1 ≤ maxLen ∧ ((D).length + 1) * 16 ≤ 140737488355328) := Lib.hid (sz_ok (by have := HLD.out; (try simp only [List.length_append, List.length_cons, List.length_nil]); omega))
             clear hbamb
             clear hownma hgrma hatma))
          | (at_builtin
             refine wpList_append_own_at _ rfl (.tmp 57) (.tmp 60) 111 rfl (w.heap.size + 1) 9 i0 (.string ⟨#[]⟩) 1 16 Try.underlying111 HI.out HI0.out HI1.out HI2.out rfl (by decide) _ (D).length (((D).map tbT).map Value.string) rfl HRAmb.out.ownT ⟨wma.heap.size, 0, none⟩ 1 1 [.string (ea)] rfl rfl (cell_one_new wma (.string (ea)) 9) (one_cell (ea)) (HSZmb.out).1 (HSZmb.out).2 HRAmb.out.size ?_
             intro vmb wmb hownmb hgrmb _ hatmb
             go_must (
             have HRmb := Lib.hid (HRAmb.out.push (m := minus e) HEA.out hgrmb hatmb hownmb)
             have HEmb := Lib.hid (HEAmb.out.pushT hgrmb hatmb)
             have hd0m := HEmb.out.c0; have hd1m := HEmb.out.c1
             clear hownmb hgrmb hatmb)))
        go_roundw
        case rel => exact ⟨i + 1, by omega, by go_num, by rw [HDD.out]; exact HRmb.out⟩
        case measure => simp [intOf]; omega
      · have HDD : Hid (outM (((ksOf b.data.toList).take (i + 1)).map (edK es)) c = D) := Lib.hid (by rw [HOM.out, if_neg ca, if_neg cb]; simp)
        have hqa : (ea.toList == ct.toList) = false := by rw [HCT.out, HEA.out]; simp [Lib.toList_data]; exact ca
        have hqb : (eb.toList == ct.toList) = false := by rw [HCT.out, HEB.out]; simp [Lib.toList_data]; exact cb
        have hd0 := HE5.out.c0; have hd1 := HE5.out.c1
        go_wp2_with fail
        go_roundw
        case rel => exact ⟨i + 1, by omega, by go_num, by rw [HDD.out]; exact HROW5.out⟩
        case measure => simp [intOf]; omega

end Go.Proofs.Ytadngnajenedpaa
