/- The heights of all blocks, by the model: spec.l6Heights. -/
import Derived.Test.YtjfdkhaepmmlfaaZ6K
import Derived.Test.YtjfdkhaepmmlfaaZ6W
import Derived.Test.YtjfdkhaepmmlfaaZ6V
import Derived.Test.YtjfdkhaepmmlfaaTurn
import Derived.Deep.DrawnRows
import Derived.Deep.RegionWith
import Derived.BigRegion
namespace Go.Proofs.Ytjfdkhaepmmlfaa
open Go.RowKit

/-- heights of the blocks that were met -/
def tabH (l : List UInt8) (G : UInt8 → Int) (D : MetW) (i : Nat) : Int := open Classical in if l.getD i 0 ∈ keysW D then G (l.getD i 0) else 0
theorem tabH_in {l : List UInt8} {G : UInt8 → Int} {D : MetW} {i : Nat} (h : l.getD i 0 ∈ keysW D) : tabH l G D i = G (l.getD i 0) := if_pos h
theorem tabH_out {l : List UInt8} {G : UInt8 → Int} {D : MetW} {i : Nat} (h : l.getD i 0 ∉ keysW D) : tabH l G D i = 0 := if_neg h
theorem byteH {y : ByteArray} {i : Nat} {c : UInt8} (h : y.data.toList[i]? = some c) : ∃ hi : i < y.size, y[i]'hi = c := by
  have hi : i < y.data.toList.length := (List.getElem?_eq_some_iff.1 h).1
  have hi2 : i < y.size := by simpa using hi
  refine ⟨hi2, ?_⟩
  have h2 : y.data.toList[i]? = some y[i] := List.getElem?_eq_getElem hi
  rw [h2] at h
  injection h
/-- what holds while the model goes through the blocks -/
structure SeaH (w : World) (B : ByteArray) (A : Option Addr) (n cap X : Nat) (G : UInt8 → Int) (D : MetW) (wr : World) : Prop where
  below : Below w.heap.size w wr
  two : Two wr w.heap.size B A n cap
  row : wr.rowIs X 3 B.size (fun i => .int .i64 (tabH B.data.toList G D i))
theorem SeaH.go {w wr W : World} {B : ByteArray} {A : Option Addr} {n cap X : Nat} {G : UInt8 → Int} {D : MetW} (h : SeaH w B A n cap X G D wr) (hX : X = w.heap.size + 1) (k : Below wr.heap.size wr W) : SeaH w B A n cap X G D W := by
  have hx := h.row.lt
  exact ⟨h.below.trans (k.mono h.below.size), h.two.below k (by omega), h.row.of_block (k.block X hx)⟩
theorem SeaH.put {w wr : World} {B : ByteArray} {A : Option Addr} {n cap X : Nat} {G : UInt8 → Int} {D : MetW} (h : SeaH w B A n cap X G D wr) (hX : X = w.heap.size + 1) {j : Nat} {y : UInt8} {p : List Mv} {v : Int} (hn : B.data.toList.Nodup) (hj : B.data.toList[j]? = some y) (hv : v = G y) : SeaH w B A n cap X G (D ++ [(y, p)]) (wr.setCell ⟨X, j, none⟩ (.int .i64 v)) ∧ wr.grownBy (wr.setCell ⟨X, j, none⟩ (.int .i64 v)) (some X) := by
  have hg := only_setCell_at (i := j) (u := .int .i64 v) (World.grownBy.refl wr (some X))
  refine ⟨⟨h.below.grown hg h.below.size (fun q e => by injection e with e; omega), h.two.grown hg (by have := h.row.lt; omega) (by intro e; injection e with e; omega), ?_⟩, hg⟩
  refine (h.row.set j (.int .i64 v)).congr fun i hi => ?_
  by_cases hij : i = j
  · subst hij
    have hd : B.data.toList.getD i 0 = y := by rw [List.getD_eq_getElem?_getD, hj]; rfl
    simp only [if_true]
    rw [tabH_in (by rw [hd, keysW_append]; simp), hd, hv]
  · simp only [hij, if_false]
    have hne : B.data.toList.getD i 0 ≠ y := fun e => hij (by
      have hil : i < B.data.toList.length := by simpa using hi
      rw [List.getD_eq_getElem?_getD, List.getElem?_eq_getElem hil] at e
      have h2 : B.data.toList[i]? = B.data.toList[j]? := by rw [hj, List.getElem?_eq_getElem hil, ← e]; rfl
      exact (List.getElem?_inj hil hn).1 h2)
    by_cases hk : B.data.toList.getD i 0 ∈ keysW D
    · rw [tabH_in hk, tabH_in (by rw [keysW_append]; exact List.mem_append_left _ hk)]
    · rw [tabH_out hk, tabH_out (by
        rw [keysW_append]
        intro h
        rcases List.mem_append.1 h with h | h
        · exact hk h
        · exact hne (by simpa using h))]

set_option maxRecDepth 100000 in
set_option maxHeartbeats 8000000 in
/-- spec.l6Heights -/
theorem l6Heights_any (B : ByteArray) (A : Option Addr) (cap : Nat) (es : List (ByteArray × ByteArray)) (b : ByteArray) (F : Nat → Nat) (AV : Option Addr) (cv : Nat) (w : World) (hs : B.size ≤ maxLen) (hE : EdgesIn w w.heap.size A es) (hl : es.length ≤ 1099511627776) (ht : treeV B es b = true) (hF : ∀ k, F k ≤ 4294967296)
    (hX : IntsIn w w.heap.size AV ((List.range es.length).map fun k => ((F k : Nat) : Int))) :
    Calls Try.prog 100 #[.agg #[.string B, .slice A es.length cap], .string b, .slice AV es.length cv] w (IntsPost (B.data.toList.map (hgtB B es b F)) w) := by
  obtain ⟨hV, hK, hb6, hf, hU, hcn, _⟩ := tree_pack ht
  have h2 : 2 ≤ B.data.toList.length := hV.1.1.1
  obtain ⟨m1, m2, m3, m4⟩ := entry_exit h2 hV.1.1.2.2.2
  have h8 := (valid_sizes hV).1
  have h16 := (valid_sizes hV).2
  have hlb : B.data.toList.length = B.size := by simp
  obtain ⟨U, hUe⟩ : ∃ U, edsOf B es b = U := ⟨_, rfl⟩
  obtain ⟨a, hae⟩ : ∃ a, entry B.data.toList = a := ⟨_, rfl⟩
  have hen : B.extract 0 1 = ⟨#[a]⟩ := bytes_one (by
    have := letter_at (p := B) (i := 0) (by omega)
    rw [Nat.zero_add] at this
    rw [this, List.getD_eq_getElem?_getD, ← m3, idxL_get m1, ← hae]; rfl)
  obtain ⟨ft, hft⟩ : ∃ ft : ByteArray, ft = ⟨#[a]⟩ := ⟨_, rfl⟩
  have FEN : Hid (∀ W : World, Calls Try.prog 81 #[.agg #[.string B, .slice A es.length cap]] W fun e w' => e = .returned (.string ft) ∧ Below W.heap.size W w') := Lib.hid fun W => by
    rw [hft, ← hen]; exact l1Entry_any B _ W (by omega) hs
  have FST : Hid (∀ (c : UInt8) (ct : ByteArray), ct = ⟨#[c]⟩ → ∀ W : World, EdgesIn W W.heap.size A es → Calls Try.prog 119 #[.agg #[.string B, .slice A es.length cap], .string b, .string ct] W (StepsPost (outM ((ksOf b.data.toList).map (edK es) ++ [edZ B.data.toList]) c) W)) := Lib.hid fun c ct h W hW => l5Steps_any B A cap es b c ct h W hs hW hl hV hK hb6
  have HMO : Hid (∀ (c : UInt8) (m : Mv), m ∈ outM ((ksOf b.data.toList).map (edK es) ++ [edZ B.data.toList]) c ↔ m ∈ mvs U ∧ m.fr = c) := Lib.hid fun c m => by rw [← hUe]; exact mem_outT
  have HOL : Hid (∀ c : UInt8, (outM ((ksOf b.data.toList).map (edK es) ++ [edZ B.data.toList]) c).length ≤ 100) := Lib.hid fun c => by
    refine Nat.le_trans (outM_len _ _) ?_
    rw [List.length_append, List.length_map]
    simp [ksOf]; omega
  obtain ⟨outs, hou⟩ : ∃ outs : UInt8 → List Mv, (fun c => outM ((ksOf b.data.toList).map (edK es) ++ [edZ B.data.toList]) c) = outs := ⟨_, rfl⟩
  have hou2 : ∀ c, outM ((ksOf b.data.toList).map (edK es) ++ [edZ B.data.toList]) c = outs c := fun c => by rw [← hou]
  simp only [hou2] at FST HMO HOL
  have htm := tame_of (F := F) ht hF
  have hofn := of_tree ht
  rw [hUe] at hf hU hcn hofn
  rw [hae] at m1 m3
  obtain ⟨G, hG⟩ : ∃ G : UInt8 → Int, hgtB B es b F = G := ⟨_, rfl⟩
  rw [hG] at htm ⊢
  have HG0 : Hid (G a = 0) := Lib.hid (by rw [← hG]; unfold hgtB; rw [hUe, hae]; exact hgt_self hf a)
  have HGS : Hid (∀ (c : UInt8) (p : List Mv) (m : Mv), NbWay U a c p → m ∈ mvs U → m.fr = c → G m.tb = G c + addM F m) := Lib.hid fun c p m hw hm hfr => by
    have hst := hgt_step (F := F) hf hm (a := a) ⟨p, by rw [hfr]; exact hw.1⟩
    rw [hfr] at hst
    rw [← hG]
    unfold hgtB
    rw [hUe, hae]
    exact hst
  have HOF : Hid (∀ m ∈ mvs U, m.nm = 122 ∨ ∃ k, k < es.length ∧ m.nm = nameOf k) := Lib.hid fun m hm => by
    obtain ⟨e, he, hm⟩ := mem_mvs.1 hm
    rcases hm with rfl | rfl
    · exact hofn e he
    · exact hofn e he
  have HTM : Hid (∀ x ∈ B.data.toList, -34359738368 ≤ G x ∧ G x ≤ 34359738368) := Lib.hid htm.hgt
  have HLEN8 : Hid (∀ D : MetW, MetP U a D → D.length ≤ 8) := Lib.hid fun D h => Nat.le_trans (h.len hU m1) (by omega)
  have HIN0 : Hid (∀ (p : List Mv) (c : UInt8), NbWay U a c p → c ∈ B.data.toList) := Lib.hid fun p c h => wk_in hU m1 h.1 _ (wk_last h.1)
  have HTB : Hid (∀ m ∈ mvs U, m.tb ∈ B.data.toList) := Lib.hid fun m hm => by
    obtain ⟨e, he, hm⟩ := mem_mvs.1 hm
    rcases hm with rfl | rfl
    · exact (hU e he).2
    · exact (hU e he).1
  have HCN : Hid (∀ x ∈ B.data.toList, Cn U a x) := Lib.hid fun x hx => hcn a m1 x hx
  have HLN : Hid B.data.toList.Nodup := Lib.hid hV.1.1.2.2.2
  have HFF := Lib.hid hF; have HX := Lib.hid hX; have H16 := Lib.hid h16; have HLB := Lib.hid hlb
  obtain ⟨I, hI⟩ : ∃ I : UInt8 → Int, I = Lib.indexByte B.data.toList := ⟨_, rfl⟩
  have FB : Hid (∀ (z : UInt8) (W : World), Calls Try.prog 96 #[.string B, .int .u8 (z.toNat : Int)] W fun e w' => e = .returned (.int .i64 (I z)) ∧ W = w') := Lib.hid fun z W => by
    rw [hI]; exact find_any B z W hs
  have HIX : Hid (∀ z ∈ B.data.toList, ∃ j : Nat, I z = (j : Int) ∧ j < B.size ∧ B.data.toList[j]? = some z) := Lib.hid fun z hz => by
    obtain ⟨j, hj⟩ := Int.eq_ofNat_of_zero_le (indexByte_nonneg.2 hz)
    have hlt := indexByte_lt (l := B.data.toList) (c := z)
    have hgt := indexByte_get hz
    rw [hj] at hgt
    exact ⟨j, by rw [hI]; exact hj, by omega, by simpa using hgt⟩
  obtain ⟨X, hXe⟩ : ∃ X, w.heap.size + 1 = X := ⟨_, rfl⟩
  obtain ⟨W0, hW0⟩ : ∃ W0, W0 = (w.alloc (.cells #[.string B, .slice A es.length cap] 30)).alloc (.cells (madeCells #[.int .i64 0] B.size) 3) := ⟨_, rfl⟩
  have hb0 : Below w.heap.size w W0 := by rw [hW0]; exact ((Below.refl _ _).alloc (Nat.le_refl _) _).alloc (by simp) _
  have t0 : Two W0 w.heap.size B A es.length cap := by rw [hW0]; exact ⟨by go_simp, by go_simp⟩
  have hz0 : W0.heap.size = w.heap.size + 2 := by rw [hW0]; simp
  have x0 : W0.rowIs X 3 B.size (fun i => .int .i64 (tabH B.data.toList G [(a, [])] i)) := by
    have h := World.rowIs_alloc (w.alloc (.cells #[.string B, .slice A es.length cap] 30)) (madeCells #[.int .i64 0] B.size) 3 (fun i => .int .i64 (tabH B.data.toList G [(a, [])] i)) (fun i hi => by
      have hiB : i < B.size := by rw [size_madeCells] at hi; exact hi
      have hz : tabH B.data.toList G [(a, [])] i = 0 := by
        unfold tabH
        split
        · rename_i h
          have : B.data.toList.getD i 0 = a := by simpa [keysW] using h
          rw [this]; exact HG0.out
        · rfl
      rw [hz]
      simp [madeCells, hiB, Nat.mod_one])
    rw [World.size_alloc, size_madeCells, hXe] at h
    rw [hW0]; exact h
  have HSEA0 : Hid (SeaH w B A es.length cap X G [(a, [])] W0) := Lib.hid ⟨hb0, t0, x0⟩
  have c0 := t0.1; have c1 := t0.2
  rw [hW0] at c0 c1
  have hmk := fun W => make_ints B.size (by omega) W
  have HXE := Lib.hid hXe
  have HFT := Lib.hid hft
  clear ht hV hK hb6 hf hU hcn h2 m1 m2 m3 m4 h8 h16 hlb hUe hae hen hft hou hou2 htm hofn hG hF hX hI t0 x0 hs hl
  go_enter Try.func100, Try.ntmps100
  go_wp2_with fail
  rw [← hW0]
  clear hmk c0 c1 hW0 hXe
  refine (FEN.out _).mono ?_
  rintro e w1 ⟨rfl, hb1⟩
  have HSEA := Lib.hid (HSEA0.out.go HXE.out.symm hb1)
  clear HSEA0 FEN hb1 hz0 hb0
  go_wp2_with fail
  go_loopw [8, 9] (fun a' c wr => ∃ (i : Nat) (sx : ByteArray) (D : MetW), a' = .string sx ∧ c = .int .i64 i ∧ i ≤ D.length ∧ sx.data.toList = keysW D ∧ MetP U a D ∧ Clo U D i ∧ SeaH w B A es.length cap X G D wr) (fun _ c _ => 9 - (intOf c).toNat)
  case atStart => exact ⟨0, ft, [(a, [])], rfl, rfl, Nat.zero_le _, by rw [HFT.out]; rfl, metP_one U a, fun j x hj => absurd hj (by omega), HSEA.out⟩
  case round =>
    clear HSEA
    obtain ⟨i, sx, D, rfl, rfl, hi, hsx, hmp, hclo, hsea⟩ := hrel
    have hD8 := HLEN8.out D hmp
    have hsz : sx.size = D.length := by
      have h := congrArg List.length hsx
      simpa [keysW] using h
    have HSX := Lib.hid hsx; have HSEA := Lib.hid hsea; have HMP := Lib.hid hmp; have HCLO := Lib.hid hclo
    by_cases hlt : i < sx.size
    case neg =>
      have HFIN : Hid (IntsIn wr wr.heap.size (some ⟨X, 0, none⟩) (B.data.toList.map G)) := Lib.hid fun k hk => by
        have hk2 : k < B.data.toList.length := by simpa using hk
        refine ⟨X, 0, rfl, HSEA.out.row.lt, ?_⟩
        have hc := HSEA.out.row.cell (i := k) (by have := HLB.out; omega)
        rw [Nat.zero_add, hc]
        have hd : B.data.toList.getD k 0 = B.data.toList[k] := by rw [List.getD_eq_getElem?_getD, List.getElem?_eq_getElem hk2]; rfl
        obtain ⟨p, hp⟩ := HCN.out B.data.toList[k] (List.getElem_mem hk2)
        have hid : i = D.length := by omega
        have hin := clo_reach (by rw [← hid]; exact HCLO.out) p a HMP.out.start hp
        rw [tabH_in (by rw [hd]; exact hin), hd, List.getElem_map]
      have HBW := Lib.hid HSEA.out.below
      have HLM : Hid ((B.data.toList.map G).length = B.size) := Lib.hid (by rw [List.length_map, HLB.out])
      clear hsx hmp hclo hsea
      go_wp2_with fail
      go_ret
      exact ⟨X, by rw [HLM.out]; rfl, HFIN.out, HBW.out⟩
    obtain ⟨c, p, hgi⟩ : ∃ c p, D[i]? = some (c, p) := by
      have h : i < D.length := by omega
      exact ⟨D[i].1, D[i].2, List.getElem?_eq_getElem h⟩
    have hmem := List.mem_of_getElem? hgi
    obtain ⟨hway, hstops⟩ := hmp.ways _ hmem
    have hxb : sx.extract i (i + 1) = ⟨#[c]⟩ := bytes_one (by
      rw [letter_at hlt, HSX.out]
      have : (keysW D)[i]? = some c := by simp [keysW, hgi]
      simp [List.getD, this])
    have HKI : Hid ((keysW D)[i]? = some c) := Lib.hid (by simp [keysW, hgi])
    obtain ⟨ct, hct⟩ : ∃ ct, sx.extract i (i + 1) = ct := ⟨_, rfl⟩
    have hctc : ct = ⟨#[c]⟩ := by rw [← hct, hxb]
    have HGI := Lib.hid hgi; have HWAY := Lib.hid hway; have HCT := Lib.hid hctc; have HMEM := Lib.hid hmem
    have hiD0 : i < D.length := by omega
    have HSZ := Lib.hid hsz
    clear hsx hsea hmp hclo hgi hway hstops hxb hctc hmem hsz
    have a1 : (0 : Int) ≤ (i : Int) := by omega
    have a2 : (i : Int) < (sx.size : Int) := by omega
    have a4 : (0 : Int) ≤ (i : Int) + 1 := by omega
    have a5 : ((i : Int) + 1).toNat = i + 1 := by omega
    have a6 : (i : Int) + 1 ≤ (sx.size : Int) := by omega
    have a7 : i + 1 ≤ sx.size := by omega
    have a8 : (i : Int) ≤ (i : Int) + 1 := by omega
    have a3 : IntKind.i64.wrap ((i : Int) + 1) = (i : Int) + 1 := IntWalk.i64_in _ (by omega)
    have hS : ∀ W, Below wr.heap.size wr W → (W.cell? ⟨w.heap.size, 0, none⟩ = some (.string B) ∧ W.cell? ⟨w.heap.size, 1, none⟩ = some (.slice A es.length cap) ∧ Below wr.heap.size wr W) :=
      fun W h => ⟨(HSEA.out.go HXE.out.symm h).two.1, (HSEA.out.go HXE.out.symm h).two.2, h⟩
    have HSS := Lib.hid hS
    have HA : Hid (EdgesIn wr.drew wr.drew.heap.size A es) := Lib.hid ((hE.below HSEA.out.below.drew).more HSEA.out.below.drew.size)
    have HFS := Lib.hid (FST.out c ct HCT.out wr.drew HA.out)
    clear hS
    go_wp2_with fail
    go_region_held3 (fun W => W.cell? ⟨w.heap.size, 0, none⟩ = some (.string B) ∧ W.cell? ⟨w.heap.size, 1, none⟩ = some (.slice A es.length cap) ∧ Below wr.heap.size wr W)
      (first
        | exact HSS.out _ (Below.refl _ _).drew
        | exact HSS.out _ ((Below.refl _ _).drew.trans hb2))
      (first
        | (go_at_call 119; (try rw [hct]); refine (HFS.out).mono ?_; rintro e w2 ⟨A1, c1, A2, c2, rfl, hT1, hT2, hO1, hO2, hb2⟩))
    rename_i hHeld
    have HSEA2 := Lib.hid (HSEA.out.go HXE.out.symm hHeld.2.2)
    have hvl : ∀ q, (Value.slice (some ⟨X, 0, none⟩) B.size B.size).ownBlock = some q → q < wr.drew.heap.size := fun q hq => by
      have e : some X = some q := hq
      injection e with e
      subst e
      exact HSEA.out.row.lt
    have HB1 : Hid (Beside (.slice (some ⟨X, 0, none⟩) B.size B.size) A1 ((outs c).map sgT) w2) := Lib.hid (beside_own hT1 hO1 hvl)
    have HB2 : Hid (Beside (.slice (some ⟨X, 0, none⟩) B.size B.size) A2 ((outs c).map tbT) w2) := Lib.hid (beside_own hT2 hO2 hvl)
    clear hHeld HSS HA hb2 HSEA hT1 hT2 hO1 hO2 hvl HFS a1 a2 a3 a4 a5 a6 a7 a8
    have holn := HOL.out c
    obtain ⟨os, hos⟩ : ∃ os, outs c = os := ⟨_, rfl⟩
    have HOS := Lib.hid hos
    rw [hos] at HB1 HB2 holn ⊢
    have HOLN := Lib.hid holn
    clear hos holn
    go_wp2_with fail
    go_loopw [8, 40] (fun a' c' wi => ∃ (k : Nat) (s1 : ByteArray) (D1 : MetW), k ≤ os.length ∧ a' = .string s1 ∧ c' = .int .i64 k ∧ s1.data.toList = keysW D1 ∧ D <+: D1 ∧ MetP U a D1 ∧ (∀ j m, j < k → os[j]? = some m → m.tb ∈ keysW D1) ∧ SeaH w B A es.length cap X G D1 wi ∧ Beside (.slice (some ⟨X, 0, none⟩) B.size B.size) A1 (os.map sgT) wi ∧ Beside (.slice (some ⟨X, 0, none⟩) B.size B.size) A2 (os.map tbT) wi) (fun _ c _ => os.length - (intOf c).toNat)
    case atStart => exact ⟨0, sx, D, Nat.zero_le _, rfl, rfl, HSX.out, List.prefix_refl _, HMP.out, fun j x hj => absurd hj (by omega), HSEA2.out, HB1.out, HB2.out⟩
    case round =>
      clear HSEA2 HB1 HB2
      obtain ⟨k, s1, D1, hk, rfl, rfl, hs1, hpre, hmp1, hin, hsea, hbs1, hbs2⟩ := hrel
      have hD18 := HLEN8.out D1 hmp1
      have hs1z : s1.size = D1.length := by
        have h := congrArg List.length hs1
        simpa [keysW] using h
      have HS1 := Lib.hid hs1; have HSEA := Lib.hid hsea; have HPRE := Lib.hid hpre; have HS1Z := Lib.hid hs1z; have HMP1 := Lib.hid hmp1; have HIN := Lib.hid hin; have HBS1 := Lib.hid hbs1; have HBS2 := Lib.hid hbs2
      clear hs1 hsea hpre hs1z hmp1 hin hbs1 hbs2
      by_cases hlk : k < os.length
      case neg =>
        have hlen : i + 1 ≤ D1.length := Nat.le_trans hiD0 HPRE.out.length_le
        have HCL : Hid (Clo U D1 (i + 1)) := Lib.hid (HCLO.out.next HPRE.out HGI.out (outs := os) (fun m hm hf => by rw [← HOS.out]; exact (HMO.out c m).2 ⟨hm, hf⟩) (fun m hm => by
          obtain ⟨j, hj, he⟩ := List.mem_iff_getElem.1 hm
          exact HIN.out j m (by omega) (by rw [List.getElem?_eq_getElem hj, he])))
        have hi8 : i ≤ 8 := by omega
        go_wp2_with fail
        go_roundw
        case rel => exact ⟨i + 1, s1, D1, rfl, by go_num, hlen, HS1.out, HMP1.out, HCL.out, HSEA.out⟩
        case measure => simp [intOf]; omega
      obtain ⟨m, hm⟩ : ∃ m, os[k] = m := ⟨_, rfl⟩
      have hmo : m ∈ os := by rw [← hm]; exact List.getElem_mem hlk
      obtain ⟨hmU, hmf⟩ := (HMO.out c m).1 (by rw [HOS.out]; exact hmo)
      obtain ⟨g2, hA2, hlow2, hcell2⟩ := HBS2.out.texts k (by simpa using hlk)
      obtain ⟨g1, hA1, hlow1, hcell1⟩ := HBS1.out.texts k (by simpa using hlk)
      simp only [List.getElem_map, hm] at hcell1 hcell2
      obtain ⟨y, hy⟩ : ∃ y, m.tb = y := ⟨_, rfl⟩
      obtain ⟨ty, htb⟩ : ∃ ty, tbT m = ty := ⟨_, rfl⟩
      obtain ⟨ly, xy⟩ := byteH (y := ty) (i := 0) (c := y) (by rw [← htb, ← hy]; rfl)
      have htys : ty.size = 1 := by rw [← htb]; rfl
      have HTY : Hid (ty.data.toList = [y]) := Lib.hid (by rw [← htb, ← hy]; rfl)
      obtain ⟨st, hst⟩ : ∃ st, sgT m = st := ⟨_, rfl⟩
      obtain ⟨l0, x0⟩ := byteH (y := st) (i := 0) (c := m.sg) (by rw [← hst]; rfl)
      obtain ⟨l1, x1⟩ := byteH (y := st) (i := 1) (c := m.nm) (by rw [← hst]; rfl)
      have hsts : st.size = 2 := by rw [← hst]; rfl
      rw [htb] at hcell2
      rw [hst] at hcell1
      subst hA1
      subst hA2
      have HHM := Lib.hid hm; have HMU := Lib.hid hmU; have HMF := Lib.hid hmf; have HY := Lib.hid hy
      clear hm hmo hmU hmf htb hst
      obtain ⟨fi, hfi⟩ : ∃ fi, Lib.indexByte s1.data.toList y = fi := ⟨_, rfl⟩
      have hiff : 0 ≤ fi ↔ y ∈ keysW D1 := by rw [← hfi, HS1.out]; exact indexByte_nonneg
      have HFI := Lib.hid hfi; have HIFF := Lib.hid hiff
      clear hfi hiff hy
      have HS1M : Hid (s1.size ≤ maxLen) := Lib.hid (by have := HS1Z.out; unfold maxLen; omega)
      have hkk : (k : Int) < (os.length : Int) := by omega
      have hk0 : (0 : Int) ≤ (k : Int) := by omega
      have hk100 : k ≤ 100 := by have := HOLN.out; omega
      by_cases hfl : 0 ≤ fi
      · have HIN2 : Hid (∀ j m, j < k + 1 → os[j]? = some m → m.tb ∈ keysW D1) := Lib.hid fun j m' hj hm' => by
          by_cases hjk : j < k
          · exact HIN.out j m' hjk hm'
          · have : j = k := by omega
            subst this
            rw [List.getElem?_eq_getElem hlk, HHM.out] at hm'
            injection hm' with hm'
            subst hm'
            rw [HY.out]
            exact HIFF.out.1 (by omega)
        clear l0 x0 l1 x1 hcell1
        go_wp2_with (go_at_call 96; refine (find_any s1 y _ HS1M.out).mono ?_; rw [HFI.out]; rintro e wI ⟨rfl, rfl⟩)
        go_roundw
        case rel => exact ⟨k + 1, s1, D1, by omega, rfl, by go_num, HS1.out, HPRE.out, HMP1.out, HIN2.out, HSEA.out, HBS1.out, HBS2.out⟩
        case measure => simp [intOf]; omega
      have hyn : y ∉ keysW D1 := fun h => hfl (HIFF.out.2 h)
      have HYN := Lib.hid hyn
      have hyl : y ∈ B.data.toList := by rw [← HY.out]; exact HTB.out m HMU.out
      have hcl : c ∈ B.data.toList := HIN0.out p c HWAY.out
      have HGY : Hid (G y = G c + addM F m) := Lib.hid (by rw [← HY.out]; exact HGS.out c p m HWAY.out HMU.out HMF.out)
      obtain ⟨jt, jt1, jt2, jt3⟩ := HIX.out y hyl
      obtain ⟨jc, jc1, jc2, jc3⟩ := HIX.out c hcl
      have gy := HTM.out y hyl; have gc := HTM.out c hcl
      have hplen := HPRE.out.length_le
      have hD1i : D1[i]? = some (c, p) := by
        obtain ⟨r, hr⟩ := HPRE.out
        rw [← hr, List.getElem?_append_left hiD0]
        exact HGI.out
      have HMP2 : Hid (MetP U a (D1 ++ [(y, p ++ [m])])) := Lib.hid (by
        rw [← HY.out]
        exact HMP1.out.push (List.mem_of_getElem? hD1i) HMU.out HMF.out (by rw [HY.out]; exact hyn))
      have HS2 : Hid ((s1 ++ ty : ByteArray).data.toList = keysW (D1 ++ [(y, p ++ [m])])) := Lib.hid (by rw [Go.Joins.data_append, HS1.out, HTY.out]; simp [keysW])
      have HIN2 : Hid (∀ j m', j < k + 1 → os[j]? = some m' → m'.tb ∈ keysW (D1 ++ [(y, p ++ [m])])) := Lib.hid fun j m' hj hm' => by
        rw [keysW_append]
        by_cases hjk : j < k
        · exact List.mem_append_left _ (HIN.out j m' hjk hm')
        · have : j = k := by omega
          subst this
          rw [List.getElem?_eq_getElem hlk, HHM.out] at hm'
          injection hm' with hm'
          subst hm'
          rw [HY.out]
          exact List.mem_append_right _ (List.mem_singleton.2 rfl)
      have HPR2 : Hid (D <+: D1 ++ [(y, p ++ [m])]) := Lib.hid (HPRE.out.trans (List.prefix_append _ _))
      have hcT : wr.cell? ⟨X, jc, none⟩ = some (.int .i64 (G c)) := by
        rw [HSEA.out.row.cell jc2]
        have hd : B.data.toList.getD jc 0 = c := by rw [List.getD_eq_getElem?_getD, jc3]; rfl
        rw [tabH_in (by rw [hd]; exact List.mem_map.2 ⟨_, List.mem_of_getElem? hD1i, rfl⟩), hd]
      have hcY : ∃ u, wr.cell? ⟨X, jt, none⟩ = some u := ⟨_, HSEA.out.row.cell jt2⟩
      obtain ⟨uY, hcY⟩ := hcY
      have hfY := HSEA.out.row.frozen jt
      have HPUT : Hid (∀ (W : World) (v : Int), Below wr.heap.size wr W → v = G y → SeaH w B A es.length cap X G (D1 ++ [(y, p ++ [m])]) (W.setCell ⟨X, jt, none⟩ (.int .i64 v)) ∧ Beside (.slice (some ⟨X, 0, none⟩) B.size B.size) (some ⟨g1, 0, none⟩) (os.map sgT) (W.setCell ⟨X, jt, none⟩ (.int .i64 v)) ∧ Beside (.slice (some ⟨X, 0, none⟩) B.size B.size) (some ⟨g2, 0, none⟩) (os.map tbT) (W.setCell ⟨X, jt, none⟩ (.int .i64 v))) := Lib.hid fun W v hb hv => by
        obtain ⟨h1, h2⟩ := (HSEA.out.go HXE.out.symm hb).put HXE.out.symm (p := p ++ [m]) HLN.out jt3 hv
        exact ⟨h1, (HBS1.out.go hb).push h2 (.inl rfl), (HBS2.out.go hb).push h2 (.inl rfl)⟩
      obtain ⟨s2, hs2⟩ : ∃ s2 : ByteArray, s1 ++ ty = s2 := ⟨_, rfl⟩
      obtain ⟨li, xi⟩ := byteH (y := s2) (i := i) (c := c) (by rw [← hs2, HS2.out, keysW_append, List.getElem?_append_left (by simp only [keysW, List.length_map]; omega)]; simp [keysW, hD1i])
      have hD1x := Lib.hid hD1i
      rw [hs2] at HS2
      have HS2E := Lib.hid hs2
      clear hD1i hyn hyl hcl hs2 hplen
      have hadd : ¬ 9223372036854775807 < s1.size + ty.size := by
        have := HS1Z.out
        omega
      have hadd2 : ¬ 9223372036854775807 < s1.size + 1 := by have := HS1Z.out; omega
      have li2 : (i : Int) < (s2.size : Int) := by omega
      have li3 : (0 : Int) ≤ (i : Int) := by omega
      have b1 : (0 : Int) ≤ (jt : Int) := by omega
      have b2 : (jt : Int) < (B.size : Int) := by omega
      have b4 : (0 : Int) ≤ (jc : Int) := by omega
      have b5 : (jc : Int) < (B.size : Int) := by omega
      have FBY : Hid (∀ W : World, Calls Try.prog 96 #[.string B, .int .u8 (y.toNat : Int)] W fun e w' => e = .returned (.int .i64 (jt : Int)) ∧ Below W.heap.size W w') := Lib.hid fun W => by
        refine (FB.out y W).mono ?_
        rintro e w' ⟨rfl, rfl⟩
        exact ⟨by rw [jt1], Below.refl _ _⟩
      have FBC : Hid (∀ W : World, Calls Try.prog 96 #[.string B, .int .u8 (c.toNat : Int)] W fun e w' => e = .returned (.int .i64 (jc : Int)) ∧ Below W.heap.size W w') := Lib.hid fun W => by
        refine (FB.out c W).mono ?_
        rintro e w' ⟨rfl, rfl⟩
        exact ⟨by rw [jc1], Below.refl _ _⟩
      have HJJ : Hid (jt ≠ jc) := Lib.hid fun e => by
        rw [e] at jt3
        have h2 := jt3.symm.trans jc3
        injection h2 with h2
        exact HYN.out (by rw [h2]; exact List.mem_map.2 ⟨_, List.mem_of_getElem? hD1x.out, rfl⟩)
      have HSS : Hid (∀ W, Below wr.heap.size wr W → (W.cell? ⟨w.heap.size, 0, none⟩ = some (.string B) ∧ W.cell? ⟨X, jc, none⟩ = some (.int .i64 (G c)))) := Lib.hid fun W h =>
        ⟨(HSEA.out.go HXE.out.symm h).two.1, (h.cell (by have := HSEA.out.row.lt; exact this)).trans hcT⟩
      have HSET : Hid (∀ (W : World) (v : Int), Below wr.heap.size wr W → (W.cell? ⟨X, jt, none⟩ = some uY ∧ W.frozen? ⟨X, jt, none⟩ = false ∧ ((W.setCell ⟨X, jt, none⟩ (.int .i64 v)).cell? ⟨w.heap.size, 0, none⟩ = some (.string B) ∧ (W.setCell ⟨X, jt, none⟩ (.int .i64 v)).cell? ⟨X, jc, none⟩ = some (.int .i64 (G c))))) := Lib.hid fun W v h => by
        have hlt := HSEA.out.row.lt
        have hh := HSS.out W h
        refine ⟨(h.cell (by exact hlt)).trans hcY, ?_, (World.cell?_of_block (Below.heap_setCell _ _ _ _ (by have := HXE.out; simp only; omega))).trans hh.1, (World.cell?_setCell_other _ _ _ _ (by intro q; injection q with _ q; exact HJJ.out q)).trans hh.2⟩
        rw [← hfY]
        exact h.frozen (by exact hlt)
      obtain ⟨gC, hgC⟩ : ∃ gC, G c = gC := ⟨_, rfl⟩
      obtain ⟨gY, hgY⟩ : ∃ gY, G y = gY := ⟨_, rfl⟩
      rw [hgC] at hcT gc HGY HSS HSET
      rw [hgY] at gy HGY HPUT
      have hGY := HGY.out
      have hcY0 := HSEA.out.below
      clear hgC hgY jt1 jc1 jt3 jc3 hcT hcY hfY
      by_cases hsg : m.sg = 45
      · have g1 : ((m.sg.toNat : Int) == 45) = true := by rw [beq_iff_eq, hsg]; rfl
        by_cases hz : m.nm = 122
        · have n1 : ((m.nm.toNat : Int) != 122) = false := by rw [hz]; rfl
          have HVY : Hid (gC = gY) := Lib.hid (by rw [hGY]; unfold addM; rw [if_pos hz, Int.add_zero])
          have z1 : IntKind.i64.wrap gC = gC := IntWalk.i64_in _ (by omega)
          clear hGY hz hsg
          clear hcY0
          go_wp2_with (go_at_call 96; refine (find_any s1 y _ HS1M.out).mono ?_; rw [HFI.out]; rintro e wI ⟨rfl, rfl⟩)
          rw [HS2E.out]
          clear hadd hadd2 l0 x0 l1 x1 hcell1 hcell2
          go_region_held3 (fun W => W.cell? ⟨w.heap.size, 0, none⟩ = some (.string B) ∧ W.cell? ⟨X, jc, none⟩ = some (.int .i64 gC))
            (first
              | exact HSS.out _ (Below.refl _ _).drew
              | exact HSS.out _ HB2.out
              | exact HSS.out _ HB3.out
              | exact HS5.out)
            (first
              | (go_at_call 96
                 have hq := HB2; clear hq
                 go_must (
                 (with_reducible refine (FBC.out _).mono ?_)
                 rintro e w3 ⟨rfl, hb3⟩
                 have HB3 : Hid (Below wr.heap.size wr w3) := Lib.hid (HB2.out.trans (hb3.mono HB2.out.size))
                 clear hb3
                 obtain ⟨s1c, s2c, s3c⟩ := HSET.out w3 (gC) HB3.out
                 have HS5 := Lib.hid s3c
                 clear s3c))
              | (go_at_call 96
                 go_must (
                 (with_reducible refine (FBY.out _).mono ?_)
                 rintro e w2 ⟨rfl, hb2⟩
                 have HB2 : Hid (Below wr.heap.size wr w2) := Lib.hid ((Below.refl _ _).drew.trans hb2)
                 clear hb2)))
          all_goals
            rename_i hHeld
            clear hHeld s1c s2c
            obtain ⟨r1, r2, r3⟩ := HPUT.out w3 (gC) HB3.out HVY.out
            have HR1 := Lib.hid r1; have HR2 := Lib.hid r2; have HR3 := Lib.hid r3
            clear r1 r2 r3
            go_wp2_with fail
            go_roundw
            case rel => exact ⟨k + 1, s2, _, by omega, rfl, by go_num, HS2.out, HPR2.out, HMP2.out, HIN2.out, HR1.out, HR2.out, HR3.out⟩
            case measure => simp [intOf]; omega
        · have n1 : ((m.nm.toNat : Int) != 122) = true := by
            rw [bne_iff_ne]
            intro e
            exact hz (UInt8.toNat_inj.1 (by show m.nm.toNat = 122; omega))
          obtain ⟨q, hq, hkn⟩ : ∃ k, k < es.length ∧ m.nm = nameOf k := by
            rcases HOF.out m HMU.out with h | h
            · exact absurd h hz
            · exact h
          have hkm : m.nm.toNat - 97 = q := by
            rw [hkn, nameOf_toNat (by have := H16.out; omega)]; omega
          have q1 : IntKind.u8.wrap ((m.nm.toNat : Int) - 97) = (q : Int) := by
            rw [hkn, nameOf_toNat (by have := H16.out; omega)]
            have := H16.out
            show (((97 + q : Nat) : Int) - 97) % 256 = (q : Int)
            omega
          obtain ⟨fk, hfk'⟩ : ∃ fk : Int, ((F q : Nat) : Int) = fk := ⟨_, rfl⟩
          have hfk2 := HFF.out q
          have f0 : 0 ≤ fk := by omega
          have f1 : fk ≤ 4294967296 := by omega
          obtain ⟨vb, vo, hAV, hvl, hvc⟩ := HX.out q (by simpa using hq)
          rw [List.getElem_map, List.getElem_range, hfk'] at hvc
          have hvw : wr.cell? ⟨vb, vo + q, none⟩ = some (.int .i64 fk) := (hcY0.cell hvl).trans hvc
          subst hAV
          have q2 : (q : Int) < (es.length : Int) := by omega
          have q3 : (0 : Int) ≤ (q : Int) := by omega
          clear hvc
          have HVY : Hid (gC + -fk = gY) := Lib.hid (by rw [hGY]; unfold addM; rw [if_neg hz, if_pos hsg, hkm, hfk'])
          have z0 : IntKind.i64.wrap (-fk) = -fk := IntWalk.i64_in _ (by omega)
          have z1 : IntKind.i64.wrap (gC + -fk) = gC + -fk := IntWalk.i64_in _ (by omega)
          clear hGY hz hsg hkm hfk' hkn hfk2
          clear hcY0
          go_wp2_with (go_at_call 96; refine (find_any s1 y _ HS1M.out).mono ?_; rw [HFI.out]; rintro e wI ⟨rfl, rfl⟩)
          rw [HS2E.out]
          clear hadd hadd2 l0 x0 l1 x1 hcell1 hcell2
          go_region_held3 (fun W => W.cell? ⟨w.heap.size, 0, none⟩ = some (.string B) ∧ W.cell? ⟨X, jc, none⟩ = some (.int .i64 gC))
            (first
              | exact HSS.out _ (Below.refl _ _).drew
              | exact HSS.out _ HB2.out
              | exact HSS.out _ HB3.out
              | exact HS5.out)
            (first
              | (go_at_call 96
                 have hq := HB2; clear hq
                 go_must (
                 (with_reducible refine (FBC.out _).mono ?_)
                 rintro e w3 ⟨rfl, hb3⟩
                 have HB3 : Hid (Below wr.heap.size wr w3) := Lib.hid (HB2.out.trans (hb3.mono HB2.out.size))
                 clear hb3
                 obtain ⟨s1c, s2c, s3c⟩ := HSET.out w3 (gC + -fk) HB3.out
                 have HS5 := Lib.hid s3c
                 clear s3c))
              | (go_at_call 96
                 go_must (
                 (with_reducible refine (FBY.out _).mono ?_)
                 rintro e w2 ⟨rfl, hb2⟩
                 have HB2 : Hid (Below wr.heap.size wr w2) := Lib.hid ((Below.refl _ _).drew.trans hb2)
                 clear hb2)))
          all_goals
            rename_i hHeld
            clear hHeld s1c s2c
            obtain ⟨r1, r2, r3⟩ := HPUT.out w3 (gC + -fk) HB3.out HVY.out
            have HR1 := Lib.hid r1; have HR2 := Lib.hid r2; have HR3 := Lib.hid r3
            clear r1 r2 r3
            go_wp2_with fail
            go_roundw
            case rel => exact ⟨k + 1, s2, _, by omega, rfl, by go_num, HS2.out, HPR2.out, HMP2.out, HIN2.out, HR1.out, HR2.out, HR3.out⟩
            case measure => simp [intOf]; omega
      · have g1 : ((m.sg.toNat : Int) == 45) = false := by
          rw [beq_eq_false_iff_ne]
          intro e
          exact hsg (UInt8.toNat_inj.1 (by show m.sg.toNat = 45; omega))
        by_cases hz : m.nm = 122
        · have n1 : ((m.nm.toNat : Int) != 122) = false := by rw [hz]; rfl
          have HVY : Hid (gC = gY) := Lib.hid (by rw [hGY]; unfold addM; rw [if_pos hz, Int.add_zero])
          have z1 : IntKind.i64.wrap gC = gC := IntWalk.i64_in _ (by omega)
          clear hGY hz hsg
          clear hcY0
          go_wp2_with (go_at_call 96; refine (find_any s1 y _ HS1M.out).mono ?_; rw [HFI.out]; rintro e wI ⟨rfl, rfl⟩)
          rw [HS2E.out]
          clear hadd hadd2 l0 x0 l1 x1 hcell1 hcell2
          go_region_held3 (fun W => W.cell? ⟨w.heap.size, 0, none⟩ = some (.string B) ∧ W.cell? ⟨X, jc, none⟩ = some (.int .i64 gC))
            (first
              | exact HSS.out _ (Below.refl _ _).drew
              | exact HSS.out _ HB2.out
              | exact HSS.out _ HB3.out
              | exact HS5.out)
            (first
              | (go_at_call 96
                 have hq := HB2; clear hq
                 go_must (
                 (with_reducible refine (FBC.out _).mono ?_)
                 rintro e w3 ⟨rfl, hb3⟩
                 have HB3 : Hid (Below wr.heap.size wr w3) := Lib.hid (HB2.out.trans (hb3.mono HB2.out.size))
                 clear hb3
                 obtain ⟨s1c, s2c, s3c⟩ := HSET.out w3 (gC) HB3.out
                 have HS5 := Lib.hid s3c
                 clear s3c))
              | (go_at_call 96
                 go_must (
                 (with_reducible refine (FBY.out _).mono ?_)
                 rintro e w2 ⟨rfl, hb2⟩
                 have HB2 : Hid (Below wr.heap.size wr w2) := Lib.hid ((Below.refl _ _).drew.trans hb2)
                 clear hb2)))
          all_goals
            rename_i hHeld
            clear hHeld s1c s2c
            obtain ⟨r1, r2, r3⟩ := HPUT.out w3 (gC) HB3.out HVY.out
            have HR1 := Lib.hid r1; have HR2 := Lib.hid r2; have HR3 := Lib.hid r3
            clear r1 r2 r3
            go_wp2_with fail
            go_roundw
            case rel => exact ⟨k + 1, s2, _, by omega, rfl, by go_num, HS2.out, HPR2.out, HMP2.out, HIN2.out, HR1.out, HR2.out, HR3.out⟩
            case measure => simp [intOf]; omega
        · have n1 : ((m.nm.toNat : Int) != 122) = true := by
            rw [bne_iff_ne]
            intro e
            exact hz (UInt8.toNat_inj.1 (by show m.nm.toNat = 122; omega))
          obtain ⟨q, hq, hkn⟩ : ∃ k, k < es.length ∧ m.nm = nameOf k := by
            rcases HOF.out m HMU.out with h | h
            · exact absurd h hz
            · exact h
          have hkm : m.nm.toNat - 97 = q := by
            rw [hkn, nameOf_toNat (by have := H16.out; omega)]; omega
          have q1 : IntKind.u8.wrap ((m.nm.toNat : Int) - 97) = (q : Int) := by
            rw [hkn, nameOf_toNat (by have := H16.out; omega)]
            have := H16.out
            show (((97 + q : Nat) : Int) - 97) % 256 = (q : Int)
            omega
          obtain ⟨fk, hfk'⟩ : ∃ fk : Int, ((F q : Nat) : Int) = fk := ⟨_, rfl⟩
          have hfk2 := HFF.out q
          have f0 : 0 ≤ fk := by omega
          have f1 : fk ≤ 4294967296 := by omega
          obtain ⟨vb, vo, hAV, hvl, hvc⟩ := HX.out q (by simpa using hq)
          rw [List.getElem_map, List.getElem_range, hfk'] at hvc
          have hvw : wr.cell? ⟨vb, vo + q, none⟩ = some (.int .i64 fk) := (hcY0.cell hvl).trans hvc
          subst hAV
          have q2 : (q : Int) < (es.length : Int) := by omega
          have q3 : (0 : Int) ≤ (q : Int) := by omega
          clear hvc
          have HVY : Hid (gC + fk = gY) := Lib.hid (by rw [hGY]; unfold addM; rw [if_neg hz, if_neg hsg, hkm, hfk'])
          have z1 : IntKind.i64.wrap (gC + fk) = gC + fk := IntWalk.i64_in _ (by omega)
          clear hGY hz hsg hkm hfk' hkn hfk2
          clear hcY0
          go_wp2_with (go_at_call 96; refine (find_any s1 y _ HS1M.out).mono ?_; rw [HFI.out]; rintro e wI ⟨rfl, rfl⟩)
          rw [HS2E.out]
          clear hadd hadd2 l0 x0 l1 x1 hcell1 hcell2
          go_region_held3 (fun W => W.cell? ⟨w.heap.size, 0, none⟩ = some (.string B) ∧ W.cell? ⟨X, jc, none⟩ = some (.int .i64 gC))
            (first
              | exact HSS.out _ (Below.refl _ _).drew
              | exact HSS.out _ HB2.out
              | exact HSS.out _ HB3.out
              | exact HS5.out)
            (first
              | (go_at_call 96
                 have hq := HB2; clear hq
                 go_must (
                 (with_reducible refine (FBC.out _).mono ?_)
                 rintro e w3 ⟨rfl, hb3⟩
                 have HB3 : Hid (Below wr.heap.size wr w3) := Lib.hid (HB2.out.trans (hb3.mono HB2.out.size))
                 clear hb3
                 obtain ⟨s1c, s2c, s3c⟩ := HSET.out w3 (gC + fk) HB3.out
                 have HS5 := Lib.hid s3c
                 clear s3c))
              | (go_at_call 96
                 go_must (
                 (with_reducible refine (FBY.out _).mono ?_)
                 rintro e w2 ⟨rfl, hb2⟩
                 have HB2 : Hid (Below wr.heap.size wr w2) := Lib.hid ((Below.refl _ _).drew.trans hb2)
                 clear hb2)))
          all_goals
            rename_i hHeld
            clear hHeld s1c s2c
            obtain ⟨r1, r2, r3⟩ := HPUT.out w3 (gC + fk) HB3.out HVY.out
            have HR1 := Lib.hid r1; have HR2 := Lib.hid r2; have HR3 := Lib.hid r3
            clear r1 r2 r3
            go_wp2_with fail
            go_roundw
            case rel => exact ⟨k + 1, s2, _, by omega, rfl, by go_num, HS2.out, HPR2.out, HMP2.out, HIN2.out, HR1.out, HR2.out, HR3.out⟩
            case measure => simp [intOf]; omega

end Go.Proofs.Ytjfdkhaepmmlfaa
