/- How many paths there are from each block, by the model. -/
import Derived.Test.YtghdjmjodgbghaaAcy
import Derived.Test.YtghdjmjodgbghaaIntsB
import Derived.Deep.RegionHeld3
import Derived.BigRegion
import Derived.Deep.RegionWith
import Derived.Deep.DrawnRows
namespace Go.Proofs.Ytghdjmjodgbghaa
open Go.RowKit

/-- what is handed back: a row of numbers, one for each block -/
def CountsPost (F : Nat → Nat) (n : Nat) (w : World) (e : Ending) (w' : World) : Prop :=
  ∃ g, e = .returned (.slice (some ⟨g, 0, none⟩) n n) ∧ w'.rowIs g 3 n (fun i => .int .i64 (F i : Nat)) ∧ Below w.heap.size w w'

set_option maxRecDepth 100000 in
set_option maxHeartbeats 8000000 in
/-- spec.l4Counts -/
theorem l4Counts_any (B : ByteArray) (A : Option Addr) (cap : Nat) (es : List (ByteArray × ByteArray)) (w : World) (hE : EdgesIn w w.heap.size A es) (hA : Acy B es (orderE B.data.toList (ebs es))) (hBm : B.size ≤ maxLen) :
    Calls Try.prog 65 #[.agg #[.string B, .slice A es.length cap]] w (CountsPost (tabC (ebs es) (exit_ B.data.toList) B.data.toList (orderE B.data.toList (ebs es))) B.size w) := by
  have h16 := hA.F.few
  have h8 := hA.F.eight
  have h1 := hA.F.one
  obtain ⟨O, hO⟩ : ∃ O, orderE B.data.toList (ebs es) = O := ⟨_, rfl⟩
  obtain ⟨o, ho⟩ : ∃ o : ByteArray, (⟨O.toArray⟩ : ByteArray) = o := ⟨_, rfl⟩
  have hod : o.data.toList = O := by rw [← ho]
  have hos : o.size = O.length := str_size hod
  have FO : Hid (∀ W : World, EdgesIn W W.heap.size A es → Calls Try.prog 89 #[.agg #[.string B, .slice A es.length cap]] W fun e w' => e = .returned (.string o) ∧ Below W.heap.size W w') := Lib.hid fun W h => by
    rw [← ho, ← hO]; exact l3Order_any B A cap es W h hA.F hBm
  rw [hO] at hA ⊢
  have hlen : B.data.toList.length = B.size := by simp
  obtain ⟨t, ht⟩ : ∃ t, exit_ B.data.toList = t := ⟨_, rfl⟩
  obtain ⟨l, hl⟩ : ∃ l, B.data.toList = l := ⟨_, rfl⟩
  obtain ⟨d, hd⟩ : ∃ d, B.size = d + 1 := ⟨B.size - 1, by omega⟩
  have FB : Hid (∀ (c : UInt8) (W : World), Calls Try.prog 66 #[.string B, .int .u8 c.toNat] W fun e w' => e = .returned (.int .i64 (Lib.indexByte l c)) ∧ W = w') := Lib.hid fun c W => by
    rw [← hl]; exact find_any B c W hBm
  have HT : Hid (Topo (ebs es) O) := Lib.hid hA.topo
  have HND : Hid O.Nodup := Lib.hid hA.nd
  have HLE : Hid (Lets l es) := Lib.hid (hl ▸ hA.F.lets)
  have HSUB : Hid (∀ x ∈ O, x ∈ l) := Lib.hid (hl ▸ hA.sub)
  have HLN : Hid l.Nodup := Lib.hid (hl ▸ hA.lnd)
  have HNO : Hid (∀ y, ([t], [y]) ∉ ebs es) := Lib.hid (ht ▸ hA.no)
  have HTIX : Hid (l[d]? = some t) := Lib.hid (by have := hA.tix; rw [ht, hl, hd] at this; simpa using this)
  have HLEN : Hid (l.length = d + 1) := Lib.hid (by rw [← hl, hlen, hd])
  have HO8 := Lib.hid hA.eight
  rw [ht, hl]
  have HOD := Lib.hid hod; have HOS := Lib.hid hos
  have a0 : IntKind.i64.wrap ((B.size : Int) - 1) = (d : Int) := by rw [IntWalk.i64_in _ (by omega)]; omega
  have a1 : (d : Int) < (B.size : Int) := by omega
  have a2 : d < B.size := by omega
  have HD := Lib.hid hd
  clear hO ho hod hos hlen ht hl hA hBm hd
  obtain ⟨W0, hW0⟩ : ∃ W0, W0 = (w.alloc (.cells #[.string B, .slice A es.length cap] 29)).alloc (.cells ((madeCells #[.int .i64 0] B.size).setIfInBounds d (.int .i64 1)) 3) := ⟨_, rfl⟩
  have hb0 : Below w.heap.size w W0 := by rw [hW0]; exact ((Below.refl _ _).alloc (Nat.le_refl _) _).alloc (by simp) _
  have t0 : Two W0 w.heap.size B A es.length cap := by rw [hW0]; exact ⟨by go_simp, by go_simp⟩
  have hz0 : W0.heap.size = w.heap.size + 2 := by rw [hW0]; simp
  have x0 : W0.rowIs (w.heap.size + 1) 3 B.size (fun i => .int .i64 ((tabC (ebs es) t l [] i : Nat) : Int)) := by
    have h := World.rowIs_alloc (w.alloc (.cells #[.string B, .slice A es.length cap] 29)) ((madeCells #[.int .i64 0] B.size).setIfInBounds d (.int .i64 1)) 3 (fun i => .int .i64 ((tabC (ebs es) t l [] i : Nat) : Int)) (fun i hi => by
      have hiB : i < B.size := by rw [Array.size_setIfInBounds, size_madeCells] at hi; exact hi
      have hi2 : i < l.length := by rw [HLEN.out, ← HD.out]; exact hiB
      have hc : l[i]? = some l[i] := List.getElem?_eq_getElem hi2
      rw [tabC_out hc (by simp), Array.getElem?_setIfInBounds]
      by_cases hid : d = i
      · subst hid
        have : l[d] = t := by have := hc.symm.trans HTIX.out; injection this
        rw [if_pos rfl, if_pos (by rw [size_madeCells]; exact hiB), if_pos this]; rfl
      · rw [if_neg hid]
        have hne : l[i] ≠ t := fun e => hid (by
          have h2 : l[d]? = l[i]? := by rw [HTIX.out, hc, e]
          exact (List.getElem?_inj (by have := HLEN.out; omega) HLN.out).1 h2)
        rw [if_neg hne]
        simp [madeCells, hiB, Nat.mod_one])
    rw [World.size_alloc, Array.size_setIfInBounds, size_madeCells] at h
    rw [hW0]; exact h
  have c0 := t0.1; have c1 := t0.2
  have c2 : (madeCells #[.int .i64 0] B.size)[d]? = some (.int .i64 0) := by simp [madeCells, a2, Nat.mod_one]
  rw [hW0] at c0 c1
  have hmk := fun W => make_ints B.size (by omega) W
  go_enter Try.func65, Try.ntmps65
  go_wp2_with fail
  rw [← hW0]
  clear hmk c0 c1 c2 hW0 a0 a1 a2
  obtain ⟨X, hX⟩ : ∃ X, w.heap.size + 1 = X := ⟨_, rfl⟩
  rw [hX] at x0 ⊢
  refine (FO.out _ ((hE.below hb0).more hb0.size)).mono ?_
  rintro e w3 ⟨rfl, hb3⟩
  have hb3' := hb0.trans (hb3.mono hb0.size)
  have t3 := t0.below hb3 (by omega)
  have x3 := x0.of_block (hb3.block X (by omega))
  have hz3 := hb3.size
  clear hb3 t0 x0 hb0 FO
  have HT3 := Lib.hid t3; have HX3 := Lib.hid x3; have HB3 := Lib.hid hb3'
  clear t3 x3 hb3'
  go_wp2_with fail
  go_loopw [5] (fun c wr => ∃ j : Nat, j ≤ o.size ∧ c = .int .i64 ((j : Int) - 1) ∧ wr.rowIs X 3 B.size (fun i => .int .i64 ((tabC (ebs es) t l (O.drop j) i : Nat) : Int)) ∧ w3.grownBy wr (some X)) (fun c _ => (intOf c + 1).toNat)
  case atStart => exact ⟨o.size, Nat.le_refl _, by first | rfl | exact congrArg (Value.int IntKind.i64) (by have := HOS.out; have := HO8.out; unfold wrap64; omega), by rw [List.drop_of_length_le (by have := HOS.out; omega)]; exact HX3.out, World.grownBy.refl _ _⟩
  case round =>
    clear HX3
    obtain ⟨j, hj, rfl, htab, hgr⟩ := hrel
    have tr := HT3.out.grown hgr (by omega) (by intro e; injection e with e; omega)
    have hbw : Below w.heap.size w wr := HB3.out.grown hgr (by omega) (fun q e => by injection e with e; omega)
    have hzr := hgr.size
    have HTAB := Lib.hid htab; have HGR := Lib.hid hgr
    clear htab hgr
    have hos := HOS.out
    cases j with
    | zero =>
      clear tr hos
      go_wp2_with fail
      go_ret
      exact ⟨X, rfl, HTAB.out, hbw⟩
    | succ j =>
      have hjl : j < o.size := by omega
      have hjO : j < O.length := by omega
      obtain ⟨b, hb⟩ : ∃ b, O[j] = b := ⟨_, rfl⟩
      have hdrop : O.drop j = b :: O.drop (j + 1) := by rw [List.drop_eq_getElem_cons hjO, hb]
      have hTj : Topo (ebs es) (b :: O.drop (j + 1)) := by
        rw [← hdrop]
        exact Topo.drop (a := O.take j) (by rw [List.take_append_drop]; exact HT.out)
      have hbl : b ∈ l := HSUB.out b (hb ▸ List.getElem_mem hjO)
      have hbn : b ∉ O.drop (j + 1) := by
        have h := HND.out
        rw [← List.take_append_drop j O, hdrop] at h
        exact (List.nodup_cons.1 (List.nodup_append.1 h).2.1).1
      have hrl : (O.drop (j + 1)).length ≤ 7 := by have := HO8.out; simp; omega
      have hkey : o.extract j (j + 1) = ⟨#[b]⟩ := by
        have := letter_at (p := o) hjl
        rw [HOD.out] at this
        have e : O.getD j 0 = b := by simp [List.getD, hjO, hb]
        rw [e] at this
        exact one_byte this
      have hby : o[j] = b := by
        have h2 : o.data.toList[j]? = some b := by rw [HOD.out, List.getElem?_eq_getElem hjO, hb]
        have h3 : o.data.toList[j]? = some o[j] := by rw [List.getElem?_eq_getElem (by simpa using hjl)]; rfl
        rw [h3] at h2; injection h2
      obtain ⟨h, hh⟩ := Int.eq_ofNat_of_zero_le (indexByte_nonneg.2 hbl)
      have hhl : h < l.length := by have := indexByte_lt (l := l) (c := b); omega
      have hlh : l[h]? = some b := by have := indexByte_get hbl; rw [hh] at this; simpa using this
      have hhB : h < B.size := by rw [HD.out, ← HLEN.out]; exact hhl
      have FH : Hid (∀ W : World, Calls Try.prog 66 #[.string B, .int .u8 (o[j].toNat : Int)] W fun e w' => e = .returned (.int .i64 h) ∧ W = w') := Lib.hid fun W => by
        have := FB.out b W
        rw [hh] at this
        rw [hby]; exact this
      have HDR := Lib.hid hdrop; have HTJ := Lib.hid hTj; have HBN := Lib.hid hbn; have HKEY := Lib.hid hkey; have HLH := Lib.hid hlh; have HRL := Lib.hid hrl; have HHH := Lib.hid hh
      have e1 : ((j + 1 : Nat) : Int) - 1 = (j : Int) := by omega
      rw [e1]
      have d0 := tr.1; have d1 := tr.2
      have b1 : (0 : Int) ≤ (j : Int) := by omega
      have b2 : (j : Int) < (o.size : Int) := by omega
      clear hb hdrop hTj hbl hbn hrl hkey hh hlh e1 hos hby
      go_wp2_with fail
      go_quiet ((go_at_call 66; exact Calls.quiet_of_same ((FH.out _).mono fun _ _ ⟨h, h'⟩ => ⟨h, h'.symm⟩)))
      have hgq : w3.grownBy (wr.drewN nq) (some X) := ⟨HGR.out.os, HGR.out.tape, HGR.out.output, HGR.out.size, HGR.out.block⟩
      have HXQ : Hid ((wr.drewN nq).rowIs X 3 B.size (fun i => .int .i64 ((tabC (ebs es) t l (O.drop (j + 1)) i : Nat) : Int))) := Lib.hid (HTAB.out.of_block rfl)
      have HGQ := Lib.hid hgq
      clear FH hgq
      go_wp2_with fail
      clear d0 d1 tr
      have HV : Hid (∀ k : Nat, k ≤ es.length → sumC (ebs es) (cntE (ebs es) t) b (List.range k) ≤ 4294967296) := Lib.hid fun k hk => sumC_few (by rw [ebs_len]; exact h16) HTJ.out HRL.out (by omega)
      go_loopw [37] (fun c wi => ∃ k : Nat, k ≤ es.length ∧ c = .int .i64 k ∧ wi.rowIs X 3 B.size (fun i => .int .i64 ((if i = h then (if b = t then 1 else 0) + sumC (ebs es) (cntE (ebs es) t) b (List.range k) else tabC (ebs es) t l (O.drop (j + 1)) i : Nat) : Int)) ∧ w3.grownBy wi (some X)) (fun c _ => es.length - (intOf c).toNat)
      case atStart => exact ⟨0, Nat.zero_le _, rfl, HXQ.out.congr (fun i _ => by
        by_cases hi : i = h
        · rw [if_pos hi, hi, tabC_out HLH.out HBN.out]; rfl
        · rw [if_neg hi]), HGQ.out⟩
      case round =>
        clear HXQ HGQ
        obtain ⟨k, hk, rfl, htab, hgr⟩ := hrel
        have tr := HT3.out.grown hgr (by omega) (by intro e; injection e with e; omega)
        have hbw : Below w.heap.size w wr := HB3.out.grown hgr (by omega) (fun q e => by injection e with e; omega)
        have hzr := hgr.size
        have HTAB := Lib.hid htab; have HGR := Lib.hid hgr
        clear htab hgr
        have hwr : wrap64 ((j : Int) - 1) = (j : Int) - 1 := by have := HOS.out; have := HO8.out; unfold wrap64; omega
        by_cases hlt : k < es.length
        case neg =>
          have hkn : k = es.length := by omega
          have hel : (ebs es).length = es.length := by simp [ebs]
          have HN : Hid (wr.rowIs X 3 B.size (fun i => .int .i64 ((tabC (ebs es) t l (O.drop j) i : Nat) : Int))) := Lib.hid (HTAB.out.congr (fun i _ => by
            rw [HDR.out, tabC_cons HLN.out HLH.out i, hkn, ← hel, ← cntE_all HNO.out HTJ.out HRL.out]))
          clear tr
          go_wp2_with fail
          go_roundw
          case rel => exact ⟨j, by omega, by rw [hwr], HN.out, HGR.out⟩
          case measure => simp [intOf, hwr]
        obtain ⟨x, y, he, h1, h2, hxl, hyl⟩ := edge_letters HLE.out hlt
        obtain ⟨eb, eo, rfl, hlow, q1, q2⟩ := (hE.below hbw) k hlt
        rw [h1] at q1
        rw [h2] at q2
        have HE1 := Lib.hid he
        have hba : Below wr.heap.size wr (wr.alloc (.cells #[.string ⟨#[x]⟩, .string ⟨#[y]⟩] 62)) := (Below.refl _ _).alloc (Nat.le_refl _) _
        have HBA := Lib.hid hba
        have HRS : Hid (sumC (ebs es) (cntE (ebs es) t) b (List.range (k + 1)) = sumC (ebs es) (cntE (ebs es) t) b (List.range k) + stepC (ebs es) (cntE (ebs es) t) b k) := Lib.hid (sumC_range _ _ _ _)
        clear he h1 h2 hba
        have d0 := tr.1; have d1 := tr.2
        have a4 : (0 : Int) ≤ (j : Int) + 1 := by omega
        have a5 : ((j : Int) + 1).toNat = j + 1 := by omega
        have a6 : (j : Int) + 1 ≤ (o.size : Int) := by omega
        have a7 : j + 1 ≤ o.size := by omega
        have a8 : (j : Int) ≤ (j : Int) + 1 := by omega
        have a9 : IntKind.i64.wrap ((j : Int) + 1) = (j : Int) + 1 := by have := HOS.out; have := HO8.out; exact IntWalk.i64_in _ (by omega)
        obtain ⟨ob, hob⟩ : ∃ ob : ByteArray, o.extract j (j + 1) = ob := ⟨_, rfl⟩
        have hobb : ob = ⟨#[b]⟩ := by rw [← hob, HKEY.out]
        have HWR := Lib.hid hwr
        clear hwr
        by_cases hxb : x = b
        case neg =>
          have hq : (x == b) = false := by simp [hxb]
          have HN : Hid (sumC (ebs es) (cntE (ebs es) t) b (List.range (k + 1)) = sumC (ebs es) (cntE (ebs es) t) b (List.range k)) := Lib.hid (by rw [HRS.out, stepC_no HE1.out hxb, Nat.add_zero])
          have HG6 := Lib.hid (grown_below HGR.out HBA.out)
          have HX6 := Lib.hid (HTAB.out.of_block (HBA.out.block X (by have := HTAB.out.lt; omega)))
          clear hxb tr
          go_wp2_with fail
          go_quiet (fail)
          go_wp2_with fail
          go_roundw
          case rel => exact ⟨k + 1, by omega, by go_num, by rw [HN.out]; exact HX6.out.of_block rfl, ⟨HG6.out.os, HG6.out.tape, HG6.out.output, HG6.out.size, HG6.out.block⟩⟩
          case measure => simp [intOf]; omega
        subst hxb
        have hq : (x == x) = true := by simp
        -- an edge from the block
        obtain ⟨iy, hiy⟩ := Int.eq_ofNat_of_zero_le (indexByte_nonneg.2 hyl)
        have hiyl : iy < l.length := by have := indexByte_lt (l := l) (c := y); omega
        have hly : l[iy]? = some y := by have := indexByte_get hyl; rw [hiy] at this; simpa using this
        have hiyB : iy < B.size := by rw [HD.out, ← HLEN.out]; exact hiyl
        have hyO : y ∈ O.drop (j + 1) := HTJ.out.1 y (List.mem_of_getElem? HE1.out)
        have hne : iy ≠ h := fun e => by
          subst e
          have := hly.symm.trans HLH.out
          injection this with e2
          subst e2
          exact topo_self _ _ _ (Nat.le_refl _) HTJ.out (List.mem_of_getElem? HE1.out)
        have FY : Hid (∀ W : World, Calls Try.prog 66 #[.string B, .int .u8 (y.toNat : Int)] W fun e w' => e = .returned (.int .i64 iy) ∧ W = w') := Lib.hid fun W => by
          have := FB.out y W
          rwa [hiy] at this
        obtain ⟨c1, hc1⟩ : ∃ c1 : Nat, ((if x = t then 1 else 0) + sumC (ebs es) (cntE (ebs es) t) x (List.range k)) = c1 := ⟨_, rfl⟩
        obtain ⟨c2, hc2⟩ : ∃ c2 : Nat, cntE (ebs es) t y = c2 := ⟨_, rfl⟩
        have hcb : c1 + c2 ≤ 8589934593 := by
          have h1 := HV.out k hk
          have h2 : cntE (ebs es) t y ≤ 268435456 := by
            obtain ⟨r2, h2, h3, _⟩ := topo_to HTJ.out HRL.out (List.mem_of_getElem? HE1.out)
            exact cntE_few (by rw [ebs_len]; exact h16) h2 h3
          rw [← hc1, ← hc2]
          split <;> omega
        have cy : wr.cell? ⟨X, iy, none⟩ = some (.int .i64 c2) := by
          rw [HTAB.out.cell hiyB, if_neg hne, tabC_in hly (.inl hyO), hc2]
        have ch : wr.cell? ⟨X, h, none⟩ = some (.int .i64 c1) := by
          rw [HTAB.out.cell hhB, if_pos rfl, hc1]
        have fh := HTAB.out.frozen h
        have HN : Hid ((if x = t then 1 else 0) + sumC (ebs es) (cntE (ebs es) t) x (List.range (k + 1)) = c1 + c2) := Lib.hid (by rw [HRS.out, stepC_yes HE1.out, ← hc1, ← hc2]; omega)
        have hba := HBA.out
        have hXr : X < wr.heap.size := HTAB.out.lt
        have z1 : IntKind.i64.wrap ((c1 : Int) + (c2 : Int)) = (c1 : Int) + (c2 : Int) := IntWalk.i64_in _ (by omega)
        have i1 : (0 : Int) ≤ (iy : Int) := by omega
        have i2 : (iy : Int) < (B.size : Int) := by omega
        have i3 : (0 : Int) ≤ (h : Int) := by omega
        have i4 : (h : Int) < (B.size : Int) := by omega
        clear hiy hiyl hly hyO hc1 hc2 hcb
        go_wp2_with fail
        go_quiet (fail)
        go_wp2_with fail
        obtain ⟨wa, hwa⟩ : ∃ wa, (wr.alloc (.cells #[.string ⟨#[x]⟩, .string ⟨#[y]⟩] 62)).drewN nq = wa := ⟨_, rfl⟩
        have tA := tr.below hba (by omega)
        have cA0 := tA.1
        have cA1 := (hba.cell (p := ⟨X, iy, none⟩) (by simp only; omega)).trans cy
        have cA2 := (hba.cell (p := ⟨X, h, none⟩) (by simp only; omega)).trans ch
        have cA3 : (wr.alloc (.cells #[.string ⟨#[x]⟩, .string ⟨#[y]⟩] 62)).cell? ⟨wr.heap.size, 1, none⟩ = some (.string ⟨#[y]⟩) := by go_simp
        have fA := (HTAB.out.of_block (hba.block X (by omega))).frozen h
        have hwX : wa.heap[X]? = wr.heap[X]? := by rw [← hwa]; exact hba.block X (by omega)
        have hwb : Below wr.heap.size wr wa := by rw [← hwa]; exact below_drewN hba nq
        rw [show ∀ p, (wr.alloc (.cells #[.string ⟨#[x]⟩, .string ⟨#[y]⟩] 62)).cell? p = wa.cell? p from fun p => by rw [← hwa]; rfl] at cA0 cA1 cA2 cA3
        rw [show ∀ p, (wr.alloc (.cells #[.string ⟨#[x]⟩, .string ⟨#[y]⟩] 62)).frozen? p = wa.frozen? p from fun p => by rw [← hwa]; rfl] at fA
        rw [hwa]
        have HWX := Lib.hid hwX; have HWB := Lib.hid hwb
        clear hwa hba tA d0 d1 q1 q2 cy ch fh tr hwX hwb a4 a5 a6 a7 a8 a9 hq hob hobb
        have hrow : (wa.setCell ⟨X, h, none⟩ (.int .i64 ((c1 : Int) + (c2 : Int)))).rowIs X 3 B.size (fun i => .int .i64 ((if i = h then (if x = t then 1 else 0) + sumC (ebs es) (cntE (ebs es) t) x (List.range (k + 1)) else tabC (ebs es) t l (O.drop (j + 1)) i : Nat) : Int)) := by
          refine ((HTAB.out.of_block HWX.out).set h (.int .i64 ((c1 : Int) + (c2 : Int)))).congr fun i hi => ?_
          by_cases hih : i = h
          · simp only [hih, if_true, HN.out]; rw [Int.natCast_add]
          · simp only [hih, if_false]
        have HROW := Lib.hid hrow
        have HG7 := Lib.hid (only_setCell_at (i := h) (u := .int .i64 ((c1 : Int) + (c2 : Int))) (grown_below HGR.out HWB.out))
        clear hrow
        go_region_with (first
            | (go_at_call 66; refine (FY.out _).mono ?_; rintro e w6 ⟨rfl, rfl⟩))
        all_goals
          go_wp2_with fail
          go_roundw
          case rel => exact ⟨k + 1, by omega, by go_num, HROW.out.of_block rfl, ⟨HG7.out.os, HG7.out.tape, HG7.out.output, HG7.out.size, HG7.out.block⟩⟩
          case measure => simp [intOf]; omega

end Go.Proofs.Ytghdjmjodgbghaa
