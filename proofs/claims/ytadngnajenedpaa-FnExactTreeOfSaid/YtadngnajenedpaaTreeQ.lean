/- The heaviest tree, by the program: TreeOf. -/
import Derived.Test.YtadngnajenedpaaTreeP
namespace Go.Proofs.Ytadngnajenedpaa
open Go.RowKit

theorem Uni.setOther {w : World} {base R n : Nat} {G : Nat → Nat} {par : Nat → Option Nat} {f d : Nat → Nat} (h : Uni w base R n G par f d) {a : Addr} (hR : R ≠ a.block) (hG : ∀ i, i < n → G i ≠ a.block) (v : Value) : Uni (w.setCell a v) base R n G par f d :=
  ⟨h.row.setOther hR v, fun i hi => (h.cell i hi).setOther (hG i hi) v, h.lo, h.ne, h.inj, h.root, h.up⟩

/-- sixteen marks -/
theorem marks_row (W : World) : (W.alloc (.cells #[.bool false, .bool false, .bool false, .bool false, .bool false, .bool false, .bool false, .bool false, .bool false, .bool false, .bool false, .bool false, .bool false, .bool false, .bool false, .bool false] 59)).rowIs W.heap.size 59 16 (fun _ => .bool false) := by
  refine World.rowIs_alloc W _ _ _ fun i hi => ?_
  have hi2 : i < 16 := hi
  have h : i = 0 ∨ i = 1 ∨ i = 2 ∨ i = 3 ∨ i = 4 ∨ i = 5 ∨ i = 6 ∨ i = 7 ∨ i = 8 ∨ i = 9 ∨ i = 10 ∨ i = 11 ∨ i = 12 ∨ i = 13 ∨ i = 14 ∨ i = 15 := by omega
  rcases h with rfl | rfl | rfl | rfl | rfl | rfl | rfl | rfl | rfl | rfl | rfl | rfl | rfl | rfl | rfl | rfl <;> rfl

set_option maxRecDepth 100000 in
set_option maxHeartbeats 8000000 in
/-- impl.TreeOf -/
theorem implTreeOf_any (B : ByteArray) (A : Option Addr) (cap : Nat) (es : List (ByteArray × ByteArray)) (P : Option Addr) (pcap : Nat) (xs : List Int) (w : World) (hs : B.size ≤ maxLen) (hE : EdgesIn w w.heap.size A es) (hl : es.length ≤ 1099511627776) (hS : ∀ e ∈ es, e.1.size ≤ 1099511627776 ∧ e.2.size ≤ 1099511627776) (hX : IntsIn w w.heap.size P xs) (hxl : xs.length ≤ 1099511627776) :
    Calls Try.prog 21 #[.agg #[.string B, .slice A es.length cap], .slice P xs.length pcap] w (TextPost (treeOfV B es xs) w) := by
  obtain ⟨v, hv⟩ : ∃ v, weightsV B es xs = v := ⟨_, rfl⟩
  have FA : Hid (∀ W : World, EdgesIn W W.heap.size A es → IntsIn W W.heap.size P xs → Calls Try.prog 15 #[.agg #[.string B, .slice A es.length cap], .slice P xs.length pcap] W fun e w' => e = .returned (.bool v) ∧ Below W.heap.size W w') := Lib.hid fun W h h' => by
    have := implWeightsValid_any B A cap es P pcap xs W hs h hl hS h' hxl
    rwa [hv] at this
  have hb1 : Below w.heap.size w (w.alloc (.cells #[.string B, .slice A es.length cap] 30)) := (Below.refl _ _).alloc (Nat.le_refl _) _
  have t1 := Two.made w B A es.length cap 30
  have hz1 : (w.alloc (.cells #[.string B, .slice A es.length cap] 30)).heap.size = w.heap.size + 1 := by simp
  cases v with
  | false =>
    have HN : Hid (treeOfV B es xs = (⟨#[]⟩, false)) := Lib.hid (textV_no (by rw [hv]; simp))
    clear hv hs hl hS hxl
    go_enter Try.func21, Try.ntmps21
    go_wp2_with fail
    refine (FA.out _ ((hE.below hb1).more hb1.size) ((hX.below hb1).more hb1.size)).mono ?_
    rintro e w2 ⟨rfl, hb2⟩
    have hb2' := hb1.trans (hb2.mono hb1.size)
    clear hb2 t1
    go_wp2_with fail
    go_ret2
    exact ⟨by rw [HN.out]; rfl, hb2'⟩
  | true =>
  have hw := decB_iff.1 hv
  have hV := hw.1
  have h2 : 2 ≤ B.size := by have := hV.1.1.1; simpa using this
  have h8 : B.size ≤ 8 := (valid_sizes hV).1
  have h16 : es.length ≤ 16 := (valid_sizes hV).2
  have HEO := Lib.hid hV.1.2
  have HBL : Hid (B.data.toList.length = B.size) := Lib.hid (by simp)
  obtain ⟨n, hn⟩ : ∃ n, es.length = n := ⟨_, rfl⟩
  have hxn : xs.length = n := by have := hw.2.1; omega
  obtain ⟨E, hEE⟩ : ∃ E, endsN B.data.toList (ebs es) = E := ⟨_, rfl⟩
  have FJ : Hid (∀ (base R gcap : Nat) (G : Nat → Nat) (par : Nat → Option Nat) (f d : Nat → Nat) (k : Nat) (W : World), EdgesIn W base A es → Uni W base R B.size G par f d → base ≤ W.heap.size → k < n → Calls Try.prog 47 #[.agg #[.string B, .slice A n cap], .slice (some ⟨R, 0, none⟩) B.size gcap, .int .i64 k] W fun e w' => e = .returned (.bool (f (E k).1 != f (E k).2)) ∧ (∃ par' d', Uni w' base R B.size G par' (joinR f (E k).1 (E k).2) d') ∧ KeepG B.size G W w') := Lib.hid fun base R gcap G par f d k W h hU hb hk => by
    rw [← hEE, ← hn]
    exact joinEnds_any B A cap gcap es base R G par f d k W h hl HEO.out h8 hU hb (by omega)
  have FN : Hid (∀ k, k < n → (E k).1 < B.size ∧ (E k).2 < B.size) := Lib.hid fun k hk => by
    obtain ⟨x, y, i, j, _, _, e3, _, _, h1, h2⟩ := ends_at HEO.out (show k < es.length by omega)
    rw [← hEE, e3]
    have := HBL.out
    simp only
    omega
  obtain ⟨L, hL⟩ : ∃ L, lowO (wsOf xs) n 100 = L := ⟨_, rfl⟩
  have HLT : Hid (∀ k ∈ L, k < n) := Lib.hid fun k hk => by rw [← hL] at hk; exact (mem_low.1 hk).1
  have HND : Hid L.Nodup := Lib.hid (by rw [← hL]; exact (low_sorted _ _ _).imp fun hh e => by subst e; exact hh.not hh)
  have FH : Hid (∀ W : World, IntsIn W W.heap.size P xs → Calls Try.prog 46 #[.slice P xs.length pcap] W fun e w' => ∃ (D : Nat) (g : Nat → Nat), e = .returned (.slice (some ⟨D, 0, none⟩) n n) ∧ W.heap.size ≤ D ∧ D < w'.heap.size ∧ PlacesAt w' D n g ∧ (List.range n).map g = L ∧ Below W.heap.size W w') := Lib.hid fun W h => by
    refine (heaviestFirst_any P pcap xs W h (by omega) hw.2.2).mono ?_
    rintro e w' ⟨D, g, rfl, h1, h2, h3, h4, h5⟩
    rw [hxn] at h3 h4 ⊢
    exact ⟨D, g, rfl, h1, h2, h3, by rw [h4, hL], h5⟩
  obtain ⟨r, hr⟩ : ∃ r : ByteArray, (⟨(names (fun k => decide (k ∈ heavyK B es xs)) es.length).toArray⟩ : ByteArray) = r := ⟨_, rfl⟩
  have HN : Hid (treeOfV B es xs = (r, true)) := Lib.hid (by rw [← hr]; exact textV_yes hv)
  have HR : Hid (r = ⟨(names (fun k => decide (k ∈ greedy E (fresh B.size) L)) n).toArray⟩) := Lib.hid (by rw [← hr]; unfold heavyK; rw [hEE, hn, hL])
  have HEN : Hid (∀ args w, (callFunc 49 args).run Try.prog w = .ok (.enter 49 args) w) := Lib.hid (enters_of Try.func49 (by kernel_rfl) rfl)
  have FG : Hid (∀ W : World, Calls Try.prog 45 #[.agg #[.string B, .slice A n cap]] W fun e w' => ∃ (R : Nat) (G : Nat → Nat) (par : Nat → Option Nat) (d : Nat → Nat), e = .returned (.slice (some ⟨R, 0, none⟩) B.size B.size) ∧ Uni w' W.heap.size R B.size G par (fresh B.size) d ∧ Below W.heap.size W w') := Lib.hid fun W => groupsOf_any B _ W h2 h8
  rw [hn] at hb1 t1 hz1 FA ⊢
  have hn16 : n ≤ 16 := by omega
  have HHN := Lib.hid hn
  clear hv hw hV hs hl hS hxl hEE hL hr h2 h8 h16 hxn hn
  go_enter Try.func21, Try.ntmps21
  go_wp2_with fail
  refine (FA.out _ ((hE.below hb1).more hb1.size) ((hX.below hb1).more hb1.size)).mono ?_
  rintro e w2 ⟨rfl, hb2⟩
  have hb2' := hb1.trans (hb2.mono hb1.size)
  have t2 := t1.below hb2 (by omega)
  have hz2 := hb2.size
  rw [hz1] at hz2
  have hd0 := t2.1; have hd1 := t2.2
  clear hb2 t1 FA hb1 hz1
  go_wp2_with fail
  refine (FG.out _).mono ?_
  rintro e w3 ⟨R, G, par0, d0, rfl, hU3, hb3⟩
  have hb3' := hb2'.trans (hb3.mono hb2'.size)
  have t3 := t2.below hb3 (by omega)
  have hz3 := hb3.size
  have hE3 := (hE.below hb3').more (show w.heap.size ≤ w2.heap.size by omega)
  obtain ⟨base, hbase⟩ : ∃ base, w2.heap.size = base := ⟨_, rfl⟩
  rw [hbase] at hU3 hE3 hz2 hz3
  have hRl := hU3.row.lt
  have hGl : ∀ i, i < B.size → G i < w3.heap.size := fun i hi => hU3.lt hi
  obtain ⟨W4, hW4⟩ : ∃ W4, W4 = w3.alloc (.cells #[.bool false, .bool false, .bool false, .bool false, .bool false, .bool false, .bool false, .bool false, .bool false, .bool false, .bool false, .bool false, .bool false, .bool false, .bool false, .bool false] 59) := ⟨_, rfl⟩
  have hb4 : Below w3.heap.size w3 W4 := by rw [hW4]; exact (Below.refl _ _).alloc (Nat.le_refl _) _
  have hr4 : W4.rowIs w3.heap.size 59 16 (fun _ => .bool false) := by rw [hW4]; exact marks_row w3
  have hz4 : W4.heap.size = w3.heap.size + 1 := by rw [hW4]; simp
  have hb4' := hb3'.trans (hb4.mono hb3'.size)
  have t4 := t3.below hb4 (by omega)
  have hU4 := hU3.below_all hb4
  have hX4 := (hX.below hb4').more hb4'.size
  obtain ⟨X, hXX⟩ : ∃ X, w3.heap.size = X := ⟨_, rfl⟩
  rw [hXX] at hr4 hz4 hRl hGl hz3
  have HT4 := Lib.hid t4; have HU4 := Lib.hid hU4; have HR4 := Lib.hid hr4; have HB4 := Lib.hid hb4'; have HRL := Lib.hid hRl; have HGL := Lib.hid hGl
  have HXP := Lib.hid hXX; have HE3 := Lib.hid hE3
  clear hb2' hb3 hb3' t2 t3 hd0 hd1 hU3 FG hb4 hr4 hb4' t4 hU4 hX hRl hGl hbase hE3
  go_wp2_with fail
  rw [← hW4]
  clear hW4 hXX
  refine (FH.out _ hX4).mono ?_
  rintro e w5 ⟨D, pl, rfl, hD1, hD2, hpl, hmap, hb5⟩
  have HU5 : Hid (Uni w5 base R B.size G par0 (fresh B.size) d0) := Lib.hid (HU4.out.below_all hb5)
  have HT5 : Hid (Two w5 w.heap.size B A n cap) := Lib.hid (HT4.out.below hb5 (by omega))
  have HR5 : Hid (w5.rowIs X 59 16 (fun _ => .bool false)) := Lib.hid (HR4.out.of_block (hb5.block X (by omega)))
  have HB5 : Hid (Below w.heap.size w w5) := Lib.hid (HB4.out.trans (hb5.mono HB4.out.size))
  have HPL := Lib.hid hpl
  have HMAP : Hid (∀ j, j < n → L[j]? = some (pl j)) := Lib.hid fun j hj => by
    rw [← hmap, List.getElem?_map, List.getElem?_range hj]; rfl
  have HLL : Hid (L.length = n) := Lib.hid (by rw [← hmap]; simp)
  have HDX : Hid (X < D ∧ D < w5.heap.size ∧ w.heap.size < base ∧ base ≤ X) := Lib.hid ⟨by omega, hD2, by omega, by omega⟩
  have HSZ5 : Hid (X < w5.heap.size) := Lib.hid (by omega)
  clear hpl hmap hb5 hD1 hD2 HU4 HT4 HR4 HB4 hX4 FH hz4 hz3 hz2
  go_wp2_with fail
  go_loopw [19] (fun c wr => ∃ (j : Nat) (T : List Nat) (f g d : Nat → Nat) (par : Nat → Option Nat), j ≤ n ∧ c = .int .i64 j ∧ Hid (Uni wr base R B.size G par g d) ∧ Hid (SameL B.size f g) ∧ Hid (Two wr w.heap.size B A n cap) ∧ Below w.heap.size w wr ∧ Hid (wr.rowIs X 59 16 (fun i => .bool (decide (i ∈ T)))) ∧ Hid (PlacesAt wr D n pl) ∧ Hid (greedy E (fresh B.size) L = T ++ greedy E f (L.drop j)) ∧ Hid (∀ k ∈ T, k ∈ L.take j)) (fun c _ => n - (intOf c).toNat)
  case atStart => exact ⟨0, [], fresh B.size, fresh B.size, d0, par0, Nat.zero_le _, rfl, HU5, Lib.hid (SameL.refl _ _), HT5, HB5.out, Lib.hid (HR5.out.congr fun i _ => by simp), HPL, Lib.hid (by rw [List.drop_zero]; rfl), Lib.hid fun k hk => by simp at hk⟩
  case round =>
    clear HU5 HT5 HB5 HR5 HPL HSZ5
    obtain ⟨j, T, f, g, d, par, hj, rfl, HU, HS, HT, hb, HR16, HPL, HGR, HTK⟩ := hrel
    by_cases hlt : j < n
    case neg =>
      have hTT : greedy E (fresh B.size) L = T := by rw [HGR.out, List.drop_of_length_le (by have := HLL.out; omega)]; simp [greedy]
      have HTT := Lib.hid hTT
      have hd0 := HT.out.1; have hd1 := HT.out.2
      have HNW := Lib.hid (namesWhere_any B A n cap _ #[.pointer (some ⟨X, 0, none⟩)] (fun k => decide (k ∈ T)) wr (by omega) HEN.out (fun i W hi hbW => takenAt_any X i (decide (i ∈ T)) W (by omega) ((hbW.cell HR16.out.lt).trans (HR16.out.cell (i := i) (by omega)))))
      have HRT : Hid ((⟨(names (fun k => decide (k ∈ T)) n).toArray⟩ : ByteArray) = r) := Lib.hid (by rw [HR.out, hTT])
      clear hTT
      go_wp2_with fail
      refine HNW.out.mono ?_
      rw [HRT.out]
      rintro e w6 ⟨rfl, hb6⟩
      have hb6' := hb.trans (hb6.mono hb.size)
      clear hb6 hd0 hd1 HNW
      go_wp2_with fail
      go_ret2
      exact ⟨by rw [HN.out]; rfl, hb6'⟩
    obtain ⟨k, hk⟩ : ∃ k, pl j = k := ⟨_, rfl⟩
    have hLj := HMAP.out j hlt
    have cj := HPL.out.cell (i := j) hlt
    rw [hk] at hLj cj
    have hjl : j < L.length := by have := HLL.out; omega
    have hkL : k ∈ L := List.mem_of_getElem? hLj
    have hkn := HLT.out k hkL
    have hdrop : L.drop j = k :: L.drop (j + 1) := by
      rw [List.drop_eq_getElem_cons hjl]
      have : L[j] = k := by rw [List.getElem?_eq_getElem hjl] at hLj; injection hLj
      rw [this]
    have htake : L.take (j + 1) = L.take j ++ [k] := by rw [List.take_add_one, hLj]; rfl
    have hkT : k ∉ T := fun h => by
      have h1 := HTK.out k h
      have h2 := HND.out
      rw [← List.take_append_drop (j + 1) L, htake] at h2
      have h3 := (List.nodup_append.1 h2).1
      have h4 := (List.nodup_append.1 h3).2.2 k h1 k (by simp)
      exact h4 rfl
    obtain ⟨n1, n2⟩ := FN.out k hkn
    have HJN := Lib.hid (FJ.out base R B.size G par g d k wr (by have := hE.below hb; exact this.more (by have := HDX.out; omega)) HU.out (by have := HDX.out; have := HPL.out.lt; omega) hkn)
    have hsame := HS.out.same n1 n2
    have hnew := HS.out.join n1 n2
    obtain ⟨p1, hp1⟩ : ∃ p, (E k).1 = p := ⟨_, rfl⟩
    obtain ⟨p2, hp2⟩ : ∃ p, (E k).2 = p := ⟨_, rfl⟩
    have HY : Hid (f p1 = f p2 → greedy E (fresh B.size) L = T ++ greedy E f (L.drop (j + 1))) := Lib.hid fun h => by
      rw [HGR.out, hdrop, greedy_no (by rw [hp1, hp2]; exact h)]
    have HZ : Hid (¬ f p1 = f p2 → greedy E (fresh B.size) L = (T ++ [k]) ++ greedy E (joinL f p1 p2) (L.drop (j + 1))) := Lib.hid fun h => by
      rw [HGR.out, hdrop, greedy_yes (by rw [hp1, hp2]; exact h), hp1, hp2, List.append_assoc]; rfl
    rw [hp1, hp2] at HJN hsame hnew
    obtain ⟨q, hq⟩ : ∃ q, (g p1 != g p2) = q := ⟨_, rfl⟩
    rw [hq] at HJN hsame
    have HSAME := Lib.hid hsame; have HNEW := Lib.hid hnew; have HKT := Lib.hid hkT; have HTAKE := Lib.hid htake
    have hd0 := HT.out.1; have hd1 := HT.out.2
    have j1 : (0 : Int) ≤ (j : Int) := by omega
    have j2 : (j : Int) < (n : Int) := by omega
    have k1 : (0 : Int) ≤ (k : Int) := by omega
    have k2 : (k : Int) < 16 := by omega
    have hk16 : k < 16 := by omega
    clear hk hLj hjl hkL hdrop htake hkT n1 n2 hp1 hp2 hq hsame hnew
    go_wp2_with fail
    refine HJN.out.mono ?_
    rintro e w6 ⟨rfl, ⟨par6, d6, hU6⟩, hk6⟩
    have hbX : ∀ i, i < B.size → X ≠ G i := fun i hi => by have := HGL.out i hi; omega
    have hbD : ∀ i, i < B.size → D ≠ G i := fun i hi => by have := HGL.out i hi; have := HDX.out; omega
    have hbN : ∀ i, i < B.size → w.heap.size ≠ G i := fun i hi => by have := HU.out.lo.2 i hi; have := HDX.out; omega
    have HR6 : Hid (w6.rowIs X 59 16 (fun i => .bool (decide (i ∈ T)))) := Lib.hid (HR16.out.of_block (hk6.block X HR16.out.lt hbX))
    have HP6 : Hid (PlacesAt w6 D n pl) := Lib.hid (HPL.out.of_block (hk6.block D HPL.out.lt hbD))
    have hwl : w.heap.size < wr.heap.size := by have := HDX.out; have := HPL.out.lt; omega
    have HT6 : Hid (Two w6 w.heap.size B A n cap) := Lib.hid ⟨hk6.cell hwl hbN HT.out.1, hk6.cell hwl hbN HT.out.2⟩
    have hb6 : Below w.heap.size w w6 := hk6.below hb hb.size (fun i hi => by have := HU.out.lo.2 i hi; have := HDX.out; omega)
    have cX := HR6.out.cell (i := k) hk16
    have fX := HR6.out.frozen k
    rw [decide_eq_false HKT.out] at cX
    have HU6 := Lib.hid hU6; have HB6 := Lib.hid hb6
    have HRX : Hid (R ≠ X ∧ ∀ i, i < B.size → G i ≠ X) := Lib.hid ⟨by have := HRL.out; omega, fun i hi => (hbX i hi).symm⟩
    clear hU6 hk6 hbX hbD hbN hb6 hwl hd0 hd1 HR16 HPL HT hb HU cj
    cases q with
    | false =>
      have HNX := Lib.hid (HY.out (bne_eq_false_iff_eq.1 HSAME.out))
      have hlr : joinL f p1 p2 = f := joinL_self (bne_eq_false_iff_eq.1 HSAME.out)
      have HSN : Hid (SameL B.size f (joinR g p1 p2)) := Lib.hid (by have := HNEW.out; rwa [hlr] at this)
      clear hlr
      go_wp2_with fail
      go_roundw
      case rel =>
        refine ⟨j + 1, T, f, _, d6, par6, by omega, by go_num, Lib.hid (HU6.out.setOther HRX.out.1 HRX.out.2 _), HSN, Lib.hid ⟨(World.cell?_setCell_other _ _ _ _ (by intro e; injection e with e; have := HDX.out; omega)).trans HT6.out.1, (World.cell?_setCell_other _ _ _ _ (by intro e; injection e with e; have := HDX.out; omega)).trans HT6.out.2⟩, HB6.out.setCell (by have := HDX.out; simp only; omega) _, Lib.hid ((HR6.out.set k (.bool false)).congr fun i hi => ?_), Lib.hid (HP6.out.setOther (by have := HDX.out; simp only; omega) _), HNX, Lib.hid fun x hx => ?_⟩
        · by_cases hik : i = k
          · subst hik; rw [if_pos rfl, decide_eq_false HKT.out]
          · rw [if_neg hik]
        · rw [HTAKE.out]; exact List.mem_append_left _ (HTK.out x hx)
      case measure => simp [intOf]; omega
    | true =>
      have HNX := Lib.hid (HZ.out (bne_iff_ne.1 HSAME.out))
      go_wp2_with fail
      go_roundw
      case rel =>
        refine ⟨j + 1, T ++ [k], joinL f p1 p2, _, d6, par6, by omega, by go_num, Lib.hid (HU6.out.setOther HRX.out.1 HRX.out.2 _), HNEW, Lib.hid ⟨(World.cell?_setCell_other _ _ _ _ (by intro e; injection e with e; have := HDX.out; omega)).trans HT6.out.1, (World.cell?_setCell_other _ _ _ _ (by intro e; injection e with e; have := HDX.out; omega)).trans HT6.out.2⟩, HB6.out.setCell (by have := HDX.out; simp only; omega) _, Lib.hid ((HR6.out.set k (.bool true)).congr fun i hi => ?_), Lib.hid (HP6.out.setOther (by have := HDX.out; simp only; omega) _), HNX, Lib.hid fun x hx => ?_⟩
        · by_cases hik : i = k
          · subst hik; rw [if_pos rfl, decide_eq_true (by simp)]
          · rw [if_neg hik]
            congr 1
            rw [decide_eq_decide]
            simp [hik]
        · rw [HTAKE.out]
          rcases List.mem_append.1 hx with h | h
          · exact List.mem_append_left _ (HTK.out x h)
          · exact List.mem_append_right _ h
      case measure => simp [intOf]; omega

end Go.Proofs.Ytadngnajenedpaa
