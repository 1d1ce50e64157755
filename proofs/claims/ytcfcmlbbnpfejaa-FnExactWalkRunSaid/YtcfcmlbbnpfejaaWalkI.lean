/- A walk that numbers pick, by the program. -/
import Derived.Test.YtcfcmlbbnpfejaaWalkE
import Derived.Test.YtcfcmlbbnpfejaaShort
import Derived.Test.YtcfcmlbbnpfejaaOutI
import Derived.Deep.RegionHeld3
namespace Go.Proofs.Ytcfcmlbbnpfejaa
open Go.RowKit

/-- the way so far, in its box -/
def WayAt (W : World) (g : Nat) (b : UInt8) (p : List UInt8) : Prop := W.heap[g]? = some (.cells #[.string ⟨#[b]⟩, .string ⟨p.toArray⟩] 84 (0, 0))
theorem WayAt.c0 {W : World} {g : Nat} {b : UInt8} {p : List UInt8} (h : WayAt W g b p) : W.cell? ⟨g, 0, none⟩ = some (.string ⟨#[b]⟩) := by unfold WayAt at h; simp [World.cell?, h]
theorem WayAt.c1 {W : World} {g : Nat} {b : UInt8} {p : List UInt8} (h : WayAt W g b p) : W.cell? ⟨g, 1, none⟩ = some (.string ⟨p.toArray⟩) := by unfold WayAt at h; simp [World.cell?, h]
theorem WayAt.f0 {W : World} {g : Nat} {b : UInt8} {p : List UInt8} (h : WayAt W g b p) : W.frozen? ⟨g, 0, none⟩ = false := by unfold WayAt at h; simp [World.frozen?, h]
theorem WayAt.f1 {W : World} {g : Nat} {b : UInt8} {p : List UInt8} (h : WayAt W g b p) : W.frozen? ⟨g, 1, none⟩ = false := by unfold WayAt at h; simp [World.frozen?, h]
theorem WayAt.below {W W' : World} {g B0 : Nat} {b : UInt8} {p : List UInt8} (h : WayAt W g b p) (k : Below B0 W W') (hg : g < B0) : WayAt W' g b p := (k.block g hg).trans h

theorem WayAt.set {W : World} {g : Nat} {b y : UInt8} {p q : List UInt8} (h : WayAt W g b p) : WayAt ((W.setCell ⟨g, 0, none⟩ (.string ⟨#[y]⟩)).setCell ⟨g, 1, none⟩ (.string ⟨q.toArray⟩)) g y q := by
  unfold WayAt at h ⊢
  simp [World.setCell, Array.getElem?_modify, h]

set_option maxRecDepth 100000 in
set_option maxHeartbeats 16000000 in
/-- impl.WalkRun -/
theorem implWalkRun_any (B : ByteArray) (A : Option Addr) (cap : Nat) (es : List (ByteArray × ByteArray)) (P : Option Addr) (pcap : Nat) (xs : List Int) (w : World) (hs : B.size ≤ maxLen) (hE : EdgesIn w w.heap.size A es) (hl : es.length ≤ 1099511627776) (hS : ∀ e ∈ es, e.1.size ≤ 1099511627776 ∧ e.2.size ≤ 1099511627776)
    (hX : IntsIn w w.heap.size P xs) (hxl : xs.length ≤ 1099511627776) :
    Calls Try.prog 40 #[.agg #[.string B, .slice A es.length cap], .slice P xs.length pcap] w (TextPost (walkV B es xs) w) := by
  have hl2 : es.length ≤ maxLen := by unfold maxLen; omega
  have HL := Lib.hid hl; have HS := Lib.hid hS
  have HL2 := Lib.hid hl2; have HM := Lib.hid hs
  clear hl hl2 hs hS
  have hb1 : Below w.heap.size w (w.alloc (.cells #[.string B, .slice A es.length cap] 25)) := (Below.refl _ _).alloc (Nat.le_refl _) _
  have t1 := Two.made w B A es.length cap 25
  have hz1 : (w.alloc (.cells #[.string B, .slice A es.length cap] 25)).heap.size = w.heap.size + 1 := by simp
  by_cases hv : Valid B.data.toList (ebs es)
  case neg =>
    have HD : Hid (decB (Valid B.data.toList (ebs es)) = false) := Lib.hid (decB_f hv)
    have HN : Hid (walkV B es xs = (⟨#[]⟩, false)) := Lib.hid (walkV_no hv)
    clear hv
    go_enter Try.func40, Try.ntmps40
    go_wp2_with fail
    refine (valid_any B A cap es _ HM.out ((hE.below hb1).more hb1.size) HL2.out).mono ?_
    rw [HD.out]
    rintro e w2 ⟨rfl, hb2⟩
    have hb2' := hb1.trans (hb2.mono hb1.size)
    clear hb2
    go_wp2_with fail
    go_ret2
    exact ⟨by rw [HN.out]; rfl, hb2'⟩
  have HD : Hid (decB (Valid B.data.toList (ebs es)) = true) := Lib.hid (decB_t hv)
  have HV := Lib.hid hv
  have hF := facts_of hv
  have h16 := hF.few
  have hB1 := hF.one
  have h8 := hF.small
  obtain ⟨t, ht⟩ : ∃ t, exit_ B.data.toList = t := ⟨_, rfl⟩
  obtain ⟨s0, hs0⟩ : ∃ s0, entry B.data.toList = s0 := ⟨_, rfl⟩
  have hlast := hF.last
  rw [ht] at hlast
  have hfirst := hF.first
  rw [hs0] at hfirst
  have HENT : Hid (∀ W : World, Calls Try.prog 92 #[.agg #[.string B, .slice A es.length cap]] W fun e w' => e = .returned (.string ⟨#[s0]⟩) ∧ Below W.heap.size W w') := Lib.hid fun W => by
    rw [← hfirst]; exact entryOf_any B _ W hB1 HM.out
  have HEXIT : Hid (∀ W : World, Calls Try.prog 97 #[.agg #[.string B, .slice A es.length cap]] W fun e w' => e = .returned (.string ⟨#[t]⟩) ∧ Below W.heap.size W w') := Lib.hid fun W => by
    rw [← hlast]; exact exitOf_any B _ W hB1 HM.out
  have HSHORT : Hid (∀ (b : UInt8) (W : World), b ∈ B.data.toList → EdgesIn W W.heap.size A es → Calls Try.prog 99 #[.agg #[.string B, .slice A es.length cap], .string ⟨#[b]⟩, .string ⟨#[t]⟩] W fun e w' => e = .returned (.string ⟨(pathE (ebs es) b t).toArray⟩) ∧ Below W.heap.size W w') := Lib.hid fun b W hb h =>
    shortestPath_any B A cap es B.data.toList ⟨#[b]⟩ ⟨#[t]⟩ b t W h h16 hF.lets hb h8 rfl rfl
  have hst : s0 ∈ B.data.toList := by rw [← hs0]; exact hF.ent
  have HT := Lib.hid ht; have HS0 := Lib.hid hs0; have HST := Lib.hid hst; have HLE := Lib.hid hF.lets; have HB1 := Lib.hid hB1
  clear hv hF hlast hfirst ht hs0 hst hB1 h8
  go_enter Try.func40, Try.ntmps40
  go_wp2_with fail
  refine (valid_any B A cap es _ HM.out ((hE.below hb1).more hb1.size) HL2.out).mono ?_
  rw [HD.out]
  rintro e w2 ⟨rfl, hb2⟩
  have t2 := t1.below hb2 (by omega)
  have hb2' := hb1.trans (hb2.mono hb1.size)
  have hd0 := t2.1; have hd1 := t2.2
  have hz2 : w.heap.size + 1 ≤ w2.heap.size := by have := hb2.size; omega
  clear hb2 t1 hb1 hz1
  go_wp2_with fail
  refine (HENT.out _).mono ?_
  rintro e w3 ⟨rfl, hb3⟩
  have hb3' := hb2'.trans (hb3.mono hb2'.size)
  have t3 := t2.below hb3 (by omega)
  have hz3 : w.heap.size + 1 ≤ w3.heap.size := by have := hb3.size; omega
  have hb4 : Below w3.heap.size w3 (w3.alloc (.cells #[.string ⟨#[s0]⟩, .string ⟨#[]⟩] 84)) := (Below.refl _ _).alloc (Nat.le_refl _) _
  have hw4 : WayAt (w3.alloc (.cells #[.string ⟨#[s0]⟩, .string ⟨#[]⟩] 84)) w3.heap.size s0 [] := heap_alloc_new _ _
  have hz4 : (w3.alloc (.cells #[.string ⟨#[s0]⟩, .string ⟨#[]⟩] 84)).heap.size = w3.heap.size + 1 := by simp
  have t4 := t3.below hb4 (by omega)
  have hb4' := hb3'.trans (hb4.mono hb3'.size)
  clear hb3 hd0 hd1 t2 hb2' hb3' hb4
  go_wp2_with fail
  obtain ⟨w4, hw⟩ : ∃ w4, w3.alloc (.cells #[.string ⟨#[s0]⟩, .string ⟨#[]⟩] 84) = w4 := ⟨_, rfl⟩
  obtain ⟨g, hg⟩ : ∃ g, w3.heap.size = g := ⟨_, rfl⟩
  rw [hw] at hw4 hz4 t4 hb4' ⊢
  rw [hg] at hw4 hz4 hz3 ⊢
  clear hw hg t3
  have HT4 := Lib.hid t4; have HB4 := Lib.hid hb4'; have HW4 := Lib.hid hw4
  clear t4 hb4' hw4
  go_loopw [20] (fun c wr => ∃ (j : Nat) (b : UInt8) (p : List UInt8), j ≤ xs.length ∧ c = .int .i64 j ∧ b ∈ B.data.toList ∧ p.length ≤ 30 ∧ walkE es t xs s0 [] = walkE es t (xs.drop j) b p ∧ WayAt wr g b p ∧ w4.grownBy wr (some g)) (fun c _ => xs.length - (intOf c).toNat)
  case atStart => exact ⟨0, s0, [], Nat.zero_le _, rfl, HST.out, by simp, by simp, HW4.out, World.grownBy.refl _ _⟩
  case round =>
    clear HW4
    obtain ⟨j, b, p, hj, rfl, hb, hp, hw, hway, hgr⟩ := hrel
    have HBM := Lib.hid hb; have HW := Lib.hid hw; have HGR := Lib.hid hgr
    have tr := HT4.out.grown hgr (by omega) (by intro e; injection e with e; omega)
    have hbwr : Below w.heap.size w wr := HB4.out.grown hgr (by omega) (fun q e => by injection e with e; omega)
    have hzr := hgr.size
    have sp : (⟨p.toArray⟩ : ByteArray).size = p.length := by show p.toArray.size = _; simp
    clear hb hw hgr
    -- the shortest path from here
    obtain ⟨r, hr⟩ : ∃ r : ByteArray, (⟨(pathE (ebs es) b t).toArray⟩ : ByteArray) = r := ⟨_, rfl⟩
    have hrs : r.size ≤ 8 := by
      rw [← hr]
      show (pathE (ebs es) b t).toArray.size ≤ 8
      rw [List.size_toArray]; exact pathE_len8 _ _ _
    have HSH : Hid (∀ W : World, EdgesIn W W.heap.size A es → Calls Try.prog 99 #[.agg #[.string B, .slice A es.length cap], .string ⟨#[b]⟩, .string ⟨#[t]⟩] W fun e w' => e = .returned (.string r) ∧ Below W.heap.size W w') := Lib.hid fun W h => by
      rw [← hr]; exact HSHORT.out b W HBM.out h
    have HFIN : Hid (walkE es t (xs.drop j) b p = some (b, p) → walkV B es xs = (⟨p.toArray⟩ ++ r, true)) := Lib.hid fun h => by
      have e : (⟨p.toArray⟩ ++ r : ByteArray) = ⟨(p ++ pathE (ebs es) b t).toArray⟩ := by rw [← hr]; exact bytes_ext (by simp)
      rw [e, ← HT.out]
      refine walkV_yes HV.out ?_
      rw [HT.out, HS0.out, HW.out, h]
    have hsz : ¬ 9223372036854775807 < (⟨p.toArray⟩ : ByteArray).size + r.size := by omega
    have hsz2 : ¬ 9223372036854775807 < p.length + r.size := by omega
    have hsz3 : p.length + r.size ≤ 9223372036854775807 := by omega
    clear hr
    by_cases hlt : j < xs.length
    case neg =>
      have HQ := Lib.hid (HFIN.out (by rw [List.drop_of_length_le (by omega)]; rfl))
      clear hrs
      go_wp2_with fail
      have x0 : ∀ x : After wr, x.W.cell? ⟨w.heap.size, 0, none⟩ = some (.string B) := fun x => x.cell (by simp only; omega) tr.1
      have x1 : ∀ x : After wr, x.W.cell? ⟨w.heap.size, 1, none⟩ = some (.slice A es.length cap) := fun x => x.cell (by simp only; omega) tr.2
      have y0 : ∀ x : After wr, x.W.cell? ⟨g, 0, none⟩ = some (.string ⟨#[b]⟩) := fun x => x.cell (by simp only; omega) hway.c0
      have y1 : ∀ x : After wr, x.W.cell? ⟨g, 1, none⟩ = some (.string ⟨p.toArray⟩) := fun x => x.cell (by simp only; omega) hway.c1
      have xE : ∀ x : After wr, EdgesIn x.W x.W.heap.size A es := fun x => ((hE.below hbwr).below (x.h.mono hbwr.size)).more (Nat.le_trans hbwr.size x.h.size)
      have XE := Lib.hid xE; clear xE
      refine wp_region_below (by kernel_rfl) (by kernel_rfl) ?_
      repeat (go_big_quiet_step ((first
        | (go_at_call 99; exact After.call (HSH.out _ (XE.out _)))
        | (go_at_call 97; exact After.call (HEXIT.out _)))))
      refine wpQuiet_nil ?_
      rintro _ ⟨x, rfl⟩
      clear x0 x1 y0 y1
      go_wp2
      go_ret2
      exact ⟨by rw [HQ.out]; rfl, hbwr.trans (x.h.mono hbwr.size)⟩
    obtain ⟨k, hk⟩ : ∃ k, xs[j] = k := ⟨_, rfl⟩
    obtain ⟨pb, po, rfl, hlow, c1⟩ := (hX.below hbwr) j hlt
    rw [hk] at c1
    have hdr : xs.drop j = k :: xs.drop (j + 1) := by rw [List.drop_eq_getElem_cons hlt, hk]
    have HDR := Lib.hid hdr
    have hki : (j : Int) < (xs.length : Int) := by omega
    clear hk hdr
    by_cases hbt : b = t
    case pos =>
      have HQ := Lib.hid (HFIN.out (walkE_stop _ (.inl hbt)))
      have hq : (b == t) = true := by simp [hbt]
      have hq2 : ((⟨#[b]⟩ : ByteArray).toList == (⟨#[t]⟩ : ByteArray).toList) = true := by simp [hbt]
      clear hrs hbt
      go_wp2_with fail
      have x0 : ∀ x : After wr, x.W.cell? ⟨w.heap.size, 0, none⟩ = some (.string B) := fun x => x.cell (by simp only; omega) tr.1
      have x1 : ∀ x : After wr, x.W.cell? ⟨w.heap.size, 1, none⟩ = some (.slice A es.length cap) := fun x => x.cell (by simp only; omega) tr.2
      have y0 : ∀ x : After wr, x.W.cell? ⟨g, 0, none⟩ = some (.string ⟨#[b]⟩) := fun x => x.cell (by simp only; omega) hway.c0
      have y1 : ∀ x : After wr, x.W.cell? ⟨g, 1, none⟩ = some (.string ⟨p.toArray⟩) := fun x => x.cell (by simp only; omega) hway.c1
      refine wp_region_below (by kernel_rfl) (by kernel_rfl) ?_
      repeat (go_big_quiet_step ((go_at_call 97; exact After.call (HEXIT.out _))))
      refine wpQuiet_nil ?_
      rintro wq ⟨x, hx⟩
      have hb4 := x.h
      rw [← hx] at hb4
      clear hx x
      clear x0 x1 y0 y1
      try dsimp only
      have t4 := tr.below hb4 (by omega)
      have hway4 := hway.below hb4 (by omega)
      have hbw4 := hbwr.trans (hb4.mono hbwr.size)
      have hzq := hb4.size
      go_wp2_with fail
      have x0 : ∀ x : After wq, x.W.cell? ⟨w.heap.size, 0, none⟩ = some (.string B) := fun x => x.cell (by simp only; omega) t4.1
      have x1 : ∀ x : After wq, x.W.cell? ⟨w.heap.size, 1, none⟩ = some (.slice A es.length cap) := fun x => x.cell (by simp only; omega) t4.2
      have y0 : ∀ x : After wq, x.W.cell? ⟨g, 0, none⟩ = some (.string ⟨#[b]⟩) := fun x => x.cell (by simp only; omega) hway4.c0
      have y1 : ∀ x : After wq, x.W.cell? ⟨g, 1, none⟩ = some (.string ⟨p.toArray⟩) := fun x => x.cell (by simp only; omega) hway4.c1
      have xE : ∀ x : After wq, EdgesIn x.W x.W.heap.size A es := fun x => ((hE.below hbw4).below (x.h.mono hbw4.size)).more (Nat.le_trans hbw4.size x.h.size)
      have XE := Lib.hid xE; clear xE
      refine wp_region_below (by kernel_rfl) (by kernel_rfl) ?_
      repeat (go_big_quiet_step ((first
        | (go_at_call 99; exact After.call (HSH.out _ (XE.out _)))
        | (go_at_call 97; exact After.call (HEXIT.out _)))))
      refine wpQuiet_nil ?_
      rintro _ ⟨x, rfl⟩
      clear x0 x1 y0 y1
      go_wp2
      go_ret2
      exact ⟨by rw [HQ.out]; rfl, hbw4.trans (x.h.mono hbw4.size)⟩
    have hq : (b == t) = false := by simp [hbt]
    have hq2 : ((⟨#[b]⟩ : ByteArray).toList == (⟨#[t]⟩ : ByteArray).toList) = false := by simp [Lib.toList_data, hbt]
    by_cases hp30 : 30 ≤ p.length
    case pos =>
      have HQ := Lib.hid (HFIN.out (walkE_stop _ (.inr hp30)))
      have hp3 : ((p.length : Int) == 30) = true := by rw [beq_iff_eq]; omega
      clear hrs hbt
      go_wp2_with fail
      have x0 : ∀ x : After wr, x.W.cell? ⟨w.heap.size, 0, none⟩ = some (.string B) := fun x => x.cell (by simp only; omega) tr.1
      have x1 : ∀ x : After wr, x.W.cell? ⟨w.heap.size, 1, none⟩ = some (.slice A es.length cap) := fun x => x.cell (by simp only; omega) tr.2
      have y0 : ∀ x : After wr, x.W.cell? ⟨g, 0, none⟩ = some (.string ⟨#[b]⟩) := fun x => x.cell (by simp only; omega) hway.c0
      have y1 : ∀ x : After wr, x.W.cell? ⟨g, 1, none⟩ = some (.string ⟨p.toArray⟩) := fun x => x.cell (by simp only; omega) hway.c1
      refine wp_region_below (by kernel_rfl) (by kernel_rfl) ?_
      repeat (go_big_quiet_step ((go_at_call 97; exact After.call (HEXIT.out _))))
      refine wpQuiet_nil ?_
      rintro wq ⟨x, hx⟩
      have hb4 := x.h
      rw [← hx] at hb4
      clear hx x
      clear x0 x1 y0 y1
      try dsimp only
      have t4 := tr.below hb4 (by omega)
      have hway4 := hway.below hb4 (by omega)
      have hbw4 := hbwr.trans (hb4.mono hbwr.size)
      have hzq := hb4.size
      go_wp2_with fail
      have x0 : ∀ x : After wq, x.W.cell? ⟨w.heap.size, 0, none⟩ = some (.string B) := fun x => x.cell (by simp only; omega) t4.1
      have x1 : ∀ x : After wq, x.W.cell? ⟨w.heap.size, 1, none⟩ = some (.slice A es.length cap) := fun x => x.cell (by simp only; omega) t4.2
      have y0 : ∀ x : After wq, x.W.cell? ⟨g, 0, none⟩ = some (.string ⟨#[b]⟩) := fun x => x.cell (by simp only; omega) hway4.c0
      have y1 : ∀ x : After wq, x.W.cell? ⟨g, 1, none⟩ = some (.string ⟨p.toArray⟩) := fun x => x.cell (by simp only; omega) hway4.c1
      have xE : ∀ x : After wq, EdgesIn x.W x.W.heap.size A es := fun x => ((hE.below hbw4).below (x.h.mono hbw4.size)).more (Nat.le_trans hbw4.size x.h.size)
      have XE := Lib.hid xE; clear xE
      refine wp_region_below (by kernel_rfl) (by kernel_rfl) ?_
      repeat (go_big_quiet_step ((first
        | (go_at_call 99; exact After.call (HSH.out _ (XE.out _)))
        | (go_at_call 97; exact After.call (HEXIT.out _)))))
      refine wpQuiet_nil ?_
      rintro _ ⟨x, rfl⟩
      clear x0 x1 y0 y1
      go_wp2
      go_ret2
      exact ⟨by rw [HQ.out]; rfl, hbw4.trans (x.h.mono hbw4.size)⟩
    have HST2 : Hid (¬ (b = t ∨ 30 ≤ p.length)) := Lib.hid (fun h => h.elim hbt hp30)
    have HPOS : Hid (0 < (outsOf es b).length) := Lib.hid (outs_pos HV.out HBM.out (by rw [HT.out]; exact hbt))
    have hp3 : ((p.length : Int) == 30) = false := by rw [beq_eq_false_iff_ne]; omega
    clear hbt hsz hsz2 hsz3 hrs HSH HFIN
    by_cases hk0 : k < 0
    case pos =>
      have HQ : Hid (walkV B es xs = (⟨#[]⟩, false)) := Lib.hid (by
        refine walkV_none ?_
        rw [HT.out, HS0.out, HW.out, HDR.out, walkE_none HST2.out hk0])
      go_wp2_with fail
      have x0 : ∀ x : After wr, x.W.cell? ⟨w.heap.size, 0, none⟩ = some (.string B) := fun x => x.cell (by simp only; omega) tr.1
      have x1 : ∀ x : After wr, x.W.cell? ⟨w.heap.size, 1, none⟩ = some (.slice A es.length cap) := fun x => x.cell (by simp only; omega) tr.2
      have y0 : ∀ x : After wr, x.W.cell? ⟨g, 0, none⟩ = some (.string ⟨#[b]⟩) := fun x => x.cell (by simp only; omega) hway.c0
      have y1 : ∀ x : After wr, x.W.cell? ⟨g, 1, none⟩ = some (.string ⟨p.toArray⟩) := fun x => x.cell (by simp only; omega) hway.c1
      refine wp_region_below (by kernel_rfl) (by kernel_rfl) ?_
      repeat (go_big_quiet_step ((go_at_call 97; exact After.call (HEXIT.out _))))
      refine wpQuiet_nil ?_
      rintro wq ⟨x, hx⟩
      have hb4 := x.h
      rw [← hx] at hb4
      clear hx x
      clear x0 x1 y0 y1
      try dsimp only
      have t4 := tr.below hb4 (by omega)
      have hway4 := hway.below hb4 (by omega)
      have hbw4 := hbwr.trans (hb4.mono hbwr.size)
      have hzq := hb4.size
      go_wp2_with fail
      go_ret2
      exact ⟨by rw [HQ.out]; rfl, hbw4⟩
    -- an edge is picked
    obtain ⟨et, het⟩ : ∃ et : ByteArray, (⟨(names (outB es ⟨#[b]⟩) es.length).toArray⟩ : ByteArray) = et := ⟨_, rfl⟩
    have hetd : et.data.toList = (outsOf es b).map nameOf := by rw [← het]; rfl
    have hets : et.size = (outsOf es b).length := by rw [str_size hetd]; simp
    have hol : (outsOf es b).length ≤ 16 := by
      have := names_length (outB es ⟨#[b]⟩) es.length
      have h2 : (names (outB es ⟨#[b]⟩) es.length).length = (outsOf es b).length := by simp [names, outsOf]
      omega
    have HOUT : Hid (∀ W : World, EdgesIn W W.heap.size A es → Calls Try.prog 23 #[.agg #[.string B, .slice A es.length cap], .string ⟨#[b]⟩] W fun e w' => e = .returned (.tuple #[.string et, .bool true]) ∧ Below W.heap.size W w') := Lib.hid fun W hW => by
      have h := implOutOf_any B A cap es ⟨#[b]⟩ W HM.out hW HL.out HS.out
      have e : outV B es ⟨#[b]⟩ = (et, true) := by rw [← het]; exact textV_yes ⟨HV.out, indexByte_nonneg.2 HBM.out⟩
      rwa [e] at h
    have HETD := Lib.hid hetd; have HETS := Lib.hid hets
    obtain ⟨hml, hme⟩ := pickAt_lt (k := k) HPOS.out
    obtain ⟨m, hm⟩ : ∃ m, pickAt es b k = m := ⟨_, rfl⟩
    rw [hm] at hml hme
    rw [← hets] at hme hml
    obtain ⟨ix, hix⟩ : ∃ ix, pickE es b k = ix := ⟨_, rfl⟩
    have hmem : ix ∈ outsOf es b := hix ▸ pickE_mem HPOS.out
    obtain ⟨hi, y, hy, hy2, hyl⟩ := outsOf_mem HLE.out hmem
    have HNEXT : Hid (walkE es t xs s0 [] = walkE es t (xs.drop (j + 1)) y (p ++ [nameOf ix])) := Lib.hid (by
      rw [HW.out, HDR.out, walkE_go HST2.out hk0, hix, tgt_at hy])
    have hel : (et.extract m (m + 1)) = ⟨#[nameOf ix]⟩ := by
      have := letter_at (p := et) hml
      rw [HETD.out] at this
      have e : ((outsOf es b).map nameOf).getD m 0 = nameOf ix := by
        have hm2 : m < (outsOf es b).length := by have := HETS.out; omega
        rw [← hix]
        unfold pickE
        rw [hm]
        simp [List.getD, hm2]
      rw [e] at this
      exact one_byte this
    have HX : Hid (eIdx es.length (et.extract m (m + 1)).data.toList = ix) := Lib.hid (by rw [hel]; exact eIdx_name hi (by omega))
    have HY := Lib.hid hy2; have HYL := Lib.hid hyl
    have hne0 : ((et.size : Int) == 0) = false := by rw [beq_eq_false_iff_ne]; omega
    have hk00 : 0 ≤ k := by omega
    clear het hetd hm hix hmem hy hy2 hyl hel
    go_wp2_with fail
    have x0 : ∀ x : After wr, x.W.cell? ⟨w.heap.size, 0, none⟩ = some (.string B) := fun x => x.cell (by simp only; omega) tr.1
    have x1 : ∀ x : After wr, x.W.cell? ⟨w.heap.size, 1, none⟩ = some (.slice A es.length cap) := fun x => x.cell (by simp only; omega) tr.2
    have y0 : ∀ x : After wr, x.W.cell? ⟨g, 0, none⟩ = some (.string ⟨#[b]⟩) := fun x => x.cell (by simp only; omega) hway.c0
    have y1 : ∀ x : After wr, x.W.cell? ⟨g, 1, none⟩ = some (.string ⟨p.toArray⟩) := fun x => x.cell (by simp only; omega) hway.c1
    refine wp_region_below (by kernel_rfl) (by kernel_rfl) ?_
    repeat (go_big_quiet_step ((go_at_call 97; exact After.call (HEXIT.out _))))
    refine wpQuiet_nil ?_
    rintro wq ⟨x, hx⟩
    have hb4 := x.h
    rw [← hx] at hb4
    clear hx x
    clear x0 x1 y0 y1
    try dsimp only
    have t4 := tr.below hb4 (by omega)
    have hway4 := hway.below hb4 (by omega)
    have hbw4 := hbwr.trans (hb4.mono hbwr.size)
    have hzq := hb4.size
    have d0 := t4.1; have d1 := t4.2; have d2 := hway4.c0
    go_wp2_with fail
    refine (HOUT.out _ ((hE.below hbw4).more hbw4.size)).mono ?_
    rintro e w5 ⟨rfl, hb5⟩
    have hbw5 := hbw4.trans (hb5.mono hbw4.size)
    have t5 := t4.below hb5 (by omega)
    have hway5 := hway4.below hb5 (by omega)
    have hz5 := hb5.size
    have HG5 := Lib.hid (grown_below HGR.out (hb4.trans (hb5.mono hzq)))
    clear hb5 hb4 d0 d1 d2 t4 hway4 HOUT
    have a1 : (0 : Int) ≤ (m : Int) := by omega
    have a2 : (m : Int) < (et.size : Int) := by omega
    have a4 : (0 : Int) ≤ (m : Int) + 1 := by omega
    have a5 : ((m : Int) + 1).toNat = m + 1 := by omega
    have a6 : (m : Int) + 1 ≤ (et.size : Int) := by omega
    have a7 : m + 1 ≤ et.size := by omega
    have a8 : (m : Int) ≤ (m : Int) + 1 := by omega
    have hsz6 : et.size ≤ 100 := by have := HETS.out; omega
    have a3 : IntKind.i64.wrap ((m : Int) + 1) = (m : Int) + 1 := IntWalk.i64_in _ (by omega)
    clear hets
    go_wp2_with fail
    have HJ : Hid ((⟨p.toArray⟩ ++ ⟨#[nameOf ix]⟩ : ByteArray) = ⟨(p ++ [nameOf ix]).toArray⟩) := Lib.hid (bytes_ext (by simp))
    have HE1 : Hid (EdgesIn w5 w5.heap.size A es) := Lib.hid ((hE.below hbw5).more hbw5.size)
    have FA : Hid (∀ W : World, Below w5.heap.size w5 W → Calls Try.prog 98 #[.agg #[.string ⟨#[b]⟩, .string ⟨p.toArray⟩], .agg #[.string B, .slice A es.length cap], .int .i64 ix] W fun e w' => e = .returned (.agg #[.string ⟨#[y]⟩, .string (⟨p.toArray⟩ ++ ⟨#[nameOf ix]⟩)]) ∧ Below W.heap.size W w') := Lib.hid fun W h => by
      have := along_any ⟨#[b]⟩ ⟨p.toArray⟩ B A cap es ix W ((HE1.out.below h).more h.size) (by omega) hi (by rw [sp]; omega)
      rwa [HY.out] at this
    have hS : ∀ W, Below w5.heap.size w5 W → (W.cell? ⟨w.heap.size, 0, none⟩ = some (.string B) ∧ W.cell? ⟨w.heap.size, 1, none⟩ = some (.slice A es.length cap) ∧ W.cell? ⟨g, 0, none⟩ = some (.string ⟨#[b]⟩) ∧ W.cell? ⟨g, 1, none⟩ = some (.string ⟨p.toArray⟩) ∧ Below w5.heap.size w5 W) :=
      fun W h => ⟨(h.cell (by simp only; omega)).trans t5.1, (h.cell (by simp only; omega)).trans t5.2, (h.cell (by simp only; omega)).trans hway5.c0, (h.cell (by simp only; omega)).trans hway5.c1, h⟩
    have HSS := Lib.hid hS
    have HWY := Lib.hid hway5
    clear hS hway5 t5
    have n0 := (HSS.out _ (Below.refl _ _)).1; have n1 := (HSS.out _ (Below.refl _ _)).2.1; have n2 := (HSS.out _ (Below.refl _ _)).2.2.1; have n3 := (HSS.out _ (Below.refl _ _)).2.2.2.1
    go_region_with ((first
        | (go_at_call 75; refine (edgeIndex_any _ A es.length cap _ _ HL.out).mono ?_; rw [HX.out]; rintro e w6 ⟨rfl, hb6⟩
           have m0 := (HSS.out _ ((Below.refl _ _).drew.trans hb6)).1; have m1 := (HSS.out _ ((Below.refl _ _).drew.trans hb6)).2.1; have m2 := (HSS.out _ ((Below.refl _ _).drew.trans hb6)).2.2.1; have m3 := (HSS.out _ ((Below.refl _ _).drew.trans hb6)).2.2.2.1)
        | (go_at_call 98; refine (FA.out _ ((Below.refl _ _).drew.trans hb6)).mono ?_; rintro e w7 ⟨rfl, hb7⟩
           have hb57 := ((Below.refl _ _).drew.trans hb6).trans (hb7.mono hb6.size)
           have hw7 := HWY.out.below hb57 (by show g < w5.heap.size; omega)
           have f0 := hw7.f0; have f1 := hw7.f1; have q0 := hw7.c0; have q1 := hw7.c1)))
    all_goals
      have hgf := only_setCell_at (i := 1) (u := .string (⟨p.toArray⟩ ++ ⟨#[nameOf ix]⟩)) (only_setCell_at (i := 0) (u := .string ⟨#[y]⟩) (grown_below HG5.out hb57))
      have hwf := hw7.set (y := y) (q := p ++ [nameOf ix])
      have HGF := Lib.hid hgf; have HWF := Lib.hid hwf
      clear hgf hwf f0 f1 q0 q1 n0 n1 n2 n3 a1 a2 a3 a4 a5 a6 a7 a8
    all_goals go_wp2_with fail
    all_goals go_roundw
    all_goals first
      | exact ⟨j + 1, y, p ++ [nameOf ix], by omega, by go_num, HYL.out, by simp; omega, HNEXT.out, by rw [← HJ.out] at HWF; exact HWF.out, HGF.out⟩
      | (simp [intOf]; omega)

end Go.Proofs.Ytcfcmlbbnpfejaa
