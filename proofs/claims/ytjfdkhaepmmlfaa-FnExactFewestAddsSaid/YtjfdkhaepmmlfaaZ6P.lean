/- All steps by both. -/
import Derived.Test.YtjfdkhaepmmlfaaZ6W
import Derived.Test.YtjfdkhaepmmlfaaZ6K
import Derived.Test.YtjfdkhaepmmlfaaZ6V
import Derived.Test.YtjfdkhaepmmlfaaZ6I
import Derived.Deep.RegionHeld3
import Derived.Laws.AppendOwn
namespace Go.Proofs.Ytjfdkhaepmmlfaa
open Go.RowKit

set_option maxRecDepth 100000 in
set_option maxHeartbeats 8000000 in
/-- spec.StepsOf -/
theorem specStepsOf_any (B : ByteArray) (A : Option Addr) (cap : Nat) (es : List (ByteArray × ByteArray)) (t : ByteArray) (w : World) (hs : B.size ≤ maxLen) (hE : EdgesIn w w.heap.size A es) (hl : es.length ≤ 1099511627776) (hS : ∀ e ∈ es, e.1.size ≤ 1099511627776 ∧ e.2.size ≤ 1099511627776) (htz : t.size ≤ 1099511627776) :
    Calls Try.prog 56 #[.agg #[.string B, .slice A es.length cap], .string t] w (ValsPost (stpsV B es t) w) := by
  have HL := Lib.hid hl; have HM := Lib.hid hs; have HS := Lib.hid hS; have HTZ := Lib.hid htz
  clear hl hs hS htz
  obtain ⟨i0, hi, hi0, hi1, hi2⟩ := info_parts intInfo
  have HI := Lib.hid hi; have HI0 := Lib.hid hi0; have HI1 := Lib.hid hi1; have HI2 := Lib.hid hi2
  obtain ⟨W1, hW1⟩ : ∃ W1, (w.alloc (.cells #[.string B, .slice A es.length cap] 30)).alloc (.cells #[] 3) = W1 := ⟨_, rfl⟩
  have hb0 : Below w.heap.size w (w.alloc (.cells #[.string B, .slice A es.length cap] 30)) := (Below.refl _ _).alloc (Nat.le_refl _) _
  have hba : Below (w.heap.size + 1) (w.alloc (.cells #[.string B, .slice A es.length cap] 30)) W1 := by rw [← hW1]; exact (Below.refl _ _).alloc (by simp) _
  have t0 := Two.made w B A es.length cap 30
  have t1 := t0.below hba (by omega)
  have hb1 : Below w.heap.size w W1 := hb0.trans (hba.mono (by omega))
  have hz1 : W1.heap.size = w.heap.size + 2 := by rw [← hW1]; simp
  have HOWN1 : Hid (W1.ownsRow (w.heap.size + 1) 3 1 (.slice (some ⟨w.heap.size + 1, 0, none⟩) 0 0) 0 []) := Lib.hid
    ⟨rfl, .inr ⟨w.heap.size + 1, 0, #[], rfl, Nat.le_refl _, by rw [← hW1]; exact alloc_at _ _ (by simp), by simp, by simp, by simp, by simp⟩⟩
  clear hi hi0 hi1 hi2 hb0 hba t0
  obtain ⟨v, hv⟩ : ∃ v, askV B es t = v := ⟨_, rfl⟩
  have FA : Hid (∀ W : World, EdgesIn W W.heap.size A es → Calls Try.prog 93 #[.agg #[.string B, .slice A es.length cap], .string t] W fun e w' => e = .returned (.bool v) ∧ Below W.heap.size W w') := Lib.hid fun W h => by
    have := l6Asked_any B A cap es t W HM.out h HL.out HS.out HTZ.out
    rwa [hv] at this
  have HT1 := Lib.hid t1; have HB1 := Lib.hid hb1
  have hd0 := t1.1; have hd1 := t1.2
  cases v with
  | false =>
    have HN : Hid (stpsV B es t = ([], false)) := Lib.hid (if_neg (by rw [hv]; simp))
    clear hv t1 hb1
    go_enter Try.func56, Try.ntmps56
    go_wp2_with fail
    refine (FA.out _ ((hE.below HB1.out).more HB1.out.size)).mono ?_
    rintro e w2 ⟨rfl, hb2⟩
    have HB2 := Lib.hid hb2
    clear hb2
    go_wp2_with fail
    refine bodyPost_ret (v := .tuple #[.slice (some ⟨w.heap.size + 1, 0, none⟩) 0 0, .bool false]) (by simp [results, Try.results56, go_sem]) rfl ?_
    rw [HN.out]
    have hO2 := ownsRow_of_block HOWN1.out fun b hb => HB2.out.block b (ownBlock_lt HOWN1.out hb).2
    obtain ⟨A2, c2, hv2, h1, h2⟩ := own_ints (ts := []) hO2
    injection hv2 with e1 _ e2
    subst e1 e2
    exact ⟨_, 0, rfl, h1, HB1.out.trans (HB2.out.mono HB1.out.size), h2.mono (by omega)⟩
  | true =>
    obtain ⟨ha, ht⟩ := ask_yes hv
    have h16 := (acy_v ha).F.few
    obtain ⟨F, hF⟩ : ∃ F, stpB B es t = F := ⟨_, rfl⟩
    have HN : Hid (stpsV B es t = ((List.range es.length).map F, true)) := Lib.hid ((if_pos hv).trans (by rw [hF]))
    have FV : Hid (∀ k, k < es.length → ∀ W : World, EdgesIn W W.heap.size A es → Calls Try.prog 94 #[.agg #[.string B, .slice A es.length cap], .string t, .string ⟨#[nameOf k]⟩] W fun e w' => e = .returned (.int .i64 (F k)) ∧ Below W.heap.size W w') := Lib.hid fun k hk W h => by
      rw [← hF]; exact l6Step_any B A cap es t _ k rfl W HM.out h HL.out ha ht hk
    clear ha ht hv hF
    go_enter Try.func56, Try.ntmps56
    go_wp2_with fail
    refine (FA.out _ ((hE.below HB1.out).more HB1.out.size)).mono ?_
    rintro e w2 ⟨rfl, hb2⟩
    have HT2 := Lib.hid (HT1.out.below hb2 (by omega))
    have HB2 := Lib.hid (HB1.out.trans (hb2.mono HB1.out.size))
    have HO2 := Lib.hid (ownsRow_of_block HOWN1.out fun b hb => hb2.block b (ownBlock_lt HOWN1.out hb).2)
    have hz2 : w.heap.size + 2 ≤ w2.heap.size := by have := hb2.size; omega
    clear hd0 hd1 hb2 hW1 t1 hb1 HT1 HB1 HOWN1
    have hd0 := HT2.out.1; have hd1 := HT2.out.2
    go_wp2_with fail
    clear hd0 hd1
    go_loopw [6, 17] (fun vv a wr => ∃ k : Nat, k ≤ es.length ∧ a = .int .i64 k ∧ Below w.heap.size w wr ∧ w.heap.size + 2 ≤ wr.heap.size ∧ Two wr w.heap.size B A es.length cap ∧
      wr.ownsRow (w.heap.size + 1) 3 1 vv k (((List.range k).map F).map (Value.int .i64))) (fun _ a _ => es.length - (intOf a).toNat)
    case atStart => exact ⟨0, Nat.zero_le _, rfl, HB2.out, hz2, HT2.out, HO2.out⟩
    case round =>
      obtain ⟨k, hk, rfl, hb, hz, t3, hown⟩ := hrel
      have HB := Lib.hid hb; have HT3 := Lib.hid t3; have HOWN := Lib.hid hown
      clear hb t3 hown
      by_cases hlt : k < es.length
      case neg =>
        have hkn : k = es.length := by omega
        have hown := HOWN.out
        obtain ⟨xs, hxs⟩ : ∃ xs, (List.range k).map F = xs := ⟨_, rfl⟩
        have hxl : xs.length = k := by rw [← hxs]; simp
        rw [hxs, ← hxl] at hown
        obtain ⟨A2, c2, rfl, h1, h2⟩ := own_ints hown
        have HX1 := Lib.hid h1; have HX2 := Lib.hid h2
        have HN2 : Hid (stpsV B es t = (xs, true)) := Lib.hid (by rw [HN.out, ← hkn, hxs])
        have hki : ¬ ((k : Int) < (es.length : Int)) := by omega
        clear hown h1 h2 hxs hlt hxl hkn
        go_wp2_with fail
        refine bodyPost_ret (v := .tuple #[.slice A2 xs.length c2, .bool true]) (by simp [results, Try.results56, go_sem]) rfl ?_
        rw [HN2.out]
        exact ⟨A2, c2, rfl, HX1.out, HB.out, HX2.out.mono (by omega)⟩
      have hki : (k : Int) < (es.length : Int) := by omega
      have z9 : IntKind.i64.wrap ((k : Int) + 1) = (k : Int) + 1 := IntWalk.i64_in _ (by omega)
      obtain ⟨fk, hfk⟩ : ∃ fk, F k = fk := ⟨_, rfl⟩
      have FVk := FV.out k hlt
      rw [hfk] at FVk
      have HFV := Lib.hid FVk
      have HCE : Hid (((List.range (k + 1)).map F).map (Value.int .i64) = ((List.range k).map F).map (Value.int .i64) ++ [.int .i64 fk]) := Lib.hid (by
        rw [List.range_succ, List.map_append, List.map_append]; simp [hfk])
      have HLT := Lib.hid hlt
      have HONE : Hid (∀ u ∈ [Value.int .i64 fk], u.oneCell' = true) := Lib.hid (by intro u hu; simp at hu; subst hu; rfl)
      clear FVk hfk hlt
      have hS : ∀ W, Below wr.heap.size wr W → (W.cell? ⟨w.heap.size, 0, none⟩ = some (.string B) ∧ W.cell? ⟨w.heap.size, 1, none⟩ = some (.slice A es.length cap)) :=
        fun W h => ⟨(h.cell (by simp only; omega)).trans HT3.out.1, (h.cell (by simp only; omega)).trans HT3.out.2⟩
      have HSS := Lib.hid hS
      have HA : Hid (∀ W, Below wr.heap.size wr W → EdgesIn W W.heap.size A es) := Lib.hid fun W h => (hE.below (HB.out.trans (h.mono (by omega)))).more (HB.out.trans (h.mono (by omega))).size
      clear hS
      go_wp2_with fail
      go_region_held3 (fun W => W.cell? ⟨w.heap.size, 0, none⟩ = some (.string B) ∧ W.cell? ⟨w.heap.size, 1, none⟩ = some (.slice A es.length cap))
        (first
          | exact HSS.out _ (Below.refl _ _).drew
          | exact HSS.out _ HB4.out
          | exact HSS.out _ HB5.out
          | exact HSS.out _ HB5A.out
          | exact HSS6.out)
        (first
          | (go_at_call 64
             refine (l1Name_any k (by omega) _).mono ?_
             rintro e w4 ⟨rfl, hb4⟩
             have HB4 : Hid (Below wr.heap.size wr w4) := Lib.hid ((Below.refl _ _).drew.trans hb4)
             clear hb4)
          | (go_at_call 94
             refine (HFV.out _ (HA.out _ HB4.out)).mono ?_
             rintro e w5 ⟨rfl, hb5⟩
             have HB5 : Hid (Below wr.heap.size wr w5) := Lib.hid (HB4.out.trans (hb5.mono HB4.out.size))
             have HB5A : Hid (Below wr.heap.size wr (w5.alloc (.cells #[.int .i64 fk] 3))) := Lib.hid (HB5.out.alloc HB5.out.size _)
             have HOWN5 := Lib.hid (ownsRow_of_block HOWN.out fun b hb => HB5A.out.block b (ownBlock_lt HOWN.out hb).2)
             have HNEW5 := Lib.hid (one_newI w5 (.int .i64 fk))
             have HZ5 : Hid (w.heap.size + 1 ≤ (w5.alloc (.cells #[.int .i64 fk] 3)).heap.size) := Lib.hid (by have := HB5A.out.size; omega)
             clear hb5)
          | (refine step_append_ownI rfl (.tmp 20) (.tmp 26) 52 rfl (w.heap.size + 1) 3 i0 (.int .i64 0) 1 8 Try.underlying52 HI.out HI0.out HI1.out HI2.out rfl (by decide) _ k _ rfl HOWN5.out ⟨w5.heap.size, 0, none⟩ 1 1 [.int .i64 fk] rfl rfl HNEW5.out HONE.out (by unfold maxLen; omega) (by omega) HZ5.out ?_
             go_must (
             intro v6 w6 hown6 hgr6
             have HOWN6 := Lib.hid hown6
             have HB6 : Hid (Below (w.heap.size + 1) wr w6) := Lib.hid ((HB5A.out.mono (by omega)).grown hgr6 HZ5.out (fun _ e => Nat.le_of_not_lt fun hq => ownI_ne HOWN5.out hq e.symm))
             have HSS6 : Hid (w6.cell? ⟨w.heap.size, 0, none⟩ = some (.string B) ∧ w6.cell? ⟨w.heap.size, 1, none⟩ = some (.slice A es.length cap)) := Lib.hid ⟨(HB6.out.cell (by simp only; omega)).trans HT3.out.1, (HB6.out.cell (by simp only; omega)).trans HT3.out.2⟩
             clear hown6 hgr6)))
      rename_i hHeld
      clear hHeld
      have HZ6 : Hid (w.heap.size + 2 ≤ w6.heap.size) := Lib.hid (by have := HB6.out.size; omega)
      go_wp2_with fail
      go_roundw
      case rel => exact ⟨k + 1, by have := HLT.out; omega, by go_num, HB.out.trans (HB6.out.mono (by omega)), HZ6.out, HT3.out.below HB6.out (by omega), by rw [HCE.out]; exact HOWN6.out⟩
      case measure => simp [intOf]; have := HLT.out; omega

end Go.Proofs.Ytjfdkhaepmmlfaa

namespace Go.Proofs.Ytjfdkhaepmmlfaa
open Go.RowKit

/-- a row of numbers of a call's own -/
def RowI (f : Nat → Int) (n : Nat) (w : World) (e : Ending) (w' : World) : Prop :=
  ∃ g, e = .returned (.slice (some ⟨g, 0, none⟩) n n) ∧ w'.rowIs g 3 n (fun j => .int .i64 (f j)) ∧ w.heap.size ≤ g ∧ Below w.heap.size w w'

theorem zerosI (W : World) (n : Nat) : (W.alloc (.cells (madeCells #[.int .i64 0] n) 3)).rowIs W.heap.size 3 n (fun _ => .int .i64 0) := World.rowIs_made W (.int .i64 0) n 3

/-- what holds while steps are reckoned -/
structure StpAt (w W : World) (g n : Nat) (cs : List Value) (f : Nat → Int) (i : Nat) : Prop where
  below : Below w.heap.size w W
  tn : TnAt W w.heap.size cs
  row : W.rowIs g 3 n (fun j => .int .i64 (if j < i then f j else 0))
  lt : w.heap.size < g
  sz : g < W.heap.size
theorem StpAt.go {w W W' : World} {g n : Nat} {cs : List Value} {f : Nat → Int} {i : Nat} (h : StpAt w W g n cs f i) (k : Below W.heap.size W W') : StpAt w W' g n cs f i :=
  ⟨h.below.trans (k.mono h.below.size), h.tn.below k (by have := h.lt; have := h.sz; omega), h.row.of_block (k.block g h.sz), h.lt, Nat.lt_of_lt_of_le h.sz k.size⟩
theorem StpAt.set {w W : World} {g n : Nat} {cs : List Value} {f : Nat → Int} {i : Nat} (h : StpAt w W g n cs f i) : StpAt w (W.setCell ⟨g, i, none⟩ (.int .i64 (f i))) g n cs f (i + 1) := by
  have h1 := h.lt; have h2 := h.sz
  refine ⟨h.below.setCell (by simp only; omega) _, ⟨fun j v hv => ?_, fun j hj => ?_⟩, (h.row.set i (.int .i64 (f i))).congr fun j _ => ?_, h.lt, by simp [World.setCell]; omega⟩
  · exact (World.cell?_of_block (a := ⟨w.heap.size, 0 + j, none⟩) (Below.heap_setCell _ _ _ _ (by simp only; omega))).trans (h.tn.rg j v hv)
  · rw [World.cell?_of_block (a := ⟨w.heap.size, 0 + j, none⟩) (Below.heap_setCell _ _ _ _ (by simp only; omega)), World.frozen?_of_block (a := ⟨w.heap.size, 0 + j, none⟩) (Below.heap_setCell _ _ _ _ (by simp only; omega))]
    exact h.tn.th j hj
  · by_cases hj : j = i
    · simp [hj]
    · by_cases h3 : j < i
      · simp [hj, h3, Nat.lt_succ_of_lt h3]
      · have h4 : ¬ j < i + 1 := by omega
        simp [hj, h3, h4]

set_option maxRecDepth 100000 in
set_option maxHeartbeats 2000000 in
/-- impl.treeNet.steps -/
theorem steps_any (B : ByteArray) (A : Option Addr) (cap : Nat) (es : List (ByteArray × ByteArray)) (F : Nat → Nat) (G : UInt8 → Int) (H : Nat → Int) (w : World) (hE : EdgesIn w w.heap.size A es) (hV : Valid B.data.toList (ebs es)) (hT : Tame B.data.toList F G) (hH : ∀ x ∈ B.data.toList, H (idxL B.data.toList x) = G x) :
    Calls Try.prog 40 #[.agg (tnC B A es.length cap F H).toArray] w (RowI (stpE F G es) es.length w) := by
  have h16 := (valid_sizes hV).2
  have FS : Hid (∀ (k : Nat), k < es.length → ∀ W : World, EdgesIn W W.heap.size A es → Calls Try.prog 77 #[.agg (tnC B A es.length cap F H).toArray, .int .i64 (k : Int)] W fun e w' => e = .returned (.int .i64 (stpE F G es k)) ∧ Below W.heap.size W w') := Lib.hid fun k hk W h => step_any B A cap es F G H k W h hV hT hH hk
  obtain ⟨f, hf⟩ : ∃ f, stpE F G es = f := ⟨_, rfl⟩
  rw [hf] at FS ⊢
  have htn := TnAt.new w (tnC B A es.length cap F H) rfl
  have c1 := htn.cell (j := 1) rfl
  obtain ⟨cs, hcs⟩ : ∃ cs, tnC B A es.length cap F H = cs := ⟨_, rfl⟩
  have hcl : (Try.prog.info? 71).map (·.size) = some cs.length := by rw [← hcs]; kernel_rfl
  have HCL := Lib.hid hcl
  rw [hcs] at FS htn c1 ⊢
  have hw0 : Below w.heap.size w (w.alloc (.cells cs.toArray 71)) := (Below.refl _ _).alloc (Nat.le_refl _) _
  have hmk := fun W => make_ints es.length (by omega) W
  have H16 := Lib.hid h16
  have HS1 : Hid (StpAt w ((w.alloc (.cells cs.toArray 71)).alloc (.cells (madeCells #[.int .i64 0] es.length) 3)) (w.heap.size + 1) es.length cs f 0) := Lib.hid (by
    have hz := zerosI (w.alloc (.cells cs.toArray 71)) es.length
    rw [World.size_alloc] at hz
    exact ⟨hw0.alloc (by simp) _, htn.below ((Below.refl _ _).alloc (Nat.le_refl _) _) (by simp), hz.congr (fun j _ => by simp), by omega, by simp⟩)
  clear h16 hV hT hH hf htn hcs hcl hw0
  go_enter Try.func40, Try.ntmps40
  go_wp2_with fail
  clear hmk c1
  go_loopw [12] (fun c wr => ∃ i : Nat, i ≤ es.length ∧ c = .int .i64 i ∧ Hid (StpAt w wr (w.heap.size + 1) es.length cs f i)) (fun c _ => es.length - (intOf c).toNat)
  case atStart => exact ⟨0, Nat.zero_le _, rfl, HS1⟩
  case round =>
    clear HS1
    obtain ⟨i, hi, rfl, HS⟩ := hrel
    by_cases hlt : i < es.length
    case neg =>
      have hie : i = es.length := by omega
      have HROW : Hid (wr.rowIs (w.heap.size + 1) 3 es.length (fun j => .int .i64 (f j))) := Lib.hid (HS.out.row.congr fun j hj => by rw [if_pos (by omega)])
      clear hie
      go_wp2_with fail
      go_ret
      exact ⟨w.heap.size + 1, rfl, HROW.out, by omega, HS.out.below⟩
    have a1 : (0 : Int) ≤ (i : Int) := by omega
    have a2 : (i : Int) < (es.length : Int) := by omega
    have HFS := Lib.hid (FS.out i hlt wr ((hE.below HS.out.below).more HS.out.below.size))
    obtain ⟨fi, hfi⟩ : ∃ fi, f i = fi := ⟨_, rfl⟩
    rw [hfi] at HFS
    have HFI := Lib.hid hfi
    clear hfi
    go_wp2_with (first
      | (refine wpList_load_mid (op := ⟨some 17, .load 71 (.tmp 1), _, _, _, _⟩) rfl 71 (.tmp 1) rfl w.heap.size 0 rfl cs _ HS.out.tn.rg Try.underlying71 rfl HCL.out ?_))
    refine HFS.out.mono ?_
    rintro e w5 ⟨rfl, hb5⟩
    have HS5 := Lib.hid (HS.out.go hb5)
    have s1 := HS5.out.row.cell (i := i) hlt
    have s2 := HS5.out.row.frozen i
    have HS6 : Hid (StpAt w (w5.setCell ⟨w.heap.size + 1, i, none⟩ (.int .i64 fi)) (w.heap.size + 1) es.length cs f (i + 1)) := Lib.hid (by rw [← HFI.out]; exact HS5.out.set)
    have hi16 : i ≤ 16 := by have := H16.out; omega
    clear hb5 HS
    go_wp2_with fail
    go_roundw
    case rel => exact ⟨i + 1, by omega, by go_num, HS6⟩
    case measure => simp [intOf]; omega

set_option maxRecDepth 100000 in
set_option maxHeartbeats 1000000 in
/-- impl.countAdding -/
theorem countAdding_any (g n : Nat) (f : Nat → Int) (w : World) (hr : w.rowIs g 3 n (fun j => .int .i64 (f j))) (hn : n ≤ 100) :
    Calls Try.prog 38 #[.slice (some ⟨g, 0, none⟩) n n] w (IntPost ((cntK ((List.range n).map f) : Nat) : Int) w) := by
  have HR := Lib.hid hr
  clear hr
  go_enter Try.func38, Try.ntmps38
  go_wp2_with fail
  go_loop [3, 8] (fun a c => ∃ i q : Nat, i ≤ n ∧ q ≤ i ∧ c = .int .i64 i ∧ a = .int .i64 q ∧ Hid (q = cntK ((List.range i).map f))) (fun _ c => n - (intOf c).toNat)
  case atStart => exact ⟨0, 0, Nat.zero_le _, Nat.le_refl _, rfl, rfl, Lib.hid rfl⟩
  case round =>
    obtain ⟨i, q, hi, hq, rfl, rfl, HQ⟩ := hrel
    by_cases hlt : i < n
    case neg =>
      have HV : Hid (((q : Nat) : Int) = ((cntK ((List.range n).map f) : Nat) : Int)) := Lib.hid (by rw [HQ.out, show i = n by omega])
      go_wp2_with fail
      go_ret
      exact ⟨ret_int HV.out, Below.refl _ _⟩
    have c1 := HR.out.cell (i := i) hlt
    have a1 : (0 : Int) ≤ (i : Int) := by omega
    have a2 : (i : Int) < (n : Int) := by omega
    have HNX : Hid (cntK ((List.range (i + 1)).map f) = q + if f i = 0 then 0 else 1) := Lib.hid (by rw [List.range_succ, List.map_append, List.map_cons, List.map_nil, cntK_snoc, HQ.out])
    obtain ⟨fi, hfi⟩ : ∃ fi, f i = fi := ⟨_, rfl⟩
    rw [hfi] at HNX
    simp only [hfi] at c1
    clear hfi
    by_cases hz : fi = 0
    · have HN2 : Hid (q = cntK ((List.range (i + 1)).map f)) := Lib.hid (by rw [HNX.out, if_pos hz, Nat.add_zero])
      have z1 : (fi != 0) = false := by simp [hz]
      clear hz
      go_wp2_with fail
      go_round
      case rel => exact ⟨i + 1, q, by omega, by omega, by go_num, rfl, HN2⟩
      case measure => simp [intOf]; omega
    · have HN2 : Hid (q + 1 = cntK ((List.range (i + 1)).map f)) := Lib.hid (by rw [HNX.out, if_neg hz])
      have z1 : (fi != 0) = true := by simp [hz]
      clear hz
      go_wp2_with fail
      go_round
      case rel => exact ⟨i + 1, q + 1, by omega, by omega, by go_num, by go_num, HN2⟩
      case measure => simp [intOf]; omega

end Go.Proofs.Ytjfdkhaepmmlfaa

namespace Go.Proofs.Ytjfdkhaepmmlfaa
open Go.RowKit

set_option maxRecDepth 100000 in
set_option maxHeartbeats 1000000 in
/-- impl.StepsOf -/
theorem implStepsOf_any (B : ByteArray) (A : Option Addr) (cap : Nat) (es : List (ByteArray × ByteArray)) (t : ByteArray) (w : World) (hs : B.size ≤ maxLen) (hE : EdgesIn w w.heap.size A es) (hl : es.length ≤ 1099511627776) (hS : ∀ e ∈ es, e.1.size ≤ 1099511627776 ∧ e.2.size ≤ 1099511627776) (htz : t.size ≤ 1099511627776) :
    Calls Try.prog 57 #[.agg #[.string B, .slice A es.length cap], .string t] w (ValsPost (stpsV B es t) w) := by
  have HM := Lib.hid hs; have HL := Lib.hid hl; have HS := Lib.hid hS; have HTZ := Lib.hid htz
  clear hs hl hS htz
  obtain ⟨v, hv⟩ : ∃ v, askV B es t = v := ⟨_, rfl⟩
  have FA : Hid (∀ W : World, EdgesIn W W.heap.size A es → Calls Try.prog 95 #[.agg #[.string B, .slice A es.length cap], .string t] W fun e w' => e = .returned (.bool v) ∧ Below W.heap.size W w') := Lib.hid fun W h => by
    have := isTreeOfAcyclic_any B A cap es t W HM.out h HL.out HS.out HTZ.out
    rwa [hv] at this
  have hb1 : Below w.heap.size w (w.alloc (.cells #[.string B, .slice A es.length cap] 30)) := (Below.refl _ _).alloc (Nat.le_refl _) _
  have t1 := Two.made w B A es.length cap 30
  have hz1 : (w.alloc (.cells #[.string B, .slice A es.length cap] 30)).heap.size = w.heap.size + 1 := by simp
  cases v with
  | false =>
    have HN : Hid (stpsV B es t = ([], false)) := Lib.hid (if_neg (by rw [hv]; simp))
    clear hv
    go_enter Try.func57, Try.ntmps57
    go_wp2_with fail
    refine (FA.out _ ((hE.below hb1).more hb1.size)).mono ?_
    rintro e w2 ⟨rfl, hb2⟩
    have hb2' := hb1.trans (hb2.mono hb1.size)
    clear hb2 t1
    go_wp2_with fail
    refine bodyPost_ret (v := .tuple #[.slice none 0 0, .bool false]) (by simp [results, Try.results57, go_sem]) rfl ?_
    rw [HN.out]
    exact ⟨none, 0, rfl, fun k hk => absurd hk (by simp), hb2', .inl ⟨rfl, rfl⟩⟩
  | true =>
    obtain ⟨ha, ht⟩ := ask_yes hv
    have FT : Hid (∀ W : World, EdgesIn W W.heap.size A es → Calls Try.prog 39 #[.agg #[.string B, .slice A es.length cap], .string t] W (TnetPost B A es.length cap (valB B es) (hgtB B es t (valB B es)) W)) := Lib.hid fun W h => ask_tnet ha A cap ht HM.out HL.out W h
    have FST : Hid (∀ (H : Nat → Int), (∀ x ∈ B.data.toList, H (idxL B.data.toList x) = hgtB B es t (valB B es) x) → ∀ W : World, EdgesIn W W.heap.size A es → Calls Try.prog 40 #[.agg (tnC B A es.length cap (valB B es) H).toArray] W (RowI (stpB B es t) es.length W)) := Lib.hid fun H hH W h =>
      steps_any B A cap es (valB B es) (hgtB B es t (valB B es)) H W h (tree_pack ht).1 (tame_of ht (F := valB B es) (valE_all (acy_v ha))) hH
    obtain ⟨f, hf⟩ : ∃ f, stpB B es t = f := ⟨_, rfl⟩
    rw [hf] at FST
    have HN : Hid (stpsV B es t = ((List.range es.length).map f, true)) := Lib.hid ((if_pos hv).trans (by rw [hf]))
    have h16 := (acy_v ha).F.few
    clear hv ha ht hf
    go_enter Try.func57, Try.ntmps57
    go_wp2_with fail
    refine (FA.out _ ((hE.below hb1).more hb1.size)).mono ?_
    rintro e w2 ⟨rfl, hb2⟩
    have hb2' := hb1.trans (hb2.mono hb1.size)
    have t2 := t1.below hb2 (by omega)
    have hd0 := t2.1; have hd1 := t2.2
    clear hb2 t1 FA
    go_wp2_with fail
    refine (FT.out _ ((hE.below hb2').more hb2'.size)).mono ?_
    rintro e w4 ⟨H, rfl, hH, hb4⟩
    have hb4' := hb2'.trans (hb4.mono hb2'.size)
    have HCALL := Lib.hid (FST.out H hH w4 ((hE.below hb4').more hb4'.size))
    obtain ⟨cs, hcs⟩ : ∃ cs, tnC B A es.length cap (valB B es) H = cs := ⟨_, rfl⟩
    rw [hcs] at HCALL ⊢
    clear hb4 hd0 hd1 t2 hcs hH FT FST
    go_wp2_with fail
    refine HCALL.out.mono ?_
    rintro e w5 ⟨g, rfl, hrow, hg, hb5⟩
    have hb5' := hb4'.trans (hb5.mono hb4'.size)
    have HROW := Lib.hid hrow
    have hg2 : w.heap.size ≤ g := by have := hb4'.size; omega
    clear hb5 hrow HCALL hg
    go_wp2_with fail
    refine bodyPost_ret (v := .tuple #[.slice (some ⟨g, 0, none⟩) es.length es.length, .bool true]) (by simp [results, Try.results57, go_sem]) rfl ?_
    rw [HN.out]
    refine ⟨some ⟨g, 0, none⟩, es.length, by simp, fun k hk => ?_, hb5', .inr ⟨g, es.length, _, rfl, hg2, HROW.out.lt, by simp, HROW.out⟩⟩
    have hk2 : k < es.length := by simpa using hk
    refine ⟨g, 0, rfl, HROW.out.lt, ?_⟩
    rw [Nat.zero_add, HROW.out.cell (i := k) hk2]
    simp

end Go.Proofs.Ytjfdkhaepmmlfaa
