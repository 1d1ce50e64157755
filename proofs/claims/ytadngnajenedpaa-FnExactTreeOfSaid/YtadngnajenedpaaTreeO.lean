/- The heaviest tree: what it is; by the model. -/
import Derived.Test.YtadngnajenedpaaSortP
import Derived.Test.YtadngnajenedpaaSortT
import Derived.Test.YtadngnajenedpaaTreeS
import Derived.Test.YtadngnajenedpaaWgt
namespace Go.Proofs.Ytadngnajenedpaa
open Go.RowKit

/-- the weight of a place -/
def wsOf (xs : List Int) (k : Nat) : Int := xs.getD k 0
/-- the edges of the heaviest tree -/
def heavyK (B : ByteArray) (es : List (ByteArray × ByteArray)) (xs : List Int) : List Nat := greedy (endsN B.data.toList (ebs es)) (fresh B.size) (lowO (wsOf xs) es.length 100)
/-- the heaviest tree -/
noncomputable def treeOfV (B : ByteArray) (es : List (ByteArray × ByteArray)) (xs : List Int) : ByteArray × Bool := textV (weightsV B es xs = true) (names (fun k => decide (k ∈ heavyK B es xs)) es.length)

theorem greedy_len (E : Nat → Nat × Nat) : ∀ (r : List Nat) (f : Nat → Nat), (greedy E f r).length ≤ r.length
  | [], f => by simp [greedy]
  | a :: r, f => by
    unfold greedy
    split
    · have := greedy_len E r f; simp; omega
    · have := greedy_len E r (joinL f (E a).1 (E a).2); simp; omega
theorem low_len (ws : Nat → Int) (n v : Nat) : (lowO ws n v).length ≤ n := by
  have h := nodup_len (a := lowO ws n v) (b := List.range n) ((low_sorted ws n v).imp fun hh e => by subst e; exact hh.not hh) (fun x hx => by simpa using (mem_low.1 hx).1)
  simpa using h
theorem heavy_lt {B : ByteArray} {es : List (ByteArray × ByteArray)} {xs : List Int} : ∀ k ∈ heavyK B es xs, k < es.length := fun k hk => (mem_low.1 (greedy_sub _ _ k hk)).1
theorem nameOf_inj {a b : Nat} (ha : a ≤ 100) (hb : b ≤ 100) (h : nameOf a = nameOf b) : a = b := by
  have h1 := nameOf_toNat ha
  have h2 := nameOf_toNat hb
  rw [h] at h1
  omega
theorem names_congr {p q : Nat → Bool} {n : Nat} (h : ∀ k, k < n → p k = q k) : names p n = names q n := by
  unfold names
  rw [List.filter_congr (fun k hk => h k (by simpa using hk))]

/-- what is left of a row of places -/
def restO (n i : Nat) : List Nat := (List.range n).drop i
theorem restO_at {n i : Nat} (h : i < n) : restO n i = i :: restO n (i + 1) := by
  unfold restO
  rw [List.drop_eq_getElem_cons (by simpa using h)]
  simp
theorem restO_end {n i : Nat} (h : n ≤ i) : restO n i = [] := List.drop_of_length_le (by simpa using h)

set_option maxRecDepth 100000 in
set_option maxHeartbeats 8000000 in
/-- spec.l5Tree -/
theorem l5Tree_any (B : ByteArray) (A : Option Addr) (cap : Nat) (es : List (ByteArray × ByteArray)) (P : Option Addr) (pcap : Nat) (xs : List Int) (w : World) (hs : B.size ≤ maxLen) (hE : EdgesIn w w.heap.size A es) (hX : IntsIn w w.heap.size P xs) (hV : Valid B.data.toList (ebs es)) (hxe : xs.length = es.length) :
    Calls Try.prog 44 #[.agg #[.string B, .slice A es.length cap], .slice P xs.length pcap] w fun e w' => e = .returned (.string ⟨(names (fun k => decide (k ∈ heavyK B es xs)) es.length).toArray⟩) ∧ Below w.heap.size w w' := by
  have h2 : 2 ≤ B.size := by have := hV.1.1.1; simpa using this
  have h8 : B.size ≤ 8 := (valid_sizes hV).1
  have h16 : es.length ≤ 16 := (valid_sizes hV).2
  have HM := Lib.hid hs
  have HEO := Lib.hid hV.1.2
  have HBL : Hid (B.data.toList.length = B.size) := Lib.hid (by simp)
  obtain ⟨n, hn⟩ : ∃ n, es.length = n := ⟨_, rfl⟩
  obtain ⟨E, hEE⟩ : ∃ E, endsN B.data.toList (ebs es) = E := ⟨_, rfl⟩
  obtain ⟨ws, hws⟩ : ∃ ws, wsOf xs = ws := ⟨_, rfl⟩
  have HK : Hid (heavyK B es xs = greedy E (fresh B.size) (lowO ws n 100)) := Lib.hid (by unfold heavyK; rw [hEE, hws, hn])
  have HKL : Hid ((greedy E (fresh B.size) (lowO ws n 100)).length ≤ 16) := Lib.hid (by
    have h1 := greedy_len E (lowO ws n 100) (fresh B.size)
    have h2 := low_len ws n 100
    omega)
  have FE : Hid (∀ (k : Nat), k < n → ∀ W : World, EdgesIn W W.heap.size A es → Calls Try.prog 80 #[.agg #[.string B, .slice A n cap], .string ⟨#[nameOf k]⟩] W fun e w' => e = .returned (.tuple #[.int .i64 (((E k).1 : Nat) : Int), .int .i64 (((E k).2 : Nat) : Int)]) ∧ Below W.heap.size W w') := Lib.hid fun k hk W h => by
    have := l5Ends_any B A cap es ⟨#[nameOf k]⟩ k W HM.out h (by omega) HEO.out (by omega) (eIdx_name (by omega) (by omega))
    rwa [hEE, hn] at this
  have FN : Hid (∀ k, k < n → (E k).1 < 8 ∧ (E k).2 < 8) := Lib.hid fun k hk => by
    obtain ⟨x, y, i, j, _, _, e3, _, _, h1, h2⟩ := ends_at HEO.out (show k < es.length by omega)
    rw [← hEE, e3]
    have := HBL.out
    simp only
    omega
  obtain ⟨o, ho⟩ : ∃ o : ByteArray, (⟨(names (fun _ => true) n).toArray⟩ : ByteArray) = o := ⟨_, rfl⟩
  have hod : o.data.toList = (List.range n).map nameOf := by
    rw [← ho]
    show names (fun _ => true) n = _
    unfold names
    rw [List.filter_eq_self.2 (by simp)]
  have hos : o.size = n := by rw [str_size hod]; simp
  have FNM : Hid (∀ W : World, Calls Try.prog 82 #[.agg #[.string B, .slice A n cap]] W fun e w' => e = .returned (.string o) ∧ Below W.heap.size W w') := Lib.hid fun W => by
    rw [← ho]; exact l1Names_any B A n cap W (by omega)
  have FMK : Hid (∀ W : World, Calls Try.prog 64 #[.agg #[.string B, .slice A n cap]] W fun e w' => ∃ g, e = .returned (.pointer (some ⟨g, 0, none⟩)) ∧ W.heap.size ≤ g ∧ g < w'.heap.size ∧ Labs w' g (fresh B.size) ∧ Below W.heap.size W w') := Lib.hid fun W => l5Make_any B _ W h2 h8
  have FS : Hid (∀ (t : ByteArray) (W : World), t.size ≤ 1099511627776 → Calls Try.prog 83 #[.agg #[.string B, .slice A n cap], .string t] W fun e w' => e = .returned (.string ⟨(names (hasB t.data.toList) n).toArray⟩) ∧ Below W.heap.size W w') := Lib.hid fun t W h => l5Sorted_any B A n cap t W (by omega) h
  have HLT : Hid (∀ k ∈ greedy E (fresh B.size) (lowO ws n 100), k < n) := Lib.hid fun k hk => (mem_low.1 (greedy_sub _ _ k hk)).1
  have HXX : Hid (∀ W : World, Below w.heap.size w W → ∀ k, (h : k < xs.length) → ∃ pb po, P = some ⟨pb, po, none⟩ ∧ W.cell? ⟨pb, po + k, none⟩ = some (.int .i64 (ws k))) := Lib.hid fun W hb k hk => by
    obtain ⟨pb, po, e, hlow, hc⟩ := hX k hk
    refine ⟨pb, po, e, ?_⟩
    rw [hb.cell hlow, hc, ← hws]
    unfold wsOf
    rw [List.getD_eq_getElem?_getD, List.getElem?_eq_getElem hk]
    rfl
  obtain ⟨f0, hf0⟩ : ∃ f0, fresh B.size = f0 := ⟨_, rfl⟩
  rw [hf0] at HK HKL HLT FMK
  rw [HK.out, hn]
  have hxn : xs.length = n := by omega
  have HOD := Lib.hid hod; have HOS := Lib.hid hos; have HXN := Lib.hid hxn; have HHN := Lib.hid hn
  have hn16 : n ≤ 16 := by omega
  have hb1 : Below w.heap.size w (w.alloc (.cells #[.string B, .slice A n cap] 30)) := (Below.refl _ _).alloc (Nat.le_refl _) _
  have t1 := Two.made w B A n cap 30
  have hz1 : (w.alloc (.cells #[.string B, .slice A n cap] 30)).heap.size = w.heap.size + 1 := by simp
  clear hs hV hEE hws ho hod hos hf0 hX hxe hxn h16 h2 h8 hn
  go_enter Try.func44, Try.ntmps44
  go_wp2_with fail
  refine (FMK.out _).mono ?_
  rintro e w2 ⟨g, rfl, hg1, hg2, hlab, hb2⟩
  have t2 := t1.below hb2 (by omega)
  have hb2' := hb1.trans (hb2.mono hb1.size)
  have HG : Hid (w.heap.size < g) := Lib.hid (by omega)
  have HLAB := Lib.hid hlab
  have d0 := t2.1; have d1 := t2.2
  clear hlab hb1 hb2 t1 hz1 hg1
  go_wp2_with fail
  refine (FNM.out _).mono ?_
  rintro e w3 ⟨rfl, hb3⟩
  have t3 := t2.below hb3 (by have := HG.out; omega)
  have hb3' := hb2'.trans (hb3.mono hb2'.size)
  have HLAB3 : Hid (Labs w3 g f0) := Lib.hid (HLAB.out.of_block (hb3.block g hg2))
  have HG3 : Hid (g < w3.heap.size) := Lib.hid (Nat.lt_of_lt_of_le hg2 hb3.size)
  have HT3 := Lib.hid t3; have HB3 := Lib.hid hb3'
  clear d0 d1 t2 t3 hb3 hb3' hb2' hg2 HLAB
  go_wp2_with fail
  go_loopw [5, 8] (fun a c wr => ∃ (v : Nat) (T : List Nat) (f : Nat → Nat) (s : ByteArray), v ≤ 100 ∧ c = .int .i64 ((v : Int) - 1) ∧ a = .string s ∧ Hid (s.data.toList = T.map nameOf) ∧ Hid (Labs wr g f) ∧ Hid (Two wr w.heap.size B A n cap) ∧ Below w.heap.size w wr ∧ g < wr.heap.size ∧ Hid (greedy E f0 (lowO ws n 100) = T ++ greedy E f (lowO ws n v))) (fun _ c _ => (intOf c + 1).toNat)
  case atStart => exact ⟨100, [], f0, ⟨#[]⟩, Nat.le_refl _, rfl, rfl, Lib.hid rfl, HLAB3, HT3, HB3.out, HG3.out, Lib.hid rfl⟩
  case round =>
    obtain ⟨v, T, f, s, hv, rfl, rfl, HS, HL, HT, hb, hgs, HGR⟩ := hrel
    cases v with
    | zero =>
      have q0 : ¬ (0 : Int) ≤ ((0 : Nat) : Int) - 1 := by omega
      have hTT : greedy E f0 (lowO ws n 100) = T := by rw [HGR.out]; simp [lowO, greedy]
      have hsz : s.size ≤ 1099511627776 := by
        rw [str_size HS.out, List.length_map, ← hTT]
        have := HKL.out; omega
      have hfin : names (hasB s.data.toList) n = names (fun k => decide (k ∈ greedy E f0 (lowO ws n 100))) n := by
        refine names_congr fun k hk => ?_
        unfold hasB
        rw [decide_eq_decide, indexByte_nonneg, HS.out, List.mem_map, hTT]
        constructor
        · rintro ⟨x, hx, he⟩
          have := HLT.out x (by rw [hTT]; exact hx)
          rw [← nameOf_inj (by omega) (by omega) he]
          exact hx
        · intro hx; exact ⟨k, hx, rfl⟩
      have HFIN := Lib.hid hfin
      have hd0 := HT.out.1; have hd1 := HT.out.2
      clear hTT hfin
      have q1 : ((0 : Nat) : Int) - 1 = -1 := by omega
      rw [q1] at q0 ⊢
      go_wp2_with fail
      refine (FS.out s _ hsz).mono ?_
      rintro e w5 ⟨rfl, hb5⟩
      have hb5' := hb.trans (hb5.mono hb.size)
      clear hb5 hd0 hd1 hsz
      go_wp2_with fail
      go_ret
      exact ⟨by rw [HFIN.out]; rfl, hb5'⟩
    | succ v =>
    have q1 : ((v + 1 : Nat) : Int) - 1 = (v : Int) := by omega
    rw [q1]
    have q2 : (0 : Int) ≤ (v : Int) := by omega
    have hvq : v < 100 := by omega
    have HLOW : Hid (lowO ws n (v + 1) = ((restO n 0).filter fun k => ws k == (v : Int)) ++ lowO ws n v) := Lib.hid rfl
    clear q1 hv
    go_wp2_with fail
    go_loopw [5, 22] (fun a c wi => ∃ (i : Nat) (T : List Nat) (f : Nat → Nat) (s : ByteArray), i ≤ o.size ∧ c = .int .i64 i ∧ a = .string s ∧ Hid (s.data.toList = T.map nameOf) ∧ Hid (Labs wi g f) ∧ Hid (Two wi w.heap.size B A n cap) ∧ Below w.heap.size w wi ∧ g < wi.heap.size ∧ Hid (greedy E f0 (lowO ws n 100) = T ++ greedy E f (((restO n i).filter fun k => ws k == (v : Int)) ++ lowO ws n v))) (fun _ c _ => o.size - (intOf c).toNat)
    case atStart => exact ⟨0, T, f, s, Nat.zero_le _, rfl, rfl, HS, HL, HT, hb, hgs, Lib.hid (by rw [HGR.out, HLOW.out])⟩
    case round =>
      clear HS HL HT hb hgs HGR HLOW
      obtain ⟨i, T, f, s, hi, rfl, rfl, HS, HL, HT, hb, hgs, HGR⟩ := hrel
      have hon := HOS.out
      by_cases hlt : i < o.size
      case neg =>
        have HEND : Hid (greedy E f0 (lowO ws n 100) = T ++ greedy E f (lowO ws n v)) := Lib.hid (by
          rw [HGR.out, restO_end (by omega)]; rfl)
        clear hon
        go_wp2_with fail
        go_roundw
        case rel => exact ⟨v, T, f, s, by omega, by go_num, rfl, HS, HL, HT, hb, hgs, HEND⟩
        case measure => first | (simp [intOf]; done) | (simp [intOf]; omega)
      have hin : i < n := by omega
      obtain ⟨pb, po, rfl, hxc⟩ := HXX.out _ hb i (by have := HXN.out; omega)
      have HRE : Hid (((restO n i).filter fun k => ws k == (v : Int)) = if ws i = (v : Int) then i :: ((restO n (i + 1)).filter fun k => ws k == (v : Int)) else ((restO n (i + 1)).filter fun k => ws k == (v : Int))) := Lib.hid (by
        rw [restO_at hin, List.filter_cons]
        by_cases c : ws i = (v : Int)
        · rw [if_pos (by simp [c]), if_pos c]
        · rw [if_neg (by simpa using c), if_neg c])
      have HFE := Lib.hid (FE.out i hin)
      obtain ⟨n1, n2⟩ := FN.out i hin
      obtain ⟨x, hx⟩ : ∃ x, ws i = x := ⟨_, rfl⟩
      rw [hx] at hxc HRE
      clear hx
      have i1 : (0 : Int) ≤ (i : Int) := by omega
      have i2 : (i : Int) < (xs.length : Int) := by have := HXN.out; omega
      by_cases hxv : x = (v : Int)
      case neg =>
        have q : (x != (v : Int)) = true := bne_iff_ne.2 hxv
        rw [if_neg hxv] at HRE
        have HNX : Hid (greedy E f0 (lowO ws n 100) = T ++ greedy E f (((restO n (i + 1)).filter fun k => ws k == (v : Int)) ++ lowO ws n v)) := Lib.hid (by rw [HGR.out, HRE.out])
        clear hxv hon
        go_wp2_with fail
        go_roundw
        case rel => exact ⟨i + 1, T, f, s, by omega, by go_num, rfl, HS, HL, HT, hb, hgs, HNX⟩
        case measure => simp [intOf]; omega
      have q : (x != (v : Int)) = false := bne_eq_false_iff_eq.2 hxv
      rw [if_pos hxv] at HRE
      clear hxv
      obtain ⟨c, hc⟩ : ∃ c, nameOf i = c := ⟨_, rfl⟩
      have hil : i < o.data.toList.length := by simpa using hlt
      have hgk : o.data.toList[i]? = some c := by
        rw [HOD.out, ← hc, List.getElem?_map, List.getElem?_range hin]; rfl
      have hkey := bytes_one (letter_at hlt)
      rw [List.getD_eq_getElem?_getD, hgk] at hkey
      simp only [Option.getD_some] at hkey
      have hTl : T.length ≤ 16 := by
        have := congrArg List.length HGR.out
        rw [List.length_append] at this
        have := HKL.out
        omega
      have hsz0 : s.size ≤ 16 := by rw [str_size HS.out, List.length_map]; exact hTl
      have hsz : ¬ 9223372036854775807 < s.size + (o.extract i (i + 1)).size := by
        rw [hkey]
        have : (⟨#[c]⟩ : ByteArray).size = 1 := rfl
        omega
      have HKEY := Lib.hid hkey
      have HC := Lib.hid hc
      have HFX : Hid (∀ W : World, EdgesIn W W.heap.size A es → Calls Try.prog 80 #[.agg #[.string B, .slice A n cap], .string (o.extract i (i + 1))] W fun e w' => e = .returned (.tuple #[.int .i64 (((E i).1 : Nat) : Int), .int .i64 (((E i).2 : Nat) : Int)]) ∧ Below W.heap.size W w') := Lib.hid fun W h => by
        have := HFE.out W h
        rwa [hc, ← hkey] at this
      have hgo : greedy E f0 (lowO ws n 100) = T ++ greedy E f (i :: (((restO n (i + 1)).filter fun k => ws k == (v : Int)) ++ lowO ws n v)) := by rw [HGR.out, HRE.out]; rfl
      obtain ⟨p1, hp1⟩ : ∃ p, (E i).1 = p := ⟨_, rfl⟩
      obtain ⟨p2, hp2⟩ : ∃ p, (E i).2 = p := ⟨_, rfl⟩
      have HY : Hid (f p1 = f p2 → greedy E f0 (lowO ws n 100) = T ++ greedy E f (((restO n (i + 1)).filter fun k => ws k == (v : Int)) ++ lowO ws n v)) := Lib.hid fun h => by
        rw [hgo, greedy_no (by rw [hp1, hp2]; exact h)]
      have HZ : Hid (¬ f p1 = f p2 → greedy E f0 (lowO ws n 100) = (T ++ [i]) ++ greedy E (joinL f p1 p2) (((restO n (i + 1)).filter fun k => ws k == (v : Int)) ++ lowO ws n v)) := Lib.hid fun h => by
        rw [hgo, greedy_yes (by rw [hp1, hp2]; exact h), hp1, hp2, List.append_assoc]; rfl
      rw [hp1] at n1 HFX
      rw [hp2] at n2 HFX
      have hwg := HG.out
      have a4 : (0 : Int) ≤ (i : Int) + 1 := by omega
      have a5 : ((i : Int) + 1).toNat = i + 1 := by omega
      have a6 : (i : Int) + 1 ≤ (o.size : Int) := by omega
      have a7 : i + 1 ≤ o.size := by omega
      have a8 : (i : Int) ≤ (i : Int) + 1 := by omega
      have a9 : IntKind.i64.wrap ((i : Int) + 1) = (i : Int) + 1 := IntWalk.i64_in _ (by omega)
      have x0 : ∀ x : After wr, x.W.cell? ⟨w.heap.size, 0, none⟩ = some (.string B) := fun x => x.cell (by simp only; omega) HT.out.1
      have x1 : ∀ x : After wr, x.W.cell? ⟨w.heap.size, 1, none⟩ = some (.slice A n cap) := fun x => x.cell (by simp only; omega) HT.out.2
      have XE : Hid (∀ x : After wr, EdgesIn x.W x.W.heap.size A es) := Lib.hid fun x => (hE.below (hb.trans (x.h.mono hb.size))).more (hb.trans (x.h.mono hb.size)).size
      clear hon hc hkey hgk hil hgo hp1 hp2 hTl hsz0 HFE
      go_wp2_with fail
      refine wp_region_below (by kernel_rfl) (by kernel_rfl) ?_
      repeat (go_big_quiet_step ((go_at_call 80; exact After.call (HFX.out _ (XE.out _)))))
      refine wpQuiet_nil ?_
      rintro _ ⟨xw, rfl⟩
      clear x0 x1
      have hLx : Labs xw.W g f := HL.out.of_block (xw.h.block g hgs)
      have tx := HT.out.below xw.h (by omega)
      have hbx := hb.trans (xw.h.mono hb.size)
      have hgx : g < xw.W.heap.size := Nat.lt_of_lt_of_le hgs xw.h.size
      have HLX := Lib.hid hLx; have HTX := Lib.hid tx
      clear hLx tx XE HFX
      go_wp2_with fail
      refine (join5_any g f p1 p2 xw.W HLX.out n1 n2).mono ?_
      rintro e w4 ⟨rfl, hl4, hg4⟩
      have HL4 := Lib.hid hl4
      have hb4 : Below w.heap.size w w4 := hbx.grown hg4 hbx.size (fun q e => by injection e with e; omega)
      have HT4 : Hid (Two w4 w.heap.size B A n cap) := Lib.hid (HTX.out.grown hg4 (by have := hbx.size; omega) (by intro e; injection e with e; omega))
      have hg4' : g < w4.heap.size := Nat.lt_of_lt_of_le hgx hg4.size
      clear hl4 hg4 hbx hgx hb HLX HTX HL HT hgs
      by_cases hsame : f p1 = f p2
      · have HNX := Lib.hid (HY.out hsame)
        have q : (f p1 != f p2) = false := bne_eq_false_iff_eq.2 hsame
        have HL5 : Hid (Labs w4 g f) := Lib.hid (by have := HL4.out; rwa [joinL_self hsame] at this)
        clear hsame
        go_wp2_with fail
        go_roundw
        case rel => exact ⟨i + 1, T, f, s, by omega, by go_num, rfl, HS, HL5, HT4, hb4, hg4', HNX⟩
        case measure => simp [intOf]; omega
      · have HNX := Lib.hid (HZ.out hsame)
        have q : (f p1 != f p2) = true := bne_iff_ne.2 hsame
        have HSN : Hid ((s ++ o.extract i (i + 1)).data.toList = (T ++ [i]).map nameOf) := Lib.hid (by
          rw [HKEY.out, str_snoc HS.out, List.map_append, ← HC.out]; rfl)
        clear hsame
        go_wp2_with fail
        go_roundw
        case rel => exact ⟨i + 1, T ++ [i], joinL f p1 p2, _, by omega, by go_num, rfl, HSN, HL4, HT4, hb4, hg4', HNX⟩
        case measure => simp [intOf]; omega

set_option maxRecDepth 100000 in
set_option maxHeartbeats 2000000 in
/-- spec.TreeOf -/
theorem specTreeOf_any (B : ByteArray) (A : Option Addr) (cap : Nat) (es : List (ByteArray × ByteArray)) (P : Option Addr) (pcap : Nat) (xs : List Int) (w : World) (hs : B.size ≤ maxLen) (hE : EdgesIn w w.heap.size A es) (hl : es.length ≤ 1099511627776) (hS : ∀ e ∈ es, e.1.size ≤ 1099511627776 ∧ e.2.size ≤ 1099511627776) (hX : IntsIn w w.heap.size P xs) (hxl : xs.length ≤ 1099511627776) :
    Calls Try.prog 20 #[.agg #[.string B, .slice A es.length cap], .slice P xs.length pcap] w (TextPost (treeOfV B es xs) w) := by
  obtain ⟨v, hv⟩ : ∃ v, weightsV B es xs = v := ⟨_, rfl⟩
  have FA : Hid (∀ W : World, EdgesIn W W.heap.size A es → IntsIn W W.heap.size P xs → Calls Try.prog 12 #[.agg #[.string B, .slice A es.length cap], .slice P xs.length pcap] W fun e w' => e = .returned (.bool v) ∧ Below W.heap.size W w') := Lib.hid fun W h h' => by
    have := specWeightsValid_any B A cap es P pcap xs W hs h hl hS h' hxl
    rwa [hv] at this
  have hb1 : Below w.heap.size w (w.alloc (.cells #[.string B, .slice A es.length cap] 30)) := (Below.refl _ _).alloc (Nat.le_refl _) _
  have t1 := Two.made w B A es.length cap 30
  have hz1 : (w.alloc (.cells #[.string B, .slice A es.length cap] 30)).heap.size = w.heap.size + 1 := by simp
  have HM := Lib.hid hs
  clear hs hl hS hxl
  cases v with
  | false =>
    have HN : Hid (treeOfV B es xs = (⟨#[]⟩, false)) := Lib.hid (textV_no (by rw [hv]; simp))
    clear hv
    go_enter Try.func20, Try.ntmps20
    go_wp2_with fail
    refine (FA.out _ ((hE.below hb1).more hb1.size) ((hX.below hb1).more hb1.size)).mono ?_
    rintro e w2 ⟨rfl, hb2⟩
    have hb2' := hb1.trans (hb2.mono hb1.size)
    clear hb2 t1
    go_wp2_with fail
    go_ret2
    exact ⟨by rw [HN.out]; rfl, hb2'⟩
  | true =>
    have hw := decB_iff.1 hv
    obtain ⟨r, hr⟩ : ∃ r : ByteArray, (⟨(names (fun k => decide (k ∈ heavyK B es xs)) es.length).toArray⟩ : ByteArray) = r := ⟨_, rfl⟩
    have HN : Hid (treeOfV B es xs = (r, true)) := Lib.hid (by rw [← hr]; exact textV_yes hv)
    have FT : Hid (∀ W : World, EdgesIn W W.heap.size A es → IntsIn W W.heap.size P xs → Calls Try.prog 44 #[.agg #[.string B, .slice A es.length cap], .slice P xs.length pcap] W fun e w' => e = .returned (.string r) ∧ Below W.heap.size W w') := Lib.hid fun W h h' => by
      rw [← hr]; exact l5Tree_any B A cap es P pcap xs W HM.out h h' hw.1 hw.2.1
    clear hv hw hr
    go_enter Try.func20, Try.ntmps20
    go_wp2_with fail
    refine (FA.out _ ((hE.below hb1).more hb1.size) ((hX.below hb1).more hb1.size)).mono ?_
    rintro e w2 ⟨rfl, hb2⟩
    have hb2' := hb1.trans (hb2.mono hb1.size)
    have t2 := t1.below hb2 (by omega)
    have hd0 := t2.1; have hd1 := t2.2
    clear hb2 t1
    go_wp2_with fail
    refine (FT.out _ ((hE.below hb2').more hb2'.size) ((hX.below hb2').more hb2'.size)).mono ?_
    rintro e w3 ⟨rfl, hb3⟩
    have hb3' := hb2'.trans (hb3.mono hb2'.size)
    clear hb3 hd0 hd1 t2
    go_wp2_with fail
    go_ret2
    exact ⟨by rw [HN.out]; rfl, hb3'⟩

end Go.Proofs.Ytadngnajenedpaa
