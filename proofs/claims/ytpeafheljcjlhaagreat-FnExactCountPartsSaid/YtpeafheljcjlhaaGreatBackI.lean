/- Edges that lead back, by the program: a set of their names. -/
import Derived.Test.YtpeafheljcjlhaaGreatBackS
import Derived.Test.YtpeafheljcjlhaaGreatWayO
import Derived.Test.YtpeafheljcjlhaaGreatIndex
import Derived.Test.YtpeafheljcjlhaaGreatEdgeName
import Derived.Maps.OwnSet
namespace Go.Proofs.YtpeafheljcjlhaaGreat
open Go.RowKit

theorem nameOf_inj {i j : Nat} (hi : i ≤ 100) (hj : j ≤ 100) (h : nameOf i = nameOf j) : i = j := by
  have := congrArg UInt8.toNat h
  rw [nameOf_toNat hi, nameOf_toNat hj] at this
  omega
theorem mem_names {p : Nat → Bool} {n k : Nat} (hn : n ≤ 100) (hk : k < n) : nameOf k ∈ names p n ↔ p k = true := by
  unfold names
  rw [List.mem_map]
  constructor
  · rintro ⟨j, hj, e⟩
    obtain ⟨h1, h2⟩ := List.mem_filter.1 hj
    have : j < n := by simpa using h1
    have := nameOf_inj (by omega) (by omega) e
    subst this; exact h2
  · intro h; exact ⟨k, List.mem_filter.2 ⟨by simpa using hk, h⟩, rfl⟩
theorem not_mem_names {p : Nat → Bool} {k : Nat} (hk : k ≤ 100) : nameOf k ∉ names p k := fun h => by
  unfold names at h
  obtain ⟨j, hj, e⟩ := List.mem_map.1 h
  have : j < k := by simpa using (List.mem_filter.1 hj).1
  have := nameOf_inj (by omega) hk e
  omega

/-- what is handed back: a set of names, a new map -/
def BackSet (p : Nat → Bool) (n : Nat) (w : World) (e : Ending) (w' : World) : Prop :=
  ∃ m : Nat, e = .returned (.map (some m)) ∧ SetAt w' m ((names p n).map encB) ∧ Below w.heap.size w w' ∧ w.heap.size ≤ m

set_option maxRecDepth 100000 in
set_option maxHeartbeats 4000000 in
/-- impl.backNames -/
theorem backNames_any (B : ByteArray) (A : Option Addr) (cap : Nat) (es : List (ByteArray × ByteArray)) (w : World) (hE : EdgesIn w w.heap.size A es) (hF : Facts B es) (hBm : B.size ≤ maxLen) :
    Calls Tryz.prog 56 #[.agg #[.string B, .slice A es.length cap]] w (BackSet (backP B es) es.length w) := by
  obtain ⟨o, ho⟩ : ∃ o : ByteArray, (⟨(orderE B.data.toList (ebs es)).toArray⟩ : ByteArray) = o := ⟨_, rfl⟩
  have hod : o.data.toList = orderE B.data.toList (ebs es) := by rw [← ho]
  have hol : o.size ≤ maxLen := by
    have h1 : o.size = (orderE B.data.toList (ebs es)).length := by rw [← hod]; simp
    have := orderE_len hF.into hF.ent hF.small
    unfold maxLen; omega
  have FO : Hid (∀ W : World, EdgesIn W W.heap.size A es → Calls Tryz.prog 93 #[.agg #[.string B, .slice A es.length cap]] W fun e w' => e = .returned (.string o) ∧ Below W.heap.size W w') := Lib.hid fun W h => by
    rw [← ho]; exact wayOrder_any B A cap es W h (by have := hF.few; omega) hF.lets hF.into hF.small hF.ent hF.one hBm hF.first
  have h16 := hF.few
  have HLE := Lib.hid hF.lets; have HOD := Lib.hid hod; have HOL := Lib.hid hol
  have hb1 : Below w.heap.size w (w.alloc (.cells #[.string B, .slice A es.length cap] 31)) := (Below.refl _ _).alloc (Nat.le_refl _) _
  have t1 := Two.made w B A es.length cap 31
  have hz1 : (w.alloc (.cells #[.string B, .slice A es.length cap] 31)).heap.size = w.heap.size + 1 := by simp
  have hmm := @run_makeMap Tryz.prog
  clear ho hod hol hF hBm
  go_enter Tryz.func56, Tryz.ntmps56
  go_wp2_with fail
  refine (FO.out _ ((hE.below hb1).more hb1.size)).mono ?_
  rintro e w2 ⟨rfl, hb2⟩
  have t2 := t1.below hb2 (by omega)
  have hb2' := hb1.trans (hb2.mono hb1.size)
  have hbm : Below w2.heap.size w2 (w2.alloc (.map #[] 0)) := (Below.refl _ _).alloc (Nat.le_refl _) _
  have t3 := t2.below hbm (by have := hb2.size; omega)
  have hs3 : SetAt (w2.alloc (.map #[] 0)) w2.heap.size (([] : List UInt8).map encB) := SetAt.new _
  have hb3' := hb2'.trans (hbm.mono hb2'.size)
  have hz3 : (w2.alloc (.map #[] 0)).heap.size = w2.heap.size + 1 := by simp
  have hz2 := hb2'.size
  clear hb2 t1 hb1 hz1 FO t2 hbm hb2'
  have hd0 := t3.1; have hd1 := t3.2
  go_wp2_with fail
  clear hmm hd0 hd1
  obtain ⟨w3, hw3⟩ : ∃ w3, w2.alloc (.map #[] 0) = w3 := ⟨_, rfl⟩
  obtain ⟨m, hm⟩ : ∃ m, w2.heap.size = m := ⟨_, rfl⟩
  rw [hw3] at t3 hs3 hb3' hz3 ⊢
  rw [hm] at hs3 hz3 hz2 ⊢
  clear hw3 hm
  go_loopw [13] (fun c wr => ∃ (k : Nat), k ≤ es.length ∧ c = .int .i64 k ∧ SetAt wr m ((names (backP B es) k).map encB) ∧ w3.grownBy wr (some m)) (fun c _ => es.length - (intOf c).toNat)
  case atStart => exact ⟨0, Nat.zero_le _, rfl, hs3, World.grownBy.refl _ _⟩
  case round =>
    obtain ⟨k, hk, rfl, hset, hgr⟩ := hrel
    have hb : Below w.heap.size w wr := hb3'.grown hgr (by omega) (fun q e => by injection e with e; omega)
    have HSET := Lib.hid hset; have HGR := Lib.hid hgr; have HBW := Lib.hid hb
    have hzr := hgr.size
    clear hset hgr hb
    by_cases hlt : k < es.length
    case neg =>
      have hkn : k = es.length := by omega
      subst hkn
      go_wp2_with fail
      go_ret
      exact ⟨m, rfl, HSET.out, HBW.out, hz2⟩
    obtain ⟨x, y, he, h1, h2, hxl, hyl⟩ := edge_letters HLE.out hlt
    obtain ⟨eb, eo, rfl, hlow, q1, q2⟩ := (hE.below HBW.out) k hlt
    rw [h1] at q1
    rw [h2] at q2
    obtain ⟨v, hv⟩ : ∃ v, decide (Lib.indexByte o.data.toList y ≤ Lib.indexByte o.data.toList x) = v := ⟨_, rfl⟩
    have HP : Hid (backP B es k = v) := Lib.hid (by rw [← hv, HOD.out]; exact backO_at he)
    obtain ⟨iy, hiy⟩ : ∃ iy, Lib.indexByte o.data.toList y = iy := ⟨_, rfl⟩
    obtain ⟨ix, hix⟩ : ∃ ix, Lib.indexByte o.data.toList x = ix := ⟨_, rfl⟩
    rw [hiy, hix] at hv
    have HIY : Hid (∀ W : World, Calls Tryz.prog 94 #[.string o, .string ⟨#[y]⟩] W fun e w' => e = .returned (.int .i64 iy) ∧ W = w') := Lib.hid fun W => by rw [← hiy]; exact index_any o y W HOL.out
    have HIX : Hid (∀ W : World, Calls Tryz.prog 94 #[.string o, .string ⟨#[x]⟩] W fun e w' => e = .returned (.int .i64 ix) ∧ W = w') := Lib.hid fun W => by rw [← hix]; exact index_any o x W HOL.out
    have HV := Lib.hid hv
    clear he h1 h2 hv hiy hix
    go_wp2_with fail
    go_quiet ((go_at_call 94; first | with_reducible exact Calls.quiet_of_same ((HIY.out _).mono fun _ _ ⟨h, h'⟩ => ⟨h, h'.symm⟩) | with_reducible exact Calls.quiet_of_same ((HIX.out _).mono fun _ _ ⟨h, h'⟩ => ⟨h, h'.symm⟩)))
    clear HIY HIX q1 q2
    obtain ⟨wn, hwn⟩ : ∃ wn, (wr.alloc (.cells #[.string ⟨#[x]⟩, .string ⟨#[y]⟩] 70)).drewN nq = wn := ⟨_, rfl⟩
    have hbn : Below wr.heap.size wr wn := by rw [← hwn]; exact below_drewN ((Below.refl _ _).alloc (Nat.le_refl _) _) _
    rw [hwn]
    clear hwn
    have hgn : w3.grownBy wn (some m) := grown_below HGR.out hbn
    have hsn := HSET.out.below hbn HSET.out.lt
    have HGN := Lib.hid hgn; have HSN := Lib.hid hsn
    clear hgn hsn hbn
    cases v with
    | false =>
      have hq : ¬ (iy ≤ ix) := of_decide_eq_false HV.out
      have HN : Hid (names (backP B es) (k + 1) = names (backP B es) k) := Lib.hid (names_no HP.out)
      go_wp2_with fail
      go_roundw
      case rel => exact ⟨k + 1, by omega, by go_num, by rw [HN.out]; exact HSN.out, HGN.out⟩
      case measure => simp [intOf]; omega
    | true =>
      have hq : iy ≤ ix := of_decide_eq_true HV.out
      have HN : Hid (names (backP B es) (k + 1) = names (backP B es) k ++ [nameOf k]) := Lib.hid (names_yes HP.out)
      have HC : Hid (nameOf k ∉ names (backP B es) k) := Lib.hid (not_mem_names (by omega))
      have s1 : (⟨#[nameOf k]⟩ : ByteArray).size = 1 := rfl
      go_wp2_with (first
        | (go_at_call 95; refine (edgeName_any k (by omega) _).mono ?_; rintro e w4 ⟨rfl, rfl⟩)
        | (at_mapUpdate; go_must (refine wpList_update_set rfl (.tmp 27) (.tmp 30) 52 (.inl rfl) (keyB Tryz.underlying5) Tryz.underlying52 m _ rfl HSN.out (nameOf k) rfl HC.out ?_; intro w5 hset5 hgr5)))
      have HSET5 : Hid (SetAt w5 m ((names (backP B es) (k + 1)).map encB)) := Lib.hid (by rw [HN.out]; exact hset5)
      have HGR5 := Lib.hid (HGN.out.trans hgr5)
      clear hset5 hgr5
      go_roundw
      case rel => exact ⟨k + 1, by omega, by go_num, HSET5.out, HGR5.out⟩
      case measure => simp [intOf]; omega

end Go.Proofs.YtpeafheljcjlhaaGreat
