/- What is left of the blocks of a net, by the program. -/
import Derived.Test.YtghdjmjodgbghaaComes
import Derived.Test.YtghdjmjodgbghaaPaths
import Derived.Maps.OwnSet
namespace Go.Proofs.Ytghdjmjodgbghaa
open Go.RowKit

section
variable {P : Program} {w : World} {ops : Array Oper} {rest : List Oper} {o : Oper} {a : Act} {Q : Exit → Act → World → Prop} {kt e : TypeId}
/-- 'len(m)' of a set of letters -/
theorem wpList_len_set (hg : o.guard = none) (m : Operand) (t : TypeId) (hop : o.op = Op.call { callee := Callee.builtin Builtin.len, args := #[m], argTypes := #[t] }) (ht : P.underlying t = some (.map kt e))
    (b : Nat) (xs : List UInt8) (hm : a.eval m = .map (some b)) (hs : SetAt w b (xs.map encL))
    (hK : wpList P ops Q rest (a.put o.dst (.int .i64 xs.length)) w) : wpList P ops Q (o :: rest) a w := by
  refine wpList_plain hg fun K' hK' => ?_
  unfold Oper.wp
  simp [execOp, hop, resolve, invoke, builtin, hm, hs.len (P := P) ht o.type, Result.andThen]
  exact hK' _ _ hK
/-- 'delete(m, x)' of a set of letters -/
theorem wpList_delete_set (hg : o.guard = none) (m x : Operand) (t k : TypeId) (hop : o.op = Op.call { callee := Callee.builtin Builtin.delete, args := #[m, x], argTypes := #[t, k] }) (hk : P.underlying kt = some .string) (ht : P.underlying t = some (.map kt e))
    (b : Nat) (xs : List UInt8) (hm : a.eval m = .map (some b)) (hs : SetAt w b (xs.map encL)) (c : UInt8) (hx : a.eval x = encL c)
    (hK : ∀ w', SetAt w' b ((xs.erase c).map encL) → w.grownBy w' (some b) → wpList P ops Q rest (a.put o.dst (.tuple #[])) w') : wpList P ops Q (o :: rest) a w := by
  refine wpList_plain hg fun K' hK' => ?_
  obtain ⟨w', hrun, r1, r2⟩ := hs.delete (k := k) hk ht c o.type
  unfold Oper.wp
  simp [execOp, hop, resolve, invoke, builtin, hm, hx, hrun, Result.andThen]
  exact hK' _ _ (hK w' r1 r2)
end

/-- how much can go yet -/
def beforeM (b : Int) : Nat := if b < 0 then 20 else b.toNat

/-- what a pass says when it ends -/
def PassEnd (E : Eds) (xs : List UInt8) (b : Int) : Prop :=
  b = -1 ∨ ((xs.length : Int) ≤ b ∧ b ≤ 8 ∧ ((xs.length : Int) = b → SelfEnt E xs))

/-- what is handed back: a set that is empty if there is no way round -/
def LeftPost (B : ByteArray) (es : List (ByteArray × ByteArray)) (w : World) (e : Ending) (w' : World) : Prop :=
  ∃ (m : Nat) (xs : List UInt8), e = .returned (.map (some m)) ∧ SetAt w' m (xs.map encL) ∧ Below w.heap.size w w' ∧ (xs.length = 0 ↔ ¬ Cyc B.data.toList (ebs es))

set_option maxRecDepth 100000 in
set_option maxHeartbeats 4000000 in
/-- impl.leftOver -/
theorem leftOver_any (B : ByteArray) (A : Option Addr) (cap : Nat) (es : List (ByteArray × ByteArray)) (w : World) (hE : EdgesIn w w.heap.size A es) (hl : es.length ≤ 100) (hL : Lets B.data.toList es) (hn : B.data.toList.Nodup) (h8 : B.size ≤ 8) :
    Calls Try.prog 69 #[.agg #[.string B, .slice A es.length cap]] w (LeftPost B es w) := by
  have hmm := @run_makeMap Try.prog
  have hb1 : Below w.heap.size w ((w.alloc (.cells #[.string B, .slice A es.length cap] 29)).alloc (.map #[] 0)) := ((Below.refl _ _).alloc (Nat.le_refl _) _).alloc (by simp) _
  have t1 : Two ((w.alloc (.cells #[.string B, .slice A es.length cap] 29)).alloc (.map #[] 0)) w.heap.size B A es.length cap := ⟨by go_simp, by go_simp⟩
  have hz1 : ((w.alloc (.cells #[.string B, .slice A es.length cap] 29)).alloc (.map #[] 0)).heap.size = w.heap.size + 2 := by simp
  have hs1 : SetAt ((w.alloc (.cells #[.string B, .slice A es.length cap] 29)).alloc (.map #[] 0)) (w.heap.size + 1) (([] : List UInt8).map encL) := by
    have := SetAt.new (enc := encL) (w.alloc (.cells #[.string B, .slice A es.length cap] 29))
    rwa [World.size_alloc] at this
  have hlen : B.data.toList.length = B.size := by simp
  have HLEN := Lib.hid hlen; have HLE := Lib.hid hL; have HND := Lib.hid hn
  clear hlen hL hn
  go_enter Try.func69, Try.ntmps69
  go_wp2_with fail
  clear hmm
  generalize hW1 : (w.alloc (.cells #[.string B, .slice A es.length cap] 29)).alloc (.map #[] 0) = w1 at hb1 t1 hz1 hs1 ⊢
  clear hW1
  have HT1 := Lib.hid t1; have HB1 := Lib.hid hb1; have HS1 := Lib.hid hs1
  clear t1 hb1 hs1
  go_loopw [12] (fun i wr => ∃ k : Nat, k ≤ B.size ∧ i = .int .i64 k ∧ SetAt wr (w.heap.size + 1) ((B.data.toList.take k).map encL) ∧ w1.grownBy wr (some (w.heap.size + 1))) (fun i _ => B.size - (intOf i).toNat)
  case atStart => exact ⟨0, Nat.zero_le _, rfl, HS1.out, World.grownBy.refl _ _⟩
  case round =>
    clear HS1
    obtain ⟨k, hk, rfl, hset, hgr⟩ := hrel
    have tr := HT1.out.grown hgr (by omega) (by intro e; injection e with e; omega)
    have hd0 := tr.1; have hd1 := tr.2
    have HSET := Lib.hid hset; have HGR := Lib.hid hgr; have HTR := Lib.hid tr
    clear hset hgr tr
    by_cases hlt : k < B.size
    · have HKEY : Hid (B.extract k (k + 1) = ⟨#[B.data.toList.getD k 0]⟩) := Lib.hid (bytes_one (letter_at hlt))
      have HC : Hid (B.data.toList.getD k 0 ∉ B.data.toList.take k) := Lib.hid (by
        have hkl : k < B.data.toList.length := by rw [HLEN.out]; exact hlt
        have hg : B.data.toList.getD k 0 = B.data.toList[k] := by simp [List.getD, hlt]
        rw [hg]
        intro hmem
        have h := HND.out
        rw [← List.take_append_drop k B.data.toList, List.drop_eq_getElem_cons hkl] at h
        exact (List.nodup_append.1 h).2.2 _ hmem _ (by simp) rfl)
      have HTK : Hid (B.data.toList.take (k + 1) = B.data.toList.take k ++ [B.data.toList.getD k 0]) := Lib.hid (by
        have hkl : k < B.data.toList.length := by rw [HLEN.out]; exact hlt
        rw [List.take_succ_eq_append_getElem hkl]
        simp [List.getD, hlt])
      go_wp2_with (at_mapUpdate; go_must (refine wpList_update_set rfl (.tmp 15) (.tmp 21) 74 (.inl rfl) (keyL Try.underlying9) Try.underlying74 (w.heap.size + 1) _ rfl HSET.out _ (by show Value.string (B.extract k (k + 1)) = encL _; rw [HKEY.out]; rfl) HC.out ?_; intro w3 hset3 hgr3))
      have HSET3 : Hid (SetAt w3 (w.heap.size + 1) ((B.data.toList.take (k + 1)).map encL)) := Lib.hid (by rw [HTK.out]; exact hset3)
      have HGR3 := Lib.hid (HGR.out.trans hgr3)
      clear hset3 hgr3 hd0 hd1
      go_roundw
      case rel => exact ⟨k + 1, by omega, by go_num, HSET3.out, HGR3.out⟩
      case measure => simp [intOf]; omega
    have hkn : k = B.size := by omega
    subst hkn
    have hset2 : SetAt wr (w.heap.size + 1) (B.data.toList.map encL) := by
      have h := HSET.out
      rwa [List.take_of_length_le (by rw [HLEN.out]; exact Nat.le_refl _)] at h
    have hg2 := HGR.out
    clear HSET HGR hd0 hd1 HTR hlt hk
    obtain ⟨w2, rfl⟩ : ∃ w2, w2 = wr := ⟨_, rfl⟩
    have HSET2 := Lib.hid hset2; have HG2 := Lib.hid hg2
    clear hset2 hg2
    go_wp2_with fail
    go_loopw [5] (fun v wo => ∃ (b0 : Int) (xs : List UInt8), v = .int .i64 b0 ∧ SetAt wo (w.heap.size + 1) (xs.map encL) ∧ Big B.data.toList (ebs es) xs ∧ w1.grownBy wo (some (w.heap.size + 1)) ∧ PassEnd (ebs es) xs b0) (fun v _ => beforeM (intOf v))
    case atStart => exact ⟨-1, _, rfl, HSET2.out, Big.all HND.out, HG2.out, .inl rfl⟩
    case round =>
      clear HSET2 HG2
      obtain ⟨b0, xs, rfl, hset, hbig, hgr, hend⟩ := hrel
      have hx8 : xs.length ≤ 8 := by
        have h1 := nodup_len hbig.nodup hbig.sub
        rw [HLEN.out] at h1
        omega
      have HSET := Lib.hid hset; have HBIG := Lib.hid hbig; have HGR := Lib.hid hgr; have HEND := Lib.hid hend
      have hbw : Below w.heap.size w wr := HB1.out.grown hgr (by omega) (fun q e => by injection e with e; omega)
      obtain ⟨n0, hn0⟩ : ∃ n0, xs.length = n0 := ⟨_, rfl⟩
      have HN0 := Lib.hid hn0
      rw [hn0] at hx8
      clear hset hbig hgr hend hn0
      by_cases hb0 : b0 = (n0 : Int)
      · have HFIN : Hid (xs.length = 0 ↔ ¬ Cyc B.data.toList (ebs es)) := Lib.hid (by
          have hs : SelfEnt (ebs es) xs := by
            rcases HEND.out with h | ⟨_, _, h⟩
            · omega
            · exact h (by rw [HN0.out, hb0])
          rw [← HBIG.out.done hs]
          exact List.length_eq_zero_iff)
        have ht : ((b0 : Int) != (n0 : Int)) = false := by simp [hb0]
        clear hb0
        go_wp2_with (at_len; refine wpList_len_set rfl (.tmp 24) 74 rfl (kt := 9) (e := 4) Try.underlying74 (w.heap.size + 1) xs rfl HSET.out ?_; rw [HN0.out])
        go_ret
        exact ⟨_, xs, rfl, HSET.out, hbw, HFIN.out⟩
      · have ht : ((b0 : Int) != (n0 : Int)) = true := by simp [hb0]
        have hmeas : beforeM (n0 : Int) < beforeM b0 := by
          unfold beforeM
          rcases HEND.out with h | ⟨h1, h2, _⟩
          · rw [h, if_neg (by omega), if_pos (by decide)]
            omega
          · rw [HN0.out] at h1
            rw [if_neg (by omega), if_neg (by omega)]
            omega
        have HME := Lib.hid hmeas
        have tr := HT1.out.grown HGR.out (by omega) (by intro e; injection e with e; omega)
        have hd0 := tr.1; have hd1 := tr.2
        clear hb0 hmeas HEND tr
        go_wp2_with (at_len; first | (refine wpList_len_set rfl (.tmp 24) 74 rfl (kt := 9) (e := 4) Try.underlying74 (w.heap.size + 1) xs rfl HSET.out ?_; rw [HN0.out]) | (refine wpList_len_set rfl (.tmp 27) 74 rfl (kt := 9) (e := 4) Try.underlying74 (w.heap.size + 1) xs rfl HSET.out ?_; rw [HN0.out]))
        obtain ⟨wo, rfl⟩ : ∃ wo, wo = wr := ⟨_, rfl⟩
        clear hd0 hd1 ht
        go_loopw [32] (fun c wi => ∃ (k : Nat) (ys : List UInt8), k ≤ B.size ∧ c = .int .i64 k ∧ SetAt wi (w.heap.size + 1) (ys.map encL) ∧ Big B.data.toList (ebs es) ys ∧ w1.grownBy wi (some (w.heap.size + 1)) ∧ ys.length ≤ n0 ∧
          (ys.length = n0 → ∀ i, i < k → B.data.toList.getD i 0 ∈ ys → EntL (ebs es) ys (B.data.toList.getD i 0))) (fun c _ => B.size - (intOf c).toNat)
        case atStart => exact ⟨0, xs, Nat.zero_le _, rfl, HSET.out, HBIG.out, HGR.out, by rw [HN0.out]; exact Nat.le_refl _, fun _ i hi => absurd hi (by omega)⟩
        case round =>
          clear HSET HBIG HGR HN0 hbw
          obtain ⟨k, ys, hk, rfl, hset, hbig, hgr, hyn, hpass⟩ := hrel
          have HSET := Lib.hid hset; have HBIG := Lib.hid hbig; have HGR := Lib.hid hgr; have HPASS := Lib.hid hpass
          have tr := HT1.out.grown hgr (by omega) (by intro e; injection e with e; omega)
          have hbw : Below w.heap.size w wr := HB1.out.grown hgr (by omega) (fun q e => by injection e with e; omega)
          have hzr : w.heap.size + 2 ≤ wr.heap.size := by have := hgr.size; omega
          clear hset hbig hgr hpass
          by_cases hlt : k < B.size
          case neg =>
            have HEND : Hid (PassEnd (ebs es) ys (n0 : Int)) := Lib.hid (.inr ⟨by omega, by omega, fun he c hc => by
              obtain ⟨i, hi, hic⟩ := List.getElem_of_mem (HBIG.out.sub c hc)
              have hg : B.data.toList.getD i 0 = c := by rw [← hic, List.getD_eq_getElem?_getD, List.getElem?_eq_getElem hi]; rfl
              have := HPASS.out (by omega) i (by have := HLEN.out; omega) (by rw [hg]; exact hc)
              rwa [hg] at this⟩)
            clear tr
            go_wp2_with fail
            go_roundw
            case rel => exact ⟨n0, ys, rfl, HSET.out, HBIG.out, HGR.out, HEND.out⟩
            case measure => exact HME.out
          have hd0 := tr.1; have hd1 := tr.2
          have hkey := letter_at hlt
          obtain ⟨c, hc⟩ : ∃ c, B.data.toList.getD k 0 = c := ⟨_, rfl⟩
          rw [hc] at hkey
          have HC := Lib.hid hc; have HKEY := Lib.hid hkey
          have HA : Hid (EdgesIn wr wr.heap.size A es) := Lib.hid ((hE.below hbw).more hbw.size)
          clear hc hkey tr
          go_wp2_with fail
          refine (comesFrom_any B A cap es B.data.toList _ c (w.heap.size + 1) ys _ HA.out hl HLE.out HKEY.out HSET.out).mono ?_
          rintro e w3 ⟨rfl, hb3⟩
          have HSET3 := Lib.hid (HSET.out.below hb3 (by omega))
          have HGR3 := Lib.hid (grown_below HGR.out hb3)
          clear hd0 hd1 hb3
          by_cases hent : EntL (ebs es) ys c
          · rw [decB_t hent]
            have HP : Hid (ys.length = n0 → ∀ i, i < k + 1 → B.data.toList.getD i 0 ∈ ys → EntL (ebs es) ys (B.data.toList.getD i 0)) := Lib.hid fun he i hi hm => by
              by_cases hik : i < k
              · exact HPASS.out he i hik hm
              · have : i = k := by omega
                subst this
                rw [HC.out]; exact hent
            clear hent
            go_wp2_with fail
            go_roundw
            case rel => exact ⟨k + 1, ys, by omega, by go_num, HSET3.out, HBIG.out, HGR3.out, hyn, HP.out⟩
            case measure => simp [intOf]; omega
          · rw [decB_f hent]
            have HBIG4 := Lib.hid (HBIG.out.erase hent)
            have hlen4 : (ys.erase c).length ≤ n0 := Nat.le_trans (List.length_erase_le) hyn
            have HP : Hid ((ys.erase c).length = n0 → ∀ i, i < k + 1 → B.data.toList.getD i 0 ∈ ys.erase c → EntL (ebs es) (ys.erase c) (B.data.toList.getD i 0)) := Lib.hid fun he i hi hm => by
              by_cases hcy : c ∈ ys
              · have h1 := List.length_erase_of_mem hcy
                have h2 := List.length_pos_of_mem hcy
                omega
              · rw [List.erase_of_not_mem hcy] at he hm ⊢
                by_cases hik : i < k
                · exact HPASS.out he i hik hm
                · have : i = k := by omega
                  subst this
                  rw [HC.out] at hm
                  exact absurd hm hcy
            have HLEN4 := Lib.hid hlen4
            clear hent hlen4
            go_wp2_with (at_delete; go_must (refine wpList_delete_set rfl (.tmp 46) (.tmp 47) 74 9 rfl (kt := 9) (e := 4) Try.underlying9 Try.underlying74 (w.heap.size + 1) ys rfl HSET3.out c (by show Value.string (B.extract k (k + 1)) = encL c; rw [bytes_one HKEY.out]; rfl) ?_; intro w4 hset4 hgr4))
            have HSET4 := Lib.hid hset4
            have HGR4 := Lib.hid (HGR3.out.trans hgr4)
            clear hset4 hgr4
            go_roundw
            case rel => exact ⟨k + 1, ys.erase c, by omega, by go_num, HSET4.out, HBIG4.out, HGR4.out, HLEN4.out, HP.out⟩
            case measure => simp [intOf]; omega

end Go.Proofs.Ytghdjmjodgbghaa
