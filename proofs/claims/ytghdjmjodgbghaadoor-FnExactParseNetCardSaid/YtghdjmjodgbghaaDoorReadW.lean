/- The edges of a text, by the program: the walk. -/
import Derived.Test.YtghdjmjodgbghaaDoorReadE
import Derived.Test.YtghdjmjodgbghaaDoorParseW
namespace Go.Proofs.YtghdjmjodgbghaaDoor
open Go.RowKit

/-- what is handed back: the edges, or an error -/
def ReadPost (s : ByteArray) (w : World) (e : Ending) (w' : World) : Prop :=
  (¬ Good s ∧ (∃ x, e = .returned (.tuple #[.slice none 0 0, .iface 75 x])) ∧ Below w.heap.size w w') ∨
  (Good s ∧ ∃ A cap, e = .returned (.tuple #[.slice A (rds s (s.size / 3)).length cap, .nilIface]) ∧ EdgesIn w' w'.heap.size A (rds s (s.size / 3)) ∧ OwnEdges w' w.heap.size A (rds s (s.size / 3)).length ∧ Below w.heap.size w w')

set_option maxRecDepth 100000 in
set_option maxHeartbeats 4000000 in
/-- impl.readEdges -/
theorem readEdges_any (s : ByteArray) (w : World) (hs : s.size ≤ 1048576) (hE : Errs w) :
    Calls Tryd.prog 17 #[.string s] w (ReadPost s w) := by
  obtain ⟨x0, y0, hx0, hy0, hx2⟩ := hE
  have HX2 := Lib.hid hx2
  obtain ⟨i0, hi, hi0, hi1, hi2⟩ := info_parts edgeInfo
  have HI := Lib.hid hi; have HI0 := Lib.hid hi0; have HI1 := Lib.hid hi1; have HI2 := Lib.hid hi2
  clear hi hi0 hi1 hi2 hy0 hx2
  by_cases hbad : 48 < s.size
  · have HG : Hid (¬ Good s) := Lib.hid fun h => by have := h.1; omega
    have h1 : (s.size : Int) > 48 := by omega
    clear hbad
    go_enter Tryd.func17, Tryd.ntmps17
    go_wp2_with fail
    go_quiet (fail)
    go_wp2_with fail
    refine bodyPost_ret (v := .tuple #[.slice none 0 0, .iface 75 x0]) (by simp [results, Tryd.results17, go_sem]) rfl ?_
    exact .inl ⟨HG.out, ⟨x0, rfl⟩, below_drewN (Below.refl _ _) _⟩
  by_cases hm : s.size % 3 = 0
  case neg =>
    have HG : Hid (¬ Good s) := Lib.hid fun h => hm h.2.1
    have h1 : ¬ ((s.size : Int) > 48) := by omega
    go_enter Tryd.func17, Tryd.ntmps17
    go_wp2_with fail
    go_quiet (fail)
    go_wp2_with fail
    refine bodyPost_ret (v := .tuple #[.slice none 0 0, .iface 75 x0]) (by simp [results, Tryd.results17, go_sem]) rfl ?_
    exact .inl ⟨HG.out, ⟨x0, rfl⟩, below_drewN (Below.refl _ _) _⟩
  have h1 : ¬ ((s.size : Int) > 48) := by omega
  obtain ⟨n, hn⟩ : ∃ n, s.size = 3 * n := ⟨s.size / 3, by omega⟩
  have HN := Lib.hid hn
  clear hn
  go_enter Tryd.func17, Tryd.ntmps17
  go_wp2_with fail
  have HX0 := Lib.hid hx0
  clear h1 hm hx0
  go_loopw [4, 5] (fun v a wk => ∃ k : Nat, k ≤ n ∧ a = .int .i64 ((3 * k : Nat) : Int) ∧ (∀ i, i < k → s.data.toList[3 * i]? = some 32) ∧ Below w.heap.size w wk ∧
    wk.ownsRow w.heap.size 33 2 v k (cellsP (rds s k))) (fun _ a _ => s.size - (intOf a).toNat)
  case atStart =>
    exact ⟨0, Nat.zero_le _, rfl, fun i h => absurd h (by omega), Below.refl _ _, ⟨rfl, .inl ⟨rfl, rfl⟩⟩⟩
  case round =>
    obtain ⟨k, hk, rfl, hgood, hb, hown⟩ := hrel
    have HGOOD := Lib.hid hgood; have HB := Lib.hid hb; have HOWN := Lib.hid hown
    clear hgood hb hown
    obtain ⟨m, hm⟩ : ∃ m, m = 3 * k := ⟨_, rfl⟩
    rw [← hm]
    have HM := Lib.hid hm
    have hn := HN.out
    by_cases hlt : k < n
    · have hms : m < s.size := by omega
      have hmi : (m : Int) < (s.size : Int) := by omega
      by_cases hc : s[m] = 32
      · obtain ⟨m1, hm1⟩ : ∃ m1, m1 = m + 1 := ⟨_, rfl⟩
        obtain ⟨m2, hm2⟩ : ∃ m2, m2 = m + 2 := ⟨_, rfl⟩
        obtain ⟨m3, hm3⟩ : ∃ m3, m3 = m + 3 := ⟨_, rfl⟩
        have a1 : IntKind.i64.wrap ((m : Int) + 1) = (m1 : Int) := by rw [IntWalk.i64_in _ (by omega)]; omega
        have a2 : IntKind.i64.wrap ((m : Int) + 2) = (m2 : Int) := by rw [IntWalk.i64_in _ (by omega)]; omega
        have a3 : IntKind.i64.wrap ((m : Int) + 3) = (m3 : Int) := by rw [IntWalk.i64_in _ (by omega)]; omega
        have b1 : (0 : Int) ≤ (m1 : Int) := by omega
        have b2 : (m1 : Int) ≤ (m2 : Int) := by omega
        have b3 : (m2 : Int) ≤ (s.size : Int) := by omega
        have b4 : (0 : Int) ≤ (m2 : Int) := by omega
        have b5 : (m2 : Int) ≤ (m3 : Int) := by omega
        have b6 : (m3 : Int) ≤ (s.size : Int) := by omega
        have c1 : m1 ≤ m2 := by omega
        have c2 : m2 ≤ s.size := by omega
        have c3 : m2 ≤ m3 := by omega
        have c4 : m3 ≤ s.size := by omega
        have hq : ((s[m].toNat : Int) == 32) = true := by simp [hc]
        have HC : Hid (s.data.toList[3 * k]? = some 32) := Lib.hid (by
          rw [← HM.out, List.getElem?_eq_getElem (by simpa using hms)]
          exact congrArg some hc)
        have HRD : Hid (rd s k = (s.extract m1 m2, s.extract m2 m3)) := Lib.hid (by unfold rd; rw [hm1, hm2, hm3, hm])
        have HM3 : Hid (m3 = 3 * (k + 1)) := Lib.hid (by omega)
        have HLT := Lib.hid hlt; have HMS := Lib.hid hms
        clear hm hm1 hm2 hm3 hlt hc hn
        obtain ⟨p1, hp1⟩ : ∃ p1, s.extract m1 m2 = p1 := ⟨_, rfl⟩
        obtain ⟨p2, hp2⟩ : ∃ p2, s.extract m2 m3 = p2 := ⟨_, rfl⟩
        rw [hp1, hp2] at HRD
        have hrn : (wr.drew.alloc (.cells #[.string p1, .string p2] 33)).rowIs wr.heap.size 33 2 (fun i => if i = 0 then .string p1 else .string p2) :=
          World.rowIs_alloc wr.drew #[.string p1, .string p2] 33 _ (fun i hi => by
            match i, hi with
            | 0, _ => rfl
            | 1, _ => rfl)
        have hnew : ∀ i v, [Value.string p1, Value.string p2][i]? = some v → (wr.drew.alloc (.cells #[.string p1, .string p2] 33)).cell? ((⟨wr.heap.size, 0, none⟩ : Addr).add i) = some v := fun i v hv => by
          match i, hv with
          | 0, hv => simp at hv; subst hv; exact hrn.cell (i := 0) (by omega)
          | 1, hv => simp at hv; subst hv; exact hrn.cell (i := 1) (by omega)
          | i + 2, hv => simp at hv
        have hone : ∀ v ∈ [Value.string p1, Value.string p2], v.oneCell' = true := fun v hv => by
          simp at hv
          rcases hv with rfl | rfl <;> rfl
        have HNEW := Lib.hid hnew; have HONE := Lib.hid hone
        have HOWN2 := Lib.hid (HOWN.out.drew.alloc (.cells #[.string p1, .string p2] 33))
        have hbase : w.heap.size ≤ (wr.drew.alloc (.cells #[.string p1, .string p2] 33)).heap.size := by
          have h := HB.out.size
          rw [World.size_alloc]
          show _ ≤ wr.heap.size + 1
          omega
        have HBASE := Lib.hid hbase
        clear hrn hnew hone hbase
        go_wp2_with fail
        go_region_law (
          refine step_append_own' rfl (.tmp 27) (.tmp 41) 22 rfl w.heap.size 33 i0 (.agg #[.string ⟨#[]⟩, .string ⟨#[]⟩]) 2 32 Tryd.underlying22 HI.out HI0.out HI1.out HI2.out rfl (by decide) _ k (cellsP (rds s k)) rfl HOWN2.out ⟨wr.heap.size, 0, none⟩ 1 1 [.string p1, .string p2] rfl rfl HNEW.out HONE.out (by have := HN.out; unfold maxLen; omega) (by have := HN.out; omega) HBASE.out ?_
          go_must (
          intro v4 w4 hown4 hgr4
          have HOWN4 := Lib.hid hown4; have HGR4 := Lib.hid hgr4
          clear hown4 hgr4))
        all_goals
          have hgr := HGR4.out
          have hb4 : Below w.heap.size w w4 := (HB.out.drew.alloc (by have := HB.out.size; exact this) _).grown hgr HBASE.out (fun q e => Nat.le_of_not_lt fun hq => ownV_ne HOWN.out hq e.symm)
          have HB4 := Lib.hid hb4
          clear hgr hb4
          go_wp2_with fail
          go_roundw
          case rel =>
            refine ⟨k + 1, by have := HLT.out; omega, by rw [HM3.out], fun i hi => ?_, HB4.out, ?_⟩
            · by_cases hik : i < k
              · exact HGOOD.out i hik
              · have : i = k := by omega
                subst this; exact HC.out
            · rw [rds_succ, cellsP_snoc, HRD.out]
              exact HOWN4.out
          case measure => simp [intOf]; have := HMS.out; have := HM3.out; have := HM.out; omega
      · have HG : Hid (¬ Good s) := Lib.hid fun h => hc (by
          have h3 := h.2.2 k (by omega)
          rw [← hm, List.getElem?_eq_getElem (by simpa using hms)] at h3
          injection h3)
        have hq : ((s[m].toNat : Int) == 32) = false := by
          rw [beq_eq_false_iff_ne]; intro h; exact hc (UInt8.toNat_inj.1 (by have h2 : (32 : UInt8).toNat = 32 := rfl; omega))
        have hx : wr.cell? ⟨0, 0, none⟩ = some (.iface 75 x0) := (HB.out.cell (by have := HX2.out; simp only; omega)).trans HX0.out
        clear hc hm hlt hn
        go_wp2_with fail
        go_quiet (fail)
        go_wp2_with fail
        refine bodyPost_ret (v := .tuple #[.slice none 0 0, .iface 75 x0]) (by simp [results, Tryd.results17, go_sem]) rfl ?_
        exact .inl ⟨HG.out, ⟨x0, rfl⟩, below_drewN HB.out _⟩
    · have hkn : k = s.size / 3 := by omega
      have HG : Hid (Good s) := Lib.hid ⟨by omega, by omega, fun i hi => HGOOD.out i (by omega)⟩
      have hmi : ¬ ((m : Int) < (s.size : Int)) := by omega
      obtain ⟨A, cap, hv, hE, hO⟩ := own_edgesP (es := rds s k) (by rw [rds_length]; exact HOWN.out)
      rw [rds_length] at hv
      subst hv
      have HKN := Lib.hid hkn; have HE := Lib.hid hE; have HO := Lib.hid hO
      clear hm hlt hn hkn hE hO
      go_wp2_with fail
      refine bodyPost_ret (v := .tuple #[.slice A k cap, .nilIface]) (by simp [results, Tryd.results17, go_sem]) rfl ?_
      refine .inr ⟨HG.out, A, cap, ?_⟩
      rw [← HKN.out]
      exact ⟨by rw [rds_length], HE.out, HO.out, HB.out⟩

end Go.Proofs.YtghdjmjodgbghaaDoor
