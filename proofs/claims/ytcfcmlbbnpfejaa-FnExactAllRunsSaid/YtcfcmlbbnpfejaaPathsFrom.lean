/- All paths from a block: the program's function. -/
import Derived.Test.YtcfcmlbbnpfejaaPathsI
import Derived.Test.YtcfcmlbbnpfejaaPathsFromS
import Derived.Test.YtcfcmlbbnpfejaaAcyc
namespace Go.Proofs.Ytcfcmlbbnpfejaa
open Go.RowKit

set_option maxRecDepth 100000 in
set_option maxHeartbeats 2000000 in
/-- impl.PathsFrom -/
theorem implPathsFrom_any (B : ByteArray) (A : Option Addr) (cap : Nat) (es : List (ByteArray × ByteArray)) (b : ByteArray) (w : World) (hs : B.size ≤ maxLen) (hE : EdgesIn w w.heap.size A es) (hl : es.length ≤ 1099511627776) (hS : ∀ e ∈ es, e.1.size ≤ 1099511627776 ∧ e.2.size ≤ 1099511627776) :
    Calls Try.prog 52 #[.agg #[.string B, .slice A es.length cap], .string b] w (CutPost (pathsQ B es b) w) := by
  have HL := Lib.hid hl; have HM := Lib.hid hs; have HS := Lib.hid hS
  clear hl hs hS
  have hb1 : Below w.heap.size w (w.alloc (.cells #[.string B, .slice A es.length cap] 25)) := (Below.refl _ _).alloc (Nat.le_refl _) _
  have t1 := Two.made w B A es.length cap 25
  have hz1 : (w.alloc (.cells #[.string B, .slice A es.length cap] 25)).heap.size = w.heap.size + 1 := by simp
  have hd0 := t1.1; have hd1 := t1.2
  obtain ⟨v, hv⟩ : ∃ v, acycV B es = v := ⟨_, rfl⟩
  have FA : Hid (∀ W : World, EdgesIn W W.heap.size A es → Calls Try.prog 24 #[.agg #[.string B, .slice A es.length cap]] W fun e w' => e = .returned (.bool v) ∧ Below W.heap.size W w') := Lib.hid fun W h => by
    have := implIsAcyclic_any B A cap es W HM.out h HL.out HS.out
    rwa [hv] at this
  have FB : Hid (∀ W : World, Calls Try.prog 73 #[.agg #[.string B, .slice A es.length cap], .string b] W fun e w' => e = .returned (.int .i64 (bIdx B.data.toList b.data.toList)) ∧ Below W.heap.size W w') := Lib.hid fun W => blockIndex_any B b _ W
  cases v with
  | false =>
    have HQ : Hid (pathsQ B es b = ([], false)) := Lib.hid (if_neg (by rw [hv]; simp))
    clear hv
    go_enter Try.func52, Try.ntmps52
    go_wp2_with fail
    refine (FA.out _ ((hE.below hb1).more hb1.size)).mono ?_
    rintro e w2 ⟨rfl, hb2⟩
    have hb2' := hb1.trans (hb2.mono hb1.size)
    clear hb2 hd0 hd1 t1 hz1 hb1
    go_wp2_with fail
    go_ret2
    rw [HQ.out]
    exact ⟨none, 0, rfl, fun k hk => absurd hk (by simp), hb2', .inl ⟨rfl, rfl⟩⟩
  | true =>
  obtain ⟨hval, hcy⟩ := decB_iff.1 hv
  have hF := facts_of hval
  obtain ⟨htopo, hent⟩ := order_topo hF.into hcy hF.ent hF.small
  obtain ⟨bi, hbe⟩ : ∃ bi, bIdx B.data.toList b.data.toList = bi := ⟨_, rfl⟩
  rw [hbe] at FB
  by_cases hbi : bi < 0
  case pos =>
    have HQ : Hid (pathsQ B es b = ([], false)) := Lib.hid (if_neg (by rintro ⟨_, h⟩; omega))
    clear hv hval hcy hF htopo hent hbe
    go_enter Try.func52, Try.ntmps52
    go_wp2_with fail
    refine (FA.out _ ((hE.below hb1).more hb1.size)).mono ?_
    rintro e w2 ⟨rfl, hb2⟩
    have t2 := t1.below hb2 (by omega)
    have hb2' := hb1.trans (hb2.mono hb1.size)
    clear hb2 hd0 hd1 t1 hz1 hb1
    have hd0 := t2.1; have hd1 := t2.2
    go_wp2_with fail
    refine (FB.out _).mono ?_
    rintro e w3 ⟨rfl, hb3⟩
    have hb3' := hb2'.trans (hb3.mono hb2'.size)
    clear hb3 hd0 hd1 t2
    go_wp2_with fail
    go_ret2
    rw [HQ.out]
    exact ⟨none, 0, rfl, fun k hk => absurd hk (by simp), hb3', .inl ⟨rfl, rfl⟩⟩
  have hbi2 : 0 ≤ bIdx B.data.toList b.data.toList := by omega
  obtain ⟨c, hbc, hcm⟩ := block_letter hbi2
  have hbe2 : b = ⟨#[c]⟩ := bytes_one hbc
  subst hbe2
  have hco := order_all hF.into hcy hF.ent hF.small (hval.2.1 c hcm)
  obtain ⟨a0, r, hr⟩ := List.append_of_mem hco
  have ht2 : Topo (ebs es) (c :: r) := Topo.drop (a := a0) (by rw [← hr]; exact htopo)
  have hol := orderE_len hF.into hF.ent hF.small
  have hlr := congrArg List.length hr
  simp at hlr
  have hsm := hF.small
  obtain ⟨t, hte⟩ : ∃ t, exit_ B.data.toList = t := ⟨_, rfl⟩
  have hlast := hF.last
  rw [hte] at hlast
  have hr7 : r.length ≤ 7 := by omega
  have FP := Lib.hid (paths_run B A cap es B.data.toList t hF.few hF.lets HM.out hF.one hlast (r.length + 1) r c [])
  have HQ : Hid (pathsQ B es ⟨#[c]⟩ = if (pathsE (ebs es) t c).length ≤ 400 then (tx (pathsE (ebs es) t c), true) else ([], false)) := Lib.hid (by
    unfold pathsQ
    rw [if_pos ⟨hv, hbi2⟩, hte]; rfl)
  have HT2 := Lib.hid ht2
  clear hv hval hcy hF htopo hent hbi2 hbc hcm hco hr ht2 hol hlr hsm hte hlast hbe
  go_enter Try.func52, Try.ntmps52
  go_wp2_with fail
  refine (FA.out _ ((hE.below hb1).more hb1.size)).mono ?_
  rintro e w2 ⟨rfl, hb2⟩
  have t2 := t1.below hb2 (by omega)
  have hb2' := hb1.trans (hb2.mono hb1.size)
  have hz2 : w.heap.size + 1 ≤ w2.heap.size := by have := hb2.size; omega
  clear hb2 hd0 hd1 t1 hz1 hb1
  have hd0 := t2.1; have hd1 := t2.2
  go_wp2_with fail
  refine (FB.out _).mono ?_
  rintro e w3 ⟨rfl, hb3⟩
  have t3 := t2.below hb3 (by omega)
  have hb3' := hb2'.trans (hb3.mono hb2'.size)
  clear hb3 hd0 hd1 t2
  have hd0 := t3.1; have hd1 := t3.2
  go_wp2_with fail
  refine (pathsToExit_any B (.slice A es.length cap) ⟨#[c]⟩ ⟨#[]⟩ _).mono ?_
  rintro e w5 ⟨rfl, hw5⟩
  have hb5 : Below w3.heap.size w3 w5 := by rw [← hw5]; exact ((Below.refl _ _).alloc (Nat.le_refl _) _).alloc (by simp) _
  have hz5 : w5.heap.size = w3.heap.size + 2 := by rw [← hw5]; simp
  have hn5 : w5.heap[w3.heap.size]? = some (.cells #[.string B, .slice A es.length cap] 25 (0, 0)) := by
    rw [← hw5]; exact (Below.heap_alloc _ _ _ (by simp)).trans (World.alloc_heap_new w3 _)
  have hh5 : w5.heap[w3.heap.size + 1]? = some (.cells #[.string ⟨#[c]⟩, .string ⟨([] : List UInt8).toArray⟩] 84 (0, 0)) := by
    rw [← hw5]
    have := World.alloc_heap_new (w3.alloc (.cells #[.string B, .slice A es.length cap] 25)) (.cells #[.string ⟨#[c]⟩, .string ⟨([] : List UInt8).toArray⟩] 84)
    rwa [World.size_alloc] at this
  have hb5' := hb3'.trans (hb5.mono hb3'.size)
  have hE5 : EdgesIn w5 w5.heap.size A es := (hE.below hb5').more hb5'.size
  have hid : (pathsE (ebs es) t c).map (([] : List UInt8) ++ ·) = pathsE (ebs es) t c := by simp
  have hsq : ∀ (W : World) (k : Nat), Below w5.heap.size w5 W → W.heap.size ≤ k → SeqRunT Fence.wide 4 Try.prog 148 #[.pointer (some ⟨w3.heap.size + 1, 0, none⟩), .pointer (some ⟨w3.heap.size, 0, none⟩)] encsT (KeepN w5.heap.size k) (fun xs => xs = pathsE (ebs es) t c) (fun pre => ∃ rest, pathsE (ebs es) t c = pre ++ rest) (pathsE (ebs es) t c).length W k := fun W k hW hk => by
    have h := FP.out (w3.heap.size + 1) w3.heap.size w5.heap.size k W (by omega) hr7 (by simp; omega) HT2.out ((hW.block _ (by omega)).trans hn5) ((hW.block _ (by omega)).trans hh5) (hE5.below hW) hW.size hk
    rwa [hid] at h
  have HSQ := Lib.hid hsq; have HB5 := Lib.hid hb5'
  clear hsq hn5 hh5 hE5 hb5 hw5 hd0 hd1 t3 hid
  go_wp2_with fail
  refine (told_any _ _ (pathsE (ebs es) t c) _ (enters_of Try.func148 (by kernel_rfl) rfl) HSQ.out).mono ?_
  rw [← HQ.out]
  rintro e w6 ⟨A', c', rfl, h3, hb6, h5⟩
  have hb6' := HB5.out.trans (hb6.mono HB5.out.size)
  clear hb6
  go_wp2_with fail
  go_ret2
  exact ⟨A', c', rfl, h3, hb6', h5.mono HB5.out.size⟩

theorem pathsQ_len (B : ByteArray) (es : List (ByteArray × ByteArray)) (b : ByteArray) : (pathsQ B es b).1.length ≤ 400 := by
  unfold pathsQ
  split
  · split
    · rename_i h; simp only [tx_length]; exact h
    · simp
  · simp

end Go.Proofs.Ytcfcmlbbnpfejaa
