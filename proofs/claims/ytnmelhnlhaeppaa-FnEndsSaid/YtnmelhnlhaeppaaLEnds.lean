/- The law on drawn ends, walked (by what l1Some hands back). -/
import Derived.Test.YtnmelhnlhaeppaaDrawE
import Derived.Test.YtnmelhnlhaeppaaHas
import Derived.Test.YtnmelhnlhaeppaaEndsOf
import Derived.Test.YtnmelhnlhaeppaaNamesOf
import Derived.Test.YtnmelhnlhaeppaaValid
import Derived.BigQuiet
namespace Go.Proofs.Ytnmelhnlhaeppaa
open Go.RowKit

set_option maxRecDepth 100000 in
set_option maxHeartbeats 2000000 in
/-- laws.FnEnds -/
theorem lawEnds (HS : SomeCon) (A : Option Addr) (cap : Nat) (xs : List UInt8) (w : World) (hb : BytesIn w w.heap.size A xs) (hl : xs.length ≤ maxLen) (hcap : xs.length ≤ cap) :
    Calls Try.prog 4 #[.slice A xs.length cap] w fun e w' => e = .returned (.bool true) ∧ Below w.heap.size w w' := by
  by_cases hbs : (xs.length : Int) > 1048576
  · go_enter Try.func4, Try.ntmps4
    go_wp2_with fail
    go_ret
    exact ⟨rfl, Below.refl _ _⟩
  have hbs' : xs.length ≤ 1048576 := by omega
  have hbi : (xs.length : Int) ≤ 1048576 := by omega
  have HD := Lib.hid (drawEnds_any HS A cap xs w hb hbs' hcap)
  clear hbs hb hl hcap HS
  go_enter Try.func4, Try.ntmps4
  go_wp2_with fail
  refine HD.out.mono ?_
  rintro e w2 ⟨B, A', cap', es, s, rfl, hfn, hs2, hE2, hb2⟩
  have hba : Below w2.heap.size w2 (w2.alloc (.cells #[.string B, .slice A' es.length cap'] 25)) := (Below.refl _ _).alloc (Nat.le_refl _) _
  have tn := Two.made w2 B A' es.length cap' 25
  have hb3 := hb2.trans (hba.mono hb2.size)
  have hE3 := (hE2.below hba).more hba.size
  have hzv : w2.heap.size < (w2.alloc (.cells #[.string B, .slice A' es.length cap'] 25)).heap.size := by simp
  have HFN := Lib.hid hfn
  have HM : Hid (B.size ≤ maxLen) := Lib.hid (by have := hfn.1; unfold maxLen; omega)
  have HL : Hid (es.length ≤ 1099511627776) := Lib.hid (by have := hfn.2.1; omega)
  have HSZ : Hid (∀ e ∈ es, e.1.size ≤ 1099511627776 ∧ e.2.size ≤ 1099511627776) := Lib.hid fun e he => by have := hfn.2.2 e he; omega
  clear hba hb2 hE2 HD hfn
  go_wp2_with fail
  generalize hW3 : w2.alloc (.cells #[.string B, .slice A' es.length cap'] 25) = w3 at tn hb3 hE3 hzv ⊢
  clear hW3
  obtain ⟨V, hV⟩ : ∃ V, w2.heap.size = V := ⟨_, rfl⟩
  rw [hV] at tn hzv ⊢
  clear hV
  have t3 := tn
  obtain ⟨t1, hq⟩ : ∃ t1, endsV B es s = t1 := ⟨_, rfl⟩
  obtain ⟨nn, hn⟩ : ∃ nn, namesV B es = nn := ⟨_, rfl⟩
  obtain ⟨t1, ok⟩ := t1
  obtain ⟨nn, fine⟩ := nn
  have HPE : Hid (∀ (W W' : World) (e : Ending), EndsPost B es s W e W' → e = .returned (.tuple #[.string t1, .bool ok]) ∧ Below W.heap.size W W') := Lib.hid fun W W' e h => by
    unfold EndsPost at h; rw [hq] at h; exact h
  have HPN : Hid (∀ (W W' : World) (e : Ending), TextPost (namesV B es) W e W' → e = .returned (.tuple #[.string nn, .bool fine]) ∧ Below W.heap.size W W') := Lib.hid fun W W' e h => by
    unfold TextPost at h; rw [hn] at h; exact h
  have hfine : decB (Valid B.data.toList (ebs es)) = fine := by
    by_cases hv : Valid B.data.toList (ebs es)
    · have := textV_yes (l := names (fun _ => true) es.length) hv
      unfold namesV at hn
      rw [this] at hn
      injection hn with _ hn
      rw [← hn]; exact decB_iff.2 hv
    · have := textV_no (l := names (fun _ => true) es.length) hv
      unfold namesV at hn
      rw [this] at hn
      injection hn with _ hn
      rw [← hn]
      exact Bool.eq_false_iff.2 fun h => hv (decB_iff.1 h)
  have HQ := Lib.hid hq; have HN := Lib.hid hn; have HFINE := Lib.hid hfine
  have FV : Hid (∀ W : World, EdgesIn W W.heap.size A' es → Calls Try.prog 19 #[.agg #[.string B, .slice A' es.length cap']] W fun e w' => e = .returned (.bool fine) ∧ Below W.heap.size W w') := Lib.hid fun W h => by
    rw [← hfine]; exact (valid_any B A' cap' es W HM.out h (by have := HL.out; unfold maxLen; omega))
  clear tn hq hn hfine
  have hd0 := t3.1; have hd1 := t3.2
  refine (implEnds_any B A' cap' es s _ HM.out hE3 HL.out HSZ.out).mono ?_
  intro e w4 h4
  obtain ⟨rfl, hb⟩ := HPE.out _ _ _ h4
  have t4 := t3.below hb hzv
  have hE4 := (hE3.below hb).more hb.size
  have hb4 := hb3.trans (hb.mono hb3.size)
  have hzv := Nat.lt_of_lt_of_le hzv hb.size
  have hd0 := t4.1; have hd1 := t4.2
  clear h4 hb t3 hE3 hb3
  go_wp2_with fail
  refine (specEnds_any B A' cap' es s _ HM.out hE4 HL.out HSZ.out).mono ?_
  intro e w5 h5
  obtain ⟨rfl, hb⟩ := HPE.out _ _ _ h5
  have t5 := t4.below hb hzv
  have hE5 := (hE4.below hb).more hb.size
  have hb5 := hb4.trans (hb.mono hb4.size)
  have hzv := Nat.lt_of_lt_of_le hzv hb.size
  have hd0 := t5.1; have hd1 := t5.2
  clear h5 hb t4 hE4 hb4
  go_wp2_with fail
  refine (implNamesOf_any B A' cap' es _ HM.out hE5 HL.out HSZ.out).mono ?_
  intro e w6 h6
  obtain ⟨rfl, hb⟩ := HPN.out _ _ _ h6
  have t6 := t5.below hb hzv
  have hE6 := (hE5.below hb).more hb.size
  have hb6 := hb5.trans (hb.mono hb5.size)
  have hzv := Nat.lt_of_lt_of_le hzv hb.size
  have hd0 := t6.1; have hd1 := t6.2
  clear h6 hb t5 hE5 hb5
  go_wp2_with fail
  refine (specNamesOf_any B A' cap' es _ HM.out hE6 HL.out HSZ.out).mono ?_
  intro e w7 h7
  obtain ⟨rfl, hb⟩ := HPN.out _ _ _ h7
  have t7 := t6.below hb hzv
  have hE7 := (hE6.below hb).more hb.size
  have hb7 := hb6.trans (hb.mono hb6.size)
  have hzv := Nat.lt_of_lt_of_le hzv hb.size
  have hd0 := t7.1; have hd1 := t7.2
  clear h7 hb t6 hE6 hb6
  have q1 : (t1.toList != t1.toList) = false := by simp
  have q2 : (ok != ok) = false := by simp
  have q3 : (nn.toList != nn.toList) = false := by simp
  have q4 : (fine != fine) = false := by simp
  go_wp2_with fail
  refine (FV.out _ hE7).mono ?_
  rintro e w8 ⟨rfl, hb⟩
  have t8 := t7.below hb hzv
  have hb8 := hb7.trans (hb.mono hb7.size)
  have hd0 := t8.1; have hd1 := t8.2
  clear hb t7 hE7 hb7 hzv FV
  go_wp2_with fail
  have HB8 := Lib.hid hb8
  clear hb8
  cases fine with
  | false =>
    have hok : ok = false := by
      have hv : ¬ Valid B.data.toList (ebs es) := decB_not.1 HFINE.out
      have := endsV_no (B := B) (es := es) (b := s) (fun h => hv h.1)
      rw [HQ.out] at this
      injection this
    subst hok
    clear hd0 hd1 t8
    go_quiet (fail)
    go_wp2_with fail
    go_ret
    exact ⟨rfl, below_drewN HB8.out _⟩
  | true =>
  have HV : Hid (Valid B.data.toList (ebs es)) := Lib.hid (decB_iff.1 HFINE.out)
  have HNN : Hid (nn.data.toList = names (fun _ => true) es.length) := Lib.hid (by
    have := textV_yes (l := names (fun _ => true) es.length) HV.out
    have hn := HN.out
    unfold namesV at hn
    rw [this] at hn
    injection hn with hn _
    rw [← hn])
  have H16 := Lib.hid (valid_sizes HV.out).2
  have HNZ : Hid (nn.size ≤ 1000) := Lib.hid (by
    rw [str_size HNN.out]
    have := names_length (fun _ => true) es.length
    have := H16.out
    omega)
  by_cases hi : 0 ≤ eIdx es.length s.data.toList
  case neg =>
    have hok : ok = false := by
      have := endsV_no (B := B) (es := es) (b := s) (fun h => hi h.2)
      rw [HQ.out] at this
      injection this
    subst hok
    by_cases h1 : s.size = 1
    case neg =>
      have hs1 : ((s.size : Int) == 1) = false := by rw [beq_eq_false_iff_ne]; omega
      have hs1' : ¬ ((s.size : Int) = 1) := by omega
      clear hi hd0 hd1 t8
      go_quiet (fail)
      go_wp2_with fail
      go_ret
      exact ⟨rfl, below_drewN HB8.out _⟩
    obtain ⟨x, hx⟩ : ∃ x, s = ⟨#[x]⟩ := by
      have hl : s.data.toList.length = 1 := by simpa using h1
      match hd : s.data.toList, hl with
      | [x], _ => exact ⟨x, bytes_one hd⟩
    have hnm : decide (x ∈ nn.data.toList) = false := decide_eq_false fun h => by
      rw [HNN.out] at h
      unfold names at h
      obtain ⟨k, hk, he⟩ := List.mem_map.1 h
      have hk' : k < es.length := by simpa using (List.mem_filter.1 hk).1
      refine hi ?_
      rw [hx]
      have : eIdx es.length [nameOf k] = k := by
        have h97 := nameOf_toNat (k := k) (by have := H16.out; omega)
        simp only [eIdx]
        rw [if_pos (by omega)]
        omega
      show 0 ≤ eIdx es.length [x]
      rw [← he, this]; omega
    have HPC := Lib.hid fun W => pcHas_one nn x W HNZ.out false hnm
    clear hi hnm h1 hd0 hd1 t8
    subst hx
    go_quiet (first
      | (go_at_call 15; exact Calls.quiet_of_same ((HPC.out _).mono fun _ _ ⟨h, h'⟩ => ⟨h, h'.symm⟩))
      )
    go_wp2_with fail
    go_ret
    exact ⟨rfl, below_drewN HB8.out _⟩
  obtain ⟨k, hk, hek⟩ := eIdx_some hi
  obtain ⟨x, hx⟩ : ∃ x, s = ⟨#[x]⟩ := by
    unfold eIdx at hi
    split at hi
    · rename_i x hx; exact ⟨x, bytes_one hx⟩
    · omega
  have hxk : x = nameOf k := by
    rw [hx] at hek
    have h97 := nameOf_toNat (k := k) (by have := H16.out; omega)
    have h2 : eIdx es.length [x] = k := hek
    unfold eIdx at h2
    simp only at h2
    split at h2
    · exact UInt8.toNat_inj.1 (by omega)
    · omega
  have hin : decide (x ∈ nn.data.toList) = true := decide_eq_true (by
    rw [HNN.out, hxk]
    unfold names
    exact List.mem_map.2 ⟨k, List.mem_filter.2 ⟨by simpa using hk, rfl⟩, rfl⟩)
  have hen : (es[k].1.data.toList, es[k].2.data.toList) ∈ ebs es := List.mem_map.2 ⟨es[k], List.getElem_mem hk, rfl⟩
  obtain ⟨e1, e2, e3, e4⟩ := HV.out.1.2.2 _ hen
  obtain ⟨a, ha, ham, e5⟩ := bIdx_some e1
  obtain ⟨b, hbb, hbm, e6⟩ := bIdx_some e2
  have hyes := endsV_yes (b := s) HV.out hk hek
  rw [HQ.out] at hyes
  injection hyes with ht hok
  rw [bytes_one ha, bytes_one hbb] at ht
  have hsz : t1.size = 2 := by rw [ht]; rfl
  obtain ⟨ta, hta⟩ : ∃ ta : ByteArray, (⟨#[a]⟩ : ByteArray) = ta := ⟨_, rfl⟩
  obtain ⟨tb, htb⟩ : ∃ tb : ByteArray, (⟨#[b]⟩ : ByteArray) = tb := ⟨_, rfl⟩
  have hx1 : t1.extract 0 1 = ta := by rw [ht, ← hta]; rfl
  have hx2 : t1.extract 1 2 = tb := by rw [ht, ← htb]; rfl
  have HBZ : Hid (B.size ≤ 1000) := Lib.hid (by have := HFN.out.1; omega)
  have HPC := Lib.hid fun W => pcHas_one nn x W HNZ.out true hin
  have HPA : Hid (∀ W, Calls Try.prog 15 #[.string B, .string ta] W fun e w' => e = .returned (.bool true) ∧ W = w') := Lib.hid fun W => by
    rw [← hta]; exact pcHas_one B a W HBZ.out true (decide_eq_true ham)
  have HPB : Hid (∀ W, Calls Try.prog 15 #[.string B, .string tb] W fun e w' => e = .returned (.bool true) ∧ W = w') := Lib.hid fun W => by
    rw [← htb]; exact pcHas_one B b W HBZ.out true (decide_eq_true hbm)
  subst hok
  obtain ⟨st, hst⟩ : ∃ st : ByteArray, (⟨#[x]⟩ : ByteArray) = st := ⟨_, rfl⟩
  have hs1 : st.size = 1 := by rw [← hst]; rfl
  rw [hst] at HPC hx
  have HPG : Hid (∀ (S C : ByteArray) (W : World), ((S = nn ∧ C = st) ∨ (S = B ∧ (C = ta ∨ C = tb))) → Calls Try.prog 15 #[.string S, .string C] W fun e w' => e = .returned (.bool true) ∧ W = w') := Lib.hid fun S C W h => by
    rcases h with ⟨rfl, rfl⟩ | ⟨rfl, rfl | rfl⟩
    · exact HPC.out W
    · exact HPA.out W
    · exact HPB.out W
  clear hi hek hxk hin hen e3 e4 e5 e6 e1 e2 ham hbm ha hbb ht hta htb hk hst
  subst hx
  go_quiet ((go_at_call 15; refine Calls.quiet_of_same ((HPG.out _ _ _ ?_).mono fun _ _ ⟨h, h'⟩ => ⟨h, h'.symm⟩); first | exact .inl ⟨rfl, rfl⟩ | exact .inr ⟨rfl, .inl rfl⟩ | exact .inr ⟨rfl, .inr rfl⟩))
  go_wp2_with fail
  go_ret
  exact ⟨rfl, below_drewN HB8.out _⟩

end Go.Proofs.Ytnmelhnlhaeppaa
