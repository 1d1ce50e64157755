/- Ways in a tree, by the program. -/
import Derived.Test.YtadngnajenedpaaMvI
import Derived.Laws.EntriesVeiled
namespace Go.Proofs.Ytadngnajenedpaa
open Go.RowKit

/-- a way as a text -/
def txtM (p : List Mv) : List UInt8 := p.flatMap fun m => [m.sg, m.nm]
theorem txtM_len (p : List Mv) : (txtM p).length = 2 * p.length := by
  induction p with
  | nil => rfl
  | cons m p ih => show ([m.sg, m.nm] ++ txtM p).length = _; rw [List.length_append, ih]; simp; omega
/-- the search: the first move that leads on -/
def findF (M : List Mv) (t : UInt8) : Nat → UInt8 → Option UInt8 → Option (List Mv)
  | 0, _, _ => none
  | k + 1, b, last => if b = t then some [] else M.findSome? fun m => if m.fr = b ∧ some m.tb ≠ last then (findF M t k m.tb (some b)).map (m :: ·) else none
theorem findF_len {M : List Mv} {t : UInt8} : ∀ (k : Nat) (b : UInt8) (last : Option UInt8) (p : List Mv), findF M t k b last = some p → p.length < k
  | 0, b, last, p, h => by cases h
  | k + 1, b, last, p, h => by
    unfold findF at h
    split at h
    · injection h with h; subst h; simp
    · obtain ⟨m, _, hm⟩ := List.exists_of_findSome?_eq_some h
      split at hm
      · obtain ⟨q, hq, rfl⟩ := Option.map_eq_some_iff.1 hm
        have := findF_len k m.tb (some b) q hq
        simp; omega
      · cases hm
/-- a way's first move does not lead back -/
def okL (last : Option UInt8) : List Mv → Prop
  | [] => True
  | m :: _ => some m.tb ≠ last
theorem findF_sound {M : List Mv} {U : List Ed} {t : UInt8} (hM : ∀ m ∈ M, m ∈ mvs U) : ∀ (k : Nat) (b : UInt8) (last : Option UInt8) (p : List Mv), findF M t k b last = some p → Wk U b p t ∧ NB p ∧ okL last p
  | 0, b, last, p, h => by cases h
  | k + 1, b, last, p, h => by
    unfold findF at h
    split at h
    · rename_i e; injection h with h; subst h; exact ⟨e, True.intro, True.intro⟩
    · obtain ⟨m, hmM, hm⟩ := List.exists_of_findSome?_eq_some h
      split at hm
      · rename_i hc
        obtain ⟨q, hq, rfl⟩ := Option.map_eq_some_iff.1 hm
        obtain ⟨h1, h2, h3⟩ := findF_sound hM k m.tb (some b) q hq
        refine ⟨⟨hM m hmM, hc.1, h1⟩, ?_, hc.2⟩
        cases q with
        | nil => exact True.intro
        | cons n q => exact ⟨fun e => h3 (by rw [e, hc.1]), h2⟩
      · cases hm
theorem findF_all {M : List Mv} {U : List Ed} {t : UInt8} (hM : ∀ m ∈ mvs U, m ∈ M) : ∀ (k : Nat) (b : UInt8) (last : Option UInt8) (p : List Mv), Wk U b p t → NB p → okL last p → p.length < k → findF M t k b last ≠ none
  | 0, b, last, p, _, _, _, h => by omega
  | k + 1, b, last, p, hw, hn, ho, hl => by
    unfold findF
    split
    · simp
    · rename_i hb
      cases p with
      | nil => exact absurd hw hb
      | cons m p =>
        have hp : findF M t k m.tb (some b) ≠ none := by
          refine findF_all hM k m.tb (some b) p hw.2.2 hn.tail ?_ (by simp at hl; omega)
          cases p with
          | nil => exact True.intro
          | cons n p => exact fun e => hn.1 (by injection e with e; rw [e, hw.2.1])
        intro hnone
        rw [List.findSome?_eq_none_iff] at hnone
        have := hnone m (hM m hw.1)
        rw [if_pos ⟨hw.2.1, ho⟩] at this
        simp at this
        exact hp this
/-- all ways on are shorter -/
def DeepW (U : List Ed) (k : Nat) (b : UInt8) (last : Option UInt8) : Prop := ∀ (q : List Mv) (x : UInt8), Wk U b q x → NB q → okL last q → q.length < k
theorem DeepW.step {U : List Ed} {k : Nat} {b : UInt8} {last : Option UInt8} (h : DeepW U (k + 1) b last) {m : Mv} (hm : m ∈ mvs U) (hf : m.fr = b) (hl : some m.tb ≠ last) : DeepW U k m.tb (some b) := by
  intro q x hw hn ho
  have := h (m :: q) x ⟨hm, hf, hw⟩ (by
    cases q with
    | nil => exact True.intro
    | cons n q => exact ⟨fun e => ho (by rw [e, hf]), hn⟩) hl
  simp at this
  omega

/-- what the search hands back -/
def fv (o : Option (List Mv)) : ByteArray × Bool := match o with
  | none => (⟨#[]⟩, false)
  | some p => (⟨(txtM p).toArray⟩, true)
/-- the block ahead, as a text -/
def lastT (last : Option UInt8) : ByteArray := match last with
  | none => ⟨#[]⟩
  | some c => ⟨#[c]⟩
theorem one_eq (x y : UInt8) : ((⟨#[x]⟩ : ByteArray).toList == (⟨#[y]⟩ : ByteArray).toList) = (x == y) := by
  rw [Lib.toList_data, Lib.toList_data]
  show ([x] == [y]) = _
  simp
theorem last_eq (x : UInt8) (last : Option UInt8) : ((⟨#[x]⟩ : ByteArray).toList == (lastT last).toList) = (some x == last) := by
  cases last with
  | none => rw [Lib.toList_data, Lib.toList_data]; rfl
  | some c => rw [show lastT (some c) = ⟨#[c]⟩ from rfl, one_eq]; simp

/-- the captured variables of the search -/
structure HomeF (W : World) (N : Nat) (A : Option Addr) (c : Nat) (ms : List Mv) (t : UInt8) : Prop where
  mv : W.cell? ⟨N, 0, none⟩ = some (.slice A ms.length c)
  tt : W.cell? ⟨N + 1, 0, none⟩ = some (.string ⟨#[t]⟩)
  fn : W.cell? ⟨N + 2, 0, none⟩ = some (.func (.func 93) #[] #[.pointer (some ⟨N + 1, 0, none⟩), .pointer (some ⟨N, 0, none⟩), .pointer (some ⟨N + 2, 0, none⟩)])
  ms : MovesIn W W.heap.size A ms
  lt : N + 2 < W.heap.size
theorem HomeF.below {W W' : World} {N : Nat} {A : Option Addr} {c : Nat} {ms : List Mv} {t : UInt8} (h : HomeF W N A c ms t) (k : Below W.heap.size W W') : HomeF W' N A c ms t := by
  have hl := h.lt
  exact ⟨(k.cell (by simp only; omega)).trans h.mv, (k.cell (by simp only; omega)).trans h.tt, (k.cell (by simp only; omega)).trans h.fn, (h.ms.below k).more k.size, Nat.lt_of_lt_of_le hl k.size⟩

set_option maxRecDepth 100000 in
set_option maxHeartbeats 800000 in
/-- impl.wayAlong$1 -/
theorem find_fn (N : Nat) (A : Option Addr) (c : Nat) (ms : List Mv) (U : List Ed) (t : UInt8) (hM : ∀ m ∈ ms, m ∈ mvs U) (hms : ms.length ≤ 100) : ∀ (k : Nat) (b : UInt8) (last : Option UInt8) (W : World), k ≤ 9 → DeepW U k b last → HomeF W N A c ms t →
    Calls Try.prog 93 #[.string ⟨#[b]⟩, .string (lastT last), .pointer (some ⟨N + 1, 0, none⟩), .pointer (some ⟨N, 0, none⟩), .pointer (some ⟨N + 2, 0, none⟩)] W fun e W' => e = .returned (.tuple #[.string (fv (findF ms t k b last)).1, .bool (fv (findF ms t k b last)).2]) ∧ Below W.heap.size W W' := by
  intro k
  induction k with
  | zero =>
    intro b last W _ hd _
    have := hd [] b rfl True.intro True.intro
    simp at this
  | succ k ih =>
    intro b last W hk9 hd hH
    have IH := Lib.hid ih
    have HD := Lib.hid hd; have HH := Lib.hid hH; have HMM := Lib.hid hM
    clear ih hd hM
    have c0 := hH.mv; have c1 := hH.tt; have c2 := hH.fn
    obtain ⟨bb, hbb⟩ : ∃ bb : ByteArray, (⟨#[b]⟩ : ByteArray) = bb := ⟨_, rfl⟩
    obtain ⟨tt, htt⟩ : ∃ tt : ByteArray, (⟨#[t]⟩ : ByteArray) = tt := ⟨_, rfl⟩
    obtain ⟨lb, hlb⟩ : ∃ lb : ByteArray, lastT last = lb := ⟨_, rfl⟩
    have HBB := Lib.hid hbb; have HTT := Lib.hid htt; have HLB := Lib.hid hlb
    rw [htt] at c1
    rw [hbb, hlb]
    have hbt := one_eq b t
    rw [hbb, htt] at hbt
    clear hH
    by_cases hb : b = t
    · have HF : Hid (findF ms t (k + 1) b last = some []) := Lib.hid (by unfold findF; rw [if_pos hb])
      have q : (bb.toList == tt.toList) = true := by rw [hbt, hb]; simp
      clear hb hbt hbb htt hlb
      go_enter Try.func93, Try.ntmps93
      go_wp2_with fail
      go_ret2
      exact ⟨by rw [HF.out]; rfl, Below.refl _ _⟩
    have q : (bb.toList == tt.toList) = false := by rw [hbt, beq_eq_false_iff_ne]; exact hb
    obtain ⟨g, hg⟩ : ∃ g : Mv → Option (List Mv), (fun m => if m.fr = b ∧ some m.tb ≠ last then (findF ms t k m.tb (some b)).map (m :: ·) else none) = g := ⟨_, rfl⟩
    have HF : Hid (findF ms t (k + 1) b last = ms.findSome? g) := Lib.hid (by unfold findF; rw [if_neg hb, hg])
    have HG : Hid (∀ m, g m = if m.fr = b ∧ some m.tb ≠ last then (findF ms t k m.tb (some b)).map (m :: ·) else none) := Lib.hid fun m => by rw [← hg]
    clear hb hbt hbb htt hlb hg
    go_enter Try.func93, Try.ntmps93
    go_wp2_with fail
    clear c0 c1 c2
    go_loopw [18] (fun cc wr => ∃ j : Nat, j ≤ ms.length ∧ cc = .int .i64 j ∧ Below W.heap.size W wr ∧ Hid (∀ m ∈ ms.take j, g m = none)) (fun cc _ => ms.length - (intOf cc).toNat)
    case atStart => exact ⟨0, Nat.zero_le _, rfl, Below.refl _ _, Lib.hid (by simp)⟩
    case round =>
      obtain ⟨j, hj, rfl, hbw, HT⟩ := hrel
      by_cases hlt : j < ms.length
      case neg =>
        have HN : Hid (findF ms t (k + 1) b last = none) := Lib.hid (by
          rw [HF.out, List.findSome?_eq_none_iff]
          intro m hm
          refine HT.out m ?_
          rwa [List.take_of_length_le (by omega)])
        go_wp2_with fail
        go_ret2
        exact ⟨by rw [HN.out]; rfl, hbw⟩
      have hHr := HH.out.below hbw
      obtain ⟨pb, po, rfl, hlow, g1, g2, g3⟩ := hHr.ms j hlt
      obtain ⟨m, hm⟩ : ∃ m, ms[j] = m := ⟨_, rfl⟩
      have HMEM : Hid (m ∈ ms) := Lib.hid (by rw [← hm]; exact List.getElem_mem hlt)
      have HTK : Hid (ms.take (j + 1) = ms.take j ++ [m]) := Lib.hid (by rw [List.take_add_one, List.getElem?_eq_getElem hlt, hm]; rfl)
      have HAT : Hid (ms[j]? = some m) := Lib.hid (by rw [List.getElem?_eq_getElem hlt, hm])
      rw [hm] at g1 g2 g3
      obtain ⟨tx, htx⟩ : ∃ tx : ByteArray, (⟨#[m.sg, m.nm]⟩ : ByteArray) = tx := ⟨_, rfl⟩
      obtain ⟨fb, hfb⟩ : ∃ fb : ByteArray, (⟨#[m.fr]⟩ : ByteArray) = fb := ⟨_, rfl⟩
      obtain ⟨tb, htb⟩ : ∃ tb : ByteArray, (⟨#[m.tb]⟩ : ByteArray) = tb := ⟨_, rfl⟩
      rw [htx] at g1
      rw [hfb] at g2
      rw [htb] at g3
      have e1 : (fb.toList == bb.toList) = (m.fr == b) := by rw [← hfb, ← HBB.out]; exact one_eq _ _
      have e2 : (tb.toList == lb.toList) = (some m.tb == last) := by rw [← htb, ← HLB.out]; exact last_eq _ _
      have j1 : (0 : Int) ≤ (j : Int) := by omega
      have j2 : (j : Int) < (ms.length : Int) := by omega
      have hba : Below wr.heap.size wr (wr.alloc (.cells #[.string tx, .string fb, .string tb] 116)) := (Below.refl _ _).alloc (Nat.le_refl _) _
      have hn0 : (wr.alloc (.cells #[.string tx, .string fb, .string tb] 116)).cell? ⟨wr.heap.size, 0, none⟩ = some (.string tx) := by go_simp
      have hn1 : (wr.alloc (.cells #[.string tx, .string fb, .string tb] 116)).cell? ⟨wr.heap.size, 1, none⟩ = some (.string fb) := by go_simp
      have hn2 : (wr.alloc (.cells #[.string tx, .string fb, .string tb] 116)).cell? ⟨wr.heap.size, 2, none⟩ = some (.string tb) := by go_simp
      have hba' := hbw.trans (hba.mono hbw.size)
      have HTX := Lib.hid htx; have HTB := Lib.hid htb; have HFB := Lib.hid hfb
      have HHr := Lib.hid hHr
      clear hm htx hfb htb hHr
      by_cases c1 : m.fr = b
      case neg =>
        have q1 : (fb.toList == bb.toList) = false := by rw [e1, beq_eq_false_iff_ne]; exact c1
        have HNO : Hid (g m = none) := Lib.hid (by rw [HG.out, if_neg (fun h => c1 h.1)])
        clear c1 e1 e2
        go_wp2_with fail
        go_roundw
        case rel => exact ⟨j + 1, by omega, by go_num, hba', Lib.hid fun x hx => by
          rw [HTK.out] at hx
          rcases List.mem_append.1 hx with h | h
          · exact HT.out x h
          · simp at h; subst h; exact HNO.out⟩
        case measure => simp [intOf]; omega
      have hfbb : bb = fb := by rw [← HBB.out, ← HFB.out, c1]
      clear e1
      subst hfbb
      by_cases c2 : some m.tb = last
      · have htl : lb = tb := by rw [← HLB.out, ← HTB.out, ← c2]; rfl
        have HNO : Hid (g m = none) := Lib.hid (by rw [HG.out, if_neg (fun h => h.2 c2)])
        clear c1 c2 e2
        subst htl
        go_wp2_with fail
        go_roundw
        case rel => exact ⟨j + 1, by omega, by go_num, hba', Lib.hid fun x hx => by
          rw [HTK.out] at hx
          rcases List.mem_append.1 hx with h | h
          · exact HT.out x h
          · simp at h; subst h; exact HNO.out⟩
        case measure => simp [intOf]; omega
      have q2 : (tb.toList == lb.toList) = false := by rw [e2, beq_eq_false_iff_ne]; exact c2
      have HYES : Hid (g m = (findF ms t k m.tb (some b)).map (m :: ·)) := Lib.hid (by rw [HG.out, if_pos ⟨c1, c2⟩])
      have HDK := Lib.hid (HD.out.step (HMM.out m HMEM.out) c1 c2)
      obtain ⟨r, hr⟩ : ∃ r, findF ms t k m.tb (some b) = r := ⟨_, rfl⟩
      have hrl : ∀ p, r = some p → p.length < 9 := fun p hp => by
        have := findF_len k m.tb (some b) p (by rw [hr, hp])
        omega
      have HCALL : Hid (∀ W', Below wr.heap.size wr W' → Calls Try.prog 93 #[.string tb, .string bb, .pointer (some ⟨N + 1, 0, none⟩), .pointer (some ⟨N, 0, none⟩), .pointer (some ⟨N + 2, 0, none⟩)] W' fun e W'' => e = .returned (.tuple #[.string (fv r).1, .bool (fv r).2]) ∧ Below W'.heap.size W' W'') := Lib.hid fun W' h => by
        have := IH.out m.tb (some b) W' (by omega) HDK.out (HHr.out.below h)
        rw [hr, show lastT (some b) = bb from HBB.out, HTB.out] at this
        exact this
      rw [hr] at HYES
      have h2 := HHr.out.fn
      have h2l := HHr.out.lt
      have HRL := Lib.hid hrl
      clear c1 c2 e2 hr hrl
      go_wp2_with fail
      refine (HCALL.out _ hba).mono ?_
      rintro e w5 ⟨rfl, hb5⟩
      have hb5' := hba'.trans (hb5.mono hba'.size)
      have k0 := (hb5.cell (p := ⟨wr.heap.size, 0, none⟩) (by simp)).trans hn0
      clear hn0 hn1 hn2 hb5 h2 h2l hba
      cases r with
      | none =>
        have HNO : Hid (g m = none) := Lib.hid (by rw [HYES.out]; rfl)
        have q3 : (fv none).2 = false := rfl
        rw [q3]
        clear q3
        go_wp2_with fail
        go_roundw
        case rel => exact ⟨j + 1, by omega, by go_num, hb5', Lib.hid fun x hx => by
          rw [HTK.out] at hx
          rcases List.mem_append.1 hx with h | h
          · exact HT.out x h
          · simp at h; subst h; exact HNO.out⟩
        case measure => simp [intOf]; omega
      | some p =>
        have hpl := HRL.out p rfl
        have HFO : Hid (findF ms t (k + 1) b last = some (m :: p)) := Lib.hid (by
          rw [HF.out, ← List.take_append_drop j ms, List.findSome?_append, List.findSome?_eq_none_iff.2 HT.out, List.drop_eq_getElem_cons hlt]
          have : ms[j] = m := by have := HAT.out; rw [List.getElem?_eq_getElem hlt] at this; injection this
          rw [this, Option.none_or, List.findSome?_cons, HYES.out]
          rfl)
        obtain ⟨rt, hrt⟩ : ∃ rt : ByteArray, (⟨(txtM p).toArray⟩ : ByteArray) = rt := ⟨_, rfl⟩
        have q3 : (fv (some p)).2 = true := rfl
        have q4 : (fv (some p)).1 = rt := hrt
        have hrs : rt.size ≤ 16 := by rw [← hrt]; show (txtM p).toArray.size ≤ 16; simp [txtM_len]; omega
        have hts : tx.size = 2 := by rw [← HTX.out]; rfl
        have hsz : ¬ 9223372036854775807 < tx.size + rt.size := by omega
        have HVAL : Hid (tx ++ rt = (fv (some (m :: p))).1) := Lib.hid (by
          show tx ++ rt = ⟨(txtM (m :: p)).toArray⟩
          refine str_ext ?_
          rw [Go.Joins.data_append, ← HTX.out, ← hrt]
          rfl)
        rw [q3, q4]
        clear q3 q4 hrt hrs hts hpl
        go_wp2_with fail
        go_ret2
        exact ⟨by rw [HFO.out, ← HVAL.out]; rfl, hb5'⟩

end Go.Proofs.Ytadngnajenedpaa
