/- Whether a text is a run: by the program and by the model. -/
import Derived.Test.YtghdjmjodgbghaaBlocks
import Derived.Test.YtghdjmjodgbghaaEntry
import Derived.Test.YtghdjmjodgbghaaRegion
import Derived.Test.YtghdjmjodgbghaaSpec2
namespace Go.Proofs.Ytghdjmjodgbghaa
open Go.RowKit

set_option maxRecDepth 100000 in
/-- strings.HasPrefix, of a text that is not too long -/
theorem hasPrefix_any (s t : ByteArray) (w : World) (h : t.size ≤ s.size) (_ : s.size ≤ maxLen) :
    Calls Try.prog 79 #[.string s, .string t] w fun e w' => e = .returned (.bool ((s.extract 0 t.size).toList == t.toList)) ∧ w = w' := by
  have hin : Calls Try.prog 97 #[.string s, .string t] w fun e w' => e = .returned (.bool ((s.extract 0 t.size).toList == t.toList)) ∧ w = w' := by
    have h1 : (s.size : Int) ≥ (t.size : Int) := by omega
    have h2 : decide ((s.size : Int) ≥ (t.size : Int)) = true := by simpa using h1
    have h3 : decide (t.size ≤ s.size) = true := by simpa using h
    have h4 : (t.size : Int) ≤ (s.size : Int) := by omega
    go_enter Try.func97, Try.ntmps97
    go_wp2_with fail
    go_ret
    exact ⟨rfl, rfl⟩
  go_enter Try.func79, Try.ntmps79
  go_wp2_with fail
  refine hin.mono ?_
  rintro e w' ⟨rfl, rfl⟩
  go_wp2_with fail
  go_ret
  exact ⟨rfl, rfl⟩

set_option maxRecDepth 100000 in
/-- strings.HasSuffix, of a text that is not too long -/
theorem hasSuffix_any (s t : ByteArray) (w : World) (h : t.size ≤ s.size) (hm : s.size ≤ maxLen) :
    Calls Try.prog 80 #[.string s, .string t] w fun e w' => e = .returned (.bool ((s.extract (s.size - t.size) s.size).toList == t.toList)) ∧ w = w' := by
  unfold maxLen at hm
  have hin : Calls Try.prog 98 #[.string s, .string t] w fun e w' => e = .returned (.bool ((s.extract (s.size - t.size) s.size).toList == t.toList)) ∧ w = w' := by
    have h1 : (s.size : Int) ≥ (t.size : Int) := by omega
    have h2 : decide ((s.size : Int) ≥ (t.size : Int)) = true := by simpa using h1
    have h3 : decide (t.size ≤ s.size) = true := by simpa using h
    have h4 : (t.size : Int) ≤ (s.size : Int) := by omega
    obtain ⟨d, hd⟩ : ∃ d : Nat, s.size - t.size = d := ⟨_, rfl⟩
    have h5 : (s.size : Int) - (t.size : Int) = (d : Int) := by omega
    have h6 : (d : Int) ≤ (s.size : Int) := by omega
    have h7 : d ≤ s.size := by omega
    rw [hd]
    clear hd
    go_enter Try.func98, Try.ntmps98
    go_wp2_with fail
    go_ret
    exact ⟨rfl, rfl⟩
  go_enter Try.func80, Try.ntmps80
  go_wp2_with fail
  refine hin.mono ?_
  rintro e w' ⟨rfl, rfl⟩
  go_wp2_with fail
  go_ret
  exact ⟨rfl, rfl⟩

/-- whether a text is a run of a net -/
noncomputable def runV (B : ByteArray) (es : List (ByteArray × ByteArray)) (p : ByteArray) : Bool :=
  decB (pathV B es p = true ∧ 0 < p.size ∧ (edgeB es (p.extract 0 1)).1.toList = (B.extract 0 1).toList ∧ (edgeB es (p.extract (p.size - 1) p.size)).2.toList = (B.extract (B.size - 1) B.size).toList)

theorem runV_of {B : ByteArray} {es : List (ByteArray × ByteArray)} {p : ByteArray} (h : pathV B es p = true) (h0 : 0 < p.size) :
    runV B es p = (((edgeB es (p.extract 0 1)).1.toList == (B.extract 0 1).toList) && ((edgeB es (p.extract (p.size - 1) p.size)).2.toList == (B.extract (B.size - 1) B.size).toList)) := by
  by_cases c1 : (edgeB es (p.extract 0 1)).1.toList = (B.extract 0 1).toList
  · by_cases c2 : (edgeB es (p.extract (p.size - 1) p.size)).2.toList = (B.extract (B.size - 1) B.size).toList
    · unfold runV; rw [decB_t ⟨h, h0, c1, c2⟩]; simp [c1, c2]
    · unfold runV; rw [decB_f fun q => c2 q.2.2.2]; simp [c2]
  · unfold runV; rw [decB_f fun q => c1 q.2.2.1]; simp [c1]

/-- edges of a net lead from one letter to one -/
theorem edge_sizes {B : ByteArray} {es : List (ByteArray × ByteArray)} (h : Valid B.data.toList (ebs es)) : ∀ e ∈ es, e.1.size = 1 ∧ e.2.size = 1 := by
  intro e he
  obtain ⟨x, y, hx, hy, _, _⟩ := lets_of h.1.2 e he
  have h1 : e.1.data.toList.length = e.1.size := by simp
  have h2 : e.2.data.toList.length = e.2.size := by simp
  rw [hx] at h1; rw [hy] at h2
  simp at h1 h2
  exact ⟨h1.symm, h2.symm⟩
theorem edgeOf_one {B : ByteArray} {es : List (ByteArray × ByteArray)} (h : Valid B.data.toList (ebs es)) {c : UInt8} (hc : 0 ≤ eIdx es.length [c]) : ∃ x y, (edgeOf es c).1.data.toList = [x] ∧ (edgeOf es c).2.data.toList = [y] := by
  obtain ⟨k, hk, he⟩ := eIdx_some hc
  rw [edgeOf_at hk he]
  obtain ⟨x, y, hx, hy, _, _⟩ := lets_of h.1.2 es[k] (List.getElem_mem hk)
  exact ⟨x, y, hx, hy⟩

/-- the blocks of a path begin where its first edge leaves, and end where its last one comes -/
theorem trail_ends {B : ByteArray} {es : List (ByteArray × ByteArray)} {p t : ByteArray} (h : Valid B.data.toList (ebs es)) (hp : PathOk es p.data.toList) (h0 : 0 < p.size) (ht : t.data.toList = trail es p.data.toList p.size) :
    2 ≤ t.size ∧ t.extract 0 1 = (edgeB es (p.extract 0 1)).1 ∧ t.extract (t.size - 1) t.size = (edgeB es (p.extract (p.size - 1) p.size)).2 := by
  obtain ⟨n, hn⟩ : ∃ n, p.size = n + 1 := ⟨p.size - 1, by omega⟩
  have hlen : p.data.toList.length = p.size := by simp
  have g0 := (hp.2 0 (by omega)).1
  have gn := (hp.2 n (by omega)).1
  obtain ⟨x, _, hx, _⟩ := edgeOf_one h g0
  obtain ⟨_, y, _, hy⟩ := edgeOf_one h gn
  have e0 : edgeB es (p.extract 0 1) = edgeOf es (p.data.toList.getD 0 0) := by
    have := edgeB_at (es := es) (p := p) (i := 0) h0 g0
    rwa [Nat.zero_add] at this
  have en : edgeB es (p.extract (p.size - 1) p.size) = edgeOf es (p.data.toList.getD n 0) := by
    have := edgeB_at (es := es) (p := p) (i := n) (by omega) gn
    rw [hn, Nat.add_sub_cancel]
    exact this
  have htl : t.data.toList.length = t.size := by simp
  have h1 : t.data.toList = trail es p.data.toList n ++ [y] := by rw [ht, hn, trail_succ (by omega), hy]
  have h2 : t.data.toList = x :: ((p.data.toList.take p.size).flatMap fun c => (edgeOf es c).2.data.toList) := by rw [ht, trail, hx]; rfl
  have h3 : trail es p.data.toList n = x :: ((p.data.toList.take n).flatMap fun c => (edgeOf es c).2.data.toList) := by rw [trail, hx]; rfl
  have hsz : t.size = (trail es p.data.toList n).length + 1 := by rw [← htl, h1]; simp
  have hsz1 : 1 ≤ (trail es p.data.toList n).length := by rw [h3]; simp
  refine ⟨by omega, bytes_ext ?_, bytes_ext ?_⟩
  · rw [Lib.extract_data, h2, e0, hx]; simp
  · rw [Lib.extract_data, en, hy, h1, show t.size - (t.size - 1) = 1 by omega, show t.size - 1 = (trail es p.data.toList n).length by omega, List.drop_left]
    rfl

end Go.Proofs.Ytghdjmjodgbghaa
