/- Runs that have all edges: the runs as lists, one letter in a text. -/
import Derived.Test.YthnpilkchfmfgaaShort
import Derived.Test.YthnpilkchfmfgaaTo
import Derived.Test.YthnpilkchfmfgaaTexts
namespace Go.Proofs.Ythnpilkchfmfgaa
open Go.RowKit

theorem pathE_len (E : Eds) (s t : UInt8) : (pathE E s t).length ≤ 8 := by
  unfold pathE
  cases h : (bfs E s 8).find? (fun x => x.1 == t) with
  | none => simp
  | some x => exact bfs_plen 8 x (List.mem_of_find?_eq_some h)

/-- the run by an edge: the shortest path to it, it, the shortest path from it -/
def runE (E : Eds) (s t x y : UInt8) (i : Nat) : List UInt8 := pathE E s x ++ [nameL i] ++ pathE E y t
theorem runE_len (E : Eds) (s t x y : UInt8) (i : Nat) : (runE E s t x y i).length ≤ 17 := by
  have := pathE_len E s x; have := pathE_len E y t
  simp [runE]; omega

/-- the runs so far, and one for an edge that is not yet in them -/
def stepC (E : Eds) (s t : UInt8) (R : List (List UInt8)) (i : Nat) : List (List UInt8) :=
  if nameL i ∈ R.flatten then R else match E[i]? with
    | some ([x], [y]) => R ++ [runE E s t x y i]
    | _ => R
def cov (E : Eds) (s t : UInt8) (k : Nat) : List (List UInt8) := (List.range k).foldl (stepC E s t) []
theorem cov_succ (E : Eds) (s t : UInt8) (k : Nat) : cov E s t (k + 1) = stepC E s t (cov E s t k) k := by
  simp [cov, List.range_succ, List.foldl_append]
theorem stepC_no {E : Eds} {s t : UInt8} {R : List (List UInt8)} {i : Nat} (h : nameL i ∈ R.flatten) : stepC E s t R i = R := if_pos h
theorem stepC_yes {E : Eds} {s t x y : UInt8} {R : List (List UInt8)} {i : Nat} (h : nameL i ∉ R.flatten) (he : E[i]? = some ([x], [y])) : stepC E s t R i = R ++ [runE E s t x y i] := by
  unfold stepC
  rw [if_neg h, he]
theorem stepC_len (E : Eds) (s t : UInt8) (R : List (List UInt8)) (i : Nat) : (stepC E s t R i).length ≤ R.length + 1 ∧ (stepC E s t R i).flatten.length ≤ R.flatten.length + 17 := by
  unfold stepC
  split
  · omega
  · split
    · rename_i x y _
      have := runE_len E s t x y i
      simp [List.flatten_append] at *
      omega
    · omega
theorem cov_len (E : Eds) (s t : UInt8) : ∀ k, (cov E s t k).length ≤ k ∧ (cov E s t k).flatten.length ≤ 17 * k
  | 0 => by simp [cov]
  | k + 1 => by
    have h := cov_len E s t k
    have h2 := stepC_len E s t (cov E s t k) k
    rw [cov_succ]
    omega

/-- the runs as texts -/
def txts (R : List (List UInt8)) : List ByteArray := R.map fun r => ⟨r.toArray⟩
/-- the runs as what a search has met, without its keys -/
def metR (R : List (List UInt8)) : Met := R.map fun r => (0, r)
theorem metR_length (R : List (List UInt8)) : (metR R).length = R.length := by simp [metR]
theorem waysV_metR (R : List (List UInt8)) : waysV (metR R) = (txts R).map Value.string := by simp [waysV, metR, txts]
theorem txts_length (R : List (List UInt8)) : (txts R).length = R.length := by simp [txts]
theorem metR_snoc (R : List (List UInt8)) (r : List UInt8) : metR (R ++ [r]) = metR R ++ [(0, r)] := by simp [metR]

/-- the runs of a valid net, or none, and whether it is one -/
noncomputable def coverQ (B : ByteArray) (es : List (ByteArray × ByteArray)) : List ByteArray × Bool :=
  open Classical in if Valid B.data.toList (ebs es) then (txts (cov (ebs es) (entry B.data.toList) (exit_ B.data.toList) es.length), true) else ([], false)
theorem coverQ_len (B : ByteArray) (es : List (ByteArray × ByteArray)) : (coverQ B es).1.length ≤ 16 := by
  unfold coverQ
  split
  · rename_i h
    have := (valid_sizes h).2
    have := (cov_len (ebs es) (entry B.data.toList) (exit_ B.data.toList) es.length).1
    simp only [txts_length]; omega
  · simp

/-- what is handed back: texts of the call's own, and whether there are any -/
def TextsPost (q : List ByteArray × Bool) (w : World) (e : Ending) (w' : World) : Prop :=
  ∃ A cap, e = .returned (.tuple #[.slice A q.1.length cap, .bool q.2]) ∧ TextsIn w' w'.heap.size A q.1 ∧ Below w.heap.size w w' ∧ OwnTexts w' w.heap.size A q.1.length

/-- strings.Contains, of one letter -/
theorem contains_any (s : ByteArray) (c : UInt8) (w : World) (_ : s.size ≤ maxLen) :
    Calls Try.prog 87 #[.string s, .string ⟨#[c]⟩] w fun e w' => e = .returned (.bool (decide (0 ≤ Lib.indexByte s.data.toList c))) ∧ w = w' := by
  have hc : ((c.toNat : Int).toNat).toUInt8 = c := by simp
  have hx : ∀ w, (callFunc 117 #[.string s, .int .u8 c.toNat]).run Try.prog w = .ok (.value (.int .i64 (Lib.indexByte s.data.toList c))) w := fun w => by
    rw [run_callFunc_extern Try.func117 (by kernel_rfl) (by kernel_rfl) (by kernel_rfl) (e := Extern.BytealgIndexByte.indexByte) (by kernel_rfl), Lib.run_indexByteString, hc]
    rfl
  obtain ⟨v, hv⟩ : ∃ v, Lib.indexByte s.data.toList c = v := ⟨_, rfl⟩
  have hv0 : ([c] == s.toList) = true → v = 0 := fun h => by
    have h' : [c] = s.data.toList := by rw [← Lib.toList_data]; simpa using h
    rw [← hv, ← h']
    simp [Lib.indexByte]
  have HV0 := Lib.hid hv0
  rw [hv] at hx ⊢
  clear hv hc hv0
  have hb : Calls Try.prog 114 #[.string s, .int .u8 c.toNat] w fun e w' => e = .returned (.int .i64 v) ∧ w = w' := by
    go_enter Try.func114, Try.ntmps114
    go_wp2
    go_ret
    exact ⟨rfl, rfl⟩
  have HB := Lib.hid hb
  clear hb hx
  have hi : Calls Try.prog 115 #[.string s, .string ⟨#[c]⟩] w fun e w' => e = .returned (.int .i64 v) ∧ w = w' := by
    have h1 : (⟨#[c]⟩ : ByteArray).size = 1 := rfl
    obtain ⟨q, hq⟩ : ∃ q, ([c] == s.toList) = q := ⟨_, rfl⟩
    cases q with
    | true =>
      have e0 := HV0.out hq
      subst e0
      go_enter Try.func115, Try.ntmps115
      go_wp2_with fail
      go_ret
      exact ⟨rfl, rfl⟩
    | false =>
      go_enter Try.func115, Try.ntmps115
      go_wp2_with fail
      refine HB.out.mono ?_
      rintro e w' ⟨rfl, rfl⟩
      go_wp2_with fail
      go_ret
      exact ⟨rfl, rfl⟩
  have HI := Lib.hid hi
  clear hi
  have hj : Calls Try.prog 110 #[.string s, .string ⟨#[c]⟩] w fun e w' => e = .returned (.int .i64 v) ∧ w = w' := by
    go_enter Try.func110, Try.ntmps110
    go_wp2_with fail
    refine HI.out.mono ?_
    rintro e w' ⟨rfl, rfl⟩
    go_wp2_with fail
    go_ret
    exact ⟨rfl, rfl⟩
  have HJ := Lib.hid hj
  clear hj
  go_enter Try.func87, Try.ntmps87
  go_wp2_with fail
  refine HJ.out.mono ?_
  rintro e w' ⟨rfl, rfl⟩
  go_wp2_with fail
  go_ret
  exact ⟨rfl, rfl⟩

end Go.Proofs.Ythnpilkchfmfgaa
