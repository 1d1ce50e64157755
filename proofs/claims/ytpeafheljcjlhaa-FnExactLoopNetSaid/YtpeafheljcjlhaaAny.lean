/- strings.ContainsAny of letters: the library's contract at this program's numbers. -/
import Derived.Test.YtpeafheljcjlhaaProg
import Derived.WalkKit
import Derived.Shelf.Strings.IndexAnyAll
import Derived.Lib.IndexLaws
namespace Go.Proofs.Ytpeafheljcjlhaa
open Go.RowKit Go.Shelf

def renA : Ren where
  f := fun n => match n with
    | 119 => 105
    | 137 => 69
    | 150 => 82
    | 152 => 101
    | 153 => 97
    | 217 => 88
    | 224 => 92
    | 225 => 91
    | 226 => 102
    | 227 => 103
    | 228 => 104
    | 266 => 99
    | _ => 0
  t := fun n => match n with
    | 0 => 0
    | 3 => 3
    | 4 => 4
    | 5 => 5
    | 9 => 9
    | 21 => 21
    | 46 => 117
    | 116 => 125
    | 117 => 126
    | 124 => 129
    | _ => 0
  g := fun n => n

set_option maxRecDepth 100000 in
theorem lays150 : Lays.n150 Try.prog renA where
  mixed := by kernel_rfl
  f119 := by kernel_rfl
  f137 := by kernel_rfl
  f150 := by kernel_rfl
  f152 := by kernel_rfl
  f153 := by kernel_rfl
  f217 := by kernel_rfl
  f224 := by kernel_rfl
  f225 := by kernel_rfl
  f226 := by kernel_rfl
  f227 := by kernel_rfl
  f228 := by kernel_rfl
  f266 := by kernel_rfl
  t0 := Try.underlying0
  a0 := Try.isAgg0
  z0 := Try.sizeOf0
  v0 := Try.zeroValue0
  t3 := Try.underlying3
  a3 := Try.isAgg3
  z3 := Try.sizeOf3
  v3 := Try.zeroValue3
  t4 := Try.underlying4
  a4 := Try.isAgg4
  z4 := Try.sizeOf4
  v4 := Try.zeroValue4
  t5 := Try.underlying5
  a5 := Try.isAgg5
  z5 := Try.sizeOf5
  v5 := Try.zeroValue5
  t9 := Try.underlying9
  a9 := Try.isAgg9
  z9 := Try.sizeOf9
  v9 := Try.zeroValue9
  t21 := Try.underlying21
  a21 := Try.isAgg21
  z21 := Try.sizeOf21
  v21 := Try.zeroValue21
  t46 := Try.underlying117
  a46 := Try.isAgg117
  z46 := Try.sizeOf117
  v46 := Try.zeroValue117
  t116 := Try.underlying125
  a116 := Try.isAgg125
  z116 := Try.sizeOf125
  t117 := Try.underlying126
  a117 := Try.isAgg126
  z117 := Try.sizeOf126
  v117 := Try.zeroValue126
  t124 := Try.underlying129
  a124 := Try.isAgg129
  z124 := Try.sizeOf129
  v124 := Try.zeroValue129

theorem set150 : (Try.prog.info? (renA.t 116)).map (fun i => (i.zero, i.size)) = some (some (.agg (Array.replicate 256 (.bool false))), 256) := by kernel_rfl

/-- strings.ContainsAny, of texts of ASCII letters -/
theorem containsAny_any (s chars : ByteArray) (w : World) (hs : s.size < 4294967281) (hcs : chars.size < 4294967281) (has : ∀ b ∈ s.data.toList, b.toNat < 128) (hac : ∀ b ∈ chars.data.toList, b.toNat < 128) :
    Calls Try.prog 82 #[.string s, .string chars] w fun e w' => e = .returned (.bool (s.data.toList.any fun c => chars.data.toList.contains c)) ∧ Below w.heap.size w w' := by
  have hq : Lib.containsAny s.data.toList chars.data.toList = s.data.toList.any fun c => chars.data.toList.contains c := by
    unfold Lib.containsAny
    generalize s.data.toList = l
    induction l with
    | nil => rfl
    | cons b l ih =>
      have hge := Lib.indexAny_ge chars.data.toList l
      simp only [List.any_cons, ← ih]
      show decide (0 ≤ (if chars.data.toList.contains b then (0 : Int) else if Lib.indexAny l chars.data.toList == -1 then -1 else Lib.indexAny l chars.data.toList + 1)) = _
      cases hb : chars.data.toList.contains b with
      | true => simp
      | false =>
        simp only [Bool.false_or, Bool.false_eq_true, if_false]
        by_cases h0 : Lib.indexAny l chars.data.toList = -1
        · rw [h0]; rfl
        · have h1 : (Lib.indexAny l chars.data.toList == -1) = false := by simpa using h0
          rw [h1]
          simp only [Bool.false_eq_true, if_false]
          exact decide_eq_decide.2 (by omega)
  rw [← hq]
  exact Any.strings_ContainsAny_laid lays150 set150 s chars w hs hcs (fun j b hb => has b (List.mem_of_getElem? hb)) (fun j b hb => hac b (List.mem_of_getElem? hb))

end Go.Proofs.Ytpeafheljcjlhaa
