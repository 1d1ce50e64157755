/- strings.ContainsAny of letters: the library's contract at this program's numbers. -/
import Derived.Test.YtcfcmlbbnpfejabProg
import Derived.WalkKit
import Derived.Shelf.Strings.IndexAnyAll
import Derived.Lib.IndexLaws
namespace Go.Proofs.Ytcfcmlbbnpfejab
open Go.RowKit Go.Shelf

def renA : Ren where
  f := fun n => match n with
    | 119 => 123
    | 137 => 90
    | 150 => 46
    | 152 => 106
    | 153 => 86
    | 217 => 111
    | 224 => 120
    | 225 => 119
    | 226 => 107
    | 227 => 108
    | 228 => 109
    | 266 => 124
    | _ => 0
  t := fun n => match n with
    | 0 => 0
    | 3 => 3
    | 4 => 4
    | 5 => 5
    | 9 => 9
    | 21 => 21
    | 46 => 116
    | 116 => 104
    | 117 => 105
    | 124 => 120
    | _ => 0
  g := fun n => n

set_option maxRecDepth 100000 in
theorem lays150 : Lays.n150 Try.prog renA where
  mixed := by kernel_rfl
  f119 := by kernel_rfl
  f137 := by kernel_rfl
  f150 := by kernel_rfl
  f152 := by kernel_rfl
  f153 := by kernel_rfl
  f217 := by kernel_rfl
  f224 := by kernel_rfl
  f225 := by kernel_rfl
  f226 := by kernel_rfl
  f227 := by kernel_rfl
  f228 := by kernel_rfl
  f266 := by kernel_rfl
  t0 := Try.underlying0
  a0 := Try.isAgg0
  z0 := Try.sizeOf0
  v0 := Try.zeroValue0
  t3 := Try.underlying3
  a3 := Try.isAgg3
  z3 := Try.sizeOf3
  v3 := Try.zeroValue3
  t4 := Try.underlying4
  a4 := Try.isAgg4
  z4 := Try.sizeOf4
  v4 := Try.zeroValue4
  t5 := Try.underlying5
  a5 := Try.isAgg5
  z5 := Try.sizeOf5
  v5 := Try.zeroValue5
  t9 := Try.underlying9
  a9 := Try.isAgg9
  z9 := Try.sizeOf9
  v9 := Try.zeroValue9
  t21 := Try.underlying21
  a21 := Try.isAgg21
  z21 := Try.sizeOf21
  v21 := Try.zeroValue21
  t46 := Try.underlying116
  a46 := Try.isAgg116
  z46 := Try.sizeOf116
  v46 := Try.zeroValue116
  t116 := Try.underlying104
  a116 := Try.isAgg104
  z116 := Try.sizeOf104
  t117 := Try.underlying105
  a117 := Try.isAgg105
  z117 := Try.sizeOf105
  v117 := Try.zeroValue105
  t124 := Try.underlying120
  a124 := Try.isAgg120
  z124 := Try.sizeOf120
  v124 := Try.zeroValue120

theorem set150 : (Try.prog.info? (renA.t 116)).map (fun i => (i.zero, i.size)) = some (some (.agg (Array.replicate 256 (.bool false))), 256) := by kernel_rfl

/-- strings.ContainsAny, of texts of ASCII letters -/
theorem containsAny_any (s chars : ByteArray) (w : World) (hs : s.size < 4294967281) (hcs : chars.size < 4294967281) (has : ∀ b ∈ s.data.toList, b.toNat < 128) (hac : ∀ b ∈ chars.data.toList, b.toNat < 128) :
    Calls Try.prog 46 #[.string s, .string chars] w fun e w' => e = .returned (.bool (s.data.toList.any fun c => chars.data.toList.contains c)) ∧ Below w.heap.size w w' := by
  have hq : Lib.containsAny s.data.toList chars.data.toList = s.data.toList.any fun c => chars.data.toList.contains c := by
    unfold Lib.containsAny
    generalize s.data.toList = l
    induction l with
    | nil => rfl
    | cons b l ih =>
      have hge := Lib.indexAny_ge chars.data.toList l
      simp only [List.any_cons, ← ih]
      show decide (0 ≤ (if chars.data.toList.contains b then (0 : Int) else if Lib.indexAny l chars.data.toList == -1 then -1 else Lib.indexAny l chars.data.toList + 1)) = _
      cases hb : chars.data.toList.contains b with
      | true => simp
      | false =>
        simp only [Bool.false_or, Bool.false_eq_true, if_false]
        by_cases h0 : Lib.indexAny l chars.data.toList = -1
        · rw [h0]; rfl
        · have h1 : (Lib.indexAny l chars.data.toList == -1) = false := by simpa using h0
          rw [h1]
          simp only [Bool.false_eq_true, if_false]
          exact decide_eq_decide.2 (by omega)
  rw [← hq]
  exact Any.strings_ContainsAny_laid lays150 set150 s chars w hs hcs (fun j b hb => has b (List.mem_of_getElem? hb)) (fun j b hb => hac b (List.mem_of_getElem? hb))

end Go.Proofs.Ytcfcmlbbnpfejab
