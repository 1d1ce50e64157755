/- strings.ContainsAny of letters: the library's contract at this program's numbers. -/
import Derived.Test.YtpeafheljcjlhaaGreatProg
import Derived.WalkKit
import Derived.Shelf.Strings.IndexAnyAll
import Derived.Lib.IndexLaws
namespace Go.Proofs.YtpeafheljcjlhaaGreat
open Go.RowKit Go.Shelf

def renA : Ren where
  f := fun n => match n with
    | 119 => 152
    | 137 => 114
    | 150 => 126
    | 152 => 147
    | 153 => 141
    | 217 => 132
    | 224 => 136
    | 225 => 135
    | 226 => 148
    | 227 => 149
    | 228 => 150
    | 266 => 143
    | _ => 0
  t := fun n => match n with
    | 0 => 0
    | 3 => 3
    | 4 => 4
    | 5 => 5
    | 9 => 9
    | 21 => 21
    | 46 => 144
    | 116 => 158
    | 117 => 159
    | 124 => 163
    | _ => 0
  g := fun n => n

set_option maxRecDepth 100000 in
theorem lays150 : Lays.n150 Tryz.prog renA where
  mixed := by kernel_rfl
  f119 := by kernel_rfl
  f137 := by kernel_rfl
  f150 := by kernel_rfl
  f152 := by kernel_rfl
  f153 := by kernel_rfl
  f217 := by kernel_rfl
  f224 := by kernel_rfl
  f225 := by kernel_rfl
  f226 := by kernel_rfl
  f227 := by kernel_rfl
  f228 := by kernel_rfl
  f266 := by kernel_rfl
  t0 := Tryz.underlying0
  a0 := Tryz.isAgg0
  z0 := Tryz.sizeOf0
  v0 := Tryz.zeroValue0
  t3 := Tryz.underlying3
  a3 := Tryz.isAgg3
  z3 := Tryz.sizeOf3
  v3 := Tryz.zeroValue3
  t4 := Tryz.underlying4
  a4 := Tryz.isAgg4
  z4 := Tryz.sizeOf4
  v4 := Tryz.zeroValue4
  t5 := Tryz.underlying5
  a5 := Tryz.isAgg5
  z5 := Tryz.sizeOf5
  v5 := Tryz.zeroValue5
  t9 := Tryz.underlying9
  a9 := Tryz.isAgg9
  z9 := Tryz.sizeOf9
  v9 := Tryz.zeroValue9
  t21 := Tryz.underlying21
  a21 := Tryz.isAgg21
  z21 := Tryz.sizeOf21
  v21 := Tryz.zeroValue21
  t46 := Tryz.underlying144
  a46 := Tryz.isAgg144
  z46 := Tryz.sizeOf144
  v46 := Tryz.zeroValue144
  t116 := Tryz.underlying158
  a116 := Tryz.isAgg158
  z116 := Tryz.sizeOf158
  t117 := Tryz.underlying159
  a117 := Tryz.isAgg159
  z117 := Tryz.sizeOf159
  v117 := Tryz.zeroValue159
  t124 := Tryz.underlying163
  a124 := Tryz.isAgg163
  z124 := Tryz.sizeOf163
  v124 := Tryz.zeroValue163

theorem set150 : (Tryz.prog.info? (renA.t 116)).map (fun i => (i.zero, i.size)) = some (some (.agg (Array.replicate 256 (.bool false))), 256) := by kernel_rfl

/-- strings.ContainsAny, of texts of ASCII letters -/
theorem containsAny_any (s chars : ByteArray) (w : World) (hs : s.size < 4294967281) (hcs : chars.size < 4294967281) (has : ∀ b ∈ s.data.toList, b.toNat < 128) (hac : ∀ b ∈ chars.data.toList, b.toNat < 128) :
    Calls Tryz.prog 126 #[.string s, .string chars] w fun e w' => e = .returned (.bool (s.data.toList.any fun c => chars.data.toList.contains c)) ∧ Below w.heap.size w w' := by
  have hq : Lib.containsAny s.data.toList chars.data.toList = s.data.toList.any fun c => chars.data.toList.contains c := by
    unfold Lib.containsAny
    generalize s.data.toList = l
    induction l with
    | nil => rfl
    | cons b l ih =>
      have hge := Lib.indexAny_ge chars.data.toList l
      simp only [List.any_cons, ← ih]
      show decide (0 ≤ (if chars.data.toList.contains b then (0 : Int) else if Lib.indexAny l chars.data.toList == -1 then -1 else Lib.indexAny l chars.data.toList + 1)) = _
      cases hb : chars.data.toList.contains b with
      | true => simp
      | false =>
        simp only [Bool.false_or, Bool.false_eq_true, if_false]
        by_cases h0 : Lib.indexAny l chars.data.toList = -1
        · rw [h0]; rfl
        · have h1 : (Lib.indexAny l chars.data.toList == -1) = false := by simpa using h0
          rw [h1]
          simp only [Bool.false_eq_true, if_false]
          exact decide_eq_decide.2 (by omega)
  rw [← hq]
  exact Any.strings_ContainsAny_laid lays150 set150 s chars w hs hcs (fun j b hb => has b (List.mem_of_getElem? hb)) (fun j b hb => hac b (List.mem_of_getElem? hb))

end Go.Proofs.YtpeafheljcjlhaaGreat
