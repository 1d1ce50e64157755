/- The reader of drawn bytes: an edge put to a net that grows. -/
import Derived.Test.YtkclbjgnaichhaaTurn
import Derived.Test.YtkclbjgnaichhaaPick
import Derived.Laws.AppendOwn
import Derived.Deep.RegionLaw
namespace Go.Proofs.Ytkclbjgnaichhaa
open Go.RowKit

section
variable {w : World} {P : Program}
/-- an append to a row of the call's own, where a region draws its order -/
theorem step_append_ownD {ops : Array Oper} {o : Oper} {a : Act} {K : Act → World → Prop} {Q : Exit → Act → World → Prop} {E : Prop} (hgd : o.guard = none) (s x : Operand) (t : TypeId)
    (ho : o.op = .call { callee := .builtin .append, args := #[s, x], argTypes := #[t, t] })
    (base : Nat) (e : TypeId) (i : TypeInfo) (z : Value) (size bytes : Nat) (ht : P.underlying t = some (.slice e)) (hi : P.info? e = some i) (hz : i.zero = some z)
    (hsize : i.size = size) (hby : i.bytes = bytes) (hzs : z.cells.size = size) (hsz : 0 < size)
    (v : Value) (n : Nat) (xs : List Value) (hs : a.eval s = v) (hown : w.ownsRow base e size v n xs)
    (ad : Addr) (m c : Nat) (news : List Value) (hx : a.eval x = .slice (some ad) m c) (hl : news.length = m * size) (hnews : ∀ j u, news[j]? = some u → w.cell? (ad.add j) = some u) (h1 : ∀ u ∈ news, u.oneCell' = true)
    (h63 : n + m ≤ maxLen) (hbytes : (n + m) * bytes ≤ 140737488355328) (hbase : base ≤ w.heap.size)
    (h : ∀ v' w', w'.ownsRow base e size v' (n + m) (xs ++ news) → w.grownBy w' v.ownBlock → K (a.put o.dst v') w') :
    if Region.wanted o (yielded ops a.tmps) = true then Oper.wp P o a w K Q else E := by
  have hw : Region.wanted o (yielded ops a.tmps) = true := by simp [Region.wanted, hgd]
  rw [if_pos hw]
  exact wp_append_own w s x t ho base e i z size bytes ht hi hz hsize hby hzs hsz v n xs hs hown ad m c news hx hl hnews h1 h63 hbytes hbase fun v' w' h2 h3 _ => h v' w' h2 h3
end

/-- the cells of edges -/
def cellsD (es : List (ByteArray × ByteArray)) : List Value := es.flatMap fun e => [.string e.1, .string e.2]
theorem cellsD_snoc (es : List (ByteArray × ByteArray)) (e : ByteArray × ByteArray) : cellsD (es ++ [e]) = cellsD es ++ [.string e.1, .string e.2] := by simp [cellsD]
theorem ownD_keep {w w' : World} {base g k c n : Nat} {xs : List Value} (hown : w.ownsRow base 46 2 (.slice (some ⟨g, 0, none⟩) k c) n xs) (hb : w'.heap[g]? = w.heap[g]?) : w'.ownsRow base 46 2 (.slice (some ⟨g, 0, none⟩) k c) n xs := by
  refine ⟨hown.1, ?_⟩
  rcases hown.2 with h | ⟨g', c', cur, h, hb', hblk, rest⟩
  · exact .inl h
  · refine .inr ⟨g', c', cur, h, hb', ?_, rest⟩
    injection h with h; injection h with h; injection h with h _ _; subst h
    exact hb.trans hblk

/-- a net that grows, in a block of its own, its edges in a row of its own -/
def Adder (W : World) (F base : Nat) (B : ByteArray) (es : List (ByteArray × ByteArray)) : Prop :=
  ∃ g c, W.rowIs F 83 2 (fun i => if i = 0 then .string B else .slice (some ⟨g, 0, none⟩) es.length c) ∧ W.ownsRow base 46 2 (.slice (some ⟨g, 0, none⟩) es.length c) es.length (cellsD es)
/-- edges that are few, between texts of one letter -/
def FewOnes (es : List (ByteArray × ByteArray)) : Prop := es.length ≤ 16 ∧ ∀ e ∈ es, e.1.size = 1 ∧ e.2.size = 1

theorem ownA_ne {w : World} {base g k c n F : Nat} {xs : List Value} {f : Nat → Value} (hown : w.ownsRow base 46 2 (.slice (some ⟨g, 0, none⟩) k c) n xs) (hrow : w.rowIs F 83 2 f) : g ≠ F ∧ base ≤ g := by
  rcases hown.2 with ⟨h, _⟩ | ⟨g', c', cur, h, hb', hblk, _⟩
  · injection h with h; cases h
  · injection h with h; injection h with h; injection h with h _ _; subst h
    refine ⟨fun e => ?_, hb'⟩
    obtain ⟨cc, hcc, _⟩ := hrow
    subst e
    rw [hcc] at hblk
    injection hblk with hblk
    injection hblk with _ e2 _
    exact absurd e2 (by decide)

set_option maxRecDepth 100000 in
set_option maxHeartbeats 4000000 in
/-- spec.(*l1Adder).put -/
theorem put_any (F base : Nat) (B : ByteArray) (es : List (ByteArray × ByteArray)) (i k : Nat) (w : World) (ha : Adder w F base B es) (hf : FewOnes es) (hF : base ≤ F) (hFl : F < w.heap.size) (hi : i < B.size) (hk : k < B.size) (hB : B.size ≤ 8) :
    Calls Try.prog 69 #[.pointer (some ⟨F, 0, none⟩), .int .i64 (i : Int), .int .i64 (k : Int)] w
      fun e w' => e = .returned (.tuple #[]) ∧ (∃ es', FewOnes es' ∧ Adder w' F base B es') ∧ Below base w w' := by
  obtain ⟨g, c, hrow, hown⟩ := ha
  have HROW := Lib.hid hrow; have HOWN := Lib.hid hown; have HF := Lib.hid hf
  have c0 := hrow.cell (i := 0) (by omega); have c1 := hrow.cell (i := 1) (by omega)
  have f1 := hrow.frozen 1
  simp only [if_true] at c0
  have e10 : (1 : Nat) = 0 ↔ False := by simp
  simp only [e10, if_false] at c1
  obtain ⟨n, hn⟩ : ∃ n, es.length = n := ⟨_, rfl⟩
  rw [hn] at c1
  have HN := Lib.hid hn
  clear hrow hown hf hn e10
  by_cases hfull : 16 ≤ n
  · have h1 : ¬ ((n : Int) < 16) := by omega
    clear hfull
    go_enter Try.func69, Try.ntmps69
    go_wp2_with fail
    go_end0
    exact ⟨rfl, ⟨es, HF.out, g, c, HROW.out, HOWN.out⟩, Below.refl _ _⟩
  have h1 : (n : Int) < 16 := by omega
  obtain ⟨i0, hi', hi0, hi1, hi2⟩ := info_parts edgeInfo
  have HI := Lib.hid hi'; have HI0 := Lib.hid hi0; have HI1 := Lib.hid hi1; have HI2 := Lib.hid hi2
  clear hi' hi0 hi1 hi2
  obtain ⟨p1, hp1⟩ : ∃ p1, B.extract i (i + 1) = p1 := ⟨_, rfl⟩
  obtain ⟨p2, hp2⟩ : ∃ p2, B.extract k (k + 1) = p2 := ⟨_, rfl⟩
  have HZ1 : Hid (p1.size = 1) := Lib.hid (by rw [← hp1]; simp; omega)
  have HZ2 : Hid (p2.size = 1) := Lib.hid (by rw [← hp2]; simp; omega)
  have a1 : IntKind.i64.wrap ((i : Int) + 1) = (i : Int) + 1 := IntWalk.i64_in _ (by omega)
  have a2 : IntKind.i64.wrap ((k : Int) + 1) = (k : Int) + 1 := IntWalk.i64_in _ (by omega)
  have b1 : (0 : Int) ≤ (i : Int) := by omega
  have b2 : (0 : Int) ≤ (i : Int) + 1 := by omega
  have b3 : ((i : Int) + 1).toNat = i + 1 := by omega
  have b4 : (i : Int) + 1 ≤ (B.size : Int) := by omega
  have b5 : i + 1 ≤ B.size := by omega
  have b6 : (i : Int) ≤ (i : Int) + 1 := by omega
  have d2 : (0 : Int) ≤ (k : Int) + 1 := by omega
  have d3 : ((k : Int) + 1).toNat = k + 1 := by omega
  have d4 : (k : Int) + 1 ≤ (B.size : Int) := by omega
  have d5 : k + 1 ≤ B.size := by omega
  have d6 : (k : Int) ≤ (k : Int) + 1 := by omega
  have d1 : (0 : Int) ≤ (k : Int) := by omega
  have HG := Lib.hid (ownA_ne HOWN.out HROW.out)
  have HNE : Hid (some F ≠ (Value.slice (some ⟨g, 0, none⟩) n c).ownBlock) := Lib.hid (by have := HG.out.1; simp [Value.ownBlock]; omega)
  have hrn : (w.drew.alloc (.cells #[.string p1, .string p2] 46)).rowIs w.heap.size 46 2 (fun i => if i = 0 then .string p1 else .string p2) :=
    World.rowIs_alloc w.drew #[.string p1, .string p2] 46 _ (fun i hi => by
      match i, hi with
      | 0, _ => rfl
      | 1, _ => rfl)
  have hnew : ∀ i v, [Value.string p1, Value.string p2][i]? = some v → (w.drew.alloc (.cells #[.string p1, .string p2] 46)).cell? ((⟨w.heap.size, 0, none⟩ : Addr).add i) = some v := fun i v hv => by
    match i, hv with
    | 0, hv => simp at hv; subst hv; exact hrn.cell (i := 0) (by omega)
    | 1, hv => simp at hv; subst hv; exact hrn.cell (i := 1) (by omega)
    | i + 2, hv => simp at hv
  have hone : ∀ v ∈ [Value.string p1, Value.string p2], v.oneCell' = true := fun v hv => by
    simp at hv
    rcases hv with rfl | rfl <;> rfl
  have HNEW := Lib.hid hnew; have HONE := Lib.hid hone
  have hownn := HOWN.out
  rw [HN.out] at hownn
  have HOWN2 := Lib.hid (hownn.drew.alloc (.cells #[.string p1, .string p2] 46))
  have hbase : base ≤ (w.drew.alloc (.cells #[.string p1, .string p2] 46)).heap.size := by
    rw [World.size_alloc]
    show base ≤ w.heap.size + 1
    omega
  have HBASE := Lib.hid hbase
  have c0' : (w.alloc (.cells #[.string p1, .string p2] 46)).cell? ⟨F, 0, none⟩ = some (.string B) := (World.cell?_alloc_lt _ _ _ (by simp only; omega)).trans c0
  have c1' : (w.alloc (.cells #[.string p1, .string p2] 46)).cell? ⟨F, 1, none⟩ = some (.slice (some ⟨g, 0, none⟩) n c) := (World.cell?_alloc_lt _ _ _ (by simp only; omega)).trans c1
  have c1'' : (w.drew.alloc (.cells #[.string p1, .string p2] 46)).cell? ⟨F, 1, none⟩ = some (.slice (some ⟨g, 0, none⟩) n c) := (World.cell?_alloc_lt _ _ _ (by show _ < w.heap.size; simp only; omega)).trans c1
  clear hnew hone hbase hrn hownn hfull
  go_enter Try.func69, Try.ntmps69
  go_wp2_with fail
  go_region_law (
    refine step_append_ownD rfl (.tmp 18) (.tmp 38) 23 rfl base 46 i0 (.agg #[.string ⟨#[]⟩, .string ⟨#[]⟩]) 2 32 Try.underlying23 HI.out HI0.out HI1.out HI2.out rfl (by decide) _ n (cellsD es) rfl HOWN2.out ⟨w.heap.size, 0, none⟩ 1 1 [.string p1, .string p2] rfl rfl HNEW.out HONE.out (by unfold maxLen; omega) (by omega) HBASE.out ?_
    go_must (
    intro v4 w4 hown4 hgr4
    obtain ⟨g4, c4, rfl⟩ := Go.Joins.ownsRow_form hown4 (by omega)
    have hrow4 := (HROW.out.drew.alloc (.cells #[.string p1, .string p2] 46)).of_block (hgr4.block F (show F < (w.alloc (.cells #[.string p1, .string p2] 46)).heap.size by rw [World.size_alloc]; omega) HNE.out)
    have u1 := hrow4.cell (i := 1) (by omega); have uf1 := hrow4.frozen 1
    have HROW4 := Lib.hid hrow4; have HOWN4 := Lib.hid hown4; have HGR4 := Lib.hid hgr4
    clear hrow4 hown4 hgr4))
  all_goals
    have hbx : Below base w w4 := ((Below.refl base w).drew.alloc (by show base ≤ w.heap.size; omega) _).grown HGR4.out HBASE.out (fun q e => by
      have hq : some g = some q := e
      injection hq with hq
      exact hq ▸ HG.out.2)
    have hg4 := ownA_ne HOWN4.out HROW4.out
    have HBX := Lib.hid (hbx.setCell (p := ⟨F, 1, none⟩) (by simp only; omega) (.slice (some ⟨g4, 0, none⟩) (n + 1) c4))
    clear hbx u1 uf1
    go_wp2_with fail
    go_end0
    have hlen : (es ++ [(p1, p2)]).length = n + 1 := by rw [List.length_append, HN.out]; rfl
    refine ⟨rfl, ⟨es ++ [(p1, p2)], ⟨by omega, fun e he => ?_⟩, g4, c4, ?_, ?_⟩, HBX.out⟩
    · rcases List.mem_append.1 he with he | he
      · exact HF.out.2 e he
      · simp at he; subst he; exact ⟨HZ1.out, HZ2.out⟩
    · refine (HROW4.out.set 1 _).congr fun i hi => ?_
      rw [hlen]
      match i, hi with
      | 0, _ => rfl
      | 1, _ => rfl
    · rw [hlen, cellsD_snoc]
      exact ownD_keep HOWN4.out (Below.heap_setCell _ _ _ _ (by simp only; omega))

end Go.Proofs.Ytkclbjgnaichhaa
