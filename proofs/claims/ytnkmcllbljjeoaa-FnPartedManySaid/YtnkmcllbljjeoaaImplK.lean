/- The program's fourth chapter, by contracts: the backbone, the legs and the two columns. Own work; no condition. -/
import Derived.Test.YtnkmcllbljjeoaaImplJ
set_option maxRecDepth 100000
set_option linter.unusedSimpArgs false
set_option linter.unusedVariables false
namespace Go.Abs
open Go.Proofs
attribute [local irreducible] awp awpOps awpKeep KeepK aloop ALoop ACalls ACallq AQuiet retPost retPostA AExit.thn AExit.blk aApp aSt aStA
open Parts

/-- The two columns under way: two slices in a variable of its own, each of a family of its own. -/
structure Cols (c : Nat) (m : Heap) (sA sB : SV) (fA fB : Nat) (A B : List Int) : Prop where
  wf : m.wf
  row : m[c]? = some ⟨Ty.Arr2_Sl_int, c, true, .sls [sA, sB]⟩
  accA : Acc Ty.int fA m sA (.ints .i64 A)
  accB : Acc Ty.int fB m sB (.ints .i64 B)
  inA : sA = SV.nil ∨ c < fA ∧ fA < m.length
  inB : sB = SV.nil ∨ c < fB ∧ fB < m.length
  ne : sA ≠ SV.nil → sB ≠ SV.nil → fA ≠ fB

theorem Acc.keep {e : TypeId} {f a b : Nat} {m m' : Heap} {s : SV} {v : Vals} (h : Acc e f m s v) (g : Grow a b m m') (hf : s = SV.nil ∨ (f < a ∨ b ≤ f) ∧ f < m.length) : Acc e f m' s v := by
  rcases hf with rfl | hf
  · rcases h with h | ⟨id, h, _⟩
    · exact .inl h
    · cases h
  · exact h.grow g hf.1 hf.2
theorem Cols.grow0 {c fA fB : Nat} {m m' : Heap} {sA sB : SV} {A B : List Int} (h : Cols c m sA sB fA fB A B) (g : Grow 0 0 m m') : Cols c m' sA sB fA fB A B := by
  have hle := g.le
  refine ⟨g.wf, row_prefix0 g.pre0 h.row, h.accA.keep g ?_, h.accB.keep g ?_, ?_, ?_, h.ne⟩
  · rcases h.inA with h | h
    · exact .inl h
    · exact .inr ⟨.inr (Nat.zero_le _), h.2⟩
  · rcases h.inB with h | h
    · exact .inl h
    · exact .inr ⟨.inr (Nat.zero_le _), h.2⟩
  · rcases h.inA with h | h
    · exact .inl h
    · exact .inr ⟨h.1, by omega⟩
  · rcases h.inB with h | h
    · exact .inl h
    · exact .inr ⟨h.1, by omega⟩

theorem Cols.setA {c fA fB f' : Nat} {m m' m'' : Heap} {sA sB s' : SV} {A A' B : List Int} (h : Cols c m sA sB fA fB A B) (hp : m <+: m') (hg : ∀ a b, (sA = SV.nil ∨ a ≤ fA ∧ fA < b) → Grow a b m m') (hA : Acc Ty.int f' m' s' (.ints .i64 A')) (hf : (f' = fA ∧ sA ≠ SV.nil) ∨ m.length ≤ f') (hl : s' = SV.nil ∨ f' < m'.length)
    (g2 : Grow c (c + 1) m' m'') (hl2 : m''.length = m'.length) (r2 : m''[c]? = some ⟨Ty.Arr2_Sl_int, c, true, .sls [s', sB]⟩) : Cols c m'' s' sB f' fB A' B ∧ Grow c m''.length m m'' := by
  have hc := get_lt h.row
  have hle := hp.length_le
  have hcf : c < f' := by
    rcases hf with ⟨e, hn⟩ | hf
    · rcases h.inA with h | h
      · exact absurd h hn
      · omega
    · omega
  refine ⟨⟨g2.wf, r2, hA.keep g2 ?_, ?_, ?_, ?_, fun h1 h2 e => ?_⟩, (hg c m''.length ?_).trans (g2.mono (Nat.le_refl _) (by omega))⟩
  · rcases hl with h | h
    · exact .inl h
    · exact .inr ⟨.inr (by omega), h⟩
  · by_cases hB : sB = SV.nil
    · exact (h.accB.keep (hg 0 (fA + 1) (.inr ⟨Nat.zero_le _, Nat.lt_succ_self _⟩)) (.inl hB)).keep g2 (.inl hB)
    · have hb := h.inB.resolve_left hB
      have key : Acc Ty.int fB m' sB (.ints .i64 B) := by
        by_cases hA0 : sA = SV.nil
        · exact h.accB.keep (hg 0 0 (.inl hA0)) (.inr ⟨.inr (Nat.zero_le _), hb.2⟩)
        · have hne := h.ne hA0 hB
          exact h.accB.keep (hg fA (fA + 1) (.inr ⟨Nat.le_refl _, Nat.lt_succ_self _⟩)) (.inr ⟨by omega, hb.2⟩)
      exact key.keep g2 (.inr ⟨.inr (by omega), by omega⟩)
  · rcases hl with h | h
    · exact .inl h
    · exact .inr ⟨hcf, by omega⟩
  · rcases h.inB with h | h
    · exact .inl h
    · exact .inr ⟨h.1, by omega⟩
  · rcases hf with ⟨e1, hn⟩ | hf
    · exact h.ne hn h2 (by omega)
    · have := (h.inB.resolve_left h2).2
      omega
  · rcases h.inA with h | h
    · exact .inl h
    · exact .inr ⟨by omega, by omega⟩

theorem Cols.setB {c fA fB f' : Nat} {m m' m'' : Heap} {sA sB s' : SV} {A B B' : List Int} (h : Cols c m sA sB fA fB A B) (hp : m <+: m') (hg : ∀ a b, (sB = SV.nil ∨ a ≤ fB ∧ fB < b) → Grow a b m m') (hB : Acc Ty.int f' m' s' (.ints .i64 B')) (hf : (f' = fB ∧ sB ≠ SV.nil) ∨ m.length ≤ f') (hl : s' = SV.nil ∨ f' < m'.length)
    (g2 : Grow c (c + 1) m' m'') (hl2 : m''.length = m'.length) (r2 : m''[c]? = some ⟨Ty.Arr2_Sl_int, c, true, .sls [sA, s']⟩) : Cols c m'' sA s' fA f' A B' ∧ Grow c m''.length m m'' := by
  have hc := get_lt h.row
  have hle := hp.length_le
  have hcf : c < f' := by
    rcases hf with ⟨e, hn⟩ | hf
    · rcases h.inB with h | h
      · exact absurd h hn
      · omega
    · omega
  refine ⟨⟨g2.wf, r2, ?_, hB.keep g2 ?_, ?_, ?_, fun h1 h2 e => ?_⟩, (hg c m''.length ?_).trans (g2.mono (Nat.le_refl _) (by omega))⟩
  · by_cases hA : sA = SV.nil
    · exact (h.accA.keep (hg 0 (fB + 1) (.inr ⟨Nat.zero_le _, Nat.lt_succ_self _⟩)) (.inl hA)).keep g2 (.inl hA)
    · have ha := h.inA.resolve_left hA
      have key : Acc Ty.int fA m' sA (.ints .i64 A) := by
        by_cases hB0 : sB = SV.nil
        · exact h.accA.keep (hg 0 0 (.inl hB0)) (.inr ⟨.inr (Nat.zero_le _), ha.2⟩)
        · have hne := h.ne hA hB0
          exact h.accA.keep (hg fB (fB + 1) (.inr ⟨Nat.le_refl _, Nat.lt_succ_self _⟩)) (.inr ⟨by omega, ha.2⟩)
      exact key.keep g2 (.inr ⟨.inr (by omega), by omega⟩)
  · rcases hl with h | h
    · exact .inl h
    · exact .inr ⟨.inr (by omega), h⟩
  · rcases h.inA with h | h
    · exact .inl h
    · exact .inr ⟨h.1, by omega⟩
  · rcases hl with h | h
    · exact .inl h
    · exact .inr ⟨hcf, by omega⟩
  · rcases hf with ⟨e1, hn⟩ | hf
    · exact h.ne h1 hn (by omega)
    · have := (h.inA.resolve_left h1).2
      omega
  · rcases h.inB with h | h
    · exact .inl h
    · exact .inr ⟨by omega, by omega⟩

end Go.Abs
