/- The reader of codes, and what draws a net: each leaves a net, whatever the code. Own work; no condition. -/
import Derived.Test.YtchejfephmmcaaaLaws0
import Derived.Test.YtchejfephmmcaaaUse
import Derived.Test.YtchejfephmmcaaaGrow
import Derived.Test.YtchejfephmmcaaaWire2
set_option maxRecDepth 100000
set_option linter.unusedSimpArgs false
set_option linter.unusedVariables false
namespace Go.Abs
open Go.Proofs
attribute [local irreducible] awp awpOps awpKeep KeepK awpKeepF KeepF aloop ALoop ACalls ACallq AQuiet retPost retPostA AExit.thn AExit.blk aApp aSt aStA

def rdRow (rid : Nat) (b : SV) (p : Int) : Row := ⟨Ty.spec_l20Rd, rid, true, .mix [.sl b, .int .i64 p]⟩

/-- A reader at a place of its code. -/
structure IsRd (m0 m : Heap) (rid : Nat) (b : SV) (bl : List Int) (p : Int) : Prop where
  pre : m0 <+: m
  le : m0.length ≤ rid
  row : m[rid]? = some (rdRow rid b p)
  alone : Alone m rid
  ints : IsInts .u8 m0 b bl
  low : ∀ i, 0 ≤ (bl.getD i 0) ∧ (bl.getD i 0) ≤ 255
  len : bl.length ≤ 2000

theorem IsRd.set {m0 m : Heap} {rid : Nat} {b : SV} {bl : List Int} {p : Int} (h : IsRd m0 m rid b bl p) (q : Int) : IsRd m0 (m.set rid (rdRow rid b q)) rid b bl q :=
  ⟨prefix_set h.pre h.le, h.le, get_set_self (get_lt h.row), h.alone.set h.row rfl rfl, h.ints, h.low, h.len⟩

end Go.Abs

/- What draws a net leaves some net, whatever the code. Own work; no condition. -/
set_option maxRecDepth 100000
set_option linter.unusedSimpArgs false
set_option linter.unusedVariables false
namespace Go.Abs
open Go.Proofs
attribute [local irreducible] awp awpOps awpKeep KeepK awpKeepF KeepF aloop ALoop ACalls ACallq AQuiet retPost retPostA AExit.thn AExit.blk aApp aSt aStA

/-- The row of numbers behind all that was there. -/
abbrev nRow (m : Heap) (l : List Int) : Row := ⟨3, m.length, true, .ints .i64 l⟩

theorem IsRd.net {m0 m : Heap} {rid : Nat} {b : SV} {bl : List Int} {p : Int} (h : IsRd m0 m rid b bl p) (q : Int) (l : List Int) : IsRd m0 (m.set rid (rdRow rid b q) ++ [nRow m l]) rid b bl q := by
  have h' := h.set q
  have hl : (m.set rid (rdRow rid b q)).length = m.length := List.length_set
  refine ⟨h'.pre.trans (prefix_push _ _), h.le, row_at_push h'.row _, ?_, h.ints, h.low, h.len⟩
  have := h'.alone.push (get_lt h'.row) 3 true (.ints .i64 l)
  rw [hl] at this
  exact this

theorem IsRd.push {m0 m : Heap} {rid : Nat} {b : SV} {bl : List Int} {p : Int} (h : IsRd m0 m rid b bl p) (e : TypeId) (o : Bool) (v : Vals) : IsRd m0 (m ++ [⟨e, m.length, o, v⟩]) rid b bl p :=
  ⟨h.pre.trans (prefix_push _ _), h.le, row_at_push h.row _, h.alone.push (get_lt h.row) _ _ _, h.ints, h.low, h.len⟩

end Go.Abs

/- What draws a net and a row leaves some net and some row, whatever the code. Own work; no condition. -/
set_option maxRecDepth 100000
set_option linter.unusedSimpArgs false
set_option linter.unusedVariables false
namespace Go.Abs
open Go.Proofs
attribute [local irreducible] awp awpOps awpKeep KeepK awpKeepF KeepF aloop ALoop ACalls ACallq AQuiet retPost retPostA AExit.thn AExit.blk aApp aSt aStA

theorem IsRd.grow {m0 m m' : Heap} {rid c d : Nat} {b : SV} {bl : List Int} {p : Int} (h : IsRd m0 m rid b bl p) (hwf : m0.wf) (g : Grow c d m m') (hc : rid < c ∨ d ≤ rid) (h0 : m0.length ≤ c) : IsRd m0 m' rid b bl p := by
  refine ⟨g.pre h.pre hwf h0, h.le, g.keep rid _ h.row (by simp only [rdRow]; omega), fun j r hr ho hf => ?_, h.ints, h.low, h.len⟩
  by_cases hj : j < m.length
  · obtain ⟨r0, e1, e2, e3, _⟩ := g.old j r hj hr
    exact h.alone j r0 e1 (e3.trans ho) (e2.trans hf)
  · have := get_lt h.row
    rcases g.new j r (by omega) hr with h1 | h1 <;> omega

/-- A slice of numbers in rows of families in a..b. -/
def Held (a b : Nat) (m : Heap) (s : SV) (l : List Int) : Prop :=
  s.len = l.length ∧ ∀ i, i < l.length → ∃ r, m[s.ref.id]? = some r ∧ a ≤ r.fam ∧ r.fam < b ∧ s.off + i < r.vals.len ∧ r.vals.get (s.off + i) = .int .i64 (l.getD i 0)
theorem Held.isInts {a b : Nat} {m : Heap} {s : SV} {l : List Int} (h : Held a b m s l) : IsInts .i64 m s l :=
  ⟨h.1, fun i hi => by obtain ⟨r, h1, _, _, h4, h5⟩ := h.2 i hi; rw [at_row h1 h4, h5]⟩
theorem Held.grow {a b c d : Nat} {m m' : Heap} {s : SV} {l : List Int} (h : Held a b m s l) (g : Grow c d m m') (hd : b ≤ c ∨ d ≤ a) : Held a b m' s l :=
  ⟨h.1, fun i hi => by obtain ⟨r, h1, h2, h3, h4⟩ := h.2 i hi; exact ⟨r, g.keep _ _ h1 (by omega), h2, h3, h4⟩⟩
theorem Held.mono {a b a' b' : Nat} {m : Heap} {s : SV} {l : List Int} (h : Held a b m s l) (ha : a' ≤ a) (hb : b ≤ b') : Held a' b' m s l :=
  ⟨h.1, fun i hi => by obtain ⟨r, h1, h2, h3, h4⟩ := h.2 i hi; exact ⟨r, h1, by omega, by omega, h4⟩⟩
theorem Obj.held {e : TypeId} {a b : Nat} {m : Heap} {s : SV} {l : List Int} (h : Obj e a b m s (.ints .i64 l)) : Held a b m s l := by
  refine ⟨h.len, fun i hi => ?_⟩
  rcases h with ⟨_, h0⟩ | ⟨id, f, h1, h2, rfl, h4⟩
  · simp only [Vals.len] at h0; omega
  · exact ⟨_, h4, h1, h2, by simp only [Vals.len]; omega, by simp [Vals.get]⟩
theorem Held.take {a b : Nat} {m : Heap} {s : SV} {l : List Int} (h : Held a b m s l) {n : Nat} (hn : n ≤ l.length) : Held a b m ⟨s.ref, s.off, n⟩ (l.take n) := by
  refine ⟨by simp only [List.length_take]; omega, fun i hi => ?_⟩
  rw [List.length_take] at hi
  obtain ⟨r, h1, h2, h3, h4, h5⟩ := h.2 i (by omega)
  refine ⟨r, h1, h2, h3, h4, ?_⟩
  rw [h5]
  simp only [List.getD_eq_getElem?_getD, List.getElem?_take]
  rw [if_pos (by omega)]

end Go.Abs

/- The draws of one net; the laws' own counting. Own work; no condition. -/
set_option maxRecDepth 100000
set_option linter.unusedSimpArgs false
set_option linter.unusedVariables false
namespace Go.Abs
open Go.Proofs
attribute [local irreducible] awp awpOps awpKeep KeepK awpKeepF KeepF aloop ALoop ACalls ACallq AQuiet retPost retPostA AExit.thn AExit.blk aApp aSt aStA

end Go.Abs
