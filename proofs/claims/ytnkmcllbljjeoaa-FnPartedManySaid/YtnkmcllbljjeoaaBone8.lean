/- The model's row of a caterpillar, by its contract. Own work; no condition. -/
import Derived.Test.YtnkmcllbljjeoaaBone6
set_option maxRecDepth 100000
set_option linter.unusedSimpArgs false
set_option linter.unusedVariables false
namespace Go.Abs
open Go.Proofs
attribute [local irreducible] awp awpOps awpKeep KeepK aloop ALoop ACalls ACallq AQuiet retPost retPostA AExit.thn AExit.blk aApp aSt aStA
open Parts

theorem Obj.low {e : TypeId} {a b : Nat} {m : Heap} {s : SV} {v : Vals} (h : Obj e a b m s v) (hwf : m.wf) : Obj e a m.length m s v := by
  rcases h with h | ⟨id, f, h1, h2, h3, h4⟩
  · exact .inl h
  · exact .inr ⟨id, f, h1, by have := hwf id _ h4; have := get_lt h4; simp only at *; omega, h3, h4⟩

end Go.Abs
