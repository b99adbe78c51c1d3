/- The draws of one net; the laws' own counting. Own work; no condition. -/
import Derived.Test.YtcbnigipnepnkaaDraw2
import Derived.Test.YtcbnigipnepnkaaCount1
set_option maxRecDepth 100000
set_option linter.unusedSimpArgs false
set_option linter.unusedVariables false
namespace Go.Abs
open Go.Proofs
attribute [local irreducible] awp awpOps aloop ALoop ACalls ACallq AQuiet retPost retPostA AExit.thn AExit.blk aApp aSt aStA

theorem byte_range {l : List Int} (hw : ∀ z ∈ l, (Lit.int .u8 z).wf = true) (i : Nat) : 0 ≤ (l.getD i 0) ∧ (l.getD i 0) ≤ 255 := by
  by_cases hi : i < l.length
  · have h := hw l[i] (List.getElem_mem hi)
    rw [List.getD_eq_getElem?_getD, List.getElem?_eq_getElem hi]
    have h2 := Bool.and_eq_true_iff.1 h
    exact ⟨of_decide_eq_true h2.1, of_decide_eq_true h2.2⟩
  · rw [List.getD_eq_getElem?_getD, List.getElem?_eq_none (by omega)]
    simp

end Go.Abs
