/- What is known of a tree. Own work; no condition. -/
import Derived.Test.YtmiaggnlchfiiaaPart5
import Derived.Test.YtmiaggnlchfiiaaCut1
set_option maxRecDepth 100000
set_option linter.unusedSimpArgs false
set_option linter.unusedVariables false
namespace Go.Abs
open Go.Proofs
attribute [local irreducible] awp awpOps aloop ALoop ACalls ACallq AQuiet retPost AExit.thn AExit.blk aApp aSt
open Parts

/-- What is known of a tree. -/
theorem tree_use {net : List Int} (h : treeOk net = true) : NetOk net ∧ 0 ≤ sidesOf net ∧ sidesOf net % 2 = 1 ∧ ∀ a b, a < b → b < net.length → bit ((net.getD a 0)) b = true → partMany (less2 net a b) = 2 := by
  obtain ⟨hN, h1, h2⟩ := of_decide_eq_true h
  obtain ⟨_, _, _, _, _, _, q7, q8⟩ := fact_use (all_fact hN)
  have h6 := hN.six
  rw [partMany, if_pos hN] at h1
  rw [wiresOf, if_pos hN] at h2
  obtain ⟨d1, d2⟩ := q8 (by omega) (by have := hN.pos; omega)
  refine ⟨hN, ?_, ?_, fun a b hab hb hw => ?_⟩
  · rw [sidesOf, if_pos hN, if_neg d1]; omega
  · rw [sidesOf, if_pos hN, if_neg d1]
    rcases q7 with e | ⟨e, _⟩
    · exact absurd e d1
    · omega
  · have hY := less2_yes hN (show a < net.length by omega) hb (by omega) hw
    rw [partMany, if_pos hY, less2_len, pk_less2 hN (by omega) hb hab hw]
    have hh : has (row (pk net) a) b = true := by
      rw [row_pk hN (by omega), has_bit']
      unfold bit at hw
      exact hw
    rw [cuts_use d2 hab hb hh]
    rfl

end Go.Abs
