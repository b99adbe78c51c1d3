/- Sides, place by place: what a pass does. Own work; no condition. -/
import Derived.Test.YtedainddipahaaaPart5
import Derived.Test.YtedainddipahaaaPart4
set_option maxRecDepth 100000
set_option linter.unusedSimpArgs false
set_option linter.unusedVariables false
namespace Go.Abs
open Go.Proofs
attribute [local irreducible] awp awpOps awpKeep KeepK awpKeepF KeepF aloop ALoop ACalls ACallq AQuiet retPost retPostA AExit.thn AExit.blk aApp aSt aStA
open Parts

theorem b63_tb : ∀ j, j < 6 → (63 : Nat).testBit j = true := by decide +kernel
theorem less_tb {x : Nat} (y : Nat) (hx : x < 64) (j : Nat) : (less x y).testBit j = (x.testBit j && !(y.testBit j)) := by
  have e : (less x y).testBit j = (x.testBit j && (y.testBit j ^^ (63 : Nat).testBit j)) := by
    show (x &&& (y ^^^ 63)).testBit j = _
    rw [Nat.testBit_and, Nat.testBit_xor]
  rw [e]
  by_cases hj : j < 6
  · rw [b63_tb j hj]; simp
  · rw [Nat.testBit_lt_two_pow (Nat.lt_of_lt_of_le hx (show 64 ≤ 2 ^ j from Nat.pow_le_pow_right (n := 2) (by decide) (by omega : 6 ≤ j)))]; simp
theorem lor_tb (x y j : Nat) : (Nat.lor x y).testBit j = (x.testBit j || y.testBit j) := Nat.testBit_or x y j

theorem nearTo_tb (net : List Int) (s j : Nat) : ∀ k, (nearTo net s k).testBit j = true ↔ ∃ i, i < k ∧ s.testBit i = true ∧ (nrow net i).testBit j = true
  | 0 => ⟨fun h => by simp [nearTo] at h, fun ⟨i, h, _⟩ => absurd h (Nat.not_lt_zero _)⟩
  | k + 1 => by
    have ih := nearTo_tb net s j k
    rw [nearTo]
    by_cases hb : s.testBit k = true
    · rw [if_pos hb, Nat.testBit_or, Bool.or_eq_true, ih]
      constructor
      · rintro (⟨i, h1, h2, h3⟩ | h)
        · exact ⟨i, by omega, h2, h3⟩
        · exact ⟨k, Nat.lt_succ_self _, hb, h⟩
      · rintro ⟨i, h1, h2, h3⟩
        rcases Nat.lt_succ_iff_lt_or_eq.1 h1 with h | rfl
        · exact .inl ⟨i, h, h2, h3⟩
        · exact .inr h3
    · rw [if_neg hb, ih]
      constructor
      · rintro ⟨i, h1, h2, h3⟩
        exact ⟨i, by omega, h2, h3⟩
      · rintro ⟨i, h1, h2, h3⟩
        rcases Nat.lt_succ_iff_lt_or_eq.1 h1 with h | rfl
        · exact ⟨i, h, h2, h3⟩
        · exact absurd h2 hb

theorem zero_of_tb {x : Nat} (h : ∀ j, x.testBit j = false) : x = 0 := Nat.eq_of_testBit_eq fun j => by rw [h j, Nat.zero_testBit]

end Go.Abs

/- Sides in the model, by a contract. Own work; no condition. -/
set_option maxRecDepth 100000
set_option linter.unusedSimpArgs false
set_option linter.unusedVariables false
namespace Go.Abs
open Go.Proofs
attribute [local irreducible] awp awpOps awpKeep KeepK awpKeepF KeepF aloop ALoop ACalls ACallq AQuiet retPost retPostA AExit.thn AExit.blk aApp aSt aStA
open Parts

theorem bit_nrow (net : List Int) (i j : Nat) : bit ((net.getD i 0)) j = (nrow net i).testBit j := by unfold bit nrow; rfl

end Go.Abs
