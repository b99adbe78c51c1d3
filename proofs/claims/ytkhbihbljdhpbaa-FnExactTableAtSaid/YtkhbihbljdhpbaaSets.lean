/- Sets and nets by a test of two places. Own work; no condition. -/
import Derived.Test.YtkhbihbljdhpbaaWire2
set_option maxRecDepth 100000
set_option linter.unusedSimpArgs false
set_option linter.unusedVariables false
namespace Go.Abs
open Go.Proofs
attribute [local irreducible] awp awpOps awpKeep KeepK awpKeepF KeepF aloop ALoop ACalls ACallq AQuiet retPost retPostA AExit.thn AExit.blk aApp aSt aStA

theorem bit_cast (x j : Nat) : bit (x : Int) j = x.testBit j := by unfold bit; rfl

/-! ### Sets by a test -/

def setN (f : Nat → Bool) : Nat → Nat
  | 0 => 0
  | k + 1 => if f k = true then setN f k ||| 2 ^ k else setN f k
theorem setN_step (f : Nat → Bool) (k : Nat) : setN f (k + 1) = if f k = true then setN f k ||| 2 ^ k else setN f k := rfl
theorem setN_lt (f : Nat → Bool) : ∀ n, setN f n < 2 ^ n
  | 0 => Nat.lt_succ_self 0
  | n + 1 => by
    have ih := setN_lt f n
    have h2 : 2 ^ n < 2 ^ (n + 1) := Nat.pow_lt_pow_right (by decide) (Nat.lt_succ_self n)
    rw [setN_step]
    split
    · exact Nat.or_lt_two_pow (by omega) h2
    · omega
theorem setN_bit (f : Nat → Bool) (j : Nat) : ∀ n, (setN f n).testBit j = (decide (j < n) && f j)
  | 0 => by simp [setN]
  | n + 1 => by
    have ih := setN_bit f j n
    rw [setN_step]
    by_cases c : j = n
    · subst c
      split
      · next h => rw [Nat.testBit_or, Nat.testBit_two_pow_self, h]; simp
      · next h => rw [ih, Bool.eq_false_iff.2 h]; simp
    · have hd : decide (j < n + 1) = decide (j < n) := decide_eq_decide.2 (by omega)
      split
      · rw [Nat.testBit_or, Nat.testBit_two_pow_of_ne (by omega), Bool.or_false, ih, hd]
      · rw [ih, hd]
theorem setN_congr {f g : Nat → Bool} : ∀ {n : Nat}, (∀ k, k < n → f k = g k) → setN f n = setN g n
  | 0, _ => rfl
  | n + 1, h => by rw [setN_step, setN_step, setN_congr fun k hk => h k (by omega), h n (Nat.lt_succ_self n)]
theorem pc_all_but : ∀ n, n < 7 → ∀ k, k < n → pc (setN (fun j => decide (j ≠ k)) n) + 1 = n := by decide +kernel

/-- The net of `n` places by a test of two places. -/
def netBy (f : Nat → Nat → Bool) (n : Nat) : List Int := (List.range n).map fun k => (setN (f k) n : Int)
theorem netBy_len (f : Nat → Nat → Bool) (n : Nat) : (netBy f n).length = n := by simp [netBy]
theorem netBy_get (f : Nat → Nat → Bool) {n k : Nat} (hk : k < n) : (netBy f n).getD k 0 = (setN (f k) n : Int) := by
  simp [netBy, List.getD_eq_getElem?_getD, hk]
theorem netBy_bit (f : Nat → Nat → Bool) {n k j : Nat} (hk : k < n) (hj : j < n) : bit ((netBy f n).getD k 0) j = f k j := by
  rw [netBy_get f hk, bit_cast, setN_bit, decide_eq_true hj, Bool.true_and]
theorem netBy_ok {f : Nat → Nat → Bool} {n : Nat} (h1 : 1 ≤ n) (h6 : n ≤ 6) (hown : ∀ k, k < n → f k k = false) (hsym : ∀ k j, k < n → j < n → f k j = f j k) : NetOk (netBy f n) := by
  have hl := netBy_len f n
  refine ⟨by rw [hl]; exact h1, by rw [hl]; exact h6, fun k hk => ?_, fun k hk => ?_, fun k hk => ?_, fun k hk j hj => ?_⟩
  · rw [hl] at hk; show 0 ≤ (netBy f n).getD k 0; rw [netBy_get f hk]; exact Int.natCast_nonneg _
  · rw [hl] at hk; rw [hl]; show (netBy f n).getD k 0 < _; rw [netBy_get f hk]
    have := setN_lt (f k) n
    have h2 : (2 : Int) ^ n = ((2 ^ n : Nat) : Int) := by simp
    rw [h2]; omega
  · rw [hl] at hk; exact (netBy_bit f hk hk).trans (hown k hk)
  · rw [hl] at hk
    show bit ((netBy f n).getD k 0) j = bit ((netBy f n).getD j 0) k
    rw [netBy_bit f hk (by omega), netBy_bit f (by omega) hk, hsym k j hk (by omega)]

end Go.Abs
