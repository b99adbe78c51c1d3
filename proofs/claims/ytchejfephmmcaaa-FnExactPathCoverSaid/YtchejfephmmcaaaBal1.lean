/- Rows of noughts and ones: values and plain facts. Own work; no condition. -/
import Derived.Test.YtchejfephmmcaaaGrace3
set_option maxRecDepth 100000
set_option linter.unusedSimpArgs false
set_option linter.unusedVariables false
namespace Go.Abs
open Go.Proofs
attribute [local irreducible] awp awpOps awpKeep KeepK awpKeepF KeepF aloop ALoop ACalls ACallq AQuiet retPost retPostA AExit.thn AExit.blk aApp aSt aStA

/-- The number of a place: 1 if it is in a set. -/
def b01 (set : Int) (k : Nat) : Int := if bit set k then 1 else 0
def rowB (set : Int) (n : Nat) : List Int := (List.range n).map (b01 set)
/-- Is just one of two ends in a set, wire by wire? -/
def xo (a b : Int) : Int := (a + b) % 2
def unlikes (net : List Int) (set : Int) : List Int := perWire xo net (rowB set net.length)
def unlTo (net : List Int) (set : Int) (k : Nat) : Int := psum (unlikes net set) k
def unlike (net : List Int) (set : Int) : Int := unlTo net set (wires net).length
/-- A set of places of a net. -/
def Bits (net : List Int) (set : Int) : Prop := NetOk net ∧ 0 ≤ set ∧ set ≤ 2 ^ net.length - 1
instance (net : List Int) (set : Int) : Decidable (Bits net set) := by unfold Bits; infer_instance
def Bal (net : List Int) (set : Int) : Prop := Bits net set ∧ -2 < (net.length : Int) - 2 * (pc set.toNat : Int) ∧ (net.length : Int) - 2 * (pc set.toNat : Int) < 2
instance (net : List Int) (set : Int) : Decidable (Bal net set) := by unfold Bal; infer_instance
def Friend (net : List Int) (set : Int) : Prop := Bal net set ∧ -2 < (qOf net : Int) - 2 * unlike net set ∧ (qOf net : Int) - 2 * unlike net set < 2
instance (net : List Int) (set : Int) : Decidable (Friend net set) := by unfold Friend; infer_instance

theorem pow_cases {n : Nat} (h6 : n ≤ 6) : (1 : Int) ≤ 2 ^ n ∧ (2 : Int) ^ n ≤ 64 := by
  have hc : n = 0 ∨ n = 1 ∨ n = 2 ∨ n = 3 ∨ n = 4 ∨ n = 5 ∨ n = 6 := by omega
  rcases hc with rfl | rfl | rfl | rfl | rfl | rfl | rfl <;> decide
theorem Bits.lt {net : List Int} {set : Int} (h : Bits net set) : 0 ≤ set ∧ set < 64 := by
  have := pow_cases h.1.six
  have := h.2
  omega

/-! ### All other places -/

/-! ### The least number of some -/

/-- The least number below n that P holds of; -1 if there is none. -/
def firstTo (P : Nat → Prop) [DecidablePred P] : Nat → Int
  | 0 => -1
  | n + 1 => if 0 ≤ firstTo P n then firstTo P n else if P n then n else -1
theorem firstTo_none {P : Nat → Prop} [DecidablePred P] : ∀ {n : Nat}, (∀ k, k < n → ¬ P k) → firstTo P n = -1
  | 0, _ => rfl
  | n + 1, h => by
    unfold firstTo
    rw [firstTo_none (n := n) fun k hk => h k (by omega), if_neg (by decide), if_neg (h n (by omega))]
theorem firstTo_is {P : Nat → Prop} [DecidablePred P] {k : Nat} (hk : P k) (hl : ∀ j, j < k → ¬ P j) : ∀ {n : Nat}, k < n → firstTo P n = k
  | n + 1, h => by
    unfold firstTo
    by_cases e : k = n
    · subst e
      rw [firstTo_none hl, if_neg (by decide), if_pos hk]
    · rw [firstTo_is hk hl (n := n) (by omega), if_pos (by omega)]
/-! ### Gaps -/

def gapOf (net : List Int) (s : Nat) : Int := if (qOf net : Int) - 2 * unlike net s < 0 then -((qOf net : Int) - 2 * unlike net s) else (qOf net : Int) - 2 * unlike net s
def GapTo (net : List Int) (g n : Nat) : Prop := ∃ s, s < n ∧ Bal net (s : Int) ∧ gapOf net s = (g : Int)
instance (net : List Int) (g n : Nat) : Decidable (GapTo net g n) := by unfold GapTo; infer_instance
/-! ### The most -/

end Go.Abs
