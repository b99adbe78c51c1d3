/- Each tree has a graceful row, and is not even: by going through all nets. Own work; no condition. -/
import Derived.Test.YtedainddipahaaaGrace3
import Derived.Test.YtedainddipahaaaPart2
import Derived.Test.YtedainddipahaaaPart4
set_option maxRecDepth 100000
set_option linter.unusedSimpArgs false
set_option linter.unusedVariables false
namespace Go.Abs
open Go.Proofs
attribute [local irreducible] awp awpOps awpKeep KeepK awpKeepF KeepF aloop ALoop ACalls ACallq AQuiet retPost retPostA AExit.thn AExit.blk aApp aSt aStA
open Parts

/-- The number of a place, of a row told by one number. -/
def lab (R k : Nat) : Nat := Nat.land (Nat.shiftRight R (Nat.mul 8 k)) 255
theorem has_tbit (x k : Nat) : has x k = x.testBit k := by
  unfold has
  have e : Nat.land (Nat.shiftRight x k) 1 = x / 2 ^ k % 2 := by
    show (x >>> k) &&& 1 = _
    rw [Nat.and_one_is_mod, Nat.shiftRight_eq_div_pow]
  rw [e, Nat.testBit_eq_decide_div_mod_eq]
  cases hb : Nat.beq (x / 2 ^ k % 2) 1 with
  | true => exact (decide_eq_true (Nat.eq_of_beq_eq_true hb)).symm
  | false => exact (decide_eq_false fun c => by rw [c] at hb; cases hb).symm

/-- The row that a number tells. -/
def labs (R n : Nat) : List Int := (List.range n).map fun k => (lab R k : Int)
theorem labs_len (R n : Nat) : (labs R n).length = n := by simp [labs]
theorem labs_get {R n k : Nat} (h : k < n) : (labs R n).getD k 0 = (lab R k : Int) := by simp [labs, List.getD_eq_getElem?_getD, h]
end Go.Abs
