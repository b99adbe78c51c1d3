/- What is barred to a place at most, and that one of a net and its other net is one part, gone through. Own work; no condition. -/
import Derived.Test.YtchejfephmmcaaaChanF
set_option maxRecDepth 100000
set_option linter.unusedSimpArgs false
set_option linter.unusedVariables false
namespace Go.Abs
open Go.Proofs
attribute [local irreducible] awp awpOps awpKeep KeepK awpKeepF KeepF aloop ALoop ACalls ACallq AQuiet retPost retPostA AExit.thn AExit.blk aApp aSt aStA
open Parts

/-! ### What is gone through -/

/-- The number of the other net. -/
def otN (n N : Nat) : Nat := Nat.sub (Nat.sub (Nat.mul (Nat.sub (Nat.pow 2 n) 1) (Nat.div (Nat.sub (Nat.pow 256 n) 1) 255)) N) (Nat.div (Nat.sub (Nat.pow 512 n) 1) 511)
noncomputable def grdF (n N W : Nat) : Bool := bif (frc (mxd N n) fun D => bif Nat.ble D 2 then upto (fun a => Nat.ble (Nat.add (Nat.mul 3 (pc (row N a))) (pc (less (less (near N (row N a)) (Nat.pow 2 a)) (row N a)))) (Nat.mul D (Nat.add D 2))) n else true) then
  (bif Nat.beq (pm N 6 (Nat.sub (Nat.pow 2 n) 1) 0) 1 then true else frc (otN n N) fun M => Nat.beq (pm M 6 (Nat.sub (Nat.pow 2 n) 1) 0) 1) else false
theorem grdF1 : chkF grdF 1 0 0 0 = true := by decide +kernel
theorem grdF2 : chkF grdF 2 0 0 0 = true := by decide +kernel
theorem grdF3 : chkF grdF 3 0 0 0 = true := by decide +kernel
theorem grdF4 : chkF grdF 4 0 0 0 = true := by decide +kernel
theorem grdF5 : chkF grdF 5 0 0 0 = true := by decide +kernel
theorem grdF6 : chkF grdF 6 0 0 0 = true := by decide +kernel


end Go.Abs
