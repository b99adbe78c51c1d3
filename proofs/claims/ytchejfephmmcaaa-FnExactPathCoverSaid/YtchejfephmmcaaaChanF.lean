/- First fit of channels, gone through. Own work; no condition. -/
import Derived.Test.YtchejfephmmcaaaGrace4
import Derived.Test.YtchejfephmmcaaaOrd2
set_option maxRecDepth 100000
set_option linter.unusedSimpArgs false
set_option linter.unusedVariables false
namespace Go.Abs
open Go.Proofs
attribute [local irreducible] awp awpOps awpKeep KeepK awpKeepF KeepF aloop ALoop ACalls ACallq AQuiet retPost retPostA AExit.thn AExit.blk aApp aSt aStA
open Parts

/-! ### First fit, gone through -/

noncomputable def mxd (N k : Nat) : Nat := @Nat.rec (fun _ => Nat) 0 (fun k ih => frc ih fun D => frc (pc (row N k)) fun a => bif Nat.ble a D then D else a) k
end Go.Abs
