/- ShapeNet of both, by contracts. Own work; no condition. -/
import Derived.Test.YtchejfephmmcaaaGrow
import Derived.Test.YtchejfephmmcaaaLaws0
import Derived.Test.YtchejfephmmcaaaWire2
import Derived.Test.YtchejfephmmcaaaSpecG2
set_option maxRecDepth 100000
set_option linter.unusedSimpArgs false
set_option linter.unusedVariables false
namespace Go.Abs
open Go.Proofs
attribute [local irreducible] awp awpOps awpKeep KeepK awpKeepF KeepF aloop ALoop ACalls ACallq AQuiet retPost retPostA AExit.thn AExit.blk aApp aSt aStA

def shapeOk (kind places : Int) : Prop := (0 ≤ kind ∧ kind ≤ 2) ∧ (1 ≤ places ∧ places ≤ 6) ∧ ¬ (kind = 1 ∧ places < 3)
instance (kind places : Int) : Decidable (shapeOk kind places) := by unfold shapeOk; infer_instance
end Go.Abs

/- The draw of a net of few wires. Own work; no condition. -/
set_option maxRecDepth 100000
set_option linter.unusedSimpArgs false
set_option linter.unusedVariables false
namespace Go.Abs
open Go.Proofs
attribute [local irreducible] awp awpOps awpKeep KeepK awpKeepF KeepF aloop ALoop ACalls ACallq AQuiet retPost retPostA AExit.thn AExit.blk aApp aSt aStA

end Go.Abs

/- The draws of chapter 3. Own work; no condition. -/
set_option maxRecDepth 100000
set_option linter.unusedSimpArgs false
set_option linter.unusedVariables false
namespace Go.Abs
open Go.Proofs
attribute [local irreducible] awp awpOps awpKeep KeepK awpKeepF KeepF aloop ALoop ACalls ACallq AQuiet retPost retPostA AExit.thn AExit.blk aApp aSt aStA

end Go.Abs
