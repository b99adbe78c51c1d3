/- The model's harmonious rows, by contracts. Own work; no condition. -/
import Derived.Test.YtedainddipahaaaSpecH2
import Derived.Test.YtedainddipahaaaHarm2
set_option maxRecDepth 100000
set_option linter.unusedSimpArgs false
set_option linter.unusedVariables false
namespace Go.Abs
open Go.Proofs
attribute [local irreducible] awp awpOps awpKeep KeepK awpKeepF KeepF aloop ALoop ACalls ACallq AQuiet retPost retPostA AExit.thn AExit.blk aApp aSt aStA

end Go.Abs
