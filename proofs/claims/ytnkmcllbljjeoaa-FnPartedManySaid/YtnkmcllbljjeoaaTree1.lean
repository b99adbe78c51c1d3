/- The draw of a tree, and of a net that is often one. Own work; no condition. -/
import Derived.Test.YtnkmcllbljjeoaaDraw3
set_option maxRecDepth 100000
set_option linter.unusedSimpArgs false
set_option linter.unusedVariables false
namespace Go.Abs
open Go.Proofs
attribute [local irreducible] awp awpOps awpKeep KeepK aloop ALoop ACalls ACallq AQuiet retPost retPostA AExit.thn AExit.blk aApp aSt aStA

end Go.Abs
