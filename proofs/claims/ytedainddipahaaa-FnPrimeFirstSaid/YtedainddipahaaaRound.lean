/- A row on a ring that has begun, as the program keeps it: its contracts. Own work; no condition. -/
import Derived.Test.YtedainddipahaaaImpl3
import Derived.Test.YtedainddipahaaaSpecH4
set_option maxRecDepth 100000
set_option linter.unusedSimpArgs false
set_option linter.unusedVariables false
namespace Go.Abs
open Go.Proofs
attribute [local irreducible] awp awpOps awpKeep KeepK awpKeepF KeepF aloop ALoop ACalls ACallq AQuiet retPost retPostA AExit.thn AExit.blk aApp aSt aStA

/-! ### Pairs alike -/

def alike (row : List Int) (n : Int) : Int := sig row.length fun j => if (row.getD j 0) = n then 1 else 0
/-! ### The remainders that come with a number -/

/-! ### The row that has begun -/

end Go.Abs
