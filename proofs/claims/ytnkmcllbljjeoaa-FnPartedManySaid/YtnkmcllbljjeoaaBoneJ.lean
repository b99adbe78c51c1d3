/- The program's own way to the backbone and the columns of a caterpillar, as plain functions, held against the model's at each tree. Own work; no condition. -/
import Derived.Test.YtnkmcllbljjeoaaBone6
set_option maxRecDepth 100000
set_option linter.unusedSimpArgs false
set_option linter.unusedVariables false
namespace Go.Abs
open Go.Proofs
attribute [local irreducible] awp awpOps awpKeep KeepK aloop ALoop ACalls ACallq AQuiet retPost retPostA AExit.thn AExit.blk aApp aSt aStA
open Parts

/-- The places of a set with at most one neighbour in it, of the first k. -/
noncomputable def ends (N S k : Nat) : Nat := @Nat.rec (fun _ => Nat) 0 (fun k ih => frc ih fun e => bif (bif has S k then Nat.ble (pc (Nat.land (row N k) S)) 1 else false) then Nat.add e (Nat.pow 2 k) else e) k
end Go.Abs
