/-
  No cell of these rows narrows 'for every input' (looked for: loops, veiled, ifaces, maps, wideKeys, modest, calm, conditions, laid).
  DERIVED. THE GIVEN ROWS OF THIS SEAT. 22 by the template 'for every input the law returns true; each argument reads behind the call as it read before'; 0 by the template 'total and deterministic' (their statements: YtmiaggnlchfiiaaTotals.lean).
  GIVEN WITH THE SEED: the statements are not yours to turn. If you find one false, say at which input.
  Laid BY PROGRAM, IN A SANDBOX (cutbox-rows.mjs): the forced cells as the released guide's own fill.sh prints them over the translation 1c801c9dea80d696… (all of the seat's roots in one cut). By AI agents, Wed Nov 11 2026. No macro, syntax, notation, axiom, sorry.
-/
import Derived.Test.YtmiaggnlchfiiaaChecked
import GoSem.Claim
import GoSem.ClaimJoined
import GoSem.ClaimMapViews
import Derived.JoinedTies
import Derived.KernelRfl
namespace Go.Proofs.Ytmiaggnlchfiiaa
/- THE CELL 'sum', in the pinned program and in every row, IS THE sha256 OF THE DUMP (.gsa) THAT YtmiaggnlchfiiaaProg.lean LOADS. Nothing in Lean hashes anything: it is a label: what it is worth is what the hold of that sum in a sandbox is worth. -/
noncomputable def Try.pinned : Pinned := { name := "ytmiaggnlchfiiaa", sum := "1c801c9dea80d6967c560013b93a12049cfd0cb2c3c545a362a20bd659223b5f", checked := Try.checked }
namespace Rows
def none {H : Type} : Left H := { results := [], args := [] }

/-- 'laws.FnNetOk': WHATEVER THE INPUT: true; the input reads as it did. -/
def fnNetOkSpec : ChangeSpec := { name := "fnNetOk", fn := fun _ => fun
  | [d] => { results := [.lit (.bool true)], args := [d] }
  | _ => none }
def fnNetOkRow : OpenClaim := { program := "ytmiaggnlchfiiaa", sum := "1c801c9dea80d6967c560013b93a12049cfd0cb2c3c545a362a20bd659223b5f", func := "loop.example/labelnets/laws.FnNetOk", spec := "fnNetOk", apart := false }
def FnNetOkSaid : Prop := fnNetOkRow.holds Try.pinned (OpenSpec.ofChange fnNetOkSpec)

/-- ITS FALSE NEIGHBOUR: 'it returns false'. Refute it at one input. -/
def fnNetOkWrong : ChangeSpec := { name := "fnNetOk", fn := fun _ => fun
  | [d] => { results := [.lit (.bool false)], args := [d] }
  | _ => none }
def FnNetOkWrongFalsely : Prop := fnNetOkRow.holds Try.pinned (OpenSpec.ofChange fnNetOkWrong)

/-- 'laws.FnPartMany': WHATEVER THE INPUT: true; the input reads as it did. -/
def fnPartManySpec : ChangeSpec := { name := "fnPartMany", fn := fun _ => fun
  | [d] => { results := [.lit (.bool true)], args := [d] }
  | _ => none }
def fnPartManyRow : OpenClaim := { program := "ytmiaggnlchfiiaa", sum := "1c801c9dea80d6967c560013b93a12049cfd0cb2c3c545a362a20bd659223b5f", func := "loop.example/labelnets/laws.FnPartMany", spec := "fnPartMany", apart := false }
def FnPartManySaid : Prop := fnPartManyRow.holds Try.pinned (OpenSpec.ofChange fnPartManySpec)

/-- ITS FALSE NEIGHBOUR: 'it returns false'. Refute it at one input. -/
def fnPartManyWrong : ChangeSpec := { name := "fnPartMany", fn := fun _ => fun
  | [d] => { results := [.lit (.bool false)], args := [d] }
  | _ => none }
def FnPartManyWrongFalsely : Prop := fnPartManyRow.holds Try.pinned (OpenSpec.ofChange fnPartManyWrong)

/-- 'laws.FnTreeOk': WHATEVER THE INPUT: true; the input reads as it did. -/
def fnTreeOkSpec : ChangeSpec := { name := "fnTreeOk", fn := fun _ => fun
  | [d] => { results := [.lit (.bool true)], args := [d] }
  | _ => none }
def fnTreeOkRow : OpenClaim := { program := "ytmiaggnlchfiiaa", sum := "1c801c9dea80d6967c560013b93a12049cfd0cb2c3c545a362a20bd659223b5f", func := "loop.example/labelnets/laws.FnTreeOk", spec := "fnTreeOk", apart := false }
def FnTreeOkSaid : Prop := fnTreeOkRow.holds Try.pinned (OpenSpec.ofChange fnTreeOkSpec)

/-- ITS FALSE NEIGHBOUR: 'it returns false'. Refute it at one input. -/
def fnTreeOkWrong : ChangeSpec := { name := "fnTreeOk", fn := fun _ => fun
  | [d] => { results := [.lit (.bool false)], args := [d] }
  | _ => none }
def FnTreeOkWrongFalsely : Prop := fnTreeOkRow.holds Try.pinned (OpenSpec.ofChange fnTreeOkWrong)

/-- 'laws.FnSidesOf': WHATEVER THE INPUT: true; the input reads as it did. -/
def fnSidesOfSpec : ChangeSpec := { name := "fnSidesOf", fn := fun _ => fun
  | [d] => { results := [.lit (.bool true)], args := [d] }
  | _ => none }
def fnSidesOfRow : OpenClaim := { program := "ytmiaggnlchfiiaa", sum := "1c801c9dea80d6967c560013b93a12049cfd0cb2c3c545a362a20bd659223b5f", func := "loop.example/labelnets/laws.FnSidesOf", spec := "fnSidesOf", apart := false }
def FnSidesOfSaid : Prop := fnSidesOfRow.holds Try.pinned (OpenSpec.ofChange fnSidesOfSpec)

/-- ITS FALSE NEIGHBOUR: 'it returns false'. Refute it at one input. -/
def fnSidesOfWrong : ChangeSpec := { name := "fnSidesOf", fn := fun _ => fun
  | [d] => { results := [.lit (.bool false)], args := [d] }
  | _ => none }
def FnSidesOfWrongFalsely : Prop := fnSidesOfRow.holds Try.pinned (OpenSpec.ofChange fnSidesOfWrong)

/-- 'laws.FnShapeNet': WHATEVER THE INPUT: true; the input reads as it did. -/
def fnShapeNetSpec : ChangeSpec := { name := "fnShapeNet", fn := fun _ => fun
  | [d] => { results := [.lit (.bool true)], args := [d] }
  | _ => none }
def fnShapeNetRow : OpenClaim := { program := "ytmiaggnlchfiiaa", sum := "1c801c9dea80d6967c560013b93a12049cfd0cb2c3c545a362a20bd659223b5f", func := "loop.example/labelnets/laws.FnShapeNet", spec := "fnShapeNet", apart := false }
def FnShapeNetSaid : Prop := fnShapeNetRow.holds Try.pinned (OpenSpec.ofChange fnShapeNetSpec)

/-- ITS FALSE NEIGHBOUR: 'it returns false'. Refute it at one input. -/
def fnShapeNetWrong : ChangeSpec := { name := "fnShapeNet", fn := fun _ => fun
  | [d] => { results := [.lit (.bool false)], args := [d] }
  | _ => none }
def FnShapeNetWrongFalsely : Prop := fnShapeNetRow.holds Try.pinned (OpenSpec.ofChange fnShapeNetWrong)

/-- 'laws.FnRowOk': WHATEVER THE INPUT: true; the input reads as it did. -/
def fnRowOkSpec : ChangeSpec := { name := "fnRowOk", fn := fun _ => fun
  | [d] => { results := [.lit (.bool true)], args := [d] }
  | _ => none }
def fnRowOkRow : OpenClaim := { program := "ytmiaggnlchfiiaa", sum := "1c801c9dea80d6967c560013b93a12049cfd0cb2c3c545a362a20bd659223b5f", func := "loop.example/labelnets/laws.FnRowOk", spec := "fnRowOk", apart := false }
def FnRowOkSaid : Prop := fnRowOkRow.holds Try.pinned (OpenSpec.ofChange fnRowOkSpec)

/-- ITS FALSE NEIGHBOUR: 'it returns false'. Refute it at one input. -/
def fnRowOkWrong : ChangeSpec := { name := "fnRowOk", fn := fun _ => fun
  | [d] => { results := [.lit (.bool false)], args := [d] }
  | _ => none }
def FnRowOkWrongFalsely : Prop := fnRowOkRow.holds Try.pinned (OpenSpec.ofChange fnRowOkWrong)

/-- 'laws.FnRowOnceOk': WHATEVER THE INPUT: true; the input reads as it did. -/
def fnRowOnceOkSpec : ChangeSpec := { name := "fnRowOnceOk", fn := fun _ => fun
  | [d] => { results := [.lit (.bool true)], args := [d] }
  | _ => none }
def fnRowOnceOkRow : OpenClaim := { program := "ytmiaggnlchfiiaa", sum := "1c801c9dea80d6967c560013b93a12049cfd0cb2c3c545a362a20bd659223b5f", func := "loop.example/labelnets/laws.FnRowOnceOk", spec := "fnRowOnceOk", apart := false }
def FnRowOnceOkSaid : Prop := fnRowOnceOkRow.holds Try.pinned (OpenSpec.ofChange fnRowOnceOkSpec)

/-- ITS FALSE NEIGHBOUR: 'it returns false'. Refute it at one input. -/
def fnRowOnceOkWrong : ChangeSpec := { name := "fnRowOnceOk", fn := fun _ => fun
  | [d] => { results := [.lit (.bool false)], args := [d] }
  | _ => none }
def FnRowOnceOkWrongFalsely : Prop := fnRowOnceOkRow.holds Try.pinned (OpenSpec.ofChange fnRowOnceOkWrong)

/-- 'laws.FnDifferences': WHATEVER THE INPUT: true; the input reads as it did. -/
def fnDifferencesSpec : ChangeSpec := { name := "fnDifferences", fn := fun _ => fun
  | [d] => { results := [.lit (.bool true)], args := [d] }
  | _ => none }
def fnDifferencesRow : OpenClaim := { program := "ytmiaggnlchfiiaa", sum := "1c801c9dea80d6967c560013b93a12049cfd0cb2c3c545a362a20bd659223b5f", func := "loop.example/labelnets/laws.FnDifferences", spec := "fnDifferences", apart := false }
def FnDifferencesSaid : Prop := fnDifferencesRow.holds Try.pinned (OpenSpec.ofChange fnDifferencesSpec)

/-- ITS FALSE NEIGHBOUR: 'it returns false'. Refute it at one input. -/
def fnDifferencesWrong : ChangeSpec := { name := "fnDifferences", fn := fun _ => fun
  | [d] => { results := [.lit (.bool false)], args := [d] }
  | _ => none }
def FnDifferencesWrongFalsely : Prop := fnDifferencesRow.holds Try.pinned (OpenSpec.ofChange fnDifferencesWrong)

/-- 'laws.FnSums': WHATEVER THE INPUT: true; the input reads as it did. -/
def fnSumsSpec : ChangeSpec := { name := "fnSums", fn := fun _ => fun
  | [d] => { results := [.lit (.bool true)], args := [d] }
  | _ => none }
def fnSumsRow : OpenClaim := { program := "ytmiaggnlchfiiaa", sum := "1c801c9dea80d6967c560013b93a12049cfd0cb2c3c545a362a20bd659223b5f", func := "loop.example/labelnets/laws.FnSums", spec := "fnSums", apart := false }
def FnSumsSaid : Prop := fnSumsRow.holds Try.pinned (OpenSpec.ofChange fnSumsSpec)

/-- ITS FALSE NEIGHBOUR: 'it returns false'. Refute it at one input. -/
def fnSumsWrong : ChangeSpec := { name := "fnSums", fn := fun _ => fun
  | [d] => { results := [.lit (.bool false)], args := [d] }
  | _ => none }
def FnSumsWrongFalsely : Prop := fnSumsRow.holds Try.pinned (OpenSpec.ofChange fnSumsWrong)

/-- 'laws.FnTurnedRow': WHATEVER THE INPUT: true; the input reads as it did. -/
def fnTurnedRowSpec : ChangeSpec := { name := "fnTurnedRow", fn := fun _ => fun
  | [d] => { results := [.lit (.bool true)], args := [d] }
  | _ => none }
def fnTurnedRowRow : OpenClaim := { program := "ytmiaggnlchfiiaa", sum := "1c801c9dea80d6967c560013b93a12049cfd0cb2c3c545a362a20bd659223b5f", func := "loop.example/labelnets/laws.FnTurnedRow", spec := "fnTurnedRow", apart := false }
def FnTurnedRowSaid : Prop := fnTurnedRowRow.holds Try.pinned (OpenSpec.ofChange fnTurnedRowSpec)

/-- ITS FALSE NEIGHBOUR: 'it returns false'. Refute it at one input. -/
def fnTurnedRowWrong : ChangeSpec := { name := "fnTurnedRow", fn := fun _ => fun
  | [d] => { results := [.lit (.bool false)], args := [d] }
  | _ => none }
def FnTurnedRowWrongFalsely : Prop := fnTurnedRowRow.holds Try.pinned (OpenSpec.ofChange fnTurnedRowWrong)

/-- 'laws.FnMovedRow': WHATEVER THE INPUT: true; the input reads as it did. -/
def fnMovedRowSpec : ChangeSpec := { name := "fnMovedRow", fn := fun _ => fun
  | [d] => { results := [.lit (.bool true)], args := [d] }
  | _ => none }
def fnMovedRowRow : OpenClaim := { program := "ytmiaggnlchfiiaa", sum := "1c801c9dea80d6967c560013b93a12049cfd0cb2c3c545a362a20bd659223b5f", func := "loop.example/labelnets/laws.FnMovedRow", spec := "fnMovedRow", apart := false }
def FnMovedRowSaid : Prop := fnMovedRowRow.holds Try.pinned (OpenSpec.ofChange fnMovedRowSpec)

/-- ITS FALSE NEIGHBOUR: 'it returns false'. Refute it at one input. -/
def fnMovedRowWrong : ChangeSpec := { name := "fnMovedRow", fn := fun _ => fun
  | [d] => { results := [.lit (.bool false)], args := [d] }
  | _ => none }
def FnMovedRowWrongFalsely : Prop := fnMovedRowRow.holds Try.pinned (OpenSpec.ofChange fnMovedRowWrong)

/-- 'laws.FnExactWireList': WHATEVER THE INPUT: true; the input reads as it did. -/
def fnExactWireListSpec : ChangeSpec := { name := "fnExactWireList", fn := fun _ => fun
  | [d] => { results := [.lit (.bool true)], args := [d] }
  | _ => none }
def fnExactWireListRow : OpenClaim := { program := "ytmiaggnlchfiiaa", sum := "1c801c9dea80d6967c560013b93a12049cfd0cb2c3c545a362a20bd659223b5f", func := "loop.example/labelnets/laws.FnExactWireList", spec := "fnExactWireList", apart := false }
def FnExactWireListSaid : Prop := fnExactWireListRow.holds Try.pinned (OpenSpec.ofChange fnExactWireListSpec)

/-- ITS FALSE NEIGHBOUR: 'it returns false'. Refute it at one input. -/
def fnExactWireListWrong : ChangeSpec := { name := "fnExactWireList", fn := fun _ => fun
  | [d] => { results := [.lit (.bool false)], args := [d] }
  | _ => none }
def FnExactWireListWrongFalsely : Prop := fnExactWireListRow.holds Try.pinned (OpenSpec.ofChange fnExactWireListWrong)

/-- 'laws.FnExactPartMany': WHATEVER THE INPUT: true; the input reads as it did. -/
def fnExactPartManySpec : ChangeSpec := { name := "fnExactPartMany", fn := fun _ => fun
  | [d] => { results := [.lit (.bool true)], args := [d] }
  | _ => none }
def fnExactPartManyRow : OpenClaim := { program := "ytmiaggnlchfiiaa", sum := "1c801c9dea80d6967c560013b93a12049cfd0cb2c3c545a362a20bd659223b5f", func := "loop.example/labelnets/laws.FnExactPartMany", spec := "fnExactPartMany", apart := false }
def FnExactPartManySaid : Prop := fnExactPartManyRow.holds Try.pinned (OpenSpec.ofChange fnExactPartManySpec)

/-- ITS FALSE NEIGHBOUR: 'it returns false'. Refute it at one input. -/
def fnExactPartManyWrong : ChangeSpec := { name := "fnExactPartMany", fn := fun _ => fun
  | [d] => { results := [.lit (.bool false)], args := [d] }
  | _ => none }
def FnExactPartManyWrongFalsely : Prop := fnExactPartManyRow.holds Try.pinned (OpenSpec.ofChange fnExactPartManyWrong)

/-- 'laws.FnExactTreeOk': WHATEVER THE INPUT: true; the input reads as it did. -/
def fnExactTreeOkSpec : ChangeSpec := { name := "fnExactTreeOk", fn := fun _ => fun
  | [d] => { results := [.lit (.bool true)], args := [d] }
  | _ => none }
def fnExactTreeOkRow : OpenClaim := { program := "ytmiaggnlchfiiaa", sum := "1c801c9dea80d6967c560013b93a12049cfd0cb2c3c545a362a20bd659223b5f", func := "loop.example/labelnets/laws.FnExactTreeOk", spec := "fnExactTreeOk", apart := false }
def FnExactTreeOkSaid : Prop := fnExactTreeOkRow.holds Try.pinned (OpenSpec.ofChange fnExactTreeOkSpec)

/-- ITS FALSE NEIGHBOUR: 'it returns false'. Refute it at one input. -/
def fnExactTreeOkWrong : ChangeSpec := { name := "fnExactTreeOk", fn := fun _ => fun
  | [d] => { results := [.lit (.bool false)], args := [d] }
  | _ => none }
def FnExactTreeOkWrongFalsely : Prop := fnExactTreeOkRow.holds Try.pinned (OpenSpec.ofChange fnExactTreeOkWrong)

/-- 'laws.FnExactSidesOf': WHATEVER THE INPUT: true; the input reads as it did. -/
def fnExactSidesOfSpec : ChangeSpec := { name := "fnExactSidesOf", fn := fun _ => fun
  | [d] => { results := [.lit (.bool true)], args := [d] }
  | _ => none }
def fnExactSidesOfRow : OpenClaim := { program := "ytmiaggnlchfiiaa", sum := "1c801c9dea80d6967c560013b93a12049cfd0cb2c3c545a362a20bd659223b5f", func := "loop.example/labelnets/laws.FnExactSidesOf", spec := "fnExactSidesOf", apart := false }
def FnExactSidesOfSaid : Prop := fnExactSidesOfRow.holds Try.pinned (OpenSpec.ofChange fnExactSidesOfSpec)

/-- ITS FALSE NEIGHBOUR: 'it returns false'. Refute it at one input. -/
def fnExactSidesOfWrong : ChangeSpec := { name := "fnExactSidesOf", fn := fun _ => fun
  | [d] => { results := [.lit (.bool false)], args := [d] }
  | _ => none }
def FnExactSidesOfWrongFalsely : Prop := fnExactSidesOfRow.holds Try.pinned (OpenSpec.ofChange fnExactSidesOfWrong)

/-- 'laws.FnExactShapeNet': WHATEVER THE INPUT: true; the input reads as it did. -/
def fnExactShapeNetSpec : ChangeSpec := { name := "fnExactShapeNet", fn := fun _ => fun
  | [d1, d2] => { results := [.lit (.bool true)], args := [d1, d2] }
  | _ => none }
def fnExactShapeNetRow : OpenClaim := { program := "ytmiaggnlchfiiaa", sum := "1c801c9dea80d6967c560013b93a12049cfd0cb2c3c545a362a20bd659223b5f", func := "loop.example/labelnets/laws.FnExactShapeNet", spec := "fnExactShapeNet", apart := false }
def FnExactShapeNetSaid : Prop := fnExactShapeNetRow.holds Try.pinned (OpenSpec.ofChange fnExactShapeNetSpec)

/-- ITS FALSE NEIGHBOUR: 'it returns false'. Refute it at one input. -/
def fnExactShapeNetWrong : ChangeSpec := { name := "fnExactShapeNet", fn := fun _ => fun
  | [d1, d2] => { results := [.lit (.bool false)], args := [d1, d2] }
  | _ => none }
def FnExactShapeNetWrongFalsely : Prop := fnExactShapeNetRow.holds Try.pinned (OpenSpec.ofChange fnExactShapeNetWrong)

/-- 'laws.FnExactRowOk': WHATEVER THE INPUT: true; the input reads as it did. -/
def fnExactRowOkSpec : ChangeSpec := { name := "fnExactRowOk", fn := fun _ => fun
  | [d1, d2] => { results := [.lit (.bool true)], args := [d1, d2] }
  | _ => none }
def fnExactRowOkRow : OpenClaim := { program := "ytmiaggnlchfiiaa", sum := "1c801c9dea80d6967c560013b93a12049cfd0cb2c3c545a362a20bd659223b5f", func := "loop.example/labelnets/laws.FnExactRowOk", spec := "fnExactRowOk", apart := false }
def FnExactRowOkSaid : Prop := fnExactRowOkRow.holds Try.pinned (OpenSpec.ofChange fnExactRowOkSpec)

/-- ITS FALSE NEIGHBOUR: 'it returns false'. Refute it at one input. -/
def fnExactRowOkWrong : ChangeSpec := { name := "fnExactRowOk", fn := fun _ => fun
  | [d1, d2] => { results := [.lit (.bool false)], args := [d1, d2] }
  | _ => none }
def FnExactRowOkWrongFalsely : Prop := fnExactRowOkRow.holds Try.pinned (OpenSpec.ofChange fnExactRowOkWrong)

/-- 'laws.FnExactRowOnceOk': WHATEVER THE INPUT: true; the input reads as it did. -/
def fnExactRowOnceOkSpec : ChangeSpec := { name := "fnExactRowOnceOk", fn := fun _ => fun
  | [d1, d2] => { results := [.lit (.bool true)], args := [d1, d2] }
  | _ => none }
def fnExactRowOnceOkRow : OpenClaim := { program := "ytmiaggnlchfiiaa", sum := "1c801c9dea80d6967c560013b93a12049cfd0cb2c3c545a362a20bd659223b5f", func := "loop.example/labelnets/laws.FnExactRowOnceOk", spec := "fnExactRowOnceOk", apart := false }
def FnExactRowOnceOkSaid : Prop := fnExactRowOnceOkRow.holds Try.pinned (OpenSpec.ofChange fnExactRowOnceOkSpec)

/-- ITS FALSE NEIGHBOUR: 'it returns false'. Refute it at one input. -/
def fnExactRowOnceOkWrong : ChangeSpec := { name := "fnExactRowOnceOk", fn := fun _ => fun
  | [d1, d2] => { results := [.lit (.bool false)], args := [d1, d2] }
  | _ => none }
def FnExactRowOnceOkWrongFalsely : Prop := fnExactRowOnceOkRow.holds Try.pinned (OpenSpec.ofChange fnExactRowOnceOkWrong)

/-- 'laws.FnExactDifferences': WHATEVER THE INPUT: true; the input reads as it did. -/
def fnExactDifferencesSpec : ChangeSpec := { name := "fnExactDifferences", fn := fun _ => fun
  | [d1, d2] => { results := [.lit (.bool true)], args := [d1, d2] }
  | _ => none }
def fnExactDifferencesRow : OpenClaim := { program := "ytmiaggnlchfiiaa", sum := "1c801c9dea80d6967c560013b93a12049cfd0cb2c3c545a362a20bd659223b5f", func := "loop.example/labelnets/laws.FnExactDifferences", spec := "fnExactDifferences", apart := false }
def FnExactDifferencesSaid : Prop := fnExactDifferencesRow.holds Try.pinned (OpenSpec.ofChange fnExactDifferencesSpec)

/-- ITS FALSE NEIGHBOUR: 'it returns false'. Refute it at one input. -/
def fnExactDifferencesWrong : ChangeSpec := { name := "fnExactDifferences", fn := fun _ => fun
  | [d1, d2] => { results := [.lit (.bool false)], args := [d1, d2] }
  | _ => none }
def FnExactDifferencesWrongFalsely : Prop := fnExactDifferencesRow.holds Try.pinned (OpenSpec.ofChange fnExactDifferencesWrong)

/-- 'laws.FnExactSums': WHATEVER THE INPUT: true; the input reads as it did. -/
def fnExactSumsSpec : ChangeSpec := { name := "fnExactSums", fn := fun _ => fun
  | [d1, d2] => { results := [.lit (.bool true)], args := [d1, d2] }
  | _ => none }
def fnExactSumsRow : OpenClaim := { program := "ytmiaggnlchfiiaa", sum := "1c801c9dea80d6967c560013b93a12049cfd0cb2c3c545a362a20bd659223b5f", func := "loop.example/labelnets/laws.FnExactSums", spec := "fnExactSums", apart := false }
def FnExactSumsSaid : Prop := fnExactSumsRow.holds Try.pinned (OpenSpec.ofChange fnExactSumsSpec)

/-- ITS FALSE NEIGHBOUR: 'it returns false'. Refute it at one input. -/
def fnExactSumsWrong : ChangeSpec := { name := "fnExactSums", fn := fun _ => fun
  | [d1, d2] => { results := [.lit (.bool false)], args := [d1, d2] }
  | _ => none }
def FnExactSumsWrongFalsely : Prop := fnExactSumsRow.holds Try.pinned (OpenSpec.ofChange fnExactSumsWrong)

/-- 'laws.FnExactTurnedRow': WHATEVER THE INPUT: true; the input reads as it did. -/
def fnExactTurnedRowSpec : ChangeSpec := { name := "fnExactTurnedRow", fn := fun _ => fun
  | [d1, d2, d3] => { results := [.lit (.bool true)], args := [d1, d2, d3] }
  | _ => none }
def fnExactTurnedRowRow : OpenClaim := { program := "ytmiaggnlchfiiaa", sum := "1c801c9dea80d6967c560013b93a12049cfd0cb2c3c545a362a20bd659223b5f", func := "loop.example/labelnets/laws.FnExactTurnedRow", spec := "fnExactTurnedRow", apart := false }
def FnExactTurnedRowSaid : Prop := fnExactTurnedRowRow.holds Try.pinned (OpenSpec.ofChange fnExactTurnedRowSpec)

/-- ITS FALSE NEIGHBOUR: 'it returns false'. Refute it at one input. -/
def fnExactTurnedRowWrong : ChangeSpec := { name := "fnExactTurnedRow", fn := fun _ => fun
  | [d1, d2, d3] => { results := [.lit (.bool false)], args := [d1, d2, d3] }
  | _ => none }
def FnExactTurnedRowWrongFalsely : Prop := fnExactTurnedRowRow.holds Try.pinned (OpenSpec.ofChange fnExactTurnedRowWrong)

/-- 'laws.FnExactMovedRow': WHATEVER THE INPUT: true; the input reads as it did. -/
def fnExactMovedRowSpec : ChangeSpec := { name := "fnExactMovedRow", fn := fun _ => fun
  | [d1, d2, d3] => { results := [.lit (.bool true)], args := [d1, d2, d3] }
  | _ => none }
def fnExactMovedRowRow : OpenClaim := { program := "ytmiaggnlchfiiaa", sum := "1c801c9dea80d6967c560013b93a12049cfd0cb2c3c545a362a20bd659223b5f", func := "loop.example/labelnets/laws.FnExactMovedRow", spec := "fnExactMovedRow", apart := false }
def FnExactMovedRowSaid : Prop := fnExactMovedRowRow.holds Try.pinned (OpenSpec.ofChange fnExactMovedRowSpec)

/-- ITS FALSE NEIGHBOUR: 'it returns false'. Refute it at one input. -/
def fnExactMovedRowWrong : ChangeSpec := { name := "fnExactMovedRow", fn := fun _ => fun
  | [d1, d2, d3] => { results := [.lit (.bool false)], args := [d1, d2, d3] }
  | _ => none }
def FnExactMovedRowWrongFalsely : Prop := fnExactMovedRowRow.holds Try.pinned (OpenSpec.ofChange fnExactMovedRowWrong)

/- THE SECOND FORM. 'bulk': how many values and letters a reading holds, each counted each time it is reached (what is shared counts as often as it is met; a slice's spare places count too). A statement '..UptoSaid' is the law's where the arguments, and the package variables that the reading takes, are together of bulk at most 1048576: NARROWER than '..Said'. Prove '..Said' where nothing that the law and all that it calls make is longer than what came in: it says more and counts as full. Else prove '..UptoSaid'. A law counts once. -/
mutual
def uptoBulk {H : Type} : DataW H → Nat
  | .lit (.string bytes) => bytes.length + 1
  | .lit _ => 1
  | .nil => 1
  | .ptr d => uptoBulk d + 1
  | .slice elems spare => uptoBulkAll elems + uptoBulkAll spare + 1
  | .agg parts => uptoBulkAll parts + 1
  | .iface _ d => uptoBulk d + 1
  | .map entries => uptoBulkEntries entries + 1
  | .held _ => 1
def uptoBulkAll {H : Type} : List (DataW H) → Nat
  | [] => 0
  | d :: r => uptoBulk d + uptoBulkAll r
def uptoBulkEntries {H : Type} : List (Lit × DataW H) → Nat
  | [] => 0
  | x :: r => uptoBulkEntry x + uptoBulkEntries r
def uptoBulkEntry {H : Type} : Lit × DataW H → Nat
  | (.string bytes, d) => bytes.length + uptoBulk d + 1
  | (_, d) => uptoBulk d + 1
 end
def uptoSmall : (H : Type) → List (DataW H) → Bool := fun _ ds => decide (uptoBulkAll ds ≤ 1048576)
def OpenSpec.upto (s : _root_.Go.ChangeSpec) : _root_.Go.OpenSpec := { _root_.Go.OpenSpec.ofChange s with cond := some uptoSmall }

/-- 'laws.FnNetOk', WHERE WHAT IT READS IS OF BULK AT MOST 1048576: true; the input reads as it did. -/
def fnNetOkUptoRow : OpenClaim := { program := "ytmiaggnlchfiiaa", sum := "1c801c9dea80d6967c560013b93a12049cfd0cb2c3c545a362a20bd659223b5f", func := "loop.example/labelnets/laws.FnNetOk", spec := "fnNetOk", apart := false, narrowed := true }
def FnNetOkUptoSaid : Prop := fnNetOkUptoRow.holds Try.pinned (OpenSpec.upto fnNetOkSpec)

/-- 'laws.FnPartMany', WHERE WHAT IT READS IS OF BULK AT MOST 1048576: true; the input reads as it did. -/
def fnPartManyUptoRow : OpenClaim := { program := "ytmiaggnlchfiiaa", sum := "1c801c9dea80d6967c560013b93a12049cfd0cb2c3c545a362a20bd659223b5f", func := "loop.example/labelnets/laws.FnPartMany", spec := "fnPartMany", apart := false, narrowed := true }
def FnPartManyUptoSaid : Prop := fnPartManyUptoRow.holds Try.pinned (OpenSpec.upto fnPartManySpec)

/-- 'laws.FnTreeOk', WHERE WHAT IT READS IS OF BULK AT MOST 1048576: true; the input reads as it did. -/
def fnTreeOkUptoRow : OpenClaim := { program := "ytmiaggnlchfiiaa", sum := "1c801c9dea80d6967c560013b93a12049cfd0cb2c3c545a362a20bd659223b5f", func := "loop.example/labelnets/laws.FnTreeOk", spec := "fnTreeOk", apart := false, narrowed := true }
def FnTreeOkUptoSaid : Prop := fnTreeOkUptoRow.holds Try.pinned (OpenSpec.upto fnTreeOkSpec)

/-- 'laws.FnSidesOf', WHERE WHAT IT READS IS OF BULK AT MOST 1048576: true; the input reads as it did. -/
def fnSidesOfUptoRow : OpenClaim := { program := "ytmiaggnlchfiiaa", sum := "1c801c9dea80d6967c560013b93a12049cfd0cb2c3c545a362a20bd659223b5f", func := "loop.example/labelnets/laws.FnSidesOf", spec := "fnSidesOf", apart := false, narrowed := true }
def FnSidesOfUptoSaid : Prop := fnSidesOfUptoRow.holds Try.pinned (OpenSpec.upto fnSidesOfSpec)

/-- 'laws.FnShapeNet', WHERE WHAT IT READS IS OF BULK AT MOST 1048576: true; the input reads as it did. -/
def fnShapeNetUptoRow : OpenClaim := { program := "ytmiaggnlchfiiaa", sum := "1c801c9dea80d6967c560013b93a12049cfd0cb2c3c545a362a20bd659223b5f", func := "loop.example/labelnets/laws.FnShapeNet", spec := "fnShapeNet", apart := false, narrowed := true }
def FnShapeNetUptoSaid : Prop := fnShapeNetUptoRow.holds Try.pinned (OpenSpec.upto fnShapeNetSpec)

/-- 'laws.FnRowOk', WHERE WHAT IT READS IS OF BULK AT MOST 1048576: true; the input reads as it did. -/
def fnRowOkUptoRow : OpenClaim := { program := "ytmiaggnlchfiiaa", sum := "1c801c9dea80d6967c560013b93a12049cfd0cb2c3c545a362a20bd659223b5f", func := "loop.example/labelnets/laws.FnRowOk", spec := "fnRowOk", apart := false, narrowed := true }
def FnRowOkUptoSaid : Prop := fnRowOkUptoRow.holds Try.pinned (OpenSpec.upto fnRowOkSpec)

/-- 'laws.FnRowOnceOk', WHERE WHAT IT READS IS OF BULK AT MOST 1048576: true; the input reads as it did. -/
def fnRowOnceOkUptoRow : OpenClaim := { program := "ytmiaggnlchfiiaa", sum := "1c801c9dea80d6967c560013b93a12049cfd0cb2c3c545a362a20bd659223b5f", func := "loop.example/labelnets/laws.FnRowOnceOk", spec := "fnRowOnceOk", apart := false, narrowed := true }
def FnRowOnceOkUptoSaid : Prop := fnRowOnceOkUptoRow.holds Try.pinned (OpenSpec.upto fnRowOnceOkSpec)

/-- 'laws.FnDifferences', WHERE WHAT IT READS IS OF BULK AT MOST 1048576: true; the input reads as it did. -/
def fnDifferencesUptoRow : OpenClaim := { program := "ytmiaggnlchfiiaa", sum := "1c801c9dea80d6967c560013b93a12049cfd0cb2c3c545a362a20bd659223b5f", func := "loop.example/labelnets/laws.FnDifferences", spec := "fnDifferences", apart := false, narrowed := true }
def FnDifferencesUptoSaid : Prop := fnDifferencesUptoRow.holds Try.pinned (OpenSpec.upto fnDifferencesSpec)

/-- 'laws.FnSums', WHERE WHAT IT READS IS OF BULK AT MOST 1048576: true; the input reads as it did. -/
def fnSumsUptoRow : OpenClaim := { program := "ytmiaggnlchfiiaa", sum := "1c801c9dea80d6967c560013b93a12049cfd0cb2c3c545a362a20bd659223b5f", func := "loop.example/labelnets/laws.FnSums", spec := "fnSums", apart := false, narrowed := true }
def FnSumsUptoSaid : Prop := fnSumsUptoRow.holds Try.pinned (OpenSpec.upto fnSumsSpec)

/-- 'laws.FnTurnedRow', WHERE WHAT IT READS IS OF BULK AT MOST 1048576: true; the input reads as it did. -/
def fnTurnedRowUptoRow : OpenClaim := { program := "ytmiaggnlchfiiaa", sum := "1c801c9dea80d6967c560013b93a12049cfd0cb2c3c545a362a20bd659223b5f", func := "loop.example/labelnets/laws.FnTurnedRow", spec := "fnTurnedRow", apart := false, narrowed := true }
def FnTurnedRowUptoSaid : Prop := fnTurnedRowUptoRow.holds Try.pinned (OpenSpec.upto fnTurnedRowSpec)

/-- 'laws.FnMovedRow', WHERE WHAT IT READS IS OF BULK AT MOST 1048576: true; the input reads as it did. -/
def fnMovedRowUptoRow : OpenClaim := { program := "ytmiaggnlchfiiaa", sum := "1c801c9dea80d6967c560013b93a12049cfd0cb2c3c545a362a20bd659223b5f", func := "loop.example/labelnets/laws.FnMovedRow", spec := "fnMovedRow", apart := false, narrowed := true }
def FnMovedRowUptoSaid : Prop := fnMovedRowUptoRow.holds Try.pinned (OpenSpec.upto fnMovedRowSpec)

/-- 'laws.FnExactWireList', WHERE WHAT IT READS IS OF BULK AT MOST 1048576: true; the input reads as it did. -/
def fnExactWireListUptoRow : OpenClaim := { program := "ytmiaggnlchfiiaa", sum := "1c801c9dea80d6967c560013b93a12049cfd0cb2c3c545a362a20bd659223b5f", func := "loop.example/labelnets/laws.FnExactWireList", spec := "fnExactWireList", apart := false, narrowed := true }
def FnExactWireListUptoSaid : Prop := fnExactWireListUptoRow.holds Try.pinned (OpenSpec.upto fnExactWireListSpec)

/-- 'laws.FnExactPartMany', WHERE WHAT IT READS IS OF BULK AT MOST 1048576: true; the input reads as it did. -/
def fnExactPartManyUptoRow : OpenClaim := { program := "ytmiaggnlchfiiaa", sum := "1c801c9dea80d6967c560013b93a12049cfd0cb2c3c545a362a20bd659223b5f", func := "loop.example/labelnets/laws.FnExactPartMany", spec := "fnExactPartMany", apart := false, narrowed := true }
def FnExactPartManyUptoSaid : Prop := fnExactPartManyUptoRow.holds Try.pinned (OpenSpec.upto fnExactPartManySpec)

/-- 'laws.FnExactTreeOk', WHERE WHAT IT READS IS OF BULK AT MOST 1048576: true; the input reads as it did. -/
def fnExactTreeOkUptoRow : OpenClaim := { program := "ytmiaggnlchfiiaa", sum := "1c801c9dea80d6967c560013b93a12049cfd0cb2c3c545a362a20bd659223b5f", func := "loop.example/labelnets/laws.FnExactTreeOk", spec := "fnExactTreeOk", apart := false, narrowed := true }
def FnExactTreeOkUptoSaid : Prop := fnExactTreeOkUptoRow.holds Try.pinned (OpenSpec.upto fnExactTreeOkSpec)

/-- 'laws.FnExactSidesOf', WHERE WHAT IT READS IS OF BULK AT MOST 1048576: true; the input reads as it did. -/
def fnExactSidesOfUptoRow : OpenClaim := { program := "ytmiaggnlchfiiaa", sum := "1c801c9dea80d6967c560013b93a12049cfd0cb2c3c545a362a20bd659223b5f", func := "loop.example/labelnets/laws.FnExactSidesOf", spec := "fnExactSidesOf", apart := false, narrowed := true }
def FnExactSidesOfUptoSaid : Prop := fnExactSidesOfUptoRow.holds Try.pinned (OpenSpec.upto fnExactSidesOfSpec)

/-- 'laws.FnExactShapeNet', WHERE WHAT IT READS IS OF BULK AT MOST 1048576: true; the input reads as it did. -/
def fnExactShapeNetUptoRow : OpenClaim := { program := "ytmiaggnlchfiiaa", sum := "1c801c9dea80d6967c560013b93a12049cfd0cb2c3c545a362a20bd659223b5f", func := "loop.example/labelnets/laws.FnExactShapeNet", spec := "fnExactShapeNet", apart := false, narrowed := true }
def FnExactShapeNetUptoSaid : Prop := fnExactShapeNetUptoRow.holds Try.pinned (OpenSpec.upto fnExactShapeNetSpec)

/-- 'laws.FnExactRowOk', WHERE WHAT IT READS IS OF BULK AT MOST 1048576: true; the input reads as it did. -/
def fnExactRowOkUptoRow : OpenClaim := { program := "ytmiaggnlchfiiaa", sum := "1c801c9dea80d6967c560013b93a12049cfd0cb2c3c545a362a20bd659223b5f", func := "loop.example/labelnets/laws.FnExactRowOk", spec := "fnExactRowOk", apart := false, narrowed := true }
def FnExactRowOkUptoSaid : Prop := fnExactRowOkUptoRow.holds Try.pinned (OpenSpec.upto fnExactRowOkSpec)

/-- 'laws.FnExactRowOnceOk', WHERE WHAT IT READS IS OF BULK AT MOST 1048576: true; the input reads as it did. -/
def fnExactRowOnceOkUptoRow : OpenClaim := { program := "ytmiaggnlchfiiaa", sum := "1c801c9dea80d6967c560013b93a12049cfd0cb2c3c545a362a20bd659223b5f", func := "loop.example/labelnets/laws.FnExactRowOnceOk", spec := "fnExactRowOnceOk", apart := false, narrowed := true }
def FnExactRowOnceOkUptoSaid : Prop := fnExactRowOnceOkUptoRow.holds Try.pinned (OpenSpec.upto fnExactRowOnceOkSpec)

/-- 'laws.FnExactDifferences', WHERE WHAT IT READS IS OF BULK AT MOST 1048576: true; the input reads as it did. -/
def fnExactDifferencesUptoRow : OpenClaim := { program := "ytmiaggnlchfiiaa", sum := "1c801c9dea80d6967c560013b93a12049cfd0cb2c3c545a362a20bd659223b5f", func := "loop.example/labelnets/laws.FnExactDifferences", spec := "fnExactDifferences", apart := false, narrowed := true }
def FnExactDifferencesUptoSaid : Prop := fnExactDifferencesUptoRow.holds Try.pinned (OpenSpec.upto fnExactDifferencesSpec)

/-- 'laws.FnExactSums', WHERE WHAT IT READS IS OF BULK AT MOST 1048576: true; the input reads as it did. -/
def fnExactSumsUptoRow : OpenClaim := { program := "ytmiaggnlchfiiaa", sum := "1c801c9dea80d6967c560013b93a12049cfd0cb2c3c545a362a20bd659223b5f", func := "loop.example/labelnets/laws.FnExactSums", spec := "fnExactSums", apart := false, narrowed := true }
def FnExactSumsUptoSaid : Prop := fnExactSumsUptoRow.holds Try.pinned (OpenSpec.upto fnExactSumsSpec)

/-- 'laws.FnExactTurnedRow', WHERE WHAT IT READS IS OF BULK AT MOST 1048576: true; the input reads as it did. -/
def fnExactTurnedRowUptoRow : OpenClaim := { program := "ytmiaggnlchfiiaa", sum := "1c801c9dea80d6967c560013b93a12049cfd0cb2c3c545a362a20bd659223b5f", func := "loop.example/labelnets/laws.FnExactTurnedRow", spec := "fnExactTurnedRow", apart := false, narrowed := true }
def FnExactTurnedRowUptoSaid : Prop := fnExactTurnedRowUptoRow.holds Try.pinned (OpenSpec.upto fnExactTurnedRowSpec)

/-- 'laws.FnExactMovedRow', WHERE WHAT IT READS IS OF BULK AT MOST 1048576: true; the input reads as it did. -/
def fnExactMovedRowUptoRow : OpenClaim := { program := "ytmiaggnlchfiiaa", sum := "1c801c9dea80d6967c560013b93a12049cfd0cb2c3c545a362a20bd659223b5f", func := "loop.example/labelnets/laws.FnExactMovedRow", spec := "fnExactMovedRow", apart := false, narrowed := true }
def FnExactMovedRowUptoSaid : Prop := fnExactMovedRowUptoRow.holds Try.pinned (OpenSpec.upto fnExactMovedRowSpec)

end Rows
end Go.Proofs.Ytmiaggnlchfiiaa
