/-
  No cell of these rows narrows 'for every input' (looked for: loops, veiled, ifaces, maps, wideKeys, modest, calm, conditions, laid).
  DERIVED. THE GIVEN ROWS OF THIS SEAT. 8 by the template 'for every input the law returns true; each argument reads behind the call as it read before'; 0 by the template 'total and deterministic' (their statements: YtnkmcllbljjeoaaTotals.lean).
  GIVEN WITH THE SEED: the statements are not yours to turn. If you find one false, say at which input.
  Laid BY PROGRAM, IN A SANDBOX (cutbox-rows.mjs): the forced cells as the released guide's own fill.sh prints them over the translation e215a06a2f07dc6c… (all of the seat's roots in one cut). By AI agents, Wed Nov 11 2026. No macro, syntax, notation, axiom, sorry.
-/
import Derived.Test.YtnkmcllbljjeoaaChecked
import GoSem.Claim
import GoSem.ClaimJoined
import GoSem.ClaimMapViews
import Derived.JoinedTies
import Derived.KernelRfl
namespace Go.Proofs.Ytnkmcllbljjeoaa
/- THE CELL 'sum', in the pinned program and in every row, IS THE sha256 OF THE DUMP (.gsa) THAT YtnkmcllbljjeoaaProg.lean LOADS. Nothing in Lean hashes anything: it is a label: what it is worth is what the hold of that sum in a sandbox is worth. -/
noncomputable def Try.pinned : Pinned := { name := "ytnkmcllbljjeoaa", sum := "e215a06a2f07dc6c283741b4cc7db81f2bf52ec5df76ebba0e3f5e8c27a7d8df", checked := Try.checked }
namespace Rows
def none {H : Type} : Left H := { results := [], args := [] }

/-- 'laws.FnPartedAt': WHATEVER THE INPUT: true; the input reads as it did. -/
def fnPartedAtSpec : ChangeSpec := { name := "fnPartedAt", fn := fun _ => fun
  | [d] => { results := [.lit (.bool true)], args := [d] }
  | _ => none }
def fnPartedAtRow : OpenClaim := { program := "ytnkmcllbljjeoaa", sum := "e215a06a2f07dc6c283741b4cc7db81f2bf52ec5df76ebba0e3f5e8c27a7d8df", func := "loop.example/labelnets/laws.FnPartedAt", spec := "fnPartedAt", recurses := true, apart := false }
def FnPartedAtSaid : Prop := fnPartedAtRow.holds Try.pinned (OpenSpec.ofChange fnPartedAtSpec)

/-- ITS FALSE NEIGHBOUR: 'it returns false'. Refute it at one input. -/
def fnPartedAtWrong : ChangeSpec := { name := "fnPartedAt", fn := fun _ => fun
  | [d] => { results := [.lit (.bool false)], args := [d] }
  | _ => none }
def FnPartedAtWrongFalsely : Prop := fnPartedAtRow.holds Try.pinned (OpenSpec.ofChange fnPartedAtWrong)

/-- 'laws.FnPartedMany': WHATEVER THE INPUT: true; the input reads as it did. -/
def fnPartedManySpec : ChangeSpec := { name := "fnPartedMany", fn := fun _ => fun
  | [d] => { results := [.lit (.bool true)], args := [d] }
  | _ => none }
def fnPartedManyRow : OpenClaim := { program := "ytnkmcllbljjeoaa", sum := "e215a06a2f07dc6c283741b4cc7db81f2bf52ec5df76ebba0e3f5e8c27a7d8df", func := "loop.example/labelnets/laws.FnPartedMany", spec := "fnPartedMany", recurses := true, apart := false }
def FnPartedManySaid : Prop := fnPartedManyRow.holds Try.pinned (OpenSpec.ofChange fnPartedManySpec)

/-- ITS FALSE NEIGHBOUR: 'it returns false'. Refute it at one input. -/
def fnPartedManyWrong : ChangeSpec := { name := "fnPartedMany", fn := fun _ => fun
  | [d] => { results := [.lit (.bool false)], args := [d] }
  | _ => none }
def FnPartedManyWrongFalsely : Prop := fnPartedManyRow.holds Try.pinned (OpenSpec.ofChange fnPartedManyWrong)

/-- 'laws.FnTurnedSides': WHATEVER THE INPUT: true; the input reads as it did. -/
def fnTurnedSidesSpec : ChangeSpec := { name := "fnTurnedSides", fn := fun _ => fun
  | [d] => { results := [.lit (.bool true)], args := [d] }
  | _ => none }
def fnTurnedSidesRow : OpenClaim := { program := "ytnkmcllbljjeoaa", sum := "e215a06a2f07dc6c283741b4cc7db81f2bf52ec5df76ebba0e3f5e8c27a7d8df", func := "loop.example/labelnets/laws.FnTurnedSides", spec := "fnTurnedSides", recurses := true, apart := false }
def FnTurnedSidesSaid : Prop := fnTurnedSidesRow.holds Try.pinned (OpenSpec.ofChange fnTurnedSidesSpec)

/-- ITS FALSE NEIGHBOUR: 'it returns false'. Refute it at one input. -/
def fnTurnedSidesWrong : ChangeSpec := { name := "fnTurnedSides", fn := fun _ => fun
  | [d] => { results := [.lit (.bool false)], args := [d] }
  | _ => none }
def FnTurnedSidesWrongFalsely : Prop := fnTurnedSidesRow.holds Try.pinned (OpenSpec.ofChange fnTurnedSidesWrong)

/-- 'laws.FnRaisedRow': WHATEVER THE INPUT: true; the input reads as it did. -/
def fnRaisedRowSpec : ChangeSpec := { name := "fnRaisedRow", fn := fun _ => fun
  | [d] => { results := [.lit (.bool true)], args := [d] }
  | _ => none }
def fnRaisedRowRow : OpenClaim := { program := "ytnkmcllbljjeoaa", sum := "e215a06a2f07dc6c283741b4cc7db81f2bf52ec5df76ebba0e3f5e8c27a7d8df", func := "loop.example/labelnets/laws.FnRaisedRow", spec := "fnRaisedRow", recurses := true, apart := false }
def FnRaisedRowSaid : Prop := fnRaisedRowRow.holds Try.pinned (OpenSpec.ofChange fnRaisedRowSpec)

/-- ITS FALSE NEIGHBOUR: 'it returns false'. Refute it at one input. -/
def fnRaisedRowWrong : ChangeSpec := { name := "fnRaisedRow", fn := fun _ => fun
  | [d] => { results := [.lit (.bool false)], args := [d] }
  | _ => none }
def FnRaisedRowWrongFalsely : Prop := fnRaisedRowRow.holds Try.pinned (OpenSpec.ofChange fnRaisedRowWrong)

/-- 'laws.FnExactPartedAt': WHATEVER THE INPUT: true; the input reads as it did. -/
def fnExactPartedAtSpec : ChangeSpec := { name := "fnExactPartedAt", fn := fun _ => fun
  | [d1, d2] => { results := [.lit (.bool true)], args := [d1, d2] }
  | _ => none }
def fnExactPartedAtRow : OpenClaim := { program := "ytnkmcllbljjeoaa", sum := "e215a06a2f07dc6c283741b4cc7db81f2bf52ec5df76ebba0e3f5e8c27a7d8df", func := "loop.example/labelnets/laws.FnExactPartedAt", spec := "fnExactPartedAt", apart := false }
def FnExactPartedAtSaid : Prop := fnExactPartedAtRow.holds Try.pinned (OpenSpec.ofChange fnExactPartedAtSpec)

/-- ITS FALSE NEIGHBOUR: 'it returns false'. Refute it at one input. -/
def fnExactPartedAtWrong : ChangeSpec := { name := "fnExactPartedAt", fn := fun _ => fun
  | [d1, d2] => { results := [.lit (.bool false)], args := [d1, d2] }
  | _ => none }
def FnExactPartedAtWrongFalsely : Prop := fnExactPartedAtRow.holds Try.pinned (OpenSpec.ofChange fnExactPartedAtWrong)

/-- 'laws.FnExactPartedMany': WHATEVER THE INPUT: true; the input reads as it did. -/
def fnExactPartedManySpec : ChangeSpec := { name := "fnExactPartedMany", fn := fun _ => fun
  | [d] => { results := [.lit (.bool true)], args := [d] }
  | _ => none }
def fnExactPartedManyRow : OpenClaim := { program := "ytnkmcllbljjeoaa", sum := "e215a06a2f07dc6c283741b4cc7db81f2bf52ec5df76ebba0e3f5e8c27a7d8df", func := "loop.example/labelnets/laws.FnExactPartedMany", spec := "fnExactPartedMany", recurses := true, apart := false }
def FnExactPartedManySaid : Prop := fnExactPartedManyRow.holds Try.pinned (OpenSpec.ofChange fnExactPartedManySpec)

/-- ITS FALSE NEIGHBOUR: 'it returns false'. Refute it at one input. -/
def fnExactPartedManyWrong : ChangeSpec := { name := "fnExactPartedMany", fn := fun _ => fun
  | [d] => { results := [.lit (.bool false)], args := [d] }
  | _ => none }
def FnExactPartedManyWrongFalsely : Prop := fnExactPartedManyRow.holds Try.pinned (OpenSpec.ofChange fnExactPartedManyWrong)

/-- 'laws.FnExactTurnedSides': WHATEVER THE INPUT: true; the input reads as it did. -/
def fnExactTurnedSidesSpec : ChangeSpec := { name := "fnExactTurnedSides", fn := fun _ => fun
  | [d1, d2] => { results := [.lit (.bool true)], args := [d1, d2] }
  | _ => none }
def fnExactTurnedSidesRow : OpenClaim := { program := "ytnkmcllbljjeoaa", sum := "e215a06a2f07dc6c283741b4cc7db81f2bf52ec5df76ebba0e3f5e8c27a7d8df", func := "loop.example/labelnets/laws.FnExactTurnedSides", spec := "fnExactTurnedSides", apart := false }
def FnExactTurnedSidesSaid : Prop := fnExactTurnedSidesRow.holds Try.pinned (OpenSpec.ofChange fnExactTurnedSidesSpec)

/-- ITS FALSE NEIGHBOUR: 'it returns false'. Refute it at one input. -/
def fnExactTurnedSidesWrong : ChangeSpec := { name := "fnExactTurnedSides", fn := fun _ => fun
  | [d1, d2] => { results := [.lit (.bool false)], args := [d1, d2] }
  | _ => none }
def FnExactTurnedSidesWrongFalsely : Prop := fnExactTurnedSidesRow.holds Try.pinned (OpenSpec.ofChange fnExactTurnedSidesWrong)

/-- 'laws.FnExactRaisedRow': WHATEVER THE INPUT: true; the input reads as it did. -/
def fnExactRaisedRowSpec : ChangeSpec := { name := "fnExactRaisedRow", fn := fun _ => fun
  | [d1, d2, d3] => { results := [.lit (.bool true)], args := [d1, d2, d3] }
  | _ => none }
def fnExactRaisedRowRow : OpenClaim := { program := "ytnkmcllbljjeoaa", sum := "e215a06a2f07dc6c283741b4cc7db81f2bf52ec5df76ebba0e3f5e8c27a7d8df", func := "loop.example/labelnets/laws.FnExactRaisedRow", spec := "fnExactRaisedRow", apart := false }
def FnExactRaisedRowSaid : Prop := fnExactRaisedRowRow.holds Try.pinned (OpenSpec.ofChange fnExactRaisedRowSpec)

/-- ITS FALSE NEIGHBOUR: 'it returns false'. Refute it at one input. -/
def fnExactRaisedRowWrong : ChangeSpec := { name := "fnExactRaisedRow", fn := fun _ => fun
  | [d1, d2, d3] => { results := [.lit (.bool false)], args := [d1, d2, d3] }
  | _ => none }
def FnExactRaisedRowWrongFalsely : Prop := fnExactRaisedRowRow.holds Try.pinned (OpenSpec.ofChange fnExactRaisedRowWrong)

/- THE SECOND FORM. 'bulk': how many values and letters a reading holds, each counted each time it is reached (what is shared counts as often as it is met; a slice's spare places count too). A statement '..UptoSaid' is the law's where the arguments, and the package variables that the reading takes, are together of bulk at most 1048576: NARROWER than '..Said'. Prove '..Said' where nothing that the law and all that it calls make is longer than what came in: it says more and counts as full. Else prove '..UptoSaid'. A law counts once. -/
mutual
def uptoBulk {H : Type} : DataW H → Nat
  | .lit (.string bytes) => bytes.length + 1
  | .lit _ => 1
  | .nil => 1
  | .ptr d => uptoBulk d + 1
  | .slice elems spare => uptoBulkAll elems + uptoBulkAll spare + 1
  | .agg parts => uptoBulkAll parts + 1
  | .iface _ d => uptoBulk d + 1
  | .map entries => uptoBulkEntries entries + 1
  | .held _ => 1
def uptoBulkAll {H : Type} : List (DataW H) → Nat
  | [] => 0
  | d :: r => uptoBulk d + uptoBulkAll r
def uptoBulkEntries {H : Type} : List (Lit × DataW H) → Nat
  | [] => 0
  | x :: r => uptoBulkEntry x + uptoBulkEntries r
def uptoBulkEntry {H : Type} : Lit × DataW H → Nat
  | (.string bytes, d) => bytes.length + uptoBulk d + 1
  | (_, d) => uptoBulk d + 1
 end
def uptoSmall : (H : Type) → List (DataW H) → Bool := fun _ ds => decide (uptoBulkAll ds ≤ 1048576)
def OpenSpec.upto (s : _root_.Go.ChangeSpec) : _root_.Go.OpenSpec := { _root_.Go.OpenSpec.ofChange s with cond := some uptoSmall }

/-- 'laws.FnPartedAt', WHERE WHAT IT READS IS OF BULK AT MOST 1048576: true; the input reads as it did. -/
def fnPartedAtUptoRow : OpenClaim := { program := "ytnkmcllbljjeoaa", sum := "e215a06a2f07dc6c283741b4cc7db81f2bf52ec5df76ebba0e3f5e8c27a7d8df", func := "loop.example/labelnets/laws.FnPartedAt", spec := "fnPartedAt", recurses := true, apart := false, narrowed := true }
def FnPartedAtUptoSaid : Prop := fnPartedAtUptoRow.holds Try.pinned (OpenSpec.upto fnPartedAtSpec)

/-- 'laws.FnPartedMany', WHERE WHAT IT READS IS OF BULK AT MOST 1048576: true; the input reads as it did. -/
def fnPartedManyUptoRow : OpenClaim := { program := "ytnkmcllbljjeoaa", sum := "e215a06a2f07dc6c283741b4cc7db81f2bf52ec5df76ebba0e3f5e8c27a7d8df", func := "loop.example/labelnets/laws.FnPartedMany", spec := "fnPartedMany", recurses := true, apart := false, narrowed := true }
def FnPartedManyUptoSaid : Prop := fnPartedManyUptoRow.holds Try.pinned (OpenSpec.upto fnPartedManySpec)

/-- 'laws.FnTurnedSides', WHERE WHAT IT READS IS OF BULK AT MOST 1048576: true; the input reads as it did. -/
def fnTurnedSidesUptoRow : OpenClaim := { program := "ytnkmcllbljjeoaa", sum := "e215a06a2f07dc6c283741b4cc7db81f2bf52ec5df76ebba0e3f5e8c27a7d8df", func := "loop.example/labelnets/laws.FnTurnedSides", spec := "fnTurnedSides", recurses := true, apart := false, narrowed := true }
def FnTurnedSidesUptoSaid : Prop := fnTurnedSidesUptoRow.holds Try.pinned (OpenSpec.upto fnTurnedSidesSpec)

/-- 'laws.FnRaisedRow', WHERE WHAT IT READS IS OF BULK AT MOST 1048576: true; the input reads as it did. -/
def fnRaisedRowUptoRow : OpenClaim := { program := "ytnkmcllbljjeoaa", sum := "e215a06a2f07dc6c283741b4cc7db81f2bf52ec5df76ebba0e3f5e8c27a7d8df", func := "loop.example/labelnets/laws.FnRaisedRow", spec := "fnRaisedRow", recurses := true, apart := false, narrowed := true }
def FnRaisedRowUptoSaid : Prop := fnRaisedRowUptoRow.holds Try.pinned (OpenSpec.upto fnRaisedRowSpec)

/-- 'laws.FnExactPartedAt', WHERE WHAT IT READS IS OF BULK AT MOST 1048576: true; the input reads as it did. -/
def fnExactPartedAtUptoRow : OpenClaim := { program := "ytnkmcllbljjeoaa", sum := "e215a06a2f07dc6c283741b4cc7db81f2bf52ec5df76ebba0e3f5e8c27a7d8df", func := "loop.example/labelnets/laws.FnExactPartedAt", spec := "fnExactPartedAt", apart := false, narrowed := true }
def FnExactPartedAtUptoSaid : Prop := fnExactPartedAtUptoRow.holds Try.pinned (OpenSpec.upto fnExactPartedAtSpec)

/-- 'laws.FnExactPartedMany', WHERE WHAT IT READS IS OF BULK AT MOST 1048576: true; the input reads as it did. -/
def fnExactPartedManyUptoRow : OpenClaim := { program := "ytnkmcllbljjeoaa", sum := "e215a06a2f07dc6c283741b4cc7db81f2bf52ec5df76ebba0e3f5e8c27a7d8df", func := "loop.example/labelnets/laws.FnExactPartedMany", spec := "fnExactPartedMany", recurses := true, apart := false, narrowed := true }
def FnExactPartedManyUptoSaid : Prop := fnExactPartedManyUptoRow.holds Try.pinned (OpenSpec.upto fnExactPartedManySpec)

/-- 'laws.FnExactTurnedSides', WHERE WHAT IT READS IS OF BULK AT MOST 1048576: true; the input reads as it did. -/
def fnExactTurnedSidesUptoRow : OpenClaim := { program := "ytnkmcllbljjeoaa", sum := "e215a06a2f07dc6c283741b4cc7db81f2bf52ec5df76ebba0e3f5e8c27a7d8df", func := "loop.example/labelnets/laws.FnExactTurnedSides", spec := "fnExactTurnedSides", apart := false, narrowed := true }
def FnExactTurnedSidesUptoSaid : Prop := fnExactTurnedSidesUptoRow.holds Try.pinned (OpenSpec.upto fnExactTurnedSidesSpec)

/-- 'laws.FnExactRaisedRow', WHERE WHAT IT READS IS OF BULK AT MOST 1048576: true; the input reads as it did. -/
def fnExactRaisedRowUptoRow : OpenClaim := { program := "ytnkmcllbljjeoaa", sum := "e215a06a2f07dc6c283741b4cc7db81f2bf52ec5df76ebba0e3f5e8c27a7d8df", func := "loop.example/labelnets/laws.FnExactRaisedRow", spec := "fnExactRaisedRow", apart := false, narrowed := true }
def FnExactRaisedRowUptoSaid : Prop := fnExactRaisedRowUptoRow.holds Try.pinned (OpenSpec.upto fnExactRaisedRowSpec)

end Rows
end Go.Proofs.Ytnkmcllbljjeoaa
