/-
  No cell of these rows narrows 'for every input' (looked for: loops, veiled, ifaces, maps, wideKeys, modest, calm, conditions, laid).
  DERIVED. THE GIVEN ROWS OF THIS SEAT. 9 by the template 'for every input the law returns true; each argument reads behind the call as it read before'; 0 by the template 'total and deterministic' (their statements: YtklmfnafbfghjaaTotals.lean).
  GIVEN WITH THE SEED: the statements are not yours to turn. If you find one false, say at which input.
  Laid BY PROGRAM, IN A SANDBOX (cutbox-rows.mjs): the forced cells as the released guide's own fill.sh prints them over the translation 361efb03ec325560… (all of the seat's roots in one cut). By AI agents, Wed Nov 11 2026. No macro, syntax, notation, axiom, sorry.
-/
import Derived.Test.YtklmfnafbfghjaaChecked
import GoSem.Claim
import GoSem.ClaimJoined
import GoSem.ClaimMapViews
import Derived.JoinedTies
import Derived.KernelRfl
namespace Go.Proofs.Ytklmfnafbfghjaa
/- THE CELL 'sum', in the pinned program and in every row, IS THE sha256 OF THE DUMP (.gsa) THAT YtklmfnafbfghjaaProg.lean LOADS. Nothing in Lean hashes anything: it is a label: what it is worth is what the hold of that sum in a sandbox is worth. -/
noncomputable def Try.pinned : Pinned := { name := "ytklmfnafbfghjaa", sum := "361efb03ec325560d14cf26ee52bad3bc32bd48033f2c91244b96536e8371791", checked := Try.checked }
namespace Rows
def none {H : Type} : Left H := { results := [], args := [] }

/-- 'laws.FnRowOnceOk': WHATEVER THE INPUT: true; the input reads as it did. -/
def fnRowOnceOkSpec : ChangeSpec := { name := "fnRowOnceOk", fn := fun _ => fun
  | [d] => { results := [.lit (.bool true)], args := [d] }
  | _ => none }
def fnRowOnceOkRow : OpenClaim := { program := "ytklmfnafbfghjaa", sum := "361efb03ec325560d14cf26ee52bad3bc32bd48033f2c91244b96536e8371791", func := "loop.example/labelnets/laws.FnRowOnceOk", spec := "fnRowOnceOk", apart := false }
def FnRowOnceOkSaid : Prop := fnRowOnceOkRow.holds Try.pinned (OpenSpec.ofChange fnRowOnceOkSpec)

/-- ITS FALSE NEIGHBOUR: 'it returns false'. Refute it at one input. -/
def fnRowOnceOkWrong : ChangeSpec := { name := "fnRowOnceOk", fn := fun _ => fun
  | [d] => { results := [.lit (.bool false)], args := [d] }
  | _ => none }
def FnRowOnceOkWrongFalsely : Prop := fnRowOnceOkRow.holds Try.pinned (OpenSpec.ofChange fnRowOnceOkWrong)

/-- 'laws.FnDifferences': WHATEVER THE INPUT: true; the input reads as it did. -/
def fnDifferencesSpec : ChangeSpec := { name := "fnDifferences", fn := fun _ => fun
  | [d] => { results := [.lit (.bool true)], args := [d] }
  | _ => none }
def fnDifferencesRow : OpenClaim := { program := "ytklmfnafbfghjaa", sum := "361efb03ec325560d14cf26ee52bad3bc32bd48033f2c91244b96536e8371791", func := "loop.example/labelnets/laws.FnDifferences", spec := "fnDifferences", apart := false }
def FnDifferencesSaid : Prop := fnDifferencesRow.holds Try.pinned (OpenSpec.ofChange fnDifferencesSpec)

/-- ITS FALSE NEIGHBOUR: 'it returns false'. Refute it at one input. -/
def fnDifferencesWrong : ChangeSpec := { name := "fnDifferences", fn := fun _ => fun
  | [d] => { results := [.lit (.bool false)], args := [d] }
  | _ => none }
def FnDifferencesWrongFalsely : Prop := fnDifferencesRow.holds Try.pinned (OpenSpec.ofChange fnDifferencesWrong)

/-- 'laws.FnGracefulOk': WHATEVER THE INPUT: true; the input reads as it did. -/
def fnGracefulOkSpec : ChangeSpec := { name := "fnGracefulOk", fn := fun _ => fun
  | [d] => { results := [.lit (.bool true)], args := [d] }
  | _ => none }
def fnGracefulOkRow : OpenClaim := { program := "ytklmfnafbfghjaa", sum := "361efb03ec325560d14cf26ee52bad3bc32bd48033f2c91244b96536e8371791", func := "loop.example/labelnets/laws.FnGracefulOk", spec := "fnGracefulOk", recurses := true, apart := false }
def FnGracefulOkSaid : Prop := fnGracefulOkRow.holds Try.pinned (OpenSpec.ofChange fnGracefulOkSpec)

/-- ITS FALSE NEIGHBOUR: 'it returns false'. Refute it at one input. -/
def fnGracefulOkWrong : ChangeSpec := { name := "fnGracefulOk", fn := fun _ => fun
  | [d] => { results := [.lit (.bool false)], args := [d] }
  | _ => none }
def FnGracefulOkWrongFalsely : Prop := fnGracefulOkRow.holds Try.pinned (OpenSpec.ofChange fnGracefulOkWrong)

/-- 'laws.FnRaisedRow': WHATEVER THE INPUT: true; the input reads as it did. -/
def fnRaisedRowSpec : ChangeSpec := { name := "fnRaisedRow", fn := fun _ => fun
  | [d] => { results := [.lit (.bool true)], args := [d] }
  | _ => none }
def fnRaisedRowRow : OpenClaim := { program := "ytklmfnafbfghjaa", sum := "361efb03ec325560d14cf26ee52bad3bc32bd48033f2c91244b96536e8371791", func := "loop.example/labelnets/laws.FnRaisedRow", spec := "fnRaisedRow", recurses := true, apart := false }
def FnRaisedRowSaid : Prop := fnRaisedRowRow.holds Try.pinned (OpenSpec.ofChange fnRaisedRowSpec)

/-- ITS FALSE NEIGHBOUR: 'it returns false'. Refute it at one input. -/
def fnRaisedRowWrong : ChangeSpec := { name := "fnRaisedRow", fn := fun _ => fun
  | [d] => { results := [.lit (.bool false)], args := [d] }
  | _ => none }
def FnRaisedRowWrongFalsely : Prop := fnRaisedRowRow.holds Try.pinned (OpenSpec.ofChange fnRaisedRowWrong)

/-- 'laws.FnTurnedBy': WHATEVER THE INPUT: true; the input reads as it did. -/
def fnTurnedBySpec : ChangeSpec := { name := "fnTurnedBy", fn := fun _ => fun
  | [d] => { results := [.lit (.bool true)], args := [d] }
  | _ => none }
def fnTurnedByRow : OpenClaim := { program := "ytklmfnafbfghjaa", sum := "361efb03ec325560d14cf26ee52bad3bc32bd48033f2c91244b96536e8371791", func := "loop.example/labelnets/laws.FnTurnedBy", spec := "fnTurnedBy", recurses := true, apart := false }
def FnTurnedBySaid : Prop := fnTurnedByRow.holds Try.pinned (OpenSpec.ofChange fnTurnedBySpec)

/-- ITS FALSE NEIGHBOUR: 'it returns false'. Refute it at one input. -/
def fnTurnedByWrong : ChangeSpec := { name := "fnTurnedBy", fn := fun _ => fun
  | [d] => { results := [.lit (.bool false)], args := [d] }
  | _ => none }
def FnTurnedByWrongFalsely : Prop := fnTurnedByRow.holds Try.pinned (OpenSpec.ofChange fnTurnedByWrong)

/-- 'laws.FnPairCounts': WHATEVER THE INPUT: true; the input reads as it did. -/
def fnPairCountsSpec : ChangeSpec := { name := "fnPairCounts", fn := fun _ => fun
  | [d] => { results := [.lit (.bool true)], args := [d] }
  | _ => none }
def fnPairCountsRow : OpenClaim := { program := "ytklmfnafbfghjaa", sum := "361efb03ec325560d14cf26ee52bad3bc32bd48033f2c91244b96536e8371791", func := "loop.example/labelnets/laws.FnPairCounts", spec := "fnPairCounts", recurses := true, apart := false }
def FnPairCountsSaid : Prop := fnPairCountsRow.holds Try.pinned (OpenSpec.ofChange fnPairCountsSpec)

/-- ITS FALSE NEIGHBOUR: 'it returns false'. Refute it at one input. -/
def fnPairCountsWrong : ChangeSpec := { name := "fnPairCounts", fn := fun _ => fun
  | [d] => { results := [.lit (.bool false)], args := [d] }
  | _ => none }
def FnPairCountsWrongFalsely : Prop := fnPairCountsRow.holds Try.pinned (OpenSpec.ofChange fnPairCountsWrong)

/-- 'laws.FnRoundDifferences': WHATEVER THE INPUT: true; the input reads as it did. -/
def fnRoundDifferencesSpec : ChangeSpec := { name := "fnRoundDifferences", fn := fun _ => fun
  | [d] => { results := [.lit (.bool true)], args := [d] }
  | _ => none }
def fnRoundDifferencesRow : OpenClaim := { program := "ytklmfnafbfghjaa", sum := "361efb03ec325560d14cf26ee52bad3bc32bd48033f2c91244b96536e8371791", func := "loop.example/labelnets/laws.FnRoundDifferences", spec := "fnRoundDifferences", recurses := true, apart := false }
def FnRoundDifferencesSaid : Prop := fnRoundDifferencesRow.holds Try.pinned (OpenSpec.ofChange fnRoundDifferencesSpec)

/-- ITS FALSE NEIGHBOUR: 'it returns false'. Refute it at one input. -/
def fnRoundDifferencesWrong : ChangeSpec := { name := "fnRoundDifferences", fn := fun _ => fun
  | [d] => { results := [.lit (.bool false)], args := [d] }
  | _ => none }
def FnRoundDifferencesWrongFalsely : Prop := fnRoundDifferencesRow.holds Try.pinned (OpenSpec.ofChange fnRoundDifferencesWrong)

/-- 'laws.FnExactDifferences': WHATEVER THE INPUT: true; the input reads as it did. -/
def fnExactDifferencesSpec : ChangeSpec := { name := "fnExactDifferences", fn := fun _ => fun
  | [d1, d2] => { results := [.lit (.bool true)], args := [d1, d2] }
  | _ => none }
def fnExactDifferencesRow : OpenClaim := { program := "ytklmfnafbfghjaa", sum := "361efb03ec325560d14cf26ee52bad3bc32bd48033f2c91244b96536e8371791", func := "loop.example/labelnets/laws.FnExactDifferences", spec := "fnExactDifferences", apart := false }
def FnExactDifferencesSaid : Prop := fnExactDifferencesRow.holds Try.pinned (OpenSpec.ofChange fnExactDifferencesSpec)

/-- ITS FALSE NEIGHBOUR: 'it returns false'. Refute it at one input. -/
def fnExactDifferencesWrong : ChangeSpec := { name := "fnExactDifferences", fn := fun _ => fun
  | [d1, d2] => { results := [.lit (.bool false)], args := [d1, d2] }
  | _ => none }
def FnExactDifferencesWrongFalsely : Prop := fnExactDifferencesRow.holds Try.pinned (OpenSpec.ofChange fnExactDifferencesWrong)

/-- 'laws.FnExactRoundDifferences': WHATEVER THE INPUT: true; the input reads as it did. -/
def fnExactRoundDifferencesSpec : ChangeSpec := { name := "fnExactRoundDifferences", fn := fun _ => fun
  | [d1, d2, d3] => { results := [.lit (.bool true)], args := [d1, d2, d3] }
  | _ => none }
def fnExactRoundDifferencesRow : OpenClaim := { program := "ytklmfnafbfghjaa", sum := "361efb03ec325560d14cf26ee52bad3bc32bd48033f2c91244b96536e8371791", func := "loop.example/labelnets/laws.FnExactRoundDifferences", spec := "fnExactRoundDifferences", apart := false }
def FnExactRoundDifferencesSaid : Prop := fnExactRoundDifferencesRow.holds Try.pinned (OpenSpec.ofChange fnExactRoundDifferencesSpec)

/-- ITS FALSE NEIGHBOUR: 'it returns false'. Refute it at one input. -/
def fnExactRoundDifferencesWrong : ChangeSpec := { name := "fnExactRoundDifferences", fn := fun _ => fun
  | [d1, d2, d3] => { results := [.lit (.bool false)], args := [d1, d2, d3] }
  | _ => none }
def FnExactRoundDifferencesWrongFalsely : Prop := fnExactRoundDifferencesRow.holds Try.pinned (OpenSpec.ofChange fnExactRoundDifferencesWrong)

/- THE SECOND FORM. 'bulk': how many values and letters a reading holds, each counted each time it is reached (what is shared counts as often as it is met; a slice's spare places count too). A statement '..UptoSaid' is the law's where the arguments, and the package variables that the reading takes, are together of bulk at most 1048576: NARROWER than '..Said'. Prove '..Said' where nothing that the law and all that it calls make is longer than what came in: it says more and counts as full. Else prove '..UptoSaid'. A law counts once. -/
mutual
def uptoBulk {H : Type} : DataW H → Nat
  | .lit (.string bytes) => bytes.length + 1
  | .lit _ => 1
  | .nil => 1
  | .ptr d => uptoBulk d + 1
  | .slice elems spare => uptoBulkAll elems + uptoBulkAll spare + 1
  | .agg parts => uptoBulkAll parts + 1
  | .iface _ d => uptoBulk d + 1
  | .map entries => uptoBulkEntries entries + 1
  | .held _ => 1
def uptoBulkAll {H : Type} : List (DataW H) → Nat
  | [] => 0
  | d :: r => uptoBulk d + uptoBulkAll r
def uptoBulkEntries {H : Type} : List (Lit × DataW H) → Nat
  | [] => 0
  | x :: r => uptoBulkEntry x + uptoBulkEntries r
def uptoBulkEntry {H : Type} : Lit × DataW H → Nat
  | (.string bytes, d) => bytes.length + uptoBulk d + 1
  | (_, d) => uptoBulk d + 1
 end
def uptoSmall : (H : Type) → List (DataW H) → Bool := fun _ ds => decide (uptoBulkAll ds ≤ 1048576)
def OpenSpec.upto (s : _root_.Go.ChangeSpec) : _root_.Go.OpenSpec := { _root_.Go.OpenSpec.ofChange s with cond := some uptoSmall }

/-- 'laws.FnRowOnceOk', WHERE WHAT IT READS IS OF BULK AT MOST 1048576: true; the input reads as it did. -/
def fnRowOnceOkUptoRow : OpenClaim := { program := "ytklmfnafbfghjaa", sum := "361efb03ec325560d14cf26ee52bad3bc32bd48033f2c91244b96536e8371791", func := "loop.example/labelnets/laws.FnRowOnceOk", spec := "fnRowOnceOk", apart := false, narrowed := true }
def FnRowOnceOkUptoSaid : Prop := fnRowOnceOkUptoRow.holds Try.pinned (OpenSpec.upto fnRowOnceOkSpec)

/-- 'laws.FnDifferences', WHERE WHAT IT READS IS OF BULK AT MOST 1048576: true; the input reads as it did. -/
def fnDifferencesUptoRow : OpenClaim := { program := "ytklmfnafbfghjaa", sum := "361efb03ec325560d14cf26ee52bad3bc32bd48033f2c91244b96536e8371791", func := "loop.example/labelnets/laws.FnDifferences", spec := "fnDifferences", apart := false, narrowed := true }
def FnDifferencesUptoSaid : Prop := fnDifferencesUptoRow.holds Try.pinned (OpenSpec.upto fnDifferencesSpec)

/-- 'laws.FnGracefulOk', WHERE WHAT IT READS IS OF BULK AT MOST 1048576: true; the input reads as it did. -/
def fnGracefulOkUptoRow : OpenClaim := { program := "ytklmfnafbfghjaa", sum := "361efb03ec325560d14cf26ee52bad3bc32bd48033f2c91244b96536e8371791", func := "loop.example/labelnets/laws.FnGracefulOk", spec := "fnGracefulOk", recurses := true, apart := false, narrowed := true }
def FnGracefulOkUptoSaid : Prop := fnGracefulOkUptoRow.holds Try.pinned (OpenSpec.upto fnGracefulOkSpec)

/-- 'laws.FnRaisedRow', WHERE WHAT IT READS IS OF BULK AT MOST 1048576: true; the input reads as it did. -/
def fnRaisedRowUptoRow : OpenClaim := { program := "ytklmfnafbfghjaa", sum := "361efb03ec325560d14cf26ee52bad3bc32bd48033f2c91244b96536e8371791", func := "loop.example/labelnets/laws.FnRaisedRow", spec := "fnRaisedRow", recurses := true, apart := false, narrowed := true }
def FnRaisedRowUptoSaid : Prop := fnRaisedRowUptoRow.holds Try.pinned (OpenSpec.upto fnRaisedRowSpec)

/-- 'laws.FnTurnedBy', WHERE WHAT IT READS IS OF BULK AT MOST 1048576: true; the input reads as it did. -/
def fnTurnedByUptoRow : OpenClaim := { program := "ytklmfnafbfghjaa", sum := "361efb03ec325560d14cf26ee52bad3bc32bd48033f2c91244b96536e8371791", func := "loop.example/labelnets/laws.FnTurnedBy", spec := "fnTurnedBy", recurses := true, apart := false, narrowed := true }
def FnTurnedByUptoSaid : Prop := fnTurnedByUptoRow.holds Try.pinned (OpenSpec.upto fnTurnedBySpec)

/-- 'laws.FnPairCounts', WHERE WHAT IT READS IS OF BULK AT MOST 1048576: true; the input reads as it did. -/
def fnPairCountsUptoRow : OpenClaim := { program := "ytklmfnafbfghjaa", sum := "361efb03ec325560d14cf26ee52bad3bc32bd48033f2c91244b96536e8371791", func := "loop.example/labelnets/laws.FnPairCounts", spec := "fnPairCounts", recurses := true, apart := false, narrowed := true }
def FnPairCountsUptoSaid : Prop := fnPairCountsUptoRow.holds Try.pinned (OpenSpec.upto fnPairCountsSpec)

/-- 'laws.FnRoundDifferences', WHERE WHAT IT READS IS OF BULK AT MOST 1048576: true; the input reads as it did. -/
def fnRoundDifferencesUptoRow : OpenClaim := { program := "ytklmfnafbfghjaa", sum := "361efb03ec325560d14cf26ee52bad3bc32bd48033f2c91244b96536e8371791", func := "loop.example/labelnets/laws.FnRoundDifferences", spec := "fnRoundDifferences", recurses := true, apart := false, narrowed := true }
def FnRoundDifferencesUptoSaid : Prop := fnRoundDifferencesUptoRow.holds Try.pinned (OpenSpec.upto fnRoundDifferencesSpec)

/-- 'laws.FnExactDifferences', WHERE WHAT IT READS IS OF BULK AT MOST 1048576: true; the input reads as it did. -/
def fnExactDifferencesUptoRow : OpenClaim := { program := "ytklmfnafbfghjaa", sum := "361efb03ec325560d14cf26ee52bad3bc32bd48033f2c91244b96536e8371791", func := "loop.example/labelnets/laws.FnExactDifferences", spec := "fnExactDifferences", apart := false, narrowed := true }
def FnExactDifferencesUptoSaid : Prop := fnExactDifferencesUptoRow.holds Try.pinned (OpenSpec.upto fnExactDifferencesSpec)

/-- 'laws.FnExactRoundDifferences', WHERE WHAT IT READS IS OF BULK AT MOST 1048576: true; the input reads as it did. -/
def fnExactRoundDifferencesUptoRow : OpenClaim := { program := "ytklmfnafbfghjaa", sum := "361efb03ec325560d14cf26ee52bad3bc32bd48033f2c91244b96536e8371791", func := "loop.example/labelnets/laws.FnExactRoundDifferences", spec := "fnExactRoundDifferences", apart := false, narrowed := true }
def FnExactRoundDifferencesUptoSaid : Prop := fnExactRoundDifferencesUptoRow.holds Try.pinned (OpenSpec.upto fnExactRoundDifferencesSpec)

end Rows
end Go.Proofs.Ytklmfnafbfghjaa
