/-
  No cell of these rows narrows 'for every input' (looked for: loops, veiled, ifaces, maps, wideKeys, modest, calm, conditions, laid).
  DERIVED. THE GIVEN ROWS OF THIS SEAT. 8 by the template 'for every input the law returns true; each argument reads behind the call as it read before'; 0 by the template 'total and deterministic' (their statements: YtigjlphflaiboaaTotals.lean).
  GIVEN WITH THE SEED: the statements are not yours to turn. If you find one false, say at which input.
  Laid BY PROGRAM, IN A SANDBOX (cutbox-rows.mjs): the forced cells as the released guide's own fill.sh prints them over the translation 33988d4a18bc162f… (all of the seat's roots in one cut). By AI agents, Wed Nov 11 2026. No macro, syntax, notation, axiom, sorry.
-/
import Derived.Test.YtigjlphflaiboaaChecked
import GoSem.Claim
import GoSem.ClaimJoined
import GoSem.ClaimMapViews
import Derived.JoinedTies
import Derived.KernelRfl
namespace Go.Proofs.Ytigjlphflaiboaa
/- THE CELL 'sum', in the pinned program and in every row, IS THE sha256 OF THE DUMP (.gsa) THAT YtigjlphflaiboaaProg.lean LOADS. Nothing in Lean hashes anything: it is a label: what it is worth is what the hold of that sum in a sandbox is worth. -/
noncomputable def Try.pinned : Pinned := { name := "ytigjlphflaiboaa", sum := "33988d4a18bc162f02ad4eeaece9b93148dd85a0fcee09cbd92996c9c0392101", checked := Try.checked }
namespace Rows
def none {H : Type} : Left H := { results := [], args := [] }

/-- 'laws.FnTurnedBy': WHATEVER THE INPUT: true; the input reads as it did. -/
def fnTurnedBySpec : ChangeSpec := { name := "fnTurnedBy", fn := fun _ => fun
  | [d] => { results := [.lit (.bool true)], args := [d] }
  | _ => none }
def fnTurnedByRow : OpenClaim := { program := "ytigjlphflaiboaa", sum := "33988d4a18bc162f02ad4eeaece9b93148dd85a0fcee09cbd92996c9c0392101", func := "loop.example/labelnets/laws.FnTurnedBy", spec := "fnTurnedBy", recurses := true, apart := false }
def FnTurnedBySaid : Prop := fnTurnedByRow.holds Try.pinned (OpenSpec.ofChange fnTurnedBySpec)

/-- ITS FALSE NEIGHBOUR: 'it returns false'. Refute it at one input. -/
def fnTurnedByWrong : ChangeSpec := { name := "fnTurnedBy", fn := fun _ => fun
  | [d] => { results := [.lit (.bool false)], args := [d] }
  | _ => none }
def FnTurnedByWrongFalsely : Prop := fnTurnedByRow.holds Try.pinned (OpenSpec.ofChange fnTurnedByWrong)

/-- 'laws.FnPairCounts': WHATEVER THE INPUT: true; the input reads as it did. -/
def fnPairCountsSpec : ChangeSpec := { name := "fnPairCounts", fn := fun _ => fun
  | [d] => { results := [.lit (.bool true)], args := [d] }
  | _ => none }
def fnPairCountsRow : OpenClaim := { program := "ytigjlphflaiboaa", sum := "33988d4a18bc162f02ad4eeaece9b93148dd85a0fcee09cbd92996c9c0392101", func := "loop.example/labelnets/laws.FnPairCounts", spec := "fnPairCounts", recurses := true, apart := false }
def FnPairCountsSaid : Prop := fnPairCountsRow.holds Try.pinned (OpenSpec.ofChange fnPairCountsSpec)

/-- ITS FALSE NEIGHBOUR: 'it returns false'. Refute it at one input. -/
def fnPairCountsWrong : ChangeSpec := { name := "fnPairCounts", fn := fun _ => fun
  | [d] => { results := [.lit (.bool false)], args := [d] }
  | _ => none }
def FnPairCountsWrongFalsely : Prop := fnPairCountsRow.holds Try.pinned (OpenSpec.ofChange fnPairCountsWrong)

/-- 'laws.FnCoversOk': WHATEVER THE INPUT: true; the input reads as it did. -/
def fnCoversOkSpec : ChangeSpec := { name := "fnCoversOk", fn := fun _ => fun
  | [d] => { results := [.lit (.bool true)], args := [d] }
  | _ => none }
def fnCoversOkRow : OpenClaim := { program := "ytigjlphflaiboaa", sum := "33988d4a18bc162f02ad4eeaece9b93148dd85a0fcee09cbd92996c9c0392101", func := "loop.example/labelnets/laws.FnCoversOk", spec := "fnCoversOk", recurses := true, apart := false }
def FnCoversOkSaid : Prop := fnCoversOkRow.holds Try.pinned (OpenSpec.ofChange fnCoversOkSpec)

/-- ITS FALSE NEIGHBOUR: 'it returns false'. Refute it at one input. -/
def fnCoversOkWrong : ChangeSpec := { name := "fnCoversOk", fn := fun _ => fun
  | [d] => { results := [.lit (.bool false)], args := [d] }
  | _ => none }
def FnCoversOkWrongFalsely : Prop := fnCoversOkRow.holds Try.pinned (OpenSpec.ofChange fnCoversOkWrong)

/-- 'laws.FnRoundDifferences': WHATEVER THE INPUT: true; the input reads as it did. -/
def fnRoundDifferencesSpec : ChangeSpec := { name := "fnRoundDifferences", fn := fun _ => fun
  | [d] => { results := [.lit (.bool true)], args := [d] }
  | _ => none }
def fnRoundDifferencesRow : OpenClaim := { program := "ytigjlphflaiboaa", sum := "33988d4a18bc162f02ad4eeaece9b93148dd85a0fcee09cbd92996c9c0392101", func := "loop.example/labelnets/laws.FnRoundDifferences", spec := "fnRoundDifferences", recurses := true, apart := false }
def FnRoundDifferencesSaid : Prop := fnRoundDifferencesRow.holds Try.pinned (OpenSpec.ofChange fnRoundDifferencesSpec)

/-- ITS FALSE NEIGHBOUR: 'it returns false'. Refute it at one input. -/
def fnRoundDifferencesWrong : ChangeSpec := { name := "fnRoundDifferences", fn := fun _ => fun
  | [d] => { results := [.lit (.bool false)], args := [d] }
  | _ => none }
def FnRoundDifferencesWrongFalsely : Prop := fnRoundDifferencesRow.holds Try.pinned (OpenSpec.ofChange fnRoundDifferencesWrong)

/-- 'laws.FnExactTurnedBy': WHATEVER THE INPUT: true; the input reads as it did. -/
def fnExactTurnedBySpec : ChangeSpec := { name := "fnExactTurnedBy", fn := fun _ => fun
  | [d1, d2, d3, d4] => { results := [.lit (.bool true)], args := [d1, d2, d3, d4] }
  | _ => none }
def fnExactTurnedByRow : OpenClaim := { program := "ytigjlphflaiboaa", sum := "33988d4a18bc162f02ad4eeaece9b93148dd85a0fcee09cbd92996c9c0392101", func := "loop.example/labelnets/laws.FnExactTurnedBy", spec := "fnExactTurnedBy", apart := false }
def FnExactTurnedBySaid : Prop := fnExactTurnedByRow.holds Try.pinned (OpenSpec.ofChange fnExactTurnedBySpec)

/-- ITS FALSE NEIGHBOUR: 'it returns false'. Refute it at one input. -/
def fnExactTurnedByWrong : ChangeSpec := { name := "fnExactTurnedBy", fn := fun _ => fun
  | [d1, d2, d3, d4] => { results := [.lit (.bool false)], args := [d1, d2, d3, d4] }
  | _ => none }
def FnExactTurnedByWrongFalsely : Prop := fnExactTurnedByRow.holds Try.pinned (OpenSpec.ofChange fnExactTurnedByWrong)

/-- 'laws.FnExactPairCounts': WHATEVER THE INPUT: true; the input reads as it did. -/
def fnExactPairCountsSpec : ChangeSpec := { name := "fnExactPairCounts", fn := fun _ => fun
  | [d1, d2, d3] => { results := [.lit (.bool true)], args := [d1, d2, d3] }
  | _ => none }
def fnExactPairCountsRow : OpenClaim := { program := "ytigjlphflaiboaa", sum := "33988d4a18bc162f02ad4eeaece9b93148dd85a0fcee09cbd92996c9c0392101", func := "loop.example/labelnets/laws.FnExactPairCounts", spec := "fnExactPairCounts", apart := false }
def FnExactPairCountsSaid : Prop := fnExactPairCountsRow.holds Try.pinned (OpenSpec.ofChange fnExactPairCountsSpec)

/-- ITS FALSE NEIGHBOUR: 'it returns false'. Refute it at one input. -/
def fnExactPairCountsWrong : ChangeSpec := { name := "fnExactPairCounts", fn := fun _ => fun
  | [d1, d2, d3] => { results := [.lit (.bool false)], args := [d1, d2, d3] }
  | _ => none }
def FnExactPairCountsWrongFalsely : Prop := fnExactPairCountsRow.holds Try.pinned (OpenSpec.ofChange fnExactPairCountsWrong)

/-- 'laws.FnExactCoversOk': WHATEVER THE INPUT: true; the input reads as it did. -/
def fnExactCoversOkSpec : ChangeSpec := { name := "fnExactCoversOk", fn := fun _ => fun
  | [d1, d2, d3] => { results := [.lit (.bool true)], args := [d1, d2, d3] }
  | _ => none }
def fnExactCoversOkRow : OpenClaim := { program := "ytigjlphflaiboaa", sum := "33988d4a18bc162f02ad4eeaece9b93148dd85a0fcee09cbd92996c9c0392101", func := "loop.example/labelnets/laws.FnExactCoversOk", spec := "fnExactCoversOk", apart := false }
def FnExactCoversOkSaid : Prop := fnExactCoversOkRow.holds Try.pinned (OpenSpec.ofChange fnExactCoversOkSpec)

/-- ITS FALSE NEIGHBOUR: 'it returns false'. Refute it at one input. -/
def fnExactCoversOkWrong : ChangeSpec := { name := "fnExactCoversOk", fn := fun _ => fun
  | [d1, d2, d3] => { results := [.lit (.bool false)], args := [d1, d2, d3] }
  | _ => none }
def FnExactCoversOkWrongFalsely : Prop := fnExactCoversOkRow.holds Try.pinned (OpenSpec.ofChange fnExactCoversOkWrong)

/-- 'laws.FnExactRoundDifferences': WHATEVER THE INPUT: true; the input reads as it did. -/
def fnExactRoundDifferencesSpec : ChangeSpec := { name := "fnExactRoundDifferences", fn := fun _ => fun
  | [d1, d2, d3] => { results := [.lit (.bool true)], args := [d1, d2, d3] }
  | _ => none }
def fnExactRoundDifferencesRow : OpenClaim := { program := "ytigjlphflaiboaa", sum := "33988d4a18bc162f02ad4eeaece9b93148dd85a0fcee09cbd92996c9c0392101", func := "loop.example/labelnets/laws.FnExactRoundDifferences", spec := "fnExactRoundDifferences", apart := false }
def FnExactRoundDifferencesSaid : Prop := fnExactRoundDifferencesRow.holds Try.pinned (OpenSpec.ofChange fnExactRoundDifferencesSpec)

/-- ITS FALSE NEIGHBOUR: 'it returns false'. Refute it at one input. -/
def fnExactRoundDifferencesWrong : ChangeSpec := { name := "fnExactRoundDifferences", fn := fun _ => fun
  | [d1, d2, d3] => { results := [.lit (.bool false)], args := [d1, d2, d3] }
  | _ => none }
def FnExactRoundDifferencesWrongFalsely : Prop := fnExactRoundDifferencesRow.holds Try.pinned (OpenSpec.ofChange fnExactRoundDifferencesWrong)

/- THE SECOND FORM. 'bulk': how many values and letters a reading holds, each counted each time it is reached (what is shared counts as often as it is met; a slice's spare places count too). A statement '..UptoSaid' is the law's where the arguments, and the package variables that the reading takes, are together of bulk at most 1048576: NARROWER than '..Said'. Prove '..Said' where nothing that the law and all that it calls make is longer than what came in: it says more and counts as full. Else prove '..UptoSaid'. A law counts once. -/
mutual
def uptoBulk {H : Type} : DataW H → Nat
  | .lit (.string bytes) => bytes.length + 1
  | .lit _ => 1
  | .nil => 1
  | .ptr d => uptoBulk d + 1
  | .slice elems spare => uptoBulkAll elems + uptoBulkAll spare + 1
  | .agg parts => uptoBulkAll parts + 1
  | .iface _ d => uptoBulk d + 1
  | .map entries => uptoBulkEntries entries + 1
  | .held _ => 1
def uptoBulkAll {H : Type} : List (DataW H) → Nat
  | [] => 0
  | d :: r => uptoBulk d + uptoBulkAll r
def uptoBulkEntries {H : Type} : List (Lit × DataW H) → Nat
  | [] => 0
  | x :: r => uptoBulkEntry x + uptoBulkEntries r
def uptoBulkEntry {H : Type} : Lit × DataW H → Nat
  | (.string bytes, d) => bytes.length + uptoBulk d + 1
  | (_, d) => uptoBulk d + 1
 end
def uptoSmall : (H : Type) → List (DataW H) → Bool := fun _ ds => decide (uptoBulkAll ds ≤ 1048576)
def OpenSpec.upto (s : _root_.Go.ChangeSpec) : _root_.Go.OpenSpec := { _root_.Go.OpenSpec.ofChange s with cond := some uptoSmall }

/-- 'laws.FnTurnedBy', WHERE WHAT IT READS IS OF BULK AT MOST 1048576: true; the input reads as it did. -/
def fnTurnedByUptoRow : OpenClaim := { program := "ytigjlphflaiboaa", sum := "33988d4a18bc162f02ad4eeaece9b93148dd85a0fcee09cbd92996c9c0392101", func := "loop.example/labelnets/laws.FnTurnedBy", spec := "fnTurnedBy", recurses := true, apart := false, narrowed := true }
def FnTurnedByUptoSaid : Prop := fnTurnedByUptoRow.holds Try.pinned (OpenSpec.upto fnTurnedBySpec)

/-- 'laws.FnPairCounts', WHERE WHAT IT READS IS OF BULK AT MOST 1048576: true; the input reads as it did. -/
def fnPairCountsUptoRow : OpenClaim := { program := "ytigjlphflaiboaa", sum := "33988d4a18bc162f02ad4eeaece9b93148dd85a0fcee09cbd92996c9c0392101", func := "loop.example/labelnets/laws.FnPairCounts", spec := "fnPairCounts", recurses := true, apart := false, narrowed := true }
def FnPairCountsUptoSaid : Prop := fnPairCountsUptoRow.holds Try.pinned (OpenSpec.upto fnPairCountsSpec)

/-- 'laws.FnCoversOk', WHERE WHAT IT READS IS OF BULK AT MOST 1048576: true; the input reads as it did. -/
def fnCoversOkUptoRow : OpenClaim := { program := "ytigjlphflaiboaa", sum := "33988d4a18bc162f02ad4eeaece9b93148dd85a0fcee09cbd92996c9c0392101", func := "loop.example/labelnets/laws.FnCoversOk", spec := "fnCoversOk", recurses := true, apart := false, narrowed := true }
def FnCoversOkUptoSaid : Prop := fnCoversOkUptoRow.holds Try.pinned (OpenSpec.upto fnCoversOkSpec)

/-- 'laws.FnRoundDifferences', WHERE WHAT IT READS IS OF BULK AT MOST 1048576: true; the input reads as it did. -/
def fnRoundDifferencesUptoRow : OpenClaim := { program := "ytigjlphflaiboaa", sum := "33988d4a18bc162f02ad4eeaece9b93148dd85a0fcee09cbd92996c9c0392101", func := "loop.example/labelnets/laws.FnRoundDifferences", spec := "fnRoundDifferences", recurses := true, apart := false, narrowed := true }
def FnRoundDifferencesUptoSaid : Prop := fnRoundDifferencesUptoRow.holds Try.pinned (OpenSpec.upto fnRoundDifferencesSpec)

/-- 'laws.FnExactTurnedBy', WHERE WHAT IT READS IS OF BULK AT MOST 1048576: true; the input reads as it did. -/
def fnExactTurnedByUptoRow : OpenClaim := { program := "ytigjlphflaiboaa", sum := "33988d4a18bc162f02ad4eeaece9b93148dd85a0fcee09cbd92996c9c0392101", func := "loop.example/labelnets/laws.FnExactTurnedBy", spec := "fnExactTurnedBy", apart := false, narrowed := true }
def FnExactTurnedByUptoSaid : Prop := fnExactTurnedByUptoRow.holds Try.pinned (OpenSpec.upto fnExactTurnedBySpec)

/-- 'laws.FnExactPairCounts', WHERE WHAT IT READS IS OF BULK AT MOST 1048576: true; the input reads as it did. -/
def fnExactPairCountsUptoRow : OpenClaim := { program := "ytigjlphflaiboaa", sum := "33988d4a18bc162f02ad4eeaece9b93148dd85a0fcee09cbd92996c9c0392101", func := "loop.example/labelnets/laws.FnExactPairCounts", spec := "fnExactPairCounts", apart := false, narrowed := true }
def FnExactPairCountsUptoSaid : Prop := fnExactPairCountsUptoRow.holds Try.pinned (OpenSpec.upto fnExactPairCountsSpec)

/-- 'laws.FnExactCoversOk', WHERE WHAT IT READS IS OF BULK AT MOST 1048576: true; the input reads as it did. -/
def fnExactCoversOkUptoRow : OpenClaim := { program := "ytigjlphflaiboaa", sum := "33988d4a18bc162f02ad4eeaece9b93148dd85a0fcee09cbd92996c9c0392101", func := "loop.example/labelnets/laws.FnExactCoversOk", spec := "fnExactCoversOk", apart := false, narrowed := true }
def FnExactCoversOkUptoSaid : Prop := fnExactCoversOkUptoRow.holds Try.pinned (OpenSpec.upto fnExactCoversOkSpec)

/-- 'laws.FnExactRoundDifferences', WHERE WHAT IT READS IS OF BULK AT MOST 1048576: true; the input reads as it did. -/
def fnExactRoundDifferencesUptoRow : OpenClaim := { program := "ytigjlphflaiboaa", sum := "33988d4a18bc162f02ad4eeaece9b93148dd85a0fcee09cbd92996c9c0392101", func := "loop.example/labelnets/laws.FnExactRoundDifferences", spec := "fnExactRoundDifferences", apart := false, narrowed := true }
def FnExactRoundDifferencesUptoSaid : Prop := fnExactRoundDifferencesUptoRow.holds Try.pinned (OpenSpec.upto fnExactRoundDifferencesSpec)

end Rows
end Go.Proofs.Ytigjlphflaiboaa
