/-
  No cell of these rows narrows 'for every input' (looked for: loops, veiled, ifaces, maps, wideKeys, modest, calm, conditions, laid).
  DERIVED. THE GIVEN ROWS OF THIS SEAT. 12 by the template 'for every input the law returns true; each argument reads behind the call as it read before'; 0 by the template 'total and deterministic' (their statements: YtkhbihbljdhpbaaTotals.lean).
  GIVEN WITH THE SEED: the statements are not yours to turn. If you find one false, say at which input.
  Laid BY PROGRAM, IN A SANDBOX (cutbox-rows.mjs): the forced cells as the released guide's own fill.sh prints them over the translation bd8ef92c903bea04… (all of the seat's roots in one cut). By AI agents, Wed Nov 11 2026. No macro, syntax, notation, axiom, sorry.
-/
import Derived.Test.YtkhbihbljdhpbaaChecked
import GoSem.Claim
import GoSem.ClaimJoined
import GoSem.ClaimMapViews
import Derived.JoinedTies
import Derived.KernelRfl
namespace Go.Proofs.Ytkhbihbljdhpbaa
/- THE CELL 'sum', in the pinned program and in every row, IS THE sha256 OF THE DUMP (.gsa) THAT YtkhbihbljdhpbaaProg.lean LOADS. Nothing in Lean hashes anything: it is a label: what it is worth is what the hold of that sum in a sandbox is worth. -/
noncomputable def Try.pinned : Pinned := { name := "ytkhbihbljdhpbaa", sum := "bd8ef92c903bea04d3187289e3aba1a15ecde89c1cad1c6dd0032a5b64eee3e1", checked := Try.checked }
namespace Rows
def none {H : Type} : Left H := { results := [], args := [] }

/-- 'laws.FnTableOk': WHATEVER THE INPUT: true; the input reads as it did. -/
def fnTableOkSpec : ChangeSpec := { name := "fnTableOk", fn := fun _ => fun
  | [d] => { results := [.lit (.bool true)], args := [d] }
  | _ => none }
def fnTableOkRow : OpenClaim := { program := "ytkhbihbljdhpbaa", sum := "bd8ef92c903bea04d3187289e3aba1a15ecde89c1cad1c6dd0032a5b64eee3e1", func := "loop.example/labelnets/laws.FnTableOk", spec := "fnTableOk", apart := false }
def FnTableOkSaid : Prop := fnTableOkRow.holds Try.pinned (OpenSpec.ofChange fnTableOkSpec)

/-- ITS FALSE NEIGHBOUR: 'it returns false'. Refute it at one input. -/
def fnTableOkWrong : ChangeSpec := { name := "fnTableOk", fn := fun _ => fun
  | [d] => { results := [.lit (.bool false)], args := [d] }
  | _ => none }
def FnTableOkWrongFalsely : Prop := fnTableOkRow.holds Try.pinned (OpenSpec.ofChange fnTableOkWrong)

/-- 'laws.FnTableNet': WHATEVER THE INPUT: true; the input reads as it did. -/
def fnTableNetSpec : ChangeSpec := { name := "fnTableNet", fn := fun _ => fun
  | [d] => { results := [.lit (.bool true)], args := [d] }
  | _ => none }
def fnTableNetRow : OpenClaim := { program := "ytkhbihbljdhpbaa", sum := "bd8ef92c903bea04d3187289e3aba1a15ecde89c1cad1c6dd0032a5b64eee3e1", func := "loop.example/labelnets/laws.FnTableNet", spec := "fnTableNet", apart := false }
def FnTableNetSaid : Prop := fnTableNetRow.holds Try.pinned (OpenSpec.ofChange fnTableNetSpec)

/-- ITS FALSE NEIGHBOUR: 'it returns false'. Refute it at one input. -/
def fnTableNetWrong : ChangeSpec := { name := "fnTableNet", fn := fun _ => fun
  | [d] => { results := [.lit (.bool false)], args := [d] }
  | _ => none }
def FnTableNetWrongFalsely : Prop := fnTableNetRow.holds Try.pinned (OpenSpec.ofChange fnTableNetWrong)

/-- 'laws.FnTableOf': WHATEVER THE INPUT: true; the input reads as it did. -/
def fnTableOfSpec : ChangeSpec := { name := "fnTableOf", fn := fun _ => fun
  | [d] => { results := [.lit (.bool true)], args := [d] }
  | _ => none }
def fnTableOfRow : OpenClaim := { program := "ytkhbihbljdhpbaa", sum := "bd8ef92c903bea04d3187289e3aba1a15ecde89c1cad1c6dd0032a5b64eee3e1", func := "loop.example/labelnets/laws.FnTableOf", spec := "fnTableOf", apart := false }
def FnTableOfSaid : Prop := fnTableOfRow.holds Try.pinned (OpenSpec.ofChange fnTableOfSpec)

/-- ITS FALSE NEIGHBOUR: 'it returns false'. Refute it at one input. -/
def fnTableOfWrong : ChangeSpec := { name := "fnTableOf", fn := fun _ => fun
  | [d] => { results := [.lit (.bool false)], args := [d] }
  | _ => none }
def FnTableOfWrongFalsely : Prop := fnTableOfRow.holds Try.pinned (OpenSpec.ofChange fnTableOfWrong)

/-- 'laws.FnTablesMany': WHATEVER THE INPUT: true; the input reads as it did. -/
def fnTablesManySpec : ChangeSpec := { name := "fnTablesMany", fn := fun _ => fun
  | [d] => { results := [.lit (.bool true)], args := [d] }
  | _ => none }
def fnTablesManyRow : OpenClaim := { program := "ytkhbihbljdhpbaa", sum := "bd8ef92c903bea04d3187289e3aba1a15ecde89c1cad1c6dd0032a5b64eee3e1", func := "loop.example/labelnets/laws.FnTablesMany", spec := "fnTablesMany", apart := false }
def FnTablesManySaid : Prop := fnTablesManyRow.holds Try.pinned (OpenSpec.ofChange fnTablesManySpec)

/-- ITS FALSE NEIGHBOUR: 'it returns false'. Refute it at one input. -/
def fnTablesManyWrong : ChangeSpec := { name := "fnTablesMany", fn := fun _ => fun
  | [d] => { results := [.lit (.bool false)], args := [d] }
  | _ => none }
def FnTablesManyWrongFalsely : Prop := fnTablesManyRow.holds Try.pinned (OpenSpec.ofChange fnTablesManyWrong)

/-- 'laws.FnTableNumber': WHATEVER THE INPUT: true; the input reads as it did. -/
def fnTableNumberSpec : ChangeSpec := { name := "fnTableNumber", fn := fun _ => fun
  | [d] => { results := [.lit (.bool true)], args := [d] }
  | _ => none }
def fnTableNumberRow : OpenClaim := { program := "ytkhbihbljdhpbaa", sum := "bd8ef92c903bea04d3187289e3aba1a15ecde89c1cad1c6dd0032a5b64eee3e1", func := "loop.example/labelnets/laws.FnTableNumber", spec := "fnTableNumber", apart := false }
def FnTableNumberSaid : Prop := fnTableNumberRow.holds Try.pinned (OpenSpec.ofChange fnTableNumberSpec)

/-- ITS FALSE NEIGHBOUR: 'it returns false'. Refute it at one input. -/
def fnTableNumberWrong : ChangeSpec := { name := "fnTableNumber", fn := fun _ => fun
  | [d] => { results := [.lit (.bool false)], args := [d] }
  | _ => none }
def FnTableNumberWrongFalsely : Prop := fnTableNumberRow.holds Try.pinned (OpenSpec.ofChange fnTableNumberWrong)

/-- 'laws.FnTableAt': WHATEVER THE INPUT: true; the input reads as it did. -/
def fnTableAtSpec : ChangeSpec := { name := "fnTableAt", fn := fun _ => fun
  | [d] => { results := [.lit (.bool true)], args := [d] }
  | _ => none }
def fnTableAtRow : OpenClaim := { program := "ytkhbihbljdhpbaa", sum := "bd8ef92c903bea04d3187289e3aba1a15ecde89c1cad1c6dd0032a5b64eee3e1", func := "loop.example/labelnets/laws.FnTableAt", spec := "fnTableAt", apart := false }
def FnTableAtSaid : Prop := fnTableAtRow.holds Try.pinned (OpenSpec.ofChange fnTableAtSpec)

/-- ITS FALSE NEIGHBOUR: 'it returns false'. Refute it at one input. -/
def fnTableAtWrong : ChangeSpec := { name := "fnTableAt", fn := fun _ => fun
  | [d] => { results := [.lit (.bool false)], args := [d] }
  | _ => none }
def FnTableAtWrongFalsely : Prop := fnTableAtRow.holds Try.pinned (OpenSpec.ofChange fnTableAtWrong)

/-- 'laws.FnExactTableOk': WHATEVER THE INPUT: true; the input reads as it did. -/
def fnExactTableOkSpec : ChangeSpec := { name := "fnExactTableOk", fn := fun _ => fun
  | [d] => { results := [.lit (.bool true)], args := [d] }
  | _ => none }
def fnExactTableOkRow : OpenClaim := { program := "ytkhbihbljdhpbaa", sum := "bd8ef92c903bea04d3187289e3aba1a15ecde89c1cad1c6dd0032a5b64eee3e1", func := "loop.example/labelnets/laws.FnExactTableOk", spec := "fnExactTableOk", apart := false }
def FnExactTableOkSaid : Prop := fnExactTableOkRow.holds Try.pinned (OpenSpec.ofChange fnExactTableOkSpec)

/-- ITS FALSE NEIGHBOUR: 'it returns false'. Refute it at one input. -/
def fnExactTableOkWrong : ChangeSpec := { name := "fnExactTableOk", fn := fun _ => fun
  | [d] => { results := [.lit (.bool false)], args := [d] }
  | _ => none }
def FnExactTableOkWrongFalsely : Prop := fnExactTableOkRow.holds Try.pinned (OpenSpec.ofChange fnExactTableOkWrong)

/-- 'laws.FnExactTableNet': WHATEVER THE INPUT: true; the input reads as it did. -/
def fnExactTableNetSpec : ChangeSpec := { name := "fnExactTableNet", fn := fun _ => fun
  | [d] => { results := [.lit (.bool true)], args := [d] }
  | _ => none }
def fnExactTableNetRow : OpenClaim := { program := "ytkhbihbljdhpbaa", sum := "bd8ef92c903bea04d3187289e3aba1a15ecde89c1cad1c6dd0032a5b64eee3e1", func := "loop.example/labelnets/laws.FnExactTableNet", spec := "fnExactTableNet", apart := false }
def FnExactTableNetSaid : Prop := fnExactTableNetRow.holds Try.pinned (OpenSpec.ofChange fnExactTableNetSpec)

/-- ITS FALSE NEIGHBOUR: 'it returns false'. Refute it at one input. -/
def fnExactTableNetWrong : ChangeSpec := { name := "fnExactTableNet", fn := fun _ => fun
  | [d] => { results := [.lit (.bool false)], args := [d] }
  | _ => none }
def FnExactTableNetWrongFalsely : Prop := fnExactTableNetRow.holds Try.pinned (OpenSpec.ofChange fnExactTableNetWrong)

/-- 'laws.FnExactTableOf': WHATEVER THE INPUT: true; the input reads as it did. -/
def fnExactTableOfSpec : ChangeSpec := { name := "fnExactTableOf", fn := fun _ => fun
  | [d] => { results := [.lit (.bool true)], args := [d] }
  | _ => none }
def fnExactTableOfRow : OpenClaim := { program := "ytkhbihbljdhpbaa", sum := "bd8ef92c903bea04d3187289e3aba1a15ecde89c1cad1c6dd0032a5b64eee3e1", func := "loop.example/labelnets/laws.FnExactTableOf", spec := "fnExactTableOf", apart := false }
def FnExactTableOfSaid : Prop := fnExactTableOfRow.holds Try.pinned (OpenSpec.ofChange fnExactTableOfSpec)

/-- ITS FALSE NEIGHBOUR: 'it returns false'. Refute it at one input. -/
def fnExactTableOfWrong : ChangeSpec := { name := "fnExactTableOf", fn := fun _ => fun
  | [d] => { results := [.lit (.bool false)], args := [d] }
  | _ => none }
def FnExactTableOfWrongFalsely : Prop := fnExactTableOfRow.holds Try.pinned (OpenSpec.ofChange fnExactTableOfWrong)

/-- 'laws.FnExactTablesMany': WHATEVER THE INPUT: true; the input reads as it did. -/
def fnExactTablesManySpec : ChangeSpec := { name := "fnExactTablesMany", fn := fun _ => fun
  | [d] => { results := [.lit (.bool true)], args := [d] }
  | _ => none }
def fnExactTablesManyRow : OpenClaim := { program := "ytkhbihbljdhpbaa", sum := "bd8ef92c903bea04d3187289e3aba1a15ecde89c1cad1c6dd0032a5b64eee3e1", func := "loop.example/labelnets/laws.FnExactTablesMany", spec := "fnExactTablesMany", apart := false }
def FnExactTablesManySaid : Prop := fnExactTablesManyRow.holds Try.pinned (OpenSpec.ofChange fnExactTablesManySpec)

/-- ITS FALSE NEIGHBOUR: 'it returns false'. Refute it at one input. -/
def fnExactTablesManyWrong : ChangeSpec := { name := "fnExactTablesMany", fn := fun _ => fun
  | [d] => { results := [.lit (.bool false)], args := [d] }
  | _ => none }
def FnExactTablesManyWrongFalsely : Prop := fnExactTablesManyRow.holds Try.pinned (OpenSpec.ofChange fnExactTablesManyWrong)

/-- 'laws.FnExactTableNumber': WHATEVER THE INPUT: true; the input reads as it did. -/
def fnExactTableNumberSpec : ChangeSpec := { name := "fnExactTableNumber", fn := fun _ => fun
  | [d] => { results := [.lit (.bool true)], args := [d] }
  | _ => none }
def fnExactTableNumberRow : OpenClaim := { program := "ytkhbihbljdhpbaa", sum := "bd8ef92c903bea04d3187289e3aba1a15ecde89c1cad1c6dd0032a5b64eee3e1", func := "loop.example/labelnets/laws.FnExactTableNumber", spec := "fnExactTableNumber", apart := false }
def FnExactTableNumberSaid : Prop := fnExactTableNumberRow.holds Try.pinned (OpenSpec.ofChange fnExactTableNumberSpec)

/-- ITS FALSE NEIGHBOUR: 'it returns false'. Refute it at one input. -/
def fnExactTableNumberWrong : ChangeSpec := { name := "fnExactTableNumber", fn := fun _ => fun
  | [d] => { results := [.lit (.bool false)], args := [d] }
  | _ => none }
def FnExactTableNumberWrongFalsely : Prop := fnExactTableNumberRow.holds Try.pinned (OpenSpec.ofChange fnExactTableNumberWrong)

/-- 'laws.FnExactTableAt': WHATEVER THE INPUT: true; the input reads as it did. -/
def fnExactTableAtSpec : ChangeSpec := { name := "fnExactTableAt", fn := fun _ => fun
  | [d1, d2] => { results := [.lit (.bool true)], args := [d1, d2] }
  | _ => none }
def fnExactTableAtRow : OpenClaim := { program := "ytkhbihbljdhpbaa", sum := "bd8ef92c903bea04d3187289e3aba1a15ecde89c1cad1c6dd0032a5b64eee3e1", func := "loop.example/labelnets/laws.FnExactTableAt", spec := "fnExactTableAt", apart := false }
def FnExactTableAtSaid : Prop := fnExactTableAtRow.holds Try.pinned (OpenSpec.ofChange fnExactTableAtSpec)

/-- ITS FALSE NEIGHBOUR: 'it returns false'. Refute it at one input. -/
def fnExactTableAtWrong : ChangeSpec := { name := "fnExactTableAt", fn := fun _ => fun
  | [d1, d2] => { results := [.lit (.bool false)], args := [d1, d2] }
  | _ => none }
def FnExactTableAtWrongFalsely : Prop := fnExactTableAtRow.holds Try.pinned (OpenSpec.ofChange fnExactTableAtWrong)

/- THE SECOND FORM. 'bulk': how many values and letters a reading holds, each counted each time it is reached (what is shared counts as often as it is met; a slice's spare places count too). A statement '..UptoSaid' is the law's where the arguments, and the package variables that the reading takes, are together of bulk at most 1048576: NARROWER than '..Said'. Prove '..Said' where nothing that the law and all that it calls make is longer than what came in: it says more and counts as full. Else prove '..UptoSaid'. A law counts once. -/
mutual
def uptoBulk {H : Type} : DataW H → Nat
  | .lit (.string bytes) => bytes.length + 1
  | .lit _ => 1
  | .nil => 1
  | .ptr d => uptoBulk d + 1
  | .slice elems spare => uptoBulkAll elems + uptoBulkAll spare + 1
  | .agg parts => uptoBulkAll parts + 1
  | .iface _ d => uptoBulk d + 1
  | .map entries => uptoBulkEntries entries + 1
  | .held _ => 1
def uptoBulkAll {H : Type} : List (DataW H) → Nat
  | [] => 0
  | d :: r => uptoBulk d + uptoBulkAll r
def uptoBulkEntries {H : Type} : List (Lit × DataW H) → Nat
  | [] => 0
  | x :: r => uptoBulkEntry x + uptoBulkEntries r
def uptoBulkEntry {H : Type} : Lit × DataW H → Nat
  | (.string bytes, d) => bytes.length + uptoBulk d + 1
  | (_, d) => uptoBulk d + 1
 end
def uptoSmall : (H : Type) → List (DataW H) → Bool := fun _ ds => decide (uptoBulkAll ds ≤ 1048576)
def OpenSpec.upto (s : _root_.Go.ChangeSpec) : _root_.Go.OpenSpec := { _root_.Go.OpenSpec.ofChange s with cond := some uptoSmall }

/-- 'laws.FnTableOk', WHERE WHAT IT READS IS OF BULK AT MOST 1048576: true; the input reads as it did. -/
def fnTableOkUptoRow : OpenClaim := { program := "ytkhbihbljdhpbaa", sum := "bd8ef92c903bea04d3187289e3aba1a15ecde89c1cad1c6dd0032a5b64eee3e1", func := "loop.example/labelnets/laws.FnTableOk", spec := "fnTableOk", apart := false, narrowed := true }
def FnTableOkUptoSaid : Prop := fnTableOkUptoRow.holds Try.pinned (OpenSpec.upto fnTableOkSpec)

/-- 'laws.FnTableNet', WHERE WHAT IT READS IS OF BULK AT MOST 1048576: true; the input reads as it did. -/
def fnTableNetUptoRow : OpenClaim := { program := "ytkhbihbljdhpbaa", sum := "bd8ef92c903bea04d3187289e3aba1a15ecde89c1cad1c6dd0032a5b64eee3e1", func := "loop.example/labelnets/laws.FnTableNet", spec := "fnTableNet", apart := false, narrowed := true }
def FnTableNetUptoSaid : Prop := fnTableNetUptoRow.holds Try.pinned (OpenSpec.upto fnTableNetSpec)

/-- 'laws.FnTableOf', WHERE WHAT IT READS IS OF BULK AT MOST 1048576: true; the input reads as it did. -/
def fnTableOfUptoRow : OpenClaim := { program := "ytkhbihbljdhpbaa", sum := "bd8ef92c903bea04d3187289e3aba1a15ecde89c1cad1c6dd0032a5b64eee3e1", func := "loop.example/labelnets/laws.FnTableOf", spec := "fnTableOf", apart := false, narrowed := true }
def FnTableOfUptoSaid : Prop := fnTableOfUptoRow.holds Try.pinned (OpenSpec.upto fnTableOfSpec)

/-- 'laws.FnTablesMany', WHERE WHAT IT READS IS OF BULK AT MOST 1048576: true; the input reads as it did. -/
def fnTablesManyUptoRow : OpenClaim := { program := "ytkhbihbljdhpbaa", sum := "bd8ef92c903bea04d3187289e3aba1a15ecde89c1cad1c6dd0032a5b64eee3e1", func := "loop.example/labelnets/laws.FnTablesMany", spec := "fnTablesMany", apart := false, narrowed := true }
def FnTablesManyUptoSaid : Prop := fnTablesManyUptoRow.holds Try.pinned (OpenSpec.upto fnTablesManySpec)

/-- 'laws.FnTableNumber', WHERE WHAT IT READS IS OF BULK AT MOST 1048576: true; the input reads as it did. -/
def fnTableNumberUptoRow : OpenClaim := { program := "ytkhbihbljdhpbaa", sum := "bd8ef92c903bea04d3187289e3aba1a15ecde89c1cad1c6dd0032a5b64eee3e1", func := "loop.example/labelnets/laws.FnTableNumber", spec := "fnTableNumber", apart := false, narrowed := true }
def FnTableNumberUptoSaid : Prop := fnTableNumberUptoRow.holds Try.pinned (OpenSpec.upto fnTableNumberSpec)

/-- 'laws.FnTableAt', WHERE WHAT IT READS IS OF BULK AT MOST 1048576: true; the input reads as it did. -/
def fnTableAtUptoRow : OpenClaim := { program := "ytkhbihbljdhpbaa", sum := "bd8ef92c903bea04d3187289e3aba1a15ecde89c1cad1c6dd0032a5b64eee3e1", func := "loop.example/labelnets/laws.FnTableAt", spec := "fnTableAt", apart := false, narrowed := true }
def FnTableAtUptoSaid : Prop := fnTableAtUptoRow.holds Try.pinned (OpenSpec.upto fnTableAtSpec)

/-- 'laws.FnExactTableOk', WHERE WHAT IT READS IS OF BULK AT MOST 1048576: true; the input reads as it did. -/
def fnExactTableOkUptoRow : OpenClaim := { program := "ytkhbihbljdhpbaa", sum := "bd8ef92c903bea04d3187289e3aba1a15ecde89c1cad1c6dd0032a5b64eee3e1", func := "loop.example/labelnets/laws.FnExactTableOk", spec := "fnExactTableOk", apart := false, narrowed := true }
def FnExactTableOkUptoSaid : Prop := fnExactTableOkUptoRow.holds Try.pinned (OpenSpec.upto fnExactTableOkSpec)

/-- 'laws.FnExactTableNet', WHERE WHAT IT READS IS OF BULK AT MOST 1048576: true; the input reads as it did. -/
def fnExactTableNetUptoRow : OpenClaim := { program := "ytkhbihbljdhpbaa", sum := "bd8ef92c903bea04d3187289e3aba1a15ecde89c1cad1c6dd0032a5b64eee3e1", func := "loop.example/labelnets/laws.FnExactTableNet", spec := "fnExactTableNet", apart := false, narrowed := true }
def FnExactTableNetUptoSaid : Prop := fnExactTableNetUptoRow.holds Try.pinned (OpenSpec.upto fnExactTableNetSpec)

/-- 'laws.FnExactTableOf', WHERE WHAT IT READS IS OF BULK AT MOST 1048576: true; the input reads as it did. -/
def fnExactTableOfUptoRow : OpenClaim := { program := "ytkhbihbljdhpbaa", sum := "bd8ef92c903bea04d3187289e3aba1a15ecde89c1cad1c6dd0032a5b64eee3e1", func := "loop.example/labelnets/laws.FnExactTableOf", spec := "fnExactTableOf", apart := false, narrowed := true }
def FnExactTableOfUptoSaid : Prop := fnExactTableOfUptoRow.holds Try.pinned (OpenSpec.upto fnExactTableOfSpec)

/-- 'laws.FnExactTablesMany', WHERE WHAT IT READS IS OF BULK AT MOST 1048576: true; the input reads as it did. -/
def fnExactTablesManyUptoRow : OpenClaim := { program := "ytkhbihbljdhpbaa", sum := "bd8ef92c903bea04d3187289e3aba1a15ecde89c1cad1c6dd0032a5b64eee3e1", func := "loop.example/labelnets/laws.FnExactTablesMany", spec := "fnExactTablesMany", apart := false, narrowed := true }
def FnExactTablesManyUptoSaid : Prop := fnExactTablesManyUptoRow.holds Try.pinned (OpenSpec.upto fnExactTablesManySpec)

/-- 'laws.FnExactTableNumber', WHERE WHAT IT READS IS OF BULK AT MOST 1048576: true; the input reads as it did. -/
def fnExactTableNumberUptoRow : OpenClaim := { program := "ytkhbihbljdhpbaa", sum := "bd8ef92c903bea04d3187289e3aba1a15ecde89c1cad1c6dd0032a5b64eee3e1", func := "loop.example/labelnets/laws.FnExactTableNumber", spec := "fnExactTableNumber", apart := false, narrowed := true }
def FnExactTableNumberUptoSaid : Prop := fnExactTableNumberUptoRow.holds Try.pinned (OpenSpec.upto fnExactTableNumberSpec)

/-- 'laws.FnExactTableAt', WHERE WHAT IT READS IS OF BULK AT MOST 1048576: true; the input reads as it did. -/
def fnExactTableAtUptoRow : OpenClaim := { program := "ytkhbihbljdhpbaa", sum := "bd8ef92c903bea04d3187289e3aba1a15ecde89c1cad1c6dd0032a5b64eee3e1", func := "loop.example/labelnets/laws.FnExactTableAt", spec := "fnExactTableAt", apart := false, narrowed := true }
def FnExactTableAtUptoSaid : Prop := fnExactTableAtUptoRow.holds Try.pinned (OpenSpec.upto fnExactTableAtSpec)

end Rows
end Go.Proofs.Ytkhbihbljdhpbaa
