/-
  No cell of these rows narrows 'for every input' (looked for: loops, veiled, ifaces, maps, wideKeys, modest, calm, conditions, laid).
  DERIVED. THE GIVEN ROWS OF THIS SEAT. 8 by the template 'for every input the law returns true; each argument reads behind the call as it read before'; 0 by the template 'total and deterministic' (their statements: YtljggfghllchnaaTotals.lean).
  GIVEN WITH THE SEED: the statements are not yours to turn. If you find one false, say at which input.
  Laid BY PROGRAM, IN A SANDBOX (cutbox-rows.mjs): the forced cells as the released guide's own fill.sh prints them over the translation 2ac2dbedee5f4aa3… (all of the seat's roots in one cut). By AI agents, Wed Nov 11 2026. No macro, syntax, notation, axiom, sorry.
-/
import Derived.Test.YtljggfghllchnaaChecked
import GoSem.Claim
import GoSem.ClaimJoined
import GoSem.ClaimMapViews
import Derived.JoinedTies
import Derived.KernelRfl
namespace Go.Proofs.Ytljggfghllchnaa
/- THE CELL 'sum', in the pinned program and in every row, IS THE sha256 OF THE DUMP (.gsa) THAT YtljggfghllchnaaProg.lean LOADS. Nothing in Lean hashes anything: it is a label: what it is worth is what the hold of that sum in a sandbox is worth. -/
noncomputable def Try.pinned : Pinned := { name := "ytljggfghllchnaa", sum := "2ac2dbedee5f4aa33a6bab1f61d843d494f95f559fb3cb73ea7f92a7bed1e67f", checked := Try.checked }
namespace Rows
def none {H : Type} : Left H := { results := [], args := [] }

/-- 'laws.FnHarmonyOk': WHATEVER THE INPUT: true; the input reads as it did. -/
def fnHarmonyOkSpec : ChangeSpec := { name := "fnHarmonyOk", fn := fun _ => fun
  | [d] => { results := [.lit (.bool true)], args := [d] }
  | _ => none }
def fnHarmonyOkRow : OpenClaim := { program := "ytljggfghllchnaa", sum := "2ac2dbedee5f4aa33a6bab1f61d843d494f95f559fb3cb73ea7f92a7bed1e67f", func := "loop.example/labelnets/laws.FnHarmonyOk", spec := "fnHarmonyOk", recurses := true, apart := false }
def FnHarmonyOkSaid : Prop := fnHarmonyOkRow.holds Try.pinned (OpenSpec.ofChange fnHarmonyOkSpec)

/-- ITS FALSE NEIGHBOUR: 'it returns false'. Refute it at one input. -/
def fnHarmonyOkWrong : ChangeSpec := { name := "fnHarmonyOk", fn := fun _ => fun
  | [d] => { results := [.lit (.bool false)], args := [d] }
  | _ => none }
def FnHarmonyOkWrongFalsely : Prop := fnHarmonyOkRow.holds Try.pinned (OpenSpec.ofChange fnHarmonyOkWrong)

/-- 'laws.FnHarmonyRows': WHATEVER THE INPUT: true; the input reads as it did. -/
def fnHarmonyRowsSpec : ChangeSpec := { name := "fnHarmonyRows", fn := fun _ => fun
  | [d] => { results := [.lit (.bool true)], args := [d] }
  | _ => none }
def fnHarmonyRowsRow : OpenClaim := { program := "ytljggfghllchnaa", sum := "2ac2dbedee5f4aa33a6bab1f61d843d494f95f559fb3cb73ea7f92a7bed1e67f", func := "loop.example/labelnets/laws.FnHarmonyRows", spec := "fnHarmonyRows", recurses := true, apart := false }
def FnHarmonyRowsSaid : Prop := fnHarmonyRowsRow.holds Try.pinned (OpenSpec.ofChange fnHarmonyRowsSpec)

/-- ITS FALSE NEIGHBOUR: 'it returns false'. Refute it at one input. -/
def fnHarmonyRowsWrong : ChangeSpec := { name := "fnHarmonyRows", fn := fun _ => fun
  | [d] => { results := [.lit (.bool false)], args := [d] }
  | _ => none }
def FnHarmonyRowsWrongFalsely : Prop := fnHarmonyRowsRow.holds Try.pinned (OpenSpec.ofChange fnHarmonyRowsWrong)

/-- 'laws.FnHarmonyMany': WHATEVER THE INPUT: true; the input reads as it did. -/
def fnHarmonyManySpec : ChangeSpec := { name := "fnHarmonyMany", fn := fun _ => fun
  | [d] => { results := [.lit (.bool true)], args := [d] }
  | _ => none }
def fnHarmonyManyRow : OpenClaim := { program := "ytljggfghllchnaa", sum := "2ac2dbedee5f4aa33a6bab1f61d843d494f95f559fb3cb73ea7f92a7bed1e67f", func := "loop.example/labelnets/laws.FnHarmonyMany", spec := "fnHarmonyMany", recurses := true, apart := false }
def FnHarmonyManySaid : Prop := fnHarmonyManyRow.holds Try.pinned (OpenSpec.ofChange fnHarmonyManySpec)

/-- ITS FALSE NEIGHBOUR: 'it returns false'. Refute it at one input. -/
def fnHarmonyManyWrong : ChangeSpec := { name := "fnHarmonyMany", fn := fun _ => fun
  | [d] => { results := [.lit (.bool false)], args := [d] }
  | _ => none }
def FnHarmonyManyWrongFalsely : Prop := fnHarmonyManyRow.holds Try.pinned (OpenSpec.ofChange fnHarmonyManyWrong)

/-- 'laws.FnHarmonyMoved': WHATEVER THE INPUT: true; the input reads as it did. -/
def fnHarmonyMovedSpec : ChangeSpec := { name := "fnHarmonyMoved", fn := fun _ => fun
  | [d] => { results := [.lit (.bool true)], args := [d] }
  | _ => none }
def fnHarmonyMovedRow : OpenClaim := { program := "ytljggfghllchnaa", sum := "2ac2dbedee5f4aa33a6bab1f61d843d494f95f559fb3cb73ea7f92a7bed1e67f", func := "loop.example/labelnets/laws.FnHarmonyMoved", spec := "fnHarmonyMoved", recurses := true, apart := false }
def FnHarmonyMovedSaid : Prop := fnHarmonyMovedRow.holds Try.pinned (OpenSpec.ofChange fnHarmonyMovedSpec)

/-- ITS FALSE NEIGHBOUR: 'it returns false'. Refute it at one input. -/
def fnHarmonyMovedWrong : ChangeSpec := { name := "fnHarmonyMoved", fn := fun _ => fun
  | [d] => { results := [.lit (.bool false)], args := [d] }
  | _ => none }
def FnHarmonyMovedWrongFalsely : Prop := fnHarmonyMovedRow.holds Try.pinned (OpenSpec.ofChange fnHarmonyMovedWrong)

/-- 'laws.FnExactHarmonyOk': WHATEVER THE INPUT: true; the input reads as it did. -/
def fnExactHarmonyOkSpec : ChangeSpec := { name := "fnExactHarmonyOk", fn := fun _ => fun
  | [d1, d2] => { results := [.lit (.bool true)], args := [d1, d2] }
  | _ => none }
def fnExactHarmonyOkRow : OpenClaim := { program := "ytljggfghllchnaa", sum := "2ac2dbedee5f4aa33a6bab1f61d843d494f95f559fb3cb73ea7f92a7bed1e67f", func := "loop.example/labelnets/laws.FnExactHarmonyOk", spec := "fnExactHarmonyOk", apart := false }
def FnExactHarmonyOkSaid : Prop := fnExactHarmonyOkRow.holds Try.pinned (OpenSpec.ofChange fnExactHarmonyOkSpec)

/-- ITS FALSE NEIGHBOUR: 'it returns false'. Refute it at one input. -/
def fnExactHarmonyOkWrong : ChangeSpec := { name := "fnExactHarmonyOk", fn := fun _ => fun
  | [d1, d2] => { results := [.lit (.bool false)], args := [d1, d2] }
  | _ => none }
def FnExactHarmonyOkWrongFalsely : Prop := fnExactHarmonyOkRow.holds Try.pinned (OpenSpec.ofChange fnExactHarmonyOkWrong)

/-- 'laws.FnExactHarmonyRows': WHATEVER THE INPUT: true; the input reads as it did. -/
def fnExactHarmonyRowsSpec : ChangeSpec := { name := "fnExactHarmonyRows", fn := fun _ => fun
  | [d] => { results := [.lit (.bool true)], args := [d] }
  | _ => none }
def fnExactHarmonyRowsRow : OpenClaim := { program := "ytljggfghllchnaa", sum := "2ac2dbedee5f4aa33a6bab1f61d843d494f95f559fb3cb73ea7f92a7bed1e67f", func := "loop.example/labelnets/laws.FnExactHarmonyRows", spec := "fnExactHarmonyRows", recurses := true, apart := false }
def FnExactHarmonyRowsSaid : Prop := fnExactHarmonyRowsRow.holds Try.pinned (OpenSpec.ofChange fnExactHarmonyRowsSpec)

/-- ITS FALSE NEIGHBOUR: 'it returns false'. Refute it at one input. -/
def fnExactHarmonyRowsWrong : ChangeSpec := { name := "fnExactHarmonyRows", fn := fun _ => fun
  | [d] => { results := [.lit (.bool false)], args := [d] }
  | _ => none }
def FnExactHarmonyRowsWrongFalsely : Prop := fnExactHarmonyRowsRow.holds Try.pinned (OpenSpec.ofChange fnExactHarmonyRowsWrong)

/-- 'laws.FnExactHarmonyMany': WHATEVER THE INPUT: true; the input reads as it did. -/
def fnExactHarmonyManySpec : ChangeSpec := { name := "fnExactHarmonyMany", fn := fun _ => fun
  | [d] => { results := [.lit (.bool true)], args := [d] }
  | _ => none }
def fnExactHarmonyManyRow : OpenClaim := { program := "ytljggfghllchnaa", sum := "2ac2dbedee5f4aa33a6bab1f61d843d494f95f559fb3cb73ea7f92a7bed1e67f", func := "loop.example/labelnets/laws.FnExactHarmonyMany", spec := "fnExactHarmonyMany", recurses := true, apart := false }
def FnExactHarmonyManySaid : Prop := fnExactHarmonyManyRow.holds Try.pinned (OpenSpec.ofChange fnExactHarmonyManySpec)

/-- ITS FALSE NEIGHBOUR: 'it returns false'. Refute it at one input. -/
def fnExactHarmonyManyWrong : ChangeSpec := { name := "fnExactHarmonyMany", fn := fun _ => fun
  | [d] => { results := [.lit (.bool false)], args := [d] }
  | _ => none }
def FnExactHarmonyManyWrongFalsely : Prop := fnExactHarmonyManyRow.holds Try.pinned (OpenSpec.ofChange fnExactHarmonyManyWrong)

/-- 'laws.FnExactHarmonyMoved': WHATEVER THE INPUT: true; the input reads as it did. -/
def fnExactHarmonyMovedSpec : ChangeSpec := { name := "fnExactHarmonyMoved", fn := fun _ => fun
  | [d1, d2, d3, d4] => { results := [.lit (.bool true)], args := [d1, d2, d3, d4] }
  | _ => none }
def fnExactHarmonyMovedRow : OpenClaim := { program := "ytljggfghllchnaa", sum := "2ac2dbedee5f4aa33a6bab1f61d843d494f95f559fb3cb73ea7f92a7bed1e67f", func := "loop.example/labelnets/laws.FnExactHarmonyMoved", spec := "fnExactHarmonyMoved", apart := false }
def FnExactHarmonyMovedSaid : Prop := fnExactHarmonyMovedRow.holds Try.pinned (OpenSpec.ofChange fnExactHarmonyMovedSpec)

/-- ITS FALSE NEIGHBOUR: 'it returns false'. Refute it at one input. -/
def fnExactHarmonyMovedWrong : ChangeSpec := { name := "fnExactHarmonyMoved", fn := fun _ => fun
  | [d1, d2, d3, d4] => { results := [.lit (.bool false)], args := [d1, d2, d3, d4] }
  | _ => none }
def FnExactHarmonyMovedWrongFalsely : Prop := fnExactHarmonyMovedRow.holds Try.pinned (OpenSpec.ofChange fnExactHarmonyMovedWrong)

/- THE SECOND FORM. 'bulk': how many values and letters a reading holds, each counted each time it is reached (what is shared counts as often as it is met; a slice's spare places count too). A statement '..UptoSaid' is the law's where the arguments, and the package variables that the reading takes, are together of bulk at most 1048576: NARROWER than '..Said'. Prove '..Said' where nothing that the law and all that it calls make is longer than what came in: it says more and counts as full. Else prove '..UptoSaid'. A law counts once. -/
mutual
def uptoBulk {H : Type} : DataW H → Nat
  | .lit (.string bytes) => bytes.length + 1
  | .lit _ => 1
  | .nil => 1
  | .ptr d => uptoBulk d + 1
  | .slice elems spare => uptoBulkAll elems + uptoBulkAll spare + 1
  | .agg parts => uptoBulkAll parts + 1
  | .iface _ d => uptoBulk d + 1
  | .map entries => uptoBulkEntries entries + 1
  | .held _ => 1
def uptoBulkAll {H : Type} : List (DataW H) → Nat
  | [] => 0
  | d :: r => uptoBulk d + uptoBulkAll r
def uptoBulkEntries {H : Type} : List (Lit × DataW H) → Nat
  | [] => 0
  | x :: r => uptoBulkEntry x + uptoBulkEntries r
def uptoBulkEntry {H : Type} : Lit × DataW H → Nat
  | (.string bytes, d) => bytes.length + uptoBulk d + 1
  | (_, d) => uptoBulk d + 1
 end
def uptoSmall : (H : Type) → List (DataW H) → Bool := fun _ ds => decide (uptoBulkAll ds ≤ 1048576)
def OpenSpec.upto (s : _root_.Go.ChangeSpec) : _root_.Go.OpenSpec := { _root_.Go.OpenSpec.ofChange s with cond := some uptoSmall }

/-- 'laws.FnHarmonyOk', WHERE WHAT IT READS IS OF BULK AT MOST 1048576: true; the input reads as it did. -/
def fnHarmonyOkUptoRow : OpenClaim := { program := "ytljggfghllchnaa", sum := "2ac2dbedee5f4aa33a6bab1f61d843d494f95f559fb3cb73ea7f92a7bed1e67f", func := "loop.example/labelnets/laws.FnHarmonyOk", spec := "fnHarmonyOk", recurses := true, apart := false, narrowed := true }
def FnHarmonyOkUptoSaid : Prop := fnHarmonyOkUptoRow.holds Try.pinned (OpenSpec.upto fnHarmonyOkSpec)

/-- 'laws.FnHarmonyRows', WHERE WHAT IT READS IS OF BULK AT MOST 1048576: true; the input reads as it did. -/
def fnHarmonyRowsUptoRow : OpenClaim := { program := "ytljggfghllchnaa", sum := "2ac2dbedee5f4aa33a6bab1f61d843d494f95f559fb3cb73ea7f92a7bed1e67f", func := "loop.example/labelnets/laws.FnHarmonyRows", spec := "fnHarmonyRows", recurses := true, apart := false, narrowed := true }
def FnHarmonyRowsUptoSaid : Prop := fnHarmonyRowsUptoRow.holds Try.pinned (OpenSpec.upto fnHarmonyRowsSpec)

/-- 'laws.FnHarmonyMany', WHERE WHAT IT READS IS OF BULK AT MOST 1048576: true; the input reads as it did. -/
def fnHarmonyManyUptoRow : OpenClaim := { program := "ytljggfghllchnaa", sum := "2ac2dbedee5f4aa33a6bab1f61d843d494f95f559fb3cb73ea7f92a7bed1e67f", func := "loop.example/labelnets/laws.FnHarmonyMany", spec := "fnHarmonyMany", recurses := true, apart := false, narrowed := true }
def FnHarmonyManyUptoSaid : Prop := fnHarmonyManyUptoRow.holds Try.pinned (OpenSpec.upto fnHarmonyManySpec)

/-- 'laws.FnHarmonyMoved', WHERE WHAT IT READS IS OF BULK AT MOST 1048576: true; the input reads as it did. -/
def fnHarmonyMovedUptoRow : OpenClaim := { program := "ytljggfghllchnaa", sum := "2ac2dbedee5f4aa33a6bab1f61d843d494f95f559fb3cb73ea7f92a7bed1e67f", func := "loop.example/labelnets/laws.FnHarmonyMoved", spec := "fnHarmonyMoved", recurses := true, apart := false, narrowed := true }
def FnHarmonyMovedUptoSaid : Prop := fnHarmonyMovedUptoRow.holds Try.pinned (OpenSpec.upto fnHarmonyMovedSpec)

/-- 'laws.FnExactHarmonyOk', WHERE WHAT IT READS IS OF BULK AT MOST 1048576: true; the input reads as it did. -/
def fnExactHarmonyOkUptoRow : OpenClaim := { program := "ytljggfghllchnaa", sum := "2ac2dbedee5f4aa33a6bab1f61d843d494f95f559fb3cb73ea7f92a7bed1e67f", func := "loop.example/labelnets/laws.FnExactHarmonyOk", spec := "fnExactHarmonyOk", apart := false, narrowed := true }
def FnExactHarmonyOkUptoSaid : Prop := fnExactHarmonyOkUptoRow.holds Try.pinned (OpenSpec.upto fnExactHarmonyOkSpec)

/-- 'laws.FnExactHarmonyRows', WHERE WHAT IT READS IS OF BULK AT MOST 1048576: true; the input reads as it did. -/
def fnExactHarmonyRowsUptoRow : OpenClaim := { program := "ytljggfghllchnaa", sum := "2ac2dbedee5f4aa33a6bab1f61d843d494f95f559fb3cb73ea7f92a7bed1e67f", func := "loop.example/labelnets/laws.FnExactHarmonyRows", spec := "fnExactHarmonyRows", recurses := true, apart := false, narrowed := true }
def FnExactHarmonyRowsUptoSaid : Prop := fnExactHarmonyRowsUptoRow.holds Try.pinned (OpenSpec.upto fnExactHarmonyRowsSpec)

/-- 'laws.FnExactHarmonyMany', WHERE WHAT IT READS IS OF BULK AT MOST 1048576: true; the input reads as it did. -/
def fnExactHarmonyManyUptoRow : OpenClaim := { program := "ytljggfghllchnaa", sum := "2ac2dbedee5f4aa33a6bab1f61d843d494f95f559fb3cb73ea7f92a7bed1e67f", func := "loop.example/labelnets/laws.FnExactHarmonyMany", spec := "fnExactHarmonyMany", recurses := true, apart := false, narrowed := true }
def FnExactHarmonyManyUptoSaid : Prop := fnExactHarmonyManyUptoRow.holds Try.pinned (OpenSpec.upto fnExactHarmonyManySpec)

/-- 'laws.FnExactHarmonyMoved', WHERE WHAT IT READS IS OF BULK AT MOST 1048576: true; the input reads as it did. -/
def fnExactHarmonyMovedUptoRow : OpenClaim := { program := "ytljggfghllchnaa", sum := "2ac2dbedee5f4aa33a6bab1f61d843d494f95f559fb3cb73ea7f92a7bed1e67f", func := "loop.example/labelnets/laws.FnExactHarmonyMoved", spec := "fnExactHarmonyMoved", apart := false, narrowed := true }
def FnExactHarmonyMovedUptoSaid : Prop := fnExactHarmonyMovedUptoRow.holds Try.pinned (OpenSpec.upto fnExactHarmonyMovedSpec)

end Rows
end Go.Proofs.Ytljggfghllchnaa
