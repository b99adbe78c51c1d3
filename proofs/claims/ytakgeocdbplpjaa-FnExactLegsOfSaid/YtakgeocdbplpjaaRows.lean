/-
  No cell of these rows narrows 'for every input' (looked for: loops, veiled, ifaces, maps, wideKeys, modest, calm, conditions, laid).
  DERIVED. THE GIVEN ROWS OF THIS SEAT. 10 by the template 'for every input the law returns true; each argument reads behind the call as it read before'; 0 by the template 'total and deterministic' (their statements: YtakgeocdbplpjaaTotals.lean).
  GIVEN WITH THE SEED: the statements are not yours to turn. If you find one false, say at which input.
  Laid BY PROGRAM, IN A SANDBOX (cutbox-rows.mjs): the forced cells as the released guide's own fill.sh prints them over the translation a9d3dbb6e8d6c577… (all of the seat's roots in one cut). By AI agents, Wed Nov 11 2026. No macro, syntax, notation, axiom, sorry.
-/
import Derived.Test.YtakgeocdbplpjaaChecked
import GoSem.Claim
import GoSem.ClaimJoined
import GoSem.ClaimMapViews
import Derived.JoinedTies
import Derived.KernelRfl
namespace Go.Proofs.Ytakgeocdbplpjaa
/- THE CELL 'sum', in the pinned program and in every row, IS THE sha256 OF THE DUMP (.gsa) THAT YtakgeocdbplpjaaProg.lean LOADS. Nothing in Lean hashes anything: it is a label: what it is worth is what the hold of that sum in a sandbox is worth. -/
noncomputable def Try.pinned : Pinned := { name := "ytakgeocdbplpjaa", sum := "a9d3dbb6e8d6c5775923159623bb080011107213b9decef8c19fa8c1a15d120e", checked := Try.checked }
namespace Rows
def none {H : Type} : Left H := { results := [], args := [] }

/-- 'laws.FnCaterpillarOk': WHATEVER THE INPUT: true; the input reads as it did. -/
def fnCaterpillarOkSpec : ChangeSpec := { name := "fnCaterpillarOk", fn := fun _ => fun
  | [d] => { results := [.lit (.bool true)], args := [d] }
  | _ => none }
def fnCaterpillarOkRow : OpenClaim := { program := "ytakgeocdbplpjaa", sum := "a9d3dbb6e8d6c5775923159623bb080011107213b9decef8c19fa8c1a15d120e", func := "loop.example/labelnets/laws.FnCaterpillarOk", spec := "fnCaterpillarOk", apart := false }
def FnCaterpillarOkSaid : Prop := fnCaterpillarOkRow.holds Try.pinned (OpenSpec.ofChange fnCaterpillarOkSpec)

/-- ITS FALSE NEIGHBOUR: 'it returns false'. Refute it at one input. -/
def fnCaterpillarOkWrong : ChangeSpec := { name := "fnCaterpillarOk", fn := fun _ => fun
  | [d] => { results := [.lit (.bool false)], args := [d] }
  | _ => none }
def FnCaterpillarOkWrongFalsely : Prop := fnCaterpillarOkRow.holds Try.pinned (OpenSpec.ofChange fnCaterpillarOkWrong)

/-- 'laws.FnBackbone': WHATEVER THE INPUT: true; the input reads as it did. -/
def fnBackboneSpec : ChangeSpec := { name := "fnBackbone", fn := fun _ => fun
  | [d] => { results := [.lit (.bool true)], args := [d] }
  | _ => none }
def fnBackboneRow : OpenClaim := { program := "ytakgeocdbplpjaa", sum := "a9d3dbb6e8d6c5775923159623bb080011107213b9decef8c19fa8c1a15d120e", func := "loop.example/labelnets/laws.FnBackbone", spec := "fnBackbone", apart := false }
def FnBackboneSaid : Prop := fnBackboneRow.holds Try.pinned (OpenSpec.ofChange fnBackboneSpec)

/-- ITS FALSE NEIGHBOUR: 'it returns false'. Refute it at one input. -/
def fnBackboneWrong : ChangeSpec := { name := "fnBackbone", fn := fun _ => fun
  | [d] => { results := [.lit (.bool false)], args := [d] }
  | _ => none }
def FnBackboneWrongFalsely : Prop := fnBackboneRow.holds Try.pinned (OpenSpec.ofChange fnBackboneWrong)

/-- 'laws.FnTwoColumns': WHATEVER THE INPUT: true; the input reads as it did. -/
def fnTwoColumnsSpec : ChangeSpec := { name := "fnTwoColumns", fn := fun _ => fun
  | [d] => { results := [.lit (.bool true)], args := [d] }
  | _ => none }
def fnTwoColumnsRow : OpenClaim := { program := "ytakgeocdbplpjaa", sum := "a9d3dbb6e8d6c5775923159623bb080011107213b9decef8c19fa8c1a15d120e", func := "loop.example/labelnets/laws.FnTwoColumns", spec := "fnTwoColumns", apart := false }
def FnTwoColumnsSaid : Prop := fnTwoColumnsRow.holds Try.pinned (OpenSpec.ofChange fnTwoColumnsSpec)

/-- ITS FALSE NEIGHBOUR: 'it returns false'. Refute it at one input. -/
def fnTwoColumnsWrong : ChangeSpec := { name := "fnTwoColumns", fn := fun _ => fun
  | [d] => { results := [.lit (.bool false)], args := [d] }
  | _ => none }
def FnTwoColumnsWrongFalsely : Prop := fnTwoColumnsRow.holds Try.pinned (OpenSpec.ofChange fnTwoColumnsWrong)

/-- 'laws.FnCaterpillarRow': WHATEVER THE INPUT: true; the input reads as it did. -/
def fnCaterpillarRowSpec : ChangeSpec := { name := "fnCaterpillarRow", fn := fun _ => fun
  | [d] => { results := [.lit (.bool true)], args := [d] }
  | _ => none }
def fnCaterpillarRowRow : OpenClaim := { program := "ytakgeocdbplpjaa", sum := "a9d3dbb6e8d6c5775923159623bb080011107213b9decef8c19fa8c1a15d120e", func := "loop.example/labelnets/laws.FnCaterpillarRow", spec := "fnCaterpillarRow", apart := false }
def FnCaterpillarRowSaid : Prop := fnCaterpillarRowRow.holds Try.pinned (OpenSpec.ofChange fnCaterpillarRowSpec)

/-- ITS FALSE NEIGHBOUR: 'it returns false'. Refute it at one input. -/
def fnCaterpillarRowWrong : ChangeSpec := { name := "fnCaterpillarRow", fn := fun _ => fun
  | [d] => { results := [.lit (.bool false)], args := [d] }
  | _ => none }
def FnCaterpillarRowWrongFalsely : Prop := fnCaterpillarRowRow.holds Try.pinned (OpenSpec.ofChange fnCaterpillarRowWrong)

/-- 'laws.FnLegsOf': WHATEVER THE INPUT: true; the input reads as it did. -/
def fnLegsOfSpec : ChangeSpec := { name := "fnLegsOf", fn := fun _ => fun
  | [d] => { results := [.lit (.bool true)], args := [d] }
  | _ => none }
def fnLegsOfRow : OpenClaim := { program := "ytakgeocdbplpjaa", sum := "a9d3dbb6e8d6c5775923159623bb080011107213b9decef8c19fa8c1a15d120e", func := "loop.example/labelnets/laws.FnLegsOf", spec := "fnLegsOf", apart := false }
def FnLegsOfSaid : Prop := fnLegsOfRow.holds Try.pinned (OpenSpec.ofChange fnLegsOfSpec)

/-- ITS FALSE NEIGHBOUR: 'it returns false'. Refute it at one input. -/
def fnLegsOfWrong : ChangeSpec := { name := "fnLegsOf", fn := fun _ => fun
  | [d] => { results := [.lit (.bool false)], args := [d] }
  | _ => none }
def FnLegsOfWrongFalsely : Prop := fnLegsOfRow.holds Try.pinned (OpenSpec.ofChange fnLegsOfWrong)

/-- 'laws.FnExactCaterpillarOk': WHATEVER THE INPUT: true; the input reads as it did. -/
def fnExactCaterpillarOkSpec : ChangeSpec := { name := "fnExactCaterpillarOk", fn := fun _ => fun
  | [d] => { results := [.lit (.bool true)], args := [d] }
  | _ => none }
def fnExactCaterpillarOkRow : OpenClaim := { program := "ytakgeocdbplpjaa", sum := "a9d3dbb6e8d6c5775923159623bb080011107213b9decef8c19fa8c1a15d120e", func := "loop.example/labelnets/laws.FnExactCaterpillarOk", spec := "fnExactCaterpillarOk", apart := false }
def FnExactCaterpillarOkSaid : Prop := fnExactCaterpillarOkRow.holds Try.pinned (OpenSpec.ofChange fnExactCaterpillarOkSpec)

/-- ITS FALSE NEIGHBOUR: 'it returns false'. Refute it at one input. -/
def fnExactCaterpillarOkWrong : ChangeSpec := { name := "fnExactCaterpillarOk", fn := fun _ => fun
  | [d] => { results := [.lit (.bool false)], args := [d] }
  | _ => none }
def FnExactCaterpillarOkWrongFalsely : Prop := fnExactCaterpillarOkRow.holds Try.pinned (OpenSpec.ofChange fnExactCaterpillarOkWrong)

/-- 'laws.FnExactBackbone': WHATEVER THE INPUT: true; the input reads as it did. -/
def fnExactBackboneSpec : ChangeSpec := { name := "fnExactBackbone", fn := fun _ => fun
  | [d] => { results := [.lit (.bool true)], args := [d] }
  | _ => none }
def fnExactBackboneRow : OpenClaim := { program := "ytakgeocdbplpjaa", sum := "a9d3dbb6e8d6c5775923159623bb080011107213b9decef8c19fa8c1a15d120e", func := "loop.example/labelnets/laws.FnExactBackbone", spec := "fnExactBackbone", apart := false }
def FnExactBackboneSaid : Prop := fnExactBackboneRow.holds Try.pinned (OpenSpec.ofChange fnExactBackboneSpec)

/-- ITS FALSE NEIGHBOUR: 'it returns false'. Refute it at one input. -/
def fnExactBackboneWrong : ChangeSpec := { name := "fnExactBackbone", fn := fun _ => fun
  | [d] => { results := [.lit (.bool false)], args := [d] }
  | _ => none }
def FnExactBackboneWrongFalsely : Prop := fnExactBackboneRow.holds Try.pinned (OpenSpec.ofChange fnExactBackboneWrong)

/-- 'laws.FnExactTwoColumns': WHATEVER THE INPUT: true; the input reads as it did. -/
def fnExactTwoColumnsSpec : ChangeSpec := { name := "fnExactTwoColumns", fn := fun _ => fun
  | [d] => { results := [.lit (.bool true)], args := [d] }
  | _ => none }
def fnExactTwoColumnsRow : OpenClaim := { program := "ytakgeocdbplpjaa", sum := "a9d3dbb6e8d6c5775923159623bb080011107213b9decef8c19fa8c1a15d120e", func := "loop.example/labelnets/laws.FnExactTwoColumns", spec := "fnExactTwoColumns", apart := false }
def FnExactTwoColumnsSaid : Prop := fnExactTwoColumnsRow.holds Try.pinned (OpenSpec.ofChange fnExactTwoColumnsSpec)

/-- ITS FALSE NEIGHBOUR: 'it returns false'. Refute it at one input. -/
def fnExactTwoColumnsWrong : ChangeSpec := { name := "fnExactTwoColumns", fn := fun _ => fun
  | [d] => { results := [.lit (.bool false)], args := [d] }
  | _ => none }
def FnExactTwoColumnsWrongFalsely : Prop := fnExactTwoColumnsRow.holds Try.pinned (OpenSpec.ofChange fnExactTwoColumnsWrong)

/-- 'laws.FnExactCaterpillarRow': WHATEVER THE INPUT: true; the input reads as it did. -/
def fnExactCaterpillarRowSpec : ChangeSpec := { name := "fnExactCaterpillarRow", fn := fun _ => fun
  | [d] => { results := [.lit (.bool true)], args := [d] }
  | _ => none }
def fnExactCaterpillarRowRow : OpenClaim := { program := "ytakgeocdbplpjaa", sum := "a9d3dbb6e8d6c5775923159623bb080011107213b9decef8c19fa8c1a15d120e", func := "loop.example/labelnets/laws.FnExactCaterpillarRow", spec := "fnExactCaterpillarRow", apart := false }
def FnExactCaterpillarRowSaid : Prop := fnExactCaterpillarRowRow.holds Try.pinned (OpenSpec.ofChange fnExactCaterpillarRowSpec)

/-- ITS FALSE NEIGHBOUR: 'it returns false'. Refute it at one input. -/
def fnExactCaterpillarRowWrong : ChangeSpec := { name := "fnExactCaterpillarRow", fn := fun _ => fun
  | [d] => { results := [.lit (.bool false)], args := [d] }
  | _ => none }
def FnExactCaterpillarRowWrongFalsely : Prop := fnExactCaterpillarRowRow.holds Try.pinned (OpenSpec.ofChange fnExactCaterpillarRowWrong)

/-- 'laws.FnExactLegsOf': WHATEVER THE INPUT: true; the input reads as it did. -/
def fnExactLegsOfSpec : ChangeSpec := { name := "fnExactLegsOf", fn := fun _ => fun
  | [d] => { results := [.lit (.bool true)], args := [d] }
  | _ => none }
def fnExactLegsOfRow : OpenClaim := { program := "ytakgeocdbplpjaa", sum := "a9d3dbb6e8d6c5775923159623bb080011107213b9decef8c19fa8c1a15d120e", func := "loop.example/labelnets/laws.FnExactLegsOf", spec := "fnExactLegsOf", apart := false }
def FnExactLegsOfSaid : Prop := fnExactLegsOfRow.holds Try.pinned (OpenSpec.ofChange fnExactLegsOfSpec)

/-- ITS FALSE NEIGHBOUR: 'it returns false'. Refute it at one input. -/
def fnExactLegsOfWrong : ChangeSpec := { name := "fnExactLegsOf", fn := fun _ => fun
  | [d] => { results := [.lit (.bool false)], args := [d] }
  | _ => none }
def FnExactLegsOfWrongFalsely : Prop := fnExactLegsOfRow.holds Try.pinned (OpenSpec.ofChange fnExactLegsOfWrong)

/- THE SECOND FORM. 'bulk': how many values and letters a reading holds, each counted each time it is reached (what is shared counts as often as it is met; a slice's spare places count too). A statement '..UptoSaid' is the law's where the arguments, and the package variables that the reading takes, are together of bulk at most 1048576: NARROWER than '..Said'. Prove '..Said' where nothing that the law and all that it calls make is longer than what came in: it says more and counts as full. Else prove '..UptoSaid'. A law counts once. -/
mutual
def uptoBulk {H : Type} : DataW H → Nat
  | .lit (.string bytes) => bytes.length + 1
  | .lit _ => 1
  | .nil => 1
  | .ptr d => uptoBulk d + 1
  | .slice elems spare => uptoBulkAll elems + uptoBulkAll spare + 1
  | .agg parts => uptoBulkAll parts + 1
  | .iface _ d => uptoBulk d + 1
  | .map entries => uptoBulkEntries entries + 1
  | .held _ => 1
def uptoBulkAll {H : Type} : List (DataW H) → Nat
  | [] => 0
  | d :: r => uptoBulk d + uptoBulkAll r
def uptoBulkEntries {H : Type} : List (Lit × DataW H) → Nat
  | [] => 0
  | x :: r => uptoBulkEntry x + uptoBulkEntries r
def uptoBulkEntry {H : Type} : Lit × DataW H → Nat
  | (.string bytes, d) => bytes.length + uptoBulk d + 1
  | (_, d) => uptoBulk d + 1
 end
def uptoSmall : (H : Type) → List (DataW H) → Bool := fun _ ds => decide (uptoBulkAll ds ≤ 1048576)
def OpenSpec.upto (s : _root_.Go.ChangeSpec) : _root_.Go.OpenSpec := { _root_.Go.OpenSpec.ofChange s with cond := some uptoSmall }

/-- 'laws.FnCaterpillarOk', WHERE WHAT IT READS IS OF BULK AT MOST 1048576: true; the input reads as it did. -/
def fnCaterpillarOkUptoRow : OpenClaim := { program := "ytakgeocdbplpjaa", sum := "a9d3dbb6e8d6c5775923159623bb080011107213b9decef8c19fa8c1a15d120e", func := "loop.example/labelnets/laws.FnCaterpillarOk", spec := "fnCaterpillarOk", apart := false, narrowed := true }
def FnCaterpillarOkUptoSaid : Prop := fnCaterpillarOkUptoRow.holds Try.pinned (OpenSpec.upto fnCaterpillarOkSpec)

/-- 'laws.FnBackbone', WHERE WHAT IT READS IS OF BULK AT MOST 1048576: true; the input reads as it did. -/
def fnBackboneUptoRow : OpenClaim := { program := "ytakgeocdbplpjaa", sum := "a9d3dbb6e8d6c5775923159623bb080011107213b9decef8c19fa8c1a15d120e", func := "loop.example/labelnets/laws.FnBackbone", spec := "fnBackbone", apart := false, narrowed := true }
def FnBackboneUptoSaid : Prop := fnBackboneUptoRow.holds Try.pinned (OpenSpec.upto fnBackboneSpec)

/-- 'laws.FnTwoColumns', WHERE WHAT IT READS IS OF BULK AT MOST 1048576: true; the input reads as it did. -/
def fnTwoColumnsUptoRow : OpenClaim := { program := "ytakgeocdbplpjaa", sum := "a9d3dbb6e8d6c5775923159623bb080011107213b9decef8c19fa8c1a15d120e", func := "loop.example/labelnets/laws.FnTwoColumns", spec := "fnTwoColumns", apart := false, narrowed := true }
def FnTwoColumnsUptoSaid : Prop := fnTwoColumnsUptoRow.holds Try.pinned (OpenSpec.upto fnTwoColumnsSpec)

/-- 'laws.FnCaterpillarRow', WHERE WHAT IT READS IS OF BULK AT MOST 1048576: true; the input reads as it did. -/
def fnCaterpillarRowUptoRow : OpenClaim := { program := "ytakgeocdbplpjaa", sum := "a9d3dbb6e8d6c5775923159623bb080011107213b9decef8c19fa8c1a15d120e", func := "loop.example/labelnets/laws.FnCaterpillarRow", spec := "fnCaterpillarRow", apart := false, narrowed := true }
def FnCaterpillarRowUptoSaid : Prop := fnCaterpillarRowUptoRow.holds Try.pinned (OpenSpec.upto fnCaterpillarRowSpec)

/-- 'laws.FnLegsOf', WHERE WHAT IT READS IS OF BULK AT MOST 1048576: true; the input reads as it did. -/
def fnLegsOfUptoRow : OpenClaim := { program := "ytakgeocdbplpjaa", sum := "a9d3dbb6e8d6c5775923159623bb080011107213b9decef8c19fa8c1a15d120e", func := "loop.example/labelnets/laws.FnLegsOf", spec := "fnLegsOf", apart := false, narrowed := true }
def FnLegsOfUptoSaid : Prop := fnLegsOfUptoRow.holds Try.pinned (OpenSpec.upto fnLegsOfSpec)

/-- 'laws.FnExactCaterpillarOk', WHERE WHAT IT READS IS OF BULK AT MOST 1048576: true; the input reads as it did. -/
def fnExactCaterpillarOkUptoRow : OpenClaim := { program := "ytakgeocdbplpjaa", sum := "a9d3dbb6e8d6c5775923159623bb080011107213b9decef8c19fa8c1a15d120e", func := "loop.example/labelnets/laws.FnExactCaterpillarOk", spec := "fnExactCaterpillarOk", apart := false, narrowed := true }
def FnExactCaterpillarOkUptoSaid : Prop := fnExactCaterpillarOkUptoRow.holds Try.pinned (OpenSpec.upto fnExactCaterpillarOkSpec)

/-- 'laws.FnExactBackbone', WHERE WHAT IT READS IS OF BULK AT MOST 1048576: true; the input reads as it did. -/
def fnExactBackboneUptoRow : OpenClaim := { program := "ytakgeocdbplpjaa", sum := "a9d3dbb6e8d6c5775923159623bb080011107213b9decef8c19fa8c1a15d120e", func := "loop.example/labelnets/laws.FnExactBackbone", spec := "fnExactBackbone", apart := false, narrowed := true }
def FnExactBackboneUptoSaid : Prop := fnExactBackboneUptoRow.holds Try.pinned (OpenSpec.upto fnExactBackboneSpec)

/-- 'laws.FnExactTwoColumns', WHERE WHAT IT READS IS OF BULK AT MOST 1048576: true; the input reads as it did. -/
def fnExactTwoColumnsUptoRow : OpenClaim := { program := "ytakgeocdbplpjaa", sum := "a9d3dbb6e8d6c5775923159623bb080011107213b9decef8c19fa8c1a15d120e", func := "loop.example/labelnets/laws.FnExactTwoColumns", spec := "fnExactTwoColumns", apart := false, narrowed := true }
def FnExactTwoColumnsUptoSaid : Prop := fnExactTwoColumnsUptoRow.holds Try.pinned (OpenSpec.upto fnExactTwoColumnsSpec)

/-- 'laws.FnExactCaterpillarRow', WHERE WHAT IT READS IS OF BULK AT MOST 1048576: true; the input reads as it did. -/
def fnExactCaterpillarRowUptoRow : OpenClaim := { program := "ytakgeocdbplpjaa", sum := "a9d3dbb6e8d6c5775923159623bb080011107213b9decef8c19fa8c1a15d120e", func := "loop.example/labelnets/laws.FnExactCaterpillarRow", spec := "fnExactCaterpillarRow", apart := false, narrowed := true }
def FnExactCaterpillarRowUptoSaid : Prop := fnExactCaterpillarRowUptoRow.holds Try.pinned (OpenSpec.upto fnExactCaterpillarRowSpec)

/-- 'laws.FnExactLegsOf', WHERE WHAT IT READS IS OF BULK AT MOST 1048576: true; the input reads as it did. -/
def fnExactLegsOfUptoRow : OpenClaim := { program := "ytakgeocdbplpjaa", sum := "a9d3dbb6e8d6c5775923159623bb080011107213b9decef8c19fa8c1a15d120e", func := "loop.example/labelnets/laws.FnExactLegsOf", spec := "fnExactLegsOf", apart := false, narrowed := true }
def FnExactLegsOfUptoSaid : Prop := fnExactLegsOfUptoRow.holds Try.pinned (OpenSpec.upto fnExactLegsOfSpec)

end Rows
end Go.Proofs.Ytakgeocdbplpjaa
