/-
  No cell of these rows narrows 'for every input' (looked for: loops, veiled, ifaces, maps, wideKeys, modest, calm, conditions, laid).
  DERIVED. THE GIVEN ROWS OF THIS SEAT. 12 by the template 'for every input the law returns true; each argument reads behind the call as it read before'; 0 by the template 'total and deterministic' (their statements: YtbbmppbeignjpaaTotals.lean).
  GIVEN WITH THE SEED: the statements are not yours to turn. If you find one false, say at which input.
  Laid BY PROGRAM, IN A SANDBOX (cutbox-rows.mjs): the forced cells as the released guide's own fill.sh prints them over the translation 9d67d742d7b7da00… (all of the seat's roots in one cut). By AI agents, Wed Nov 11 2026. No macro, syntax, notation, axiom, sorry.
-/
import Derived.Test.YtbbmppbeignjpaaChecked
import GoSem.Claim
import GoSem.ClaimJoined
import GoSem.ClaimMapViews
import Derived.JoinedTies
import Derived.KernelRfl
namespace Go.Proofs.Ytbbmppbeignjpaa
/- THE CELL 'sum', in the pinned program and in every row, IS THE sha256 OF THE DUMP (.gsa) THAT YtbbmppbeignjpaaProg.lean LOADS. Nothing in Lean hashes anything: it is a label: what it is worth is what the hold of that sum in a sandbox is worth. -/
noncomputable def Try.pinned : Pinned := { name := "ytbbmppbeignjpaa", sum := "9d67d742d7b7da00d28d487a2034cc99f65a615981e0c8f511a248a661b5a3c4", checked := Try.checked }
namespace Rows
def none {H : Type} : Left H := { results := [], args := [] }

/-- 'laws.FnUnlikeWires': WHATEVER THE INPUT: true; the input reads as it did. -/
def fnUnlikeWiresSpec : ChangeSpec := { name := "fnUnlikeWires", fn := fun _ => fun
  | [d] => { results := [.lit (.bool true)], args := [d] }
  | _ => none }
def fnUnlikeWiresRow : OpenClaim := { program := "ytbbmppbeignjpaa", sum := "9d67d742d7b7da00d28d487a2034cc99f65a615981e0c8f511a248a661b5a3c4", func := "loop.example/labelnets/laws.FnUnlikeWires", spec := "fnUnlikeWires", apart := false }
def FnUnlikeWiresSaid : Prop := fnUnlikeWiresRow.holds Try.pinned (OpenSpec.ofChange fnUnlikeWiresSpec)

/-- ITS FALSE NEIGHBOUR: 'it returns false'. Refute it at one input. -/
def fnUnlikeWiresWrong : ChangeSpec := { name := "fnUnlikeWires", fn := fun _ => fun
  | [d] => { results := [.lit (.bool false)], args := [d] }
  | _ => none }
def FnUnlikeWiresWrongFalsely : Prop := fnUnlikeWiresRow.holds Try.pinned (OpenSpec.ofChange fnUnlikeWiresWrong)

/-- 'laws.FnBalancedOk': WHATEVER THE INPUT: true; the input reads as it did. -/
def fnBalancedOkSpec : ChangeSpec := { name := "fnBalancedOk", fn := fun _ => fun
  | [d] => { results := [.lit (.bool true)], args := [d] }
  | _ => none }
def fnBalancedOkRow : OpenClaim := { program := "ytbbmppbeignjpaa", sum := "9d67d742d7b7da00d28d487a2034cc99f65a615981e0c8f511a248a661b5a3c4", func := "loop.example/labelnets/laws.FnBalancedOk", spec := "fnBalancedOk", apart := false }
def FnBalancedOkSaid : Prop := fnBalancedOkRow.holds Try.pinned (OpenSpec.ofChange fnBalancedOkSpec)

/-- ITS FALSE NEIGHBOUR: 'it returns false'. Refute it at one input. -/
def fnBalancedOkWrong : ChangeSpec := { name := "fnBalancedOk", fn := fun _ => fun
  | [d] => { results := [.lit (.bool false)], args := [d] }
  | _ => none }
def FnBalancedOkWrongFalsely : Prop := fnBalancedOkRow.holds Try.pinned (OpenSpec.ofChange fnBalancedOkWrong)

/-- 'laws.FnFriendlyOk': WHATEVER THE INPUT: true; the input reads as it did. -/
def fnFriendlyOkSpec : ChangeSpec := { name := "fnFriendlyOk", fn := fun _ => fun
  | [d] => { results := [.lit (.bool true)], args := [d] }
  | _ => none }
def fnFriendlyOkRow : OpenClaim := { program := "ytbbmppbeignjpaa", sum := "9d67d742d7b7da00d28d487a2034cc99f65a615981e0c8f511a248a661b5a3c4", func := "loop.example/labelnets/laws.FnFriendlyOk", spec := "fnFriendlyOk", apart := false }
def FnFriendlyOkSaid : Prop := fnFriendlyOkRow.holds Try.pinned (OpenSpec.ofChange fnFriendlyOkSpec)

/-- ITS FALSE NEIGHBOUR: 'it returns false'. Refute it at one input. -/
def fnFriendlyOkWrong : ChangeSpec := { name := "fnFriendlyOk", fn := fun _ => fun
  | [d] => { results := [.lit (.bool false)], args := [d] }
  | _ => none }
def FnFriendlyOkWrongFalsely : Prop := fnFriendlyOkRow.holds Try.pinned (OpenSpec.ofChange fnFriendlyOkWrong)

/-- 'laws.FnFriendlyFirst': WHATEVER THE INPUT: true; the input reads as it did. -/
def fnFriendlyFirstSpec : ChangeSpec := { name := "fnFriendlyFirst", fn := fun _ => fun
  | [d] => { results := [.lit (.bool true)], args := [d] }
  | _ => none }
def fnFriendlyFirstRow : OpenClaim := { program := "ytbbmppbeignjpaa", sum := "9d67d742d7b7da00d28d487a2034cc99f65a615981e0c8f511a248a661b5a3c4", func := "loop.example/labelnets/laws.FnFriendlyFirst", spec := "fnFriendlyFirst", apart := false }
def FnFriendlyFirstSaid : Prop := fnFriendlyFirstRow.holds Try.pinned (OpenSpec.ofChange fnFriendlyFirstSpec)

/-- ITS FALSE NEIGHBOUR: 'it returns false'. Refute it at one input. -/
def fnFriendlyFirstWrong : ChangeSpec := { name := "fnFriendlyFirst", fn := fun _ => fun
  | [d] => { results := [.lit (.bool false)], args := [d] }
  | _ => none }
def FnFriendlyFirstWrongFalsely : Prop := fnFriendlyFirstRow.holds Try.pinned (OpenSpec.ofChange fnFriendlyFirstWrong)

/-- 'laws.FnFriendlyGaps': WHATEVER THE INPUT: true; the input reads as it did. -/
def fnFriendlyGapsSpec : ChangeSpec := { name := "fnFriendlyGaps", fn := fun _ => fun
  | [d] => { results := [.lit (.bool true)], args := [d] }
  | _ => none }
def fnFriendlyGapsRow : OpenClaim := { program := "ytbbmppbeignjpaa", sum := "9d67d742d7b7da00d28d487a2034cc99f65a615981e0c8f511a248a661b5a3c4", func := "loop.example/labelnets/laws.FnFriendlyGaps", spec := "fnFriendlyGaps", apart := false }
def FnFriendlyGapsSaid : Prop := fnFriendlyGapsRow.holds Try.pinned (OpenSpec.ofChange fnFriendlyGapsSpec)

/-- ITS FALSE NEIGHBOUR: 'it returns false'. Refute it at one input. -/
def fnFriendlyGapsWrong : ChangeSpec := { name := "fnFriendlyGaps", fn := fun _ => fun
  | [d] => { results := [.lit (.bool false)], args := [d] }
  | _ => none }
def FnFriendlyGapsWrongFalsely : Prop := fnFriendlyGapsRow.holds Try.pinned (OpenSpec.ofChange fnFriendlyGapsWrong)

/-- 'laws.FnMostUnlike': WHATEVER THE INPUT: true; the input reads as it did. -/
def fnMostUnlikeSpec : ChangeSpec := { name := "fnMostUnlike", fn := fun _ => fun
  | [d] => { results := [.lit (.bool true)], args := [d] }
  | _ => none }
def fnMostUnlikeRow : OpenClaim := { program := "ytbbmppbeignjpaa", sum := "9d67d742d7b7da00d28d487a2034cc99f65a615981e0c8f511a248a661b5a3c4", func := "loop.example/labelnets/laws.FnMostUnlike", spec := "fnMostUnlike", apart := false }
def FnMostUnlikeSaid : Prop := fnMostUnlikeRow.holds Try.pinned (OpenSpec.ofChange fnMostUnlikeSpec)

/-- ITS FALSE NEIGHBOUR: 'it returns false'. Refute it at one input. -/
def fnMostUnlikeWrong : ChangeSpec := { name := "fnMostUnlike", fn := fun _ => fun
  | [d] => { results := [.lit (.bool false)], args := [d] }
  | _ => none }
def FnMostUnlikeWrongFalsely : Prop := fnMostUnlikeRow.holds Try.pinned (OpenSpec.ofChange fnMostUnlikeWrong)

/-- 'laws.FnExactUnlikeWires': WHATEVER THE INPUT: true; the input reads as it did. -/
def fnExactUnlikeWiresSpec : ChangeSpec := { name := "fnExactUnlikeWires", fn := fun _ => fun
  | [d1, d2] => { results := [.lit (.bool true)], args := [d1, d2] }
  | _ => none }
def fnExactUnlikeWiresRow : OpenClaim := { program := "ytbbmppbeignjpaa", sum := "9d67d742d7b7da00d28d487a2034cc99f65a615981e0c8f511a248a661b5a3c4", func := "loop.example/labelnets/laws.FnExactUnlikeWires", spec := "fnExactUnlikeWires", apart := false }
def FnExactUnlikeWiresSaid : Prop := fnExactUnlikeWiresRow.holds Try.pinned (OpenSpec.ofChange fnExactUnlikeWiresSpec)

/-- ITS FALSE NEIGHBOUR: 'it returns false'. Refute it at one input. -/
def fnExactUnlikeWiresWrong : ChangeSpec := { name := "fnExactUnlikeWires", fn := fun _ => fun
  | [d1, d2] => { results := [.lit (.bool false)], args := [d1, d2] }
  | _ => none }
def FnExactUnlikeWiresWrongFalsely : Prop := fnExactUnlikeWiresRow.holds Try.pinned (OpenSpec.ofChange fnExactUnlikeWiresWrong)

/-- 'laws.FnExactBalancedOk': WHATEVER THE INPUT: true; the input reads as it did. -/
def fnExactBalancedOkSpec : ChangeSpec := { name := "fnExactBalancedOk", fn := fun _ => fun
  | [d1, d2] => { results := [.lit (.bool true)], args := [d1, d2] }
  | _ => none }
def fnExactBalancedOkRow : OpenClaim := { program := "ytbbmppbeignjpaa", sum := "9d67d742d7b7da00d28d487a2034cc99f65a615981e0c8f511a248a661b5a3c4", func := "loop.example/labelnets/laws.FnExactBalancedOk", spec := "fnExactBalancedOk", apart := false }
def FnExactBalancedOkSaid : Prop := fnExactBalancedOkRow.holds Try.pinned (OpenSpec.ofChange fnExactBalancedOkSpec)

/-- ITS FALSE NEIGHBOUR: 'it returns false'. Refute it at one input. -/
def fnExactBalancedOkWrong : ChangeSpec := { name := "fnExactBalancedOk", fn := fun _ => fun
  | [d1, d2] => { results := [.lit (.bool false)], args := [d1, d2] }
  | _ => none }
def FnExactBalancedOkWrongFalsely : Prop := fnExactBalancedOkRow.holds Try.pinned (OpenSpec.ofChange fnExactBalancedOkWrong)

/-- 'laws.FnExactFriendlyOk': WHATEVER THE INPUT: true; the input reads as it did. -/
def fnExactFriendlyOkSpec : ChangeSpec := { name := "fnExactFriendlyOk", fn := fun _ => fun
  | [d1, d2] => { results := [.lit (.bool true)], args := [d1, d2] }
  | _ => none }
def fnExactFriendlyOkRow : OpenClaim := { program := "ytbbmppbeignjpaa", sum := "9d67d742d7b7da00d28d487a2034cc99f65a615981e0c8f511a248a661b5a3c4", func := "loop.example/labelnets/laws.FnExactFriendlyOk", spec := "fnExactFriendlyOk", apart := false }
def FnExactFriendlyOkSaid : Prop := fnExactFriendlyOkRow.holds Try.pinned (OpenSpec.ofChange fnExactFriendlyOkSpec)

/-- ITS FALSE NEIGHBOUR: 'it returns false'. Refute it at one input. -/
def fnExactFriendlyOkWrong : ChangeSpec := { name := "fnExactFriendlyOk", fn := fun _ => fun
  | [d1, d2] => { results := [.lit (.bool false)], args := [d1, d2] }
  | _ => none }
def FnExactFriendlyOkWrongFalsely : Prop := fnExactFriendlyOkRow.holds Try.pinned (OpenSpec.ofChange fnExactFriendlyOkWrong)

/-- 'laws.FnExactFriendlyFirst': WHATEVER THE INPUT: true; the input reads as it did. -/
def fnExactFriendlyFirstSpec : ChangeSpec := { name := "fnExactFriendlyFirst", fn := fun _ => fun
  | [d] => { results := [.lit (.bool true)], args := [d] }
  | _ => none }
def fnExactFriendlyFirstRow : OpenClaim := { program := "ytbbmppbeignjpaa", sum := "9d67d742d7b7da00d28d487a2034cc99f65a615981e0c8f511a248a661b5a3c4", func := "loop.example/labelnets/laws.FnExactFriendlyFirst", spec := "fnExactFriendlyFirst", apart := false }
def FnExactFriendlyFirstSaid : Prop := fnExactFriendlyFirstRow.holds Try.pinned (OpenSpec.ofChange fnExactFriendlyFirstSpec)

/-- ITS FALSE NEIGHBOUR: 'it returns false'. Refute it at one input. -/
def fnExactFriendlyFirstWrong : ChangeSpec := { name := "fnExactFriendlyFirst", fn := fun _ => fun
  | [d] => { results := [.lit (.bool false)], args := [d] }
  | _ => none }
def FnExactFriendlyFirstWrongFalsely : Prop := fnExactFriendlyFirstRow.holds Try.pinned (OpenSpec.ofChange fnExactFriendlyFirstWrong)

/-- 'laws.FnExactFriendlyGaps': WHATEVER THE INPUT: true; the input reads as it did. -/
def fnExactFriendlyGapsSpec : ChangeSpec := { name := "fnExactFriendlyGaps", fn := fun _ => fun
  | [d] => { results := [.lit (.bool true)], args := [d] }
  | _ => none }
def fnExactFriendlyGapsRow : OpenClaim := { program := "ytbbmppbeignjpaa", sum := "9d67d742d7b7da00d28d487a2034cc99f65a615981e0c8f511a248a661b5a3c4", func := "loop.example/labelnets/laws.FnExactFriendlyGaps", spec := "fnExactFriendlyGaps", apart := false }
def FnExactFriendlyGapsSaid : Prop := fnExactFriendlyGapsRow.holds Try.pinned (OpenSpec.ofChange fnExactFriendlyGapsSpec)

/-- ITS FALSE NEIGHBOUR: 'it returns false'. Refute it at one input. -/
def fnExactFriendlyGapsWrong : ChangeSpec := { name := "fnExactFriendlyGaps", fn := fun _ => fun
  | [d] => { results := [.lit (.bool false)], args := [d] }
  | _ => none }
def FnExactFriendlyGapsWrongFalsely : Prop := fnExactFriendlyGapsRow.holds Try.pinned (OpenSpec.ofChange fnExactFriendlyGapsWrong)

/-- 'laws.FnExactMostUnlike': WHATEVER THE INPUT: true; the input reads as it did. -/
def fnExactMostUnlikeSpec : ChangeSpec := { name := "fnExactMostUnlike", fn := fun _ => fun
  | [d] => { results := [.lit (.bool true)], args := [d] }
  | _ => none }
def fnExactMostUnlikeRow : OpenClaim := { program := "ytbbmppbeignjpaa", sum := "9d67d742d7b7da00d28d487a2034cc99f65a615981e0c8f511a248a661b5a3c4", func := "loop.example/labelnets/laws.FnExactMostUnlike", spec := "fnExactMostUnlike", apart := false }
def FnExactMostUnlikeSaid : Prop := fnExactMostUnlikeRow.holds Try.pinned (OpenSpec.ofChange fnExactMostUnlikeSpec)

/-- ITS FALSE NEIGHBOUR: 'it returns false'. Refute it at one input. -/
def fnExactMostUnlikeWrong : ChangeSpec := { name := "fnExactMostUnlike", fn := fun _ => fun
  | [d] => { results := [.lit (.bool false)], args := [d] }
  | _ => none }
def FnExactMostUnlikeWrongFalsely : Prop := fnExactMostUnlikeRow.holds Try.pinned (OpenSpec.ofChange fnExactMostUnlikeWrong)

/- THE SECOND FORM. 'bulk': how many values and letters a reading holds, each counted each time it is reached (what is shared counts as often as it is met; a slice's spare places count too). A statement '..UptoSaid' is the law's where the arguments, and the package variables that the reading takes, are together of bulk at most 1048576: NARROWER than '..Said'. Prove '..Said' where nothing that the law and all that it calls make is longer than what came in: it says more and counts as full. Else prove '..UptoSaid'. A law counts once. -/
mutual
def uptoBulk {H : Type} : DataW H → Nat
  | .lit (.string bytes) => bytes.length + 1
  | .lit _ => 1
  | .nil => 1
  | .ptr d => uptoBulk d + 1
  | .slice elems spare => uptoBulkAll elems + uptoBulkAll spare + 1
  | .agg parts => uptoBulkAll parts + 1
  | .iface _ d => uptoBulk d + 1
  | .map entries => uptoBulkEntries entries + 1
  | .held _ => 1
def uptoBulkAll {H : Type} : List (DataW H) → Nat
  | [] => 0
  | d :: r => uptoBulk d + uptoBulkAll r
def uptoBulkEntries {H : Type} : List (Lit × DataW H) → Nat
  | [] => 0
  | x :: r => uptoBulkEntry x + uptoBulkEntries r
def uptoBulkEntry {H : Type} : Lit × DataW H → Nat
  | (.string bytes, d) => bytes.length + uptoBulk d + 1
  | (_, d) => uptoBulk d + 1
 end
def uptoSmall : (H : Type) → List (DataW H) → Bool := fun _ ds => decide (uptoBulkAll ds ≤ 1048576)
def OpenSpec.upto (s : _root_.Go.ChangeSpec) : _root_.Go.OpenSpec := { _root_.Go.OpenSpec.ofChange s with cond := some uptoSmall }

/-- 'laws.FnUnlikeWires', WHERE WHAT IT READS IS OF BULK AT MOST 1048576: true; the input reads as it did. -/
def fnUnlikeWiresUptoRow : OpenClaim := { program := "ytbbmppbeignjpaa", sum := "9d67d742d7b7da00d28d487a2034cc99f65a615981e0c8f511a248a661b5a3c4", func := "loop.example/labelnets/laws.FnUnlikeWires", spec := "fnUnlikeWires", apart := false, narrowed := true }
def FnUnlikeWiresUptoSaid : Prop := fnUnlikeWiresUptoRow.holds Try.pinned (OpenSpec.upto fnUnlikeWiresSpec)

/-- 'laws.FnBalancedOk', WHERE WHAT IT READS IS OF BULK AT MOST 1048576: true; the input reads as it did. -/
def fnBalancedOkUptoRow : OpenClaim := { program := "ytbbmppbeignjpaa", sum := "9d67d742d7b7da00d28d487a2034cc99f65a615981e0c8f511a248a661b5a3c4", func := "loop.example/labelnets/laws.FnBalancedOk", spec := "fnBalancedOk", apart := false, narrowed := true }
def FnBalancedOkUptoSaid : Prop := fnBalancedOkUptoRow.holds Try.pinned (OpenSpec.upto fnBalancedOkSpec)

/-- 'laws.FnFriendlyOk', WHERE WHAT IT READS IS OF BULK AT MOST 1048576: true; the input reads as it did. -/
def fnFriendlyOkUptoRow : OpenClaim := { program := "ytbbmppbeignjpaa", sum := "9d67d742d7b7da00d28d487a2034cc99f65a615981e0c8f511a248a661b5a3c4", func := "loop.example/labelnets/laws.FnFriendlyOk", spec := "fnFriendlyOk", apart := false, narrowed := true }
def FnFriendlyOkUptoSaid : Prop := fnFriendlyOkUptoRow.holds Try.pinned (OpenSpec.upto fnFriendlyOkSpec)

/-- 'laws.FnFriendlyFirst', WHERE WHAT IT READS IS OF BULK AT MOST 1048576: true; the input reads as it did. -/
def fnFriendlyFirstUptoRow : OpenClaim := { program := "ytbbmppbeignjpaa", sum := "9d67d742d7b7da00d28d487a2034cc99f65a615981e0c8f511a248a661b5a3c4", func := "loop.example/labelnets/laws.FnFriendlyFirst", spec := "fnFriendlyFirst", apart := false, narrowed := true }
def FnFriendlyFirstUptoSaid : Prop := fnFriendlyFirstUptoRow.holds Try.pinned (OpenSpec.upto fnFriendlyFirstSpec)

/-- 'laws.FnFriendlyGaps', WHERE WHAT IT READS IS OF BULK AT MOST 1048576: true; the input reads as it did. -/
def fnFriendlyGapsUptoRow : OpenClaim := { program := "ytbbmppbeignjpaa", sum := "9d67d742d7b7da00d28d487a2034cc99f65a615981e0c8f511a248a661b5a3c4", func := "loop.example/labelnets/laws.FnFriendlyGaps", spec := "fnFriendlyGaps", apart := false, narrowed := true }
def FnFriendlyGapsUptoSaid : Prop := fnFriendlyGapsUptoRow.holds Try.pinned (OpenSpec.upto fnFriendlyGapsSpec)

/-- 'laws.FnMostUnlike', WHERE WHAT IT READS IS OF BULK AT MOST 1048576: true; the input reads as it did. -/
def fnMostUnlikeUptoRow : OpenClaim := { program := "ytbbmppbeignjpaa", sum := "9d67d742d7b7da00d28d487a2034cc99f65a615981e0c8f511a248a661b5a3c4", func := "loop.example/labelnets/laws.FnMostUnlike", spec := "fnMostUnlike", apart := false, narrowed := true }
def FnMostUnlikeUptoSaid : Prop := fnMostUnlikeUptoRow.holds Try.pinned (OpenSpec.upto fnMostUnlikeSpec)

/-- 'laws.FnExactUnlikeWires', WHERE WHAT IT READS IS OF BULK AT MOST 1048576: true; the input reads as it did. -/
def fnExactUnlikeWiresUptoRow : OpenClaim := { program := "ytbbmppbeignjpaa", sum := "9d67d742d7b7da00d28d487a2034cc99f65a615981e0c8f511a248a661b5a3c4", func := "loop.example/labelnets/laws.FnExactUnlikeWires", spec := "fnExactUnlikeWires", apart := false, narrowed := true }
def FnExactUnlikeWiresUptoSaid : Prop := fnExactUnlikeWiresUptoRow.holds Try.pinned (OpenSpec.upto fnExactUnlikeWiresSpec)

/-- 'laws.FnExactBalancedOk', WHERE WHAT IT READS IS OF BULK AT MOST 1048576: true; the input reads as it did. -/
def fnExactBalancedOkUptoRow : OpenClaim := { program := "ytbbmppbeignjpaa", sum := "9d67d742d7b7da00d28d487a2034cc99f65a615981e0c8f511a248a661b5a3c4", func := "loop.example/labelnets/laws.FnExactBalancedOk", spec := "fnExactBalancedOk", apart := false, narrowed := true }
def FnExactBalancedOkUptoSaid : Prop := fnExactBalancedOkUptoRow.holds Try.pinned (OpenSpec.upto fnExactBalancedOkSpec)

/-- 'laws.FnExactFriendlyOk', WHERE WHAT IT READS IS OF BULK AT MOST 1048576: true; the input reads as it did. -/
def fnExactFriendlyOkUptoRow : OpenClaim := { program := "ytbbmppbeignjpaa", sum := "9d67d742d7b7da00d28d487a2034cc99f65a615981e0c8f511a248a661b5a3c4", func := "loop.example/labelnets/laws.FnExactFriendlyOk", spec := "fnExactFriendlyOk", apart := false, narrowed := true }
def FnExactFriendlyOkUptoSaid : Prop := fnExactFriendlyOkUptoRow.holds Try.pinned (OpenSpec.upto fnExactFriendlyOkSpec)

/-- 'laws.FnExactFriendlyFirst', WHERE WHAT IT READS IS OF BULK AT MOST 1048576: true; the input reads as it did. -/
def fnExactFriendlyFirstUptoRow : OpenClaim := { program := "ytbbmppbeignjpaa", sum := "9d67d742d7b7da00d28d487a2034cc99f65a615981e0c8f511a248a661b5a3c4", func := "loop.example/labelnets/laws.FnExactFriendlyFirst", spec := "fnExactFriendlyFirst", apart := false, narrowed := true }
def FnExactFriendlyFirstUptoSaid : Prop := fnExactFriendlyFirstUptoRow.holds Try.pinned (OpenSpec.upto fnExactFriendlyFirstSpec)

/-- 'laws.FnExactFriendlyGaps', WHERE WHAT IT READS IS OF BULK AT MOST 1048576: true; the input reads as it did. -/
def fnExactFriendlyGapsUptoRow : OpenClaim := { program := "ytbbmppbeignjpaa", sum := "9d67d742d7b7da00d28d487a2034cc99f65a615981e0c8f511a248a661b5a3c4", func := "loop.example/labelnets/laws.FnExactFriendlyGaps", spec := "fnExactFriendlyGaps", apart := false, narrowed := true }
def FnExactFriendlyGapsUptoSaid : Prop := fnExactFriendlyGapsUptoRow.holds Try.pinned (OpenSpec.upto fnExactFriendlyGapsSpec)

/-- 'laws.FnExactMostUnlike', WHERE WHAT IT READS IS OF BULK AT MOST 1048576: true; the input reads as it did. -/
def fnExactMostUnlikeUptoRow : OpenClaim := { program := "ytbbmppbeignjpaa", sum := "9d67d742d7b7da00d28d487a2034cc99f65a615981e0c8f511a248a661b5a3c4", func := "loop.example/labelnets/laws.FnExactMostUnlike", spec := "fnExactMostUnlike", apart := false, narrowed := true }
def FnExactMostUnlikeUptoSaid : Prop := fnExactMostUnlikeUptoRow.holds Try.pinned (OpenSpec.upto fnExactMostUnlikeSpec)

end Rows
end Go.Proofs.Ytbbmppbeignjpaa
