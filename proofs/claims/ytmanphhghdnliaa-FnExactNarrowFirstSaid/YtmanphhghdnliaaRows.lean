/-
  No cell of these rows narrows 'for every input' (looked for: loops, veiled, ifaces, maps, wideKeys, modest, calm, conditions, laid).
  DERIVED. THE GIVEN ROWS OF THIS SEAT. 12 by the template 'for every input the law returns true; each argument reads behind the call as it read before'; 0 by the template 'total and deterministic' (their statements: YtmanphhghdnliaaTotals.lean).
  GIVEN WITH THE SEED: the statements are not yours to turn. If you find one false, say at which input.
  Laid BY PROGRAM, IN A SANDBOX (cutbox-rows.mjs): the forced cells as the released guide's own fill.sh prints them over the translation 6ebb929ab6563fd7… (all of the seat's roots in one cut). By AI agents, Wed Nov 11 2026. No macro, syntax, notation, axiom, sorry.
-/
import Derived.Test.YtmanphhghdnliaaChecked
import GoSem.Claim
import GoSem.ClaimJoined
import GoSem.ClaimMapViews
import Derived.JoinedTies
import Derived.KernelRfl
namespace Go.Proofs.Ytmanphhghdnliaa
/- THE CELL 'sum', in the pinned program and in every row, IS THE sha256 OF THE DUMP (.gsa) THAT YtmanphhghdnliaaProg.lean LOADS. Nothing in Lean hashes anything: it is a label: what it is worth is what the hold of that sum in a sandbox is worth. -/
noncomputable def Try.pinned : Pinned := { name := "ytmanphhghdnliaa", sum := "6ebb929ab6563fd739422a5eea8e8e6aeb92eaa52411355522064474c0e56671", checked := Try.checked }
namespace Rows
def none {H : Type} : Left H := { results := [], args := [] }

/-- 'laws.FnOrderOk': WHATEVER THE INPUT: true; the input reads as it did. -/
def fnOrderOkSpec : ChangeSpec := { name := "fnOrderOk", fn := fun _ => fun
  | [d] => { results := [.lit (.bool true)], args := [d] }
  | _ => none }
def fnOrderOkRow : OpenClaim := { program := "ytmanphhghdnliaa", sum := "6ebb929ab6563fd739422a5eea8e8e6aeb92eaa52411355522064474c0e56671", func := "loop.example/labelnets/laws.FnOrderOk", spec := "fnOrderOk", apart := false }
def FnOrderOkSaid : Prop := fnOrderOkRow.holds Try.pinned (OpenSpec.ofChange fnOrderOkSpec)

/-- ITS FALSE NEIGHBOUR: 'it returns false'. Refute it at one input. -/
def fnOrderOkWrong : ChangeSpec := { name := "fnOrderOk", fn := fun _ => fun
  | [d] => { results := [.lit (.bool false)], args := [d] }
  | _ => none }
def FnOrderOkWrongFalsely : Prop := fnOrderOkRow.holds Try.pinned (OpenSpec.ofChange fnOrderOkWrong)

/-- 'laws.FnWidthOf': WHATEVER THE INPUT: true; the input reads as it did. -/
def fnWidthOfSpec : ChangeSpec := { name := "fnWidthOf", fn := fun _ => fun
  | [d] => { results := [.lit (.bool true)], args := [d] }
  | _ => none }
def fnWidthOfRow : OpenClaim := { program := "ytmanphhghdnliaa", sum := "6ebb929ab6563fd739422a5eea8e8e6aeb92eaa52411355522064474c0e56671", func := "loop.example/labelnets/laws.FnWidthOf", spec := "fnWidthOf", apart := false }
def FnWidthOfSaid : Prop := fnWidthOfRow.holds Try.pinned (OpenSpec.ofChange fnWidthOfSpec)

/-- ITS FALSE NEIGHBOUR: 'it returns false'. Refute it at one input. -/
def fnWidthOfWrong : ChangeSpec := { name := "fnWidthOf", fn := fun _ => fun
  | [d] => { results := [.lit (.bool false)], args := [d] }
  | _ => none }
def FnWidthOfWrongFalsely : Prop := fnWidthOfRow.holds Try.pinned (OpenSpec.ofChange fnWidthOfWrong)

/-- 'laws.FnLengthOf': WHATEVER THE INPUT: true; the input reads as it did. -/
def fnLengthOfSpec : ChangeSpec := { name := "fnLengthOf", fn := fun _ => fun
  | [d] => { results := [.lit (.bool true)], args := [d] }
  | _ => none }
def fnLengthOfRow : OpenClaim := { program := "ytmanphhghdnliaa", sum := "6ebb929ab6563fd739422a5eea8e8e6aeb92eaa52411355522064474c0e56671", func := "loop.example/labelnets/laws.FnLengthOf", spec := "fnLengthOf", apart := false }
def FnLengthOfSaid : Prop := fnLengthOfRow.holds Try.pinned (OpenSpec.ofChange fnLengthOfSpec)

/-- ITS FALSE NEIGHBOUR: 'it returns false'. Refute it at one input. -/
def fnLengthOfWrong : ChangeSpec := { name := "fnLengthOf", fn := fun _ => fun
  | [d] => { results := [.lit (.bool false)], args := [d] }
  | _ => none }
def FnLengthOfWrongFalsely : Prop := fnLengthOfRow.holds Try.pinned (OpenSpec.ofChange fnLengthOfWrong)

/-- 'laws.FnCutsOf': WHATEVER THE INPUT: true; the input reads as it did. -/
def fnCutsOfSpec : ChangeSpec := { name := "fnCutsOf", fn := fun _ => fun
  | [d] => { results := [.lit (.bool true)], args := [d] }
  | _ => none }
def fnCutsOfRow : OpenClaim := { program := "ytmanphhghdnliaa", sum := "6ebb929ab6563fd739422a5eea8e8e6aeb92eaa52411355522064474c0e56671", func := "loop.example/labelnets/laws.FnCutsOf", spec := "fnCutsOf", apart := false }
def FnCutsOfSaid : Prop := fnCutsOfRow.holds Try.pinned (OpenSpec.ofChange fnCutsOfSpec)

/-- ITS FALSE NEIGHBOUR: 'it returns false'. Refute it at one input. -/
def fnCutsOfWrong : ChangeSpec := { name := "fnCutsOf", fn := fun _ => fun
  | [d] => { results := [.lit (.bool false)], args := [d] }
  | _ => none }
def FnCutsOfWrongFalsely : Prop := fnCutsOfRow.holds Try.pinned (OpenSpec.ofChange fnCutsOfWrong)

/-- 'laws.FnNarrowRow': WHATEVER THE INPUT: true; the input reads as it did. -/
def fnNarrowRowSpec : ChangeSpec := { name := "fnNarrowRow", fn := fun _ => fun
  | [d] => { results := [.lit (.bool true)], args := [d] }
  | _ => none }
def fnNarrowRowRow : OpenClaim := { program := "ytmanphhghdnliaa", sum := "6ebb929ab6563fd739422a5eea8e8e6aeb92eaa52411355522064474c0e56671", func := "loop.example/labelnets/laws.FnNarrowRow", spec := "fnNarrowRow", recurses := true, apart := false }
def FnNarrowRowSaid : Prop := fnNarrowRowRow.holds Try.pinned (OpenSpec.ofChange fnNarrowRowSpec)

/-- ITS FALSE NEIGHBOUR: 'it returns false'. Refute it at one input. -/
def fnNarrowRowWrong : ChangeSpec := { name := "fnNarrowRow", fn := fun _ => fun
  | [d] => { results := [.lit (.bool false)], args := [d] }
  | _ => none }
def FnNarrowRowWrongFalsely : Prop := fnNarrowRowRow.holds Try.pinned (OpenSpec.ofChange fnNarrowRowWrong)

/-- 'laws.FnNarrowFirst': WHATEVER THE INPUT: true; the input reads as it did. -/
def fnNarrowFirstSpec : ChangeSpec := { name := "fnNarrowFirst", fn := fun _ => fun
  | [d] => { results := [.lit (.bool true)], args := [d] }
  | _ => none }
def fnNarrowFirstRow : OpenClaim := { program := "ytmanphhghdnliaa", sum := "6ebb929ab6563fd739422a5eea8e8e6aeb92eaa52411355522064474c0e56671", func := "loop.example/labelnets/laws.FnNarrowFirst", spec := "fnNarrowFirst", recurses := true, apart := false }
def FnNarrowFirstSaid : Prop := fnNarrowFirstRow.holds Try.pinned (OpenSpec.ofChange fnNarrowFirstSpec)

/-- ITS FALSE NEIGHBOUR: 'it returns false'. Refute it at one input. -/
def fnNarrowFirstWrong : ChangeSpec := { name := "fnNarrowFirst", fn := fun _ => fun
  | [d] => { results := [.lit (.bool false)], args := [d] }
  | _ => none }
def FnNarrowFirstWrongFalsely : Prop := fnNarrowFirstRow.holds Try.pinned (OpenSpec.ofChange fnNarrowFirstWrong)

/-- 'laws.FnExactOrderOk': WHATEVER THE INPUT: true; the input reads as it did. -/
def fnExactOrderOkSpec : ChangeSpec := { name := "fnExactOrderOk", fn := fun _ => fun
  | [d1, d2] => { results := [.lit (.bool true)], args := [d1, d2] }
  | _ => none }
def fnExactOrderOkRow : OpenClaim := { program := "ytmanphhghdnliaa", sum := "6ebb929ab6563fd739422a5eea8e8e6aeb92eaa52411355522064474c0e56671", func := "loop.example/labelnets/laws.FnExactOrderOk", spec := "fnExactOrderOk", apart := false }
def FnExactOrderOkSaid : Prop := fnExactOrderOkRow.holds Try.pinned (OpenSpec.ofChange fnExactOrderOkSpec)

/-- ITS FALSE NEIGHBOUR: 'it returns false'. Refute it at one input. -/
def fnExactOrderOkWrong : ChangeSpec := { name := "fnExactOrderOk", fn := fun _ => fun
  | [d1, d2] => { results := [.lit (.bool false)], args := [d1, d2] }
  | _ => none }
def FnExactOrderOkWrongFalsely : Prop := fnExactOrderOkRow.holds Try.pinned (OpenSpec.ofChange fnExactOrderOkWrong)

/-- 'laws.FnExactWidthOf': WHATEVER THE INPUT: true; the input reads as it did. -/
def fnExactWidthOfSpec : ChangeSpec := { name := "fnExactWidthOf", fn := fun _ => fun
  | [d1, d2] => { results := [.lit (.bool true)], args := [d1, d2] }
  | _ => none }
def fnExactWidthOfRow : OpenClaim := { program := "ytmanphhghdnliaa", sum := "6ebb929ab6563fd739422a5eea8e8e6aeb92eaa52411355522064474c0e56671", func := "loop.example/labelnets/laws.FnExactWidthOf", spec := "fnExactWidthOf", apart := false }
def FnExactWidthOfSaid : Prop := fnExactWidthOfRow.holds Try.pinned (OpenSpec.ofChange fnExactWidthOfSpec)

/-- ITS FALSE NEIGHBOUR: 'it returns false'. Refute it at one input. -/
def fnExactWidthOfWrong : ChangeSpec := { name := "fnExactWidthOf", fn := fun _ => fun
  | [d1, d2] => { results := [.lit (.bool false)], args := [d1, d2] }
  | _ => none }
def FnExactWidthOfWrongFalsely : Prop := fnExactWidthOfRow.holds Try.pinned (OpenSpec.ofChange fnExactWidthOfWrong)

/-- 'laws.FnExactLengthOf': WHATEVER THE INPUT: true; the input reads as it did. -/
def fnExactLengthOfSpec : ChangeSpec := { name := "fnExactLengthOf", fn := fun _ => fun
  | [d1, d2] => { results := [.lit (.bool true)], args := [d1, d2] }
  | _ => none }
def fnExactLengthOfRow : OpenClaim := { program := "ytmanphhghdnliaa", sum := "6ebb929ab6563fd739422a5eea8e8e6aeb92eaa52411355522064474c0e56671", func := "loop.example/labelnets/laws.FnExactLengthOf", spec := "fnExactLengthOf", apart := false }
def FnExactLengthOfSaid : Prop := fnExactLengthOfRow.holds Try.pinned (OpenSpec.ofChange fnExactLengthOfSpec)

/-- ITS FALSE NEIGHBOUR: 'it returns false'. Refute it at one input. -/
def fnExactLengthOfWrong : ChangeSpec := { name := "fnExactLengthOf", fn := fun _ => fun
  | [d1, d2] => { results := [.lit (.bool false)], args := [d1, d2] }
  | _ => none }
def FnExactLengthOfWrongFalsely : Prop := fnExactLengthOfRow.holds Try.pinned (OpenSpec.ofChange fnExactLengthOfWrong)

/-- 'laws.FnExactCutsOf': WHATEVER THE INPUT: true; the input reads as it did. -/
def fnExactCutsOfSpec : ChangeSpec := { name := "fnExactCutsOf", fn := fun _ => fun
  | [d1, d2] => { results := [.lit (.bool true)], args := [d1, d2] }
  | _ => none }
def fnExactCutsOfRow : OpenClaim := { program := "ytmanphhghdnliaa", sum := "6ebb929ab6563fd739422a5eea8e8e6aeb92eaa52411355522064474c0e56671", func := "loop.example/labelnets/laws.FnExactCutsOf", spec := "fnExactCutsOf", apart := false }
def FnExactCutsOfSaid : Prop := fnExactCutsOfRow.holds Try.pinned (OpenSpec.ofChange fnExactCutsOfSpec)

/-- ITS FALSE NEIGHBOUR: 'it returns false'. Refute it at one input. -/
def fnExactCutsOfWrong : ChangeSpec := { name := "fnExactCutsOf", fn := fun _ => fun
  | [d1, d2] => { results := [.lit (.bool false)], args := [d1, d2] }
  | _ => none }
def FnExactCutsOfWrongFalsely : Prop := fnExactCutsOfRow.holds Try.pinned (OpenSpec.ofChange fnExactCutsOfWrong)

/-- 'laws.FnExactNarrowRow': WHATEVER THE INPUT: true; the input reads as it did. -/
def fnExactNarrowRowSpec : ChangeSpec := { name := "fnExactNarrowRow", fn := fun _ => fun
  | [d] => { results := [.lit (.bool true)], args := [d] }
  | _ => none }
def fnExactNarrowRowRow : OpenClaim := { program := "ytmanphhghdnliaa", sum := "6ebb929ab6563fd739422a5eea8e8e6aeb92eaa52411355522064474c0e56671", func := "loop.example/labelnets/laws.FnExactNarrowRow", spec := "fnExactNarrowRow", recurses := true, apart := false }
def FnExactNarrowRowSaid : Prop := fnExactNarrowRowRow.holds Try.pinned (OpenSpec.ofChange fnExactNarrowRowSpec)

/-- ITS FALSE NEIGHBOUR: 'it returns false'. Refute it at one input. -/
def fnExactNarrowRowWrong : ChangeSpec := { name := "fnExactNarrowRow", fn := fun _ => fun
  | [d] => { results := [.lit (.bool false)], args := [d] }
  | _ => none }
def FnExactNarrowRowWrongFalsely : Prop := fnExactNarrowRowRow.holds Try.pinned (OpenSpec.ofChange fnExactNarrowRowWrong)

/-- 'laws.FnExactNarrowFirst': WHATEVER THE INPUT: true; the input reads as it did. -/
def fnExactNarrowFirstSpec : ChangeSpec := { name := "fnExactNarrowFirst", fn := fun _ => fun
  | [d] => { results := [.lit (.bool true)], args := [d] }
  | _ => none }
def fnExactNarrowFirstRow : OpenClaim := { program := "ytmanphhghdnliaa", sum := "6ebb929ab6563fd739422a5eea8e8e6aeb92eaa52411355522064474c0e56671", func := "loop.example/labelnets/laws.FnExactNarrowFirst", spec := "fnExactNarrowFirst", recurses := true, apart := false }
def FnExactNarrowFirstSaid : Prop := fnExactNarrowFirstRow.holds Try.pinned (OpenSpec.ofChange fnExactNarrowFirstSpec)

/-- ITS FALSE NEIGHBOUR: 'it returns false'. Refute it at one input. -/
def fnExactNarrowFirstWrong : ChangeSpec := { name := "fnExactNarrowFirst", fn := fun _ => fun
  | [d] => { results := [.lit (.bool false)], args := [d] }
  | _ => none }
def FnExactNarrowFirstWrongFalsely : Prop := fnExactNarrowFirstRow.holds Try.pinned (OpenSpec.ofChange fnExactNarrowFirstWrong)

/- THE SECOND FORM. 'bulk': how many values and letters a reading holds, each counted each time it is reached (what is shared counts as often as it is met; a slice's spare places count too). A statement '..UptoSaid' is the law's where the arguments, and the package variables that the reading takes, are together of bulk at most 1048576: NARROWER than '..Said'. Prove '..Said' where nothing that the law and all that it calls make is longer than what came in: it says more and counts as full. Else prove '..UptoSaid'. A law counts once. -/
mutual
def uptoBulk {H : Type} : DataW H → Nat
  | .lit (.string bytes) => bytes.length + 1
  | .lit _ => 1
  | .nil => 1
  | .ptr d => uptoBulk d + 1
  | .slice elems spare => uptoBulkAll elems + uptoBulkAll spare + 1
  | .agg parts => uptoBulkAll parts + 1
  | .iface _ d => uptoBulk d + 1
  | .map entries => uptoBulkEntries entries + 1
  | .held _ => 1
def uptoBulkAll {H : Type} : List (DataW H) → Nat
  | [] => 0
  | d :: r => uptoBulk d + uptoBulkAll r
def uptoBulkEntries {H : Type} : List (Lit × DataW H) → Nat
  | [] => 0
  | x :: r => uptoBulkEntry x + uptoBulkEntries r
def uptoBulkEntry {H : Type} : Lit × DataW H → Nat
  | (.string bytes, d) => bytes.length + uptoBulk d + 1
  | (_, d) => uptoBulk d + 1
 end
def uptoSmall : (H : Type) → List (DataW H) → Bool := fun _ ds => decide (uptoBulkAll ds ≤ 1048576)
def OpenSpec.upto (s : _root_.Go.ChangeSpec) : _root_.Go.OpenSpec := { _root_.Go.OpenSpec.ofChange s with cond := some uptoSmall }

/-- 'laws.FnOrderOk', WHERE WHAT IT READS IS OF BULK AT MOST 1048576: true; the input reads as it did. -/
def fnOrderOkUptoRow : OpenClaim := { program := "ytmanphhghdnliaa", sum := "6ebb929ab6563fd739422a5eea8e8e6aeb92eaa52411355522064474c0e56671", func := "loop.example/labelnets/laws.FnOrderOk", spec := "fnOrderOk", apart := false, narrowed := true }
def FnOrderOkUptoSaid : Prop := fnOrderOkUptoRow.holds Try.pinned (OpenSpec.upto fnOrderOkSpec)

/-- 'laws.FnWidthOf', WHERE WHAT IT READS IS OF BULK AT MOST 1048576: true; the input reads as it did. -/
def fnWidthOfUptoRow : OpenClaim := { program := "ytmanphhghdnliaa", sum := "6ebb929ab6563fd739422a5eea8e8e6aeb92eaa52411355522064474c0e56671", func := "loop.example/labelnets/laws.FnWidthOf", spec := "fnWidthOf", apart := false, narrowed := true }
def FnWidthOfUptoSaid : Prop := fnWidthOfUptoRow.holds Try.pinned (OpenSpec.upto fnWidthOfSpec)

/-- 'laws.FnLengthOf', WHERE WHAT IT READS IS OF BULK AT MOST 1048576: true; the input reads as it did. -/
def fnLengthOfUptoRow : OpenClaim := { program := "ytmanphhghdnliaa", sum := "6ebb929ab6563fd739422a5eea8e8e6aeb92eaa52411355522064474c0e56671", func := "loop.example/labelnets/laws.FnLengthOf", spec := "fnLengthOf", apart := false, narrowed := true }
def FnLengthOfUptoSaid : Prop := fnLengthOfUptoRow.holds Try.pinned (OpenSpec.upto fnLengthOfSpec)

/-- 'laws.FnCutsOf', WHERE WHAT IT READS IS OF BULK AT MOST 1048576: true; the input reads as it did. -/
def fnCutsOfUptoRow : OpenClaim := { program := "ytmanphhghdnliaa", sum := "6ebb929ab6563fd739422a5eea8e8e6aeb92eaa52411355522064474c0e56671", func := "loop.example/labelnets/laws.FnCutsOf", spec := "fnCutsOf", apart := false, narrowed := true }
def FnCutsOfUptoSaid : Prop := fnCutsOfUptoRow.holds Try.pinned (OpenSpec.upto fnCutsOfSpec)

/-- 'laws.FnNarrowRow', WHERE WHAT IT READS IS OF BULK AT MOST 1048576: true; the input reads as it did. -/
def fnNarrowRowUptoRow : OpenClaim := { program := "ytmanphhghdnliaa", sum := "6ebb929ab6563fd739422a5eea8e8e6aeb92eaa52411355522064474c0e56671", func := "loop.example/labelnets/laws.FnNarrowRow", spec := "fnNarrowRow", recurses := true, apart := false, narrowed := true }
def FnNarrowRowUptoSaid : Prop := fnNarrowRowUptoRow.holds Try.pinned (OpenSpec.upto fnNarrowRowSpec)

/-- 'laws.FnNarrowFirst', WHERE WHAT IT READS IS OF BULK AT MOST 1048576: true; the input reads as it did. -/
def fnNarrowFirstUptoRow : OpenClaim := { program := "ytmanphhghdnliaa", sum := "6ebb929ab6563fd739422a5eea8e8e6aeb92eaa52411355522064474c0e56671", func := "loop.example/labelnets/laws.FnNarrowFirst", spec := "fnNarrowFirst", recurses := true, apart := false, narrowed := true }
def FnNarrowFirstUptoSaid : Prop := fnNarrowFirstUptoRow.holds Try.pinned (OpenSpec.upto fnNarrowFirstSpec)

/-- 'laws.FnExactOrderOk', WHERE WHAT IT READS IS OF BULK AT MOST 1048576: true; the input reads as it did. -/
def fnExactOrderOkUptoRow : OpenClaim := { program := "ytmanphhghdnliaa", sum := "6ebb929ab6563fd739422a5eea8e8e6aeb92eaa52411355522064474c0e56671", func := "loop.example/labelnets/laws.FnExactOrderOk", spec := "fnExactOrderOk", apart := false, narrowed := true }
def FnExactOrderOkUptoSaid : Prop := fnExactOrderOkUptoRow.holds Try.pinned (OpenSpec.upto fnExactOrderOkSpec)

/-- 'laws.FnExactWidthOf', WHERE WHAT IT READS IS OF BULK AT MOST 1048576: true; the input reads as it did. -/
def fnExactWidthOfUptoRow : OpenClaim := { program := "ytmanphhghdnliaa", sum := "6ebb929ab6563fd739422a5eea8e8e6aeb92eaa52411355522064474c0e56671", func := "loop.example/labelnets/laws.FnExactWidthOf", spec := "fnExactWidthOf", apart := false, narrowed := true }
def FnExactWidthOfUptoSaid : Prop := fnExactWidthOfUptoRow.holds Try.pinned (OpenSpec.upto fnExactWidthOfSpec)

/-- 'laws.FnExactLengthOf', WHERE WHAT IT READS IS OF BULK AT MOST 1048576: true; the input reads as it did. -/
def fnExactLengthOfUptoRow : OpenClaim := { program := "ytmanphhghdnliaa", sum := "6ebb929ab6563fd739422a5eea8e8e6aeb92eaa52411355522064474c0e56671", func := "loop.example/labelnets/laws.FnExactLengthOf", spec := "fnExactLengthOf", apart := false, narrowed := true }
def FnExactLengthOfUptoSaid : Prop := fnExactLengthOfUptoRow.holds Try.pinned (OpenSpec.upto fnExactLengthOfSpec)

/-- 'laws.FnExactCutsOf', WHERE WHAT IT READS IS OF BULK AT MOST 1048576: true; the input reads as it did. -/
def fnExactCutsOfUptoRow : OpenClaim := { program := "ytmanphhghdnliaa", sum := "6ebb929ab6563fd739422a5eea8e8e6aeb92eaa52411355522064474c0e56671", func := "loop.example/labelnets/laws.FnExactCutsOf", spec := "fnExactCutsOf", apart := false, narrowed := true }
def FnExactCutsOfUptoSaid : Prop := fnExactCutsOfUptoRow.holds Try.pinned (OpenSpec.upto fnExactCutsOfSpec)

/-- 'laws.FnExactNarrowRow', WHERE WHAT IT READS IS OF BULK AT MOST 1048576: true; the input reads as it did. -/
def fnExactNarrowRowUptoRow : OpenClaim := { program := "ytmanphhghdnliaa", sum := "6ebb929ab6563fd739422a5eea8e8e6aeb92eaa52411355522064474c0e56671", func := "loop.example/labelnets/laws.FnExactNarrowRow", spec := "fnExactNarrowRow", recurses := true, apart := false, narrowed := true }
def FnExactNarrowRowUptoSaid : Prop := fnExactNarrowRowUptoRow.holds Try.pinned (OpenSpec.upto fnExactNarrowRowSpec)

/-- 'laws.FnExactNarrowFirst', WHERE WHAT IT READS IS OF BULK AT MOST 1048576: true; the input reads as it did. -/
def fnExactNarrowFirstUptoRow : OpenClaim := { program := "ytmanphhghdnliaa", sum := "6ebb929ab6563fd739422a5eea8e8e6aeb92eaa52411355522064474c0e56671", func := "loop.example/labelnets/laws.FnExactNarrowFirst", spec := "fnExactNarrowFirst", recurses := true, apart := false, narrowed := true }
def FnExactNarrowFirstUptoSaid : Prop := fnExactNarrowFirstUptoRow.holds Try.pinned (OpenSpec.upto fnExactNarrowFirstSpec)

end Rows
end Go.Proofs.Ytmanphhghdnliaa
