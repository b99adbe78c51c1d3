/-
  No cell of these rows narrows 'for every input' (looked for: loops, veiled, ifaces, maps, wideKeys, modest, calm, conditions, laid).
  DERIVED. THE GIVEN ROWS OF THIS SEAT. 12 by the template 'for every input the law returns true; each argument reads behind the call as it read before'; 0 by the template 'total and deterministic' (their statements: YtchejfephmmcaaaTotals.lean).
  GIVEN WITH THE SEED: the statements are not yours to turn. If you find one false, say at which input.
  Laid BY PROGRAM, IN A SANDBOX (cutbox-rows.mjs): the forced cells as the released guide's own fill.sh prints them over the translation 84d0c7833bef8361… (all of the seat's roots in one cut). By AI agents, Wed Nov 11 2026. No macro, syntax, notation, axiom, sorry.
-/
import Derived.Test.YtchejfephmmcaaaChecked
import GoSem.Claim
import GoSem.ClaimJoined
import GoSem.ClaimMapViews
import Derived.JoinedTies
import Derived.KernelRfl
namespace Go.Proofs.Ytchejfephmmcaaa
/- THE CELL 'sum', in the pinned program and in every row, IS THE sha256 OF THE DUMP (.gsa) THAT YtchejfephmmcaaaProg.lean LOADS. Nothing in Lean hashes anything: it is a label: what it is worth is what the hold of that sum in a sandbox is worth. -/
noncomputable def Try.pinned : Pinned := { name := "ytchejfephmmcaaa", sum := "84d0c7833bef83610587e00343b23c561c6a01ce58df1e7734f5c5e28ed0592e", checked := Try.checked }
namespace Rows
def none {H : Type} : Left H := { results := [], args := [] }

/-- 'laws.FnChannelOk': WHATEVER THE INPUT: true; the input reads as it did. -/
def fnChannelOkSpec : ChangeSpec := { name := "fnChannelOk", fn := fun _ => fun
  | [d] => { results := [.lit (.bool true)], args := [d] }
  | _ => none }
def fnChannelOkRow : OpenClaim := { program := "ytchejfephmmcaaa", sum := "84d0c7833bef83610587e00343b23c561c6a01ce58df1e7734f5c5e28ed0592e", func := "loop.example/labelnets/laws.FnChannelOk", spec := "fnChannelOk", apart := false }
def FnChannelOkSaid : Prop := fnChannelOkRow.holds Try.pinned (OpenSpec.ofChange fnChannelOkSpec)

/-- ITS FALSE NEIGHBOUR: 'it returns false'. Refute it at one input. -/
def fnChannelOkWrong : ChangeSpec := { name := "fnChannelOk", fn := fun _ => fun
  | [d] => { results := [.lit (.bool false)], args := [d] }
  | _ => none }
def FnChannelOkWrongFalsely : Prop := fnChannelOkRow.holds Try.pinned (OpenSpec.ofChange fnChannelOkWrong)

/-- 'laws.FnChannelFirst': WHATEVER THE INPUT: true; the input reads as it did. -/
def fnChannelFirstSpec : ChangeSpec := { name := "fnChannelFirst", fn := fun _ => fun
  | [d] => { results := [.lit (.bool true)], args := [d] }
  | _ => none }
def fnChannelFirstRow : OpenClaim := { program := "ytchejfephmmcaaa", sum := "84d0c7833bef83610587e00343b23c561c6a01ce58df1e7734f5c5e28ed0592e", func := "loop.example/labelnets/laws.FnChannelFirst", spec := "fnChannelFirst", recurses := true, apart := false }
def FnChannelFirstSaid : Prop := fnChannelFirstRow.holds Try.pinned (OpenSpec.ofChange fnChannelFirstSpec)

/-- ITS FALSE NEIGHBOUR: 'it returns false'. Refute it at one input. -/
def fnChannelFirstWrong : ChangeSpec := { name := "fnChannelFirst", fn := fun _ => fun
  | [d] => { results := [.lit (.bool false)], args := [d] }
  | _ => none }
def FnChannelFirstWrongFalsely : Prop := fnChannelFirstRow.holds Try.pinned (OpenSpec.ofChange fnChannelFirstWrong)

/-- 'laws.FnFewestSpan': WHATEVER THE INPUT: true; the input reads as it did. -/
def fnFewestSpanSpec : ChangeSpec := { name := "fnFewestSpan", fn := fun _ => fun
  | [d] => { results := [.lit (.bool true)], args := [d] }
  | _ => none }
def fnFewestSpanRow : OpenClaim := { program := "ytchejfephmmcaaa", sum := "84d0c7833bef83610587e00343b23c561c6a01ce58df1e7734f5c5e28ed0592e", func := "loop.example/labelnets/laws.FnFewestSpan", spec := "fnFewestSpan", recurses := true, apart := false }
def FnFewestSpanSaid : Prop := fnFewestSpanRow.holds Try.pinned (OpenSpec.ofChange fnFewestSpanSpec)

/-- ITS FALSE NEIGHBOUR: 'it returns false'. Refute it at one input. -/
def fnFewestSpanWrong : ChangeSpec := { name := "fnFewestSpan", fn := fun _ => fun
  | [d] => { results := [.lit (.bool false)], args := [d] }
  | _ => none }
def FnFewestSpanWrongFalsely : Prop := fnFewestSpanRow.holds Try.pinned (OpenSpec.ofChange fnFewestSpanWrong)

/-- 'laws.FnGreedyRow': WHATEVER THE INPUT: true; the input reads as it did. -/
def fnGreedyRowSpec : ChangeSpec := { name := "fnGreedyRow", fn := fun _ => fun
  | [d] => { results := [.lit (.bool true)], args := [d] }
  | _ => none }
def fnGreedyRowRow : OpenClaim := { program := "ytchejfephmmcaaa", sum := "84d0c7833bef83610587e00343b23c561c6a01ce58df1e7734f5c5e28ed0592e", func := "loop.example/labelnets/laws.FnGreedyRow", spec := "fnGreedyRow", recurses := true, apart := false }
def FnGreedyRowSaid : Prop := fnGreedyRowRow.holds Try.pinned (OpenSpec.ofChange fnGreedyRowSpec)

/-- ITS FALSE NEIGHBOUR: 'it returns false'. Refute it at one input. -/
def fnGreedyRowWrong : ChangeSpec := { name := "fnGreedyRow", fn := fun _ => fun
  | [d] => { results := [.lit (.bool false)], args := [d] }
  | _ => none }
def FnGreedyRowWrongFalsely : Prop := fnGreedyRowRow.holds Try.pinned (OpenSpec.ofChange fnGreedyRowWrong)

/-- 'laws.FnOtherNet': WHATEVER THE INPUT: true; the input reads as it did. -/
def fnOtherNetSpec : ChangeSpec := { name := "fnOtherNet", fn := fun _ => fun
  | [d] => { results := [.lit (.bool true)], args := [d] }
  | _ => none }
def fnOtherNetRow : OpenClaim := { program := "ytchejfephmmcaaa", sum := "84d0c7833bef83610587e00343b23c561c6a01ce58df1e7734f5c5e28ed0592e", func := "loop.example/labelnets/laws.FnOtherNet", spec := "fnOtherNet", apart := false }
def FnOtherNetSaid : Prop := fnOtherNetRow.holds Try.pinned (OpenSpec.ofChange fnOtherNetSpec)

/-- ITS FALSE NEIGHBOUR: 'it returns false'. Refute it at one input. -/
def fnOtherNetWrong : ChangeSpec := { name := "fnOtherNet", fn := fun _ => fun
  | [d] => { results := [.lit (.bool false)], args := [d] }
  | _ => none }
def FnOtherNetWrongFalsely : Prop := fnOtherNetRow.holds Try.pinned (OpenSpec.ofChange fnOtherNetWrong)

/-- 'laws.FnPathCover': WHATEVER THE INPUT: true; the input reads as it did. -/
def fnPathCoverSpec : ChangeSpec := { name := "fnPathCover", fn := fun _ => fun
  | [d] => { results := [.lit (.bool true)], args := [d] }
  | _ => none }
def fnPathCoverRow : OpenClaim := { program := "ytchejfephmmcaaa", sum := "84d0c7833bef83610587e00343b23c561c6a01ce58df1e7734f5c5e28ed0592e", func := "loop.example/labelnets/laws.FnPathCover", spec := "fnPathCover", recurses := true, apart := false }
def FnPathCoverSaid : Prop := fnPathCoverRow.holds Try.pinned (OpenSpec.ofChange fnPathCoverSpec)

/-- ITS FALSE NEIGHBOUR: 'it returns false'. Refute it at one input. -/
def fnPathCoverWrong : ChangeSpec := { name := "fnPathCover", fn := fun _ => fun
  | [d] => { results := [.lit (.bool false)], args := [d] }
  | _ => none }
def FnPathCoverWrongFalsely : Prop := fnPathCoverRow.holds Try.pinned (OpenSpec.ofChange fnPathCoverWrong)

/-- 'laws.FnExactChannelOk': WHATEVER THE INPUT: true; the input reads as it did. -/
def fnExactChannelOkSpec : ChangeSpec := { name := "fnExactChannelOk", fn := fun _ => fun
  | [d1, d2] => { results := [.lit (.bool true)], args := [d1, d2] }
  | _ => none }
def fnExactChannelOkRow : OpenClaim := { program := "ytchejfephmmcaaa", sum := "84d0c7833bef83610587e00343b23c561c6a01ce58df1e7734f5c5e28ed0592e", func := "loop.example/labelnets/laws.FnExactChannelOk", spec := "fnExactChannelOk", apart := false }
def FnExactChannelOkSaid : Prop := fnExactChannelOkRow.holds Try.pinned (OpenSpec.ofChange fnExactChannelOkSpec)

/-- ITS FALSE NEIGHBOUR: 'it returns false'. Refute it at one input. -/
def fnExactChannelOkWrong : ChangeSpec := { name := "fnExactChannelOk", fn := fun _ => fun
  | [d1, d2] => { results := [.lit (.bool false)], args := [d1, d2] }
  | _ => none }
def FnExactChannelOkWrongFalsely : Prop := fnExactChannelOkRow.holds Try.pinned (OpenSpec.ofChange fnExactChannelOkWrong)

/-- 'laws.FnExactChannelFirst': WHATEVER THE INPUT: true; the input reads as it did. -/
def fnExactChannelFirstSpec : ChangeSpec := { name := "fnExactChannelFirst", fn := fun _ => fun
  | [d] => { results := [.lit (.bool true)], args := [d] }
  | _ => none }
def fnExactChannelFirstRow : OpenClaim := { program := "ytchejfephmmcaaa", sum := "84d0c7833bef83610587e00343b23c561c6a01ce58df1e7734f5c5e28ed0592e", func := "loop.example/labelnets/laws.FnExactChannelFirst", spec := "fnExactChannelFirst", recurses := true, apart := false }
def FnExactChannelFirstSaid : Prop := fnExactChannelFirstRow.holds Try.pinned (OpenSpec.ofChange fnExactChannelFirstSpec)

/-- ITS FALSE NEIGHBOUR: 'it returns false'. Refute it at one input. -/
def fnExactChannelFirstWrong : ChangeSpec := { name := "fnExactChannelFirst", fn := fun _ => fun
  | [d] => { results := [.lit (.bool false)], args := [d] }
  | _ => none }
def FnExactChannelFirstWrongFalsely : Prop := fnExactChannelFirstRow.holds Try.pinned (OpenSpec.ofChange fnExactChannelFirstWrong)

/-- 'laws.FnExactFewestSpan': WHATEVER THE INPUT: true; the input reads as it did. -/
def fnExactFewestSpanSpec : ChangeSpec := { name := "fnExactFewestSpan", fn := fun _ => fun
  | [d] => { results := [.lit (.bool true)], args := [d] }
  | _ => none }
def fnExactFewestSpanRow : OpenClaim := { program := "ytchejfephmmcaaa", sum := "84d0c7833bef83610587e00343b23c561c6a01ce58df1e7734f5c5e28ed0592e", func := "loop.example/labelnets/laws.FnExactFewestSpan", spec := "fnExactFewestSpan", recurses := true, apart := false }
def FnExactFewestSpanSaid : Prop := fnExactFewestSpanRow.holds Try.pinned (OpenSpec.ofChange fnExactFewestSpanSpec)

/-- ITS FALSE NEIGHBOUR: 'it returns false'. Refute it at one input. -/
def fnExactFewestSpanWrong : ChangeSpec := { name := "fnExactFewestSpan", fn := fun _ => fun
  | [d] => { results := [.lit (.bool false)], args := [d] }
  | _ => none }
def FnExactFewestSpanWrongFalsely : Prop := fnExactFewestSpanRow.holds Try.pinned (OpenSpec.ofChange fnExactFewestSpanWrong)

/-- 'laws.FnExactGreedyRow': WHATEVER THE INPUT: true; the input reads as it did. -/
def fnExactGreedyRowSpec : ChangeSpec := { name := "fnExactGreedyRow", fn := fun _ => fun
  | [d1, d2] => { results := [.lit (.bool true)], args := [d1, d2] }
  | _ => none }
def fnExactGreedyRowRow : OpenClaim := { program := "ytchejfephmmcaaa", sum := "84d0c7833bef83610587e00343b23c561c6a01ce58df1e7734f5c5e28ed0592e", func := "loop.example/labelnets/laws.FnExactGreedyRow", spec := "fnExactGreedyRow", apart := false }
def FnExactGreedyRowSaid : Prop := fnExactGreedyRowRow.holds Try.pinned (OpenSpec.ofChange fnExactGreedyRowSpec)

/-- ITS FALSE NEIGHBOUR: 'it returns false'. Refute it at one input. -/
def fnExactGreedyRowWrong : ChangeSpec := { name := "fnExactGreedyRow", fn := fun _ => fun
  | [d1, d2] => { results := [.lit (.bool false)], args := [d1, d2] }
  | _ => none }
def FnExactGreedyRowWrongFalsely : Prop := fnExactGreedyRowRow.holds Try.pinned (OpenSpec.ofChange fnExactGreedyRowWrong)

/-- 'laws.FnExactOtherNet': WHATEVER THE INPUT: true; the input reads as it did. -/
def fnExactOtherNetSpec : ChangeSpec := { name := "fnExactOtherNet", fn := fun _ => fun
  | [d] => { results := [.lit (.bool true)], args := [d] }
  | _ => none }
def fnExactOtherNetRow : OpenClaim := { program := "ytchejfephmmcaaa", sum := "84d0c7833bef83610587e00343b23c561c6a01ce58df1e7734f5c5e28ed0592e", func := "loop.example/labelnets/laws.FnExactOtherNet", spec := "fnExactOtherNet", apart := false }
def FnExactOtherNetSaid : Prop := fnExactOtherNetRow.holds Try.pinned (OpenSpec.ofChange fnExactOtherNetSpec)

/-- ITS FALSE NEIGHBOUR: 'it returns false'. Refute it at one input. -/
def fnExactOtherNetWrong : ChangeSpec := { name := "fnExactOtherNet", fn := fun _ => fun
  | [d] => { results := [.lit (.bool false)], args := [d] }
  | _ => none }
def FnExactOtherNetWrongFalsely : Prop := fnExactOtherNetRow.holds Try.pinned (OpenSpec.ofChange fnExactOtherNetWrong)

/-- 'laws.FnExactPathCover': WHATEVER THE INPUT: true; the input reads as it did. -/
def fnExactPathCoverSpec : ChangeSpec := { name := "fnExactPathCover", fn := fun _ => fun
  | [d] => { results := [.lit (.bool true)], args := [d] }
  | _ => none }
def fnExactPathCoverRow : OpenClaim := { program := "ytchejfephmmcaaa", sum := "84d0c7833bef83610587e00343b23c561c6a01ce58df1e7734f5c5e28ed0592e", func := "loop.example/labelnets/laws.FnExactPathCover", spec := "fnExactPathCover", recurses := true, apart := false }
def FnExactPathCoverSaid : Prop := fnExactPathCoverRow.holds Try.pinned (OpenSpec.ofChange fnExactPathCoverSpec)

/-- ITS FALSE NEIGHBOUR: 'it returns false'. Refute it at one input. -/
def fnExactPathCoverWrong : ChangeSpec := { name := "fnExactPathCover", fn := fun _ => fun
  | [d] => { results := [.lit (.bool false)], args := [d] }
  | _ => none }
def FnExactPathCoverWrongFalsely : Prop := fnExactPathCoverRow.holds Try.pinned (OpenSpec.ofChange fnExactPathCoverWrong)

/- THE SECOND FORM. 'bulk': how many values and letters a reading holds, each counted each time it is reached (what is shared counts as often as it is met; a slice's spare places count too). A statement '..UptoSaid' is the law's where the arguments, and the package variables that the reading takes, are together of bulk at most 1048576: NARROWER than '..Said'. Prove '..Said' where nothing that the law and all that it calls make is longer than what came in: it says more and counts as full. Else prove '..UptoSaid'. A law counts once. -/
mutual
def uptoBulk {H : Type} : DataW H → Nat
  | .lit (.string bytes) => bytes.length + 1
  | .lit _ => 1
  | .nil => 1
  | .ptr d => uptoBulk d + 1
  | .slice elems spare => uptoBulkAll elems + uptoBulkAll spare + 1
  | .agg parts => uptoBulkAll parts + 1
  | .iface _ d => uptoBulk d + 1
  | .map entries => uptoBulkEntries entries + 1
  | .held _ => 1
def uptoBulkAll {H : Type} : List (DataW H) → Nat
  | [] => 0
  | d :: r => uptoBulk d + uptoBulkAll r
def uptoBulkEntries {H : Type} : List (Lit × DataW H) → Nat
  | [] => 0
  | x :: r => uptoBulkEntry x + uptoBulkEntries r
def uptoBulkEntry {H : Type} : Lit × DataW H → Nat
  | (.string bytes, d) => bytes.length + uptoBulk d + 1
  | (_, d) => uptoBulk d + 1
 end
def uptoSmall : (H : Type) → List (DataW H) → Bool := fun _ ds => decide (uptoBulkAll ds ≤ 1048576)
def OpenSpec.upto (s : _root_.Go.ChangeSpec) : _root_.Go.OpenSpec := { _root_.Go.OpenSpec.ofChange s with cond := some uptoSmall }

/-- 'laws.FnChannelOk', WHERE WHAT IT READS IS OF BULK AT MOST 1048576: true; the input reads as it did. -/
def fnChannelOkUptoRow : OpenClaim := { program := "ytchejfephmmcaaa", sum := "84d0c7833bef83610587e00343b23c561c6a01ce58df1e7734f5c5e28ed0592e", func := "loop.example/labelnets/laws.FnChannelOk", spec := "fnChannelOk", apart := false, narrowed := true }
def FnChannelOkUptoSaid : Prop := fnChannelOkUptoRow.holds Try.pinned (OpenSpec.upto fnChannelOkSpec)

/-- 'laws.FnChannelFirst', WHERE WHAT IT READS IS OF BULK AT MOST 1048576: true; the input reads as it did. -/
def fnChannelFirstUptoRow : OpenClaim := { program := "ytchejfephmmcaaa", sum := "84d0c7833bef83610587e00343b23c561c6a01ce58df1e7734f5c5e28ed0592e", func := "loop.example/labelnets/laws.FnChannelFirst", spec := "fnChannelFirst", recurses := true, apart := false, narrowed := true }
def FnChannelFirstUptoSaid : Prop := fnChannelFirstUptoRow.holds Try.pinned (OpenSpec.upto fnChannelFirstSpec)

/-- 'laws.FnFewestSpan', WHERE WHAT IT READS IS OF BULK AT MOST 1048576: true; the input reads as it did. -/
def fnFewestSpanUptoRow : OpenClaim := { program := "ytchejfephmmcaaa", sum := "84d0c7833bef83610587e00343b23c561c6a01ce58df1e7734f5c5e28ed0592e", func := "loop.example/labelnets/laws.FnFewestSpan", spec := "fnFewestSpan", recurses := true, apart := false, narrowed := true }
def FnFewestSpanUptoSaid : Prop := fnFewestSpanUptoRow.holds Try.pinned (OpenSpec.upto fnFewestSpanSpec)

/-- 'laws.FnGreedyRow', WHERE WHAT IT READS IS OF BULK AT MOST 1048576: true; the input reads as it did. -/
def fnGreedyRowUptoRow : OpenClaim := { program := "ytchejfephmmcaaa", sum := "84d0c7833bef83610587e00343b23c561c6a01ce58df1e7734f5c5e28ed0592e", func := "loop.example/labelnets/laws.FnGreedyRow", spec := "fnGreedyRow", recurses := true, apart := false, narrowed := true }
def FnGreedyRowUptoSaid : Prop := fnGreedyRowUptoRow.holds Try.pinned (OpenSpec.upto fnGreedyRowSpec)

/-- 'laws.FnOtherNet', WHERE WHAT IT READS IS OF BULK AT MOST 1048576: true; the input reads as it did. -/
def fnOtherNetUptoRow : OpenClaim := { program := "ytchejfephmmcaaa", sum := "84d0c7833bef83610587e00343b23c561c6a01ce58df1e7734f5c5e28ed0592e", func := "loop.example/labelnets/laws.FnOtherNet", spec := "fnOtherNet", apart := false, narrowed := true }
def FnOtherNetUptoSaid : Prop := fnOtherNetUptoRow.holds Try.pinned (OpenSpec.upto fnOtherNetSpec)

/-- 'laws.FnPathCover', WHERE WHAT IT READS IS OF BULK AT MOST 1048576: true; the input reads as it did. -/
def fnPathCoverUptoRow : OpenClaim := { program := "ytchejfephmmcaaa", sum := "84d0c7833bef83610587e00343b23c561c6a01ce58df1e7734f5c5e28ed0592e", func := "loop.example/labelnets/laws.FnPathCover", spec := "fnPathCover", recurses := true, apart := false, narrowed := true }
def FnPathCoverUptoSaid : Prop := fnPathCoverUptoRow.holds Try.pinned (OpenSpec.upto fnPathCoverSpec)

/-- 'laws.FnExactChannelOk', WHERE WHAT IT READS IS OF BULK AT MOST 1048576: true; the input reads as it did. -/
def fnExactChannelOkUptoRow : OpenClaim := { program := "ytchejfephmmcaaa", sum := "84d0c7833bef83610587e00343b23c561c6a01ce58df1e7734f5c5e28ed0592e", func := "loop.example/labelnets/laws.FnExactChannelOk", spec := "fnExactChannelOk", apart := false, narrowed := true }
def FnExactChannelOkUptoSaid : Prop := fnExactChannelOkUptoRow.holds Try.pinned (OpenSpec.upto fnExactChannelOkSpec)

/-- 'laws.FnExactChannelFirst', WHERE WHAT IT READS IS OF BULK AT MOST 1048576: true; the input reads as it did. -/
def fnExactChannelFirstUptoRow : OpenClaim := { program := "ytchejfephmmcaaa", sum := "84d0c7833bef83610587e00343b23c561c6a01ce58df1e7734f5c5e28ed0592e", func := "loop.example/labelnets/laws.FnExactChannelFirst", spec := "fnExactChannelFirst", recurses := true, apart := false, narrowed := true }
def FnExactChannelFirstUptoSaid : Prop := fnExactChannelFirstUptoRow.holds Try.pinned (OpenSpec.upto fnExactChannelFirstSpec)

/-- 'laws.FnExactFewestSpan', WHERE WHAT IT READS IS OF BULK AT MOST 1048576: true; the input reads as it did. -/
def fnExactFewestSpanUptoRow : OpenClaim := { program := "ytchejfephmmcaaa", sum := "84d0c7833bef83610587e00343b23c561c6a01ce58df1e7734f5c5e28ed0592e", func := "loop.example/labelnets/laws.FnExactFewestSpan", spec := "fnExactFewestSpan", recurses := true, apart := false, narrowed := true }
def FnExactFewestSpanUptoSaid : Prop := fnExactFewestSpanUptoRow.holds Try.pinned (OpenSpec.upto fnExactFewestSpanSpec)

/-- 'laws.FnExactGreedyRow', WHERE WHAT IT READS IS OF BULK AT MOST 1048576: true; the input reads as it did. -/
def fnExactGreedyRowUptoRow : OpenClaim := { program := "ytchejfephmmcaaa", sum := "84d0c7833bef83610587e00343b23c561c6a01ce58df1e7734f5c5e28ed0592e", func := "loop.example/labelnets/laws.FnExactGreedyRow", spec := "fnExactGreedyRow", apart := false, narrowed := true }
def FnExactGreedyRowUptoSaid : Prop := fnExactGreedyRowUptoRow.holds Try.pinned (OpenSpec.upto fnExactGreedyRowSpec)

/-- 'laws.FnExactOtherNet', WHERE WHAT IT READS IS OF BULK AT MOST 1048576: true; the input reads as it did. -/
def fnExactOtherNetUptoRow : OpenClaim := { program := "ytchejfephmmcaaa", sum := "84d0c7833bef83610587e00343b23c561c6a01ce58df1e7734f5c5e28ed0592e", func := "loop.example/labelnets/laws.FnExactOtherNet", spec := "fnExactOtherNet", apart := false, narrowed := true }
def FnExactOtherNetUptoSaid : Prop := fnExactOtherNetUptoRow.holds Try.pinned (OpenSpec.upto fnExactOtherNetSpec)

/-- 'laws.FnExactPathCover', WHERE WHAT IT READS IS OF BULK AT MOST 1048576: true; the input reads as it did. -/
def fnExactPathCoverUptoRow : OpenClaim := { program := "ytchejfephmmcaaa", sum := "84d0c7833bef83610587e00343b23c561c6a01ce58df1e7734f5c5e28ed0592e", func := "loop.example/labelnets/laws.FnExactPathCover", spec := "fnExactPathCover", recurses := true, apart := false, narrowed := true }
def FnExactPathCoverUptoSaid : Prop := fnExactPathCoverUptoRow.holds Try.pinned (OpenSpec.upto fnExactPathCoverSpec)

end Rows
end Go.Proofs.Ytchejfephmmcaaa
