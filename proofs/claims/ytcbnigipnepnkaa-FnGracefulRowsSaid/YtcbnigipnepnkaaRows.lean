/-
  No cell of these rows narrows 'for every input' (looked for: loops, veiled, ifaces, maps, wideKeys, modest, calm, conditions, laid).
  DERIVED. THE GIVEN ROWS OF THIS SEAT. 10 by the template 'for every input the law returns true; each argument reads behind the call as it read before'; 0 by the template 'total and deterministic' (their statements: YtcbnigipnepnkaaTotals.lean).
  GIVEN WITH THE SEED: the statements are not yours to turn. If you find one false, say at which input.
  Laid BY PROGRAM, IN A SANDBOX (cutbox-rows.mjs): the forced cells as the released guide's own fill.sh prints them over the translation 43c86964025d74e4… (all of the seat's roots in one cut). By AI agents, Wed Nov 11 2026. No macro, syntax, notation, axiom, sorry.
-/
import Derived.Test.YtcbnigipnepnkaaChecked
import GoSem.Claim
import GoSem.ClaimJoined
import GoSem.ClaimMapViews
import Derived.JoinedTies
import Derived.KernelRfl
namespace Go.Proofs.Ytcbnigipnepnkaa
/- THE CELL 'sum', in the pinned program and in every row, IS THE sha256 OF THE DUMP (.gsa) THAT YtcbnigipnepnkaaProg.lean LOADS. Nothing in Lean hashes anything: it is a label: what it is worth is what the hold of that sum in a sandbox is worth. -/
noncomputable def Try.pinned : Pinned := { name := "ytcbnigipnepnkaa", sum := "43c86964025d74e435f5f4215b8b6ba8bb56e87b3cef4358a1fa45f7e4c5918b", checked := Try.checked }
namespace Rows
def none {H : Type} : Left H := { results := [], args := [] }

/-- 'laws.FnGracefulOk': WHATEVER THE INPUT: true; the input reads as it did. -/
def fnGracefulOkSpec : ChangeSpec := { name := "fnGracefulOk", fn := fun _ => fun
  | [d] => { results := [.lit (.bool true)], args := [d] }
  | _ => none }
def fnGracefulOkRow : OpenClaim := { program := "ytcbnigipnepnkaa", sum := "43c86964025d74e435f5f4215b8b6ba8bb56e87b3cef4358a1fa45f7e4c5918b", func := "loop.example/labelnets/laws.FnGracefulOk", spec := "fnGracefulOk", recurses := true, apart := false }
def FnGracefulOkSaid : Prop := fnGracefulOkRow.holds Try.pinned (OpenSpec.ofChange fnGracefulOkSpec)

/-- ITS FALSE NEIGHBOUR: 'it returns false'. Refute it at one input. -/
def fnGracefulOkWrong : ChangeSpec := { name := "fnGracefulOk", fn := fun _ => fun
  | [d] => { results := [.lit (.bool false)], args := [d] }
  | _ => none }
def FnGracefulOkWrongFalsely : Prop := fnGracefulOkRow.holds Try.pinned (OpenSpec.ofChange fnGracefulOkWrong)

/-- 'laws.FnGracefulRows': WHATEVER THE INPUT: true; the input reads as it did. -/
def fnGracefulRowsSpec : ChangeSpec := { name := "fnGracefulRows", fn := fun _ => fun
  | [d] => { results := [.lit (.bool true)], args := [d] }
  | _ => none }
def fnGracefulRowsRow : OpenClaim := { program := "ytcbnigipnepnkaa", sum := "43c86964025d74e435f5f4215b8b6ba8bb56e87b3cef4358a1fa45f7e4c5918b", func := "loop.example/labelnets/laws.FnGracefulRows", spec := "fnGracefulRows", recurses := true, apart := false }
def FnGracefulRowsSaid : Prop := fnGracefulRowsRow.holds Try.pinned (OpenSpec.ofChange fnGracefulRowsSpec)

/-- ITS FALSE NEIGHBOUR: 'it returns false'. Refute it at one input. -/
def fnGracefulRowsWrong : ChangeSpec := { name := "fnGracefulRows", fn := fun _ => fun
  | [d] => { results := [.lit (.bool false)], args := [d] }
  | _ => none }
def FnGracefulRowsWrongFalsely : Prop := fnGracefulRowsRow.holds Try.pinned (OpenSpec.ofChange fnGracefulRowsWrong)

/-- 'laws.FnGracefulMany': WHATEVER THE INPUT: true; the input reads as it did. -/
def fnGracefulManySpec : ChangeSpec := { name := "fnGracefulMany", fn := fun _ => fun
  | [d] => { results := [.lit (.bool true)], args := [d] }
  | _ => none }
def fnGracefulManyRow : OpenClaim := { program := "ytcbnigipnepnkaa", sum := "43c86964025d74e435f5f4215b8b6ba8bb56e87b3cef4358a1fa45f7e4c5918b", func := "loop.example/labelnets/laws.FnGracefulMany", spec := "fnGracefulMany", recurses := true, apart := false }
def FnGracefulManySaid : Prop := fnGracefulManyRow.holds Try.pinned (OpenSpec.ofChange fnGracefulManySpec)

/-- ITS FALSE NEIGHBOUR: 'it returns false'. Refute it at one input. -/
def fnGracefulManyWrong : ChangeSpec := { name := "fnGracefulMany", fn := fun _ => fun
  | [d] => { results := [.lit (.bool false)], args := [d] }
  | _ => none }
def FnGracefulManyWrongFalsely : Prop := fnGracefulManyRow.holds Try.pinned (OpenSpec.ofChange fnGracefulManyWrong)

/-- 'laws.FnGracefulFirst': WHATEVER THE INPUT: true; the input reads as it did. -/
def fnGracefulFirstSpec : ChangeSpec := { name := "fnGracefulFirst", fn := fun _ => fun
  | [d] => { results := [.lit (.bool true)], args := [d] }
  | _ => none }
def fnGracefulFirstRow : OpenClaim := { program := "ytcbnigipnepnkaa", sum := "43c86964025d74e435f5f4215b8b6ba8bb56e87b3cef4358a1fa45f7e4c5918b", func := "loop.example/labelnets/laws.FnGracefulFirst", spec := "fnGracefulFirst", recurses := true, apart := false }
def FnGracefulFirstSaid : Prop := fnGracefulFirstRow.holds Try.pinned (OpenSpec.ofChange fnGracefulFirstSpec)

/-- ITS FALSE NEIGHBOUR: 'it returns false'. Refute it at one input. -/
def fnGracefulFirstWrong : ChangeSpec := { name := "fnGracefulFirst", fn := fun _ => fun
  | [d] => { results := [.lit (.bool false)], args := [d] }
  | _ => none }
def FnGracefulFirstWrongFalsely : Prop := fnGracefulFirstRow.holds Try.pinned (OpenSpec.ofChange fnGracefulFirstWrong)

/-- 'laws.FnEvenOk': WHATEVER THE INPUT: true; the input reads as it did. -/
def fnEvenOkSpec : ChangeSpec := { name := "fnEvenOk", fn := fun _ => fun
  | [d] => { results := [.lit (.bool true)], args := [d] }
  | _ => none }
def fnEvenOkRow : OpenClaim := { program := "ytcbnigipnepnkaa", sum := "43c86964025d74e435f5f4215b8b6ba8bb56e87b3cef4358a1fa45f7e4c5918b", func := "loop.example/labelnets/laws.FnEvenOk", spec := "fnEvenOk", apart := false }
def FnEvenOkSaid : Prop := fnEvenOkRow.holds Try.pinned (OpenSpec.ofChange fnEvenOkSpec)

/-- ITS FALSE NEIGHBOUR: 'it returns false'. Refute it at one input. -/
def fnEvenOkWrong : ChangeSpec := { name := "fnEvenOk", fn := fun _ => fun
  | [d] => { results := [.lit (.bool false)], args := [d] }
  | _ => none }
def FnEvenOkWrongFalsely : Prop := fnEvenOkRow.holds Try.pinned (OpenSpec.ofChange fnEvenOkWrong)

/-- 'laws.FnExactGracefulOk': WHATEVER THE INPUT: true; the input reads as it did. -/
def fnExactGracefulOkSpec : ChangeSpec := { name := "fnExactGracefulOk", fn := fun _ => fun
  | [d1, d2] => { results := [.lit (.bool true)], args := [d1, d2] }
  | _ => none }
def fnExactGracefulOkRow : OpenClaim := { program := "ytcbnigipnepnkaa", sum := "43c86964025d74e435f5f4215b8b6ba8bb56e87b3cef4358a1fa45f7e4c5918b", func := "loop.example/labelnets/laws.FnExactGracefulOk", spec := "fnExactGracefulOk", apart := false }
def FnExactGracefulOkSaid : Prop := fnExactGracefulOkRow.holds Try.pinned (OpenSpec.ofChange fnExactGracefulOkSpec)

/-- ITS FALSE NEIGHBOUR: 'it returns false'. Refute it at one input. -/
def fnExactGracefulOkWrong : ChangeSpec := { name := "fnExactGracefulOk", fn := fun _ => fun
  | [d1, d2] => { results := [.lit (.bool false)], args := [d1, d2] }
  | _ => none }
def FnExactGracefulOkWrongFalsely : Prop := fnExactGracefulOkRow.holds Try.pinned (OpenSpec.ofChange fnExactGracefulOkWrong)

/-- 'laws.FnExactGracefulRows': WHATEVER THE INPUT: true; the input reads as it did. -/
def fnExactGracefulRowsSpec : ChangeSpec := { name := "fnExactGracefulRows", fn := fun _ => fun
  | [d] => { results := [.lit (.bool true)], args := [d] }
  | _ => none }
def fnExactGracefulRowsRow : OpenClaim := { program := "ytcbnigipnepnkaa", sum := "43c86964025d74e435f5f4215b8b6ba8bb56e87b3cef4358a1fa45f7e4c5918b", func := "loop.example/labelnets/laws.FnExactGracefulRows", spec := "fnExactGracefulRows", recurses := true, apart := false }
def FnExactGracefulRowsSaid : Prop := fnExactGracefulRowsRow.holds Try.pinned (OpenSpec.ofChange fnExactGracefulRowsSpec)

/-- ITS FALSE NEIGHBOUR: 'it returns false'. Refute it at one input. -/
def fnExactGracefulRowsWrong : ChangeSpec := { name := "fnExactGracefulRows", fn := fun _ => fun
  | [d] => { results := [.lit (.bool false)], args := [d] }
  | _ => none }
def FnExactGracefulRowsWrongFalsely : Prop := fnExactGracefulRowsRow.holds Try.pinned (OpenSpec.ofChange fnExactGracefulRowsWrong)

/-- 'laws.FnExactGracefulMany': WHATEVER THE INPUT: true; the input reads as it did. -/
def fnExactGracefulManySpec : ChangeSpec := { name := "fnExactGracefulMany", fn := fun _ => fun
  | [d] => { results := [.lit (.bool true)], args := [d] }
  | _ => none }
def fnExactGracefulManyRow : OpenClaim := { program := "ytcbnigipnepnkaa", sum := "43c86964025d74e435f5f4215b8b6ba8bb56e87b3cef4358a1fa45f7e4c5918b", func := "loop.example/labelnets/laws.FnExactGracefulMany", spec := "fnExactGracefulMany", recurses := true, apart := false }
def FnExactGracefulManySaid : Prop := fnExactGracefulManyRow.holds Try.pinned (OpenSpec.ofChange fnExactGracefulManySpec)

/-- ITS FALSE NEIGHBOUR: 'it returns false'. Refute it at one input. -/
def fnExactGracefulManyWrong : ChangeSpec := { name := "fnExactGracefulMany", fn := fun _ => fun
  | [d] => { results := [.lit (.bool false)], args := [d] }
  | _ => none }
def FnExactGracefulManyWrongFalsely : Prop := fnExactGracefulManyRow.holds Try.pinned (OpenSpec.ofChange fnExactGracefulManyWrong)

/-- 'laws.FnExactGracefulFirst': WHATEVER THE INPUT: true; the input reads as it did. -/
def fnExactGracefulFirstSpec : ChangeSpec := { name := "fnExactGracefulFirst", fn := fun _ => fun
  | [d] => { results := [.lit (.bool true)], args := [d] }
  | _ => none }
def fnExactGracefulFirstRow : OpenClaim := { program := "ytcbnigipnepnkaa", sum := "43c86964025d74e435f5f4215b8b6ba8bb56e87b3cef4358a1fa45f7e4c5918b", func := "loop.example/labelnets/laws.FnExactGracefulFirst", spec := "fnExactGracefulFirst", recurses := true, apart := false }
def FnExactGracefulFirstSaid : Prop := fnExactGracefulFirstRow.holds Try.pinned (OpenSpec.ofChange fnExactGracefulFirstSpec)

/-- ITS FALSE NEIGHBOUR: 'it returns false'. Refute it at one input. -/
def fnExactGracefulFirstWrong : ChangeSpec := { name := "fnExactGracefulFirst", fn := fun _ => fun
  | [d] => { results := [.lit (.bool false)], args := [d] }
  | _ => none }
def FnExactGracefulFirstWrongFalsely : Prop := fnExactGracefulFirstRow.holds Try.pinned (OpenSpec.ofChange fnExactGracefulFirstWrong)

/-- 'laws.FnExactEvenOk': WHATEVER THE INPUT: true; the input reads as it did. -/
def fnExactEvenOkSpec : ChangeSpec := { name := "fnExactEvenOk", fn := fun _ => fun
  | [d] => { results := [.lit (.bool true)], args := [d] }
  | _ => none }
def fnExactEvenOkRow : OpenClaim := { program := "ytcbnigipnepnkaa", sum := "43c86964025d74e435f5f4215b8b6ba8bb56e87b3cef4358a1fa45f7e4c5918b", func := "loop.example/labelnets/laws.FnExactEvenOk", spec := "fnExactEvenOk", apart := false }
def FnExactEvenOkSaid : Prop := fnExactEvenOkRow.holds Try.pinned (OpenSpec.ofChange fnExactEvenOkSpec)

/-- ITS FALSE NEIGHBOUR: 'it returns false'. Refute it at one input. -/
def fnExactEvenOkWrong : ChangeSpec := { name := "fnExactEvenOk", fn := fun _ => fun
  | [d] => { results := [.lit (.bool false)], args := [d] }
  | _ => none }
def FnExactEvenOkWrongFalsely : Prop := fnExactEvenOkRow.holds Try.pinned (OpenSpec.ofChange fnExactEvenOkWrong)

/- THE SECOND FORM. 'bulk': how many values and letters a reading holds, each counted each time it is reached (what is shared counts as often as it is met; a slice's spare places count too). A statement '..UptoSaid' is the law's where the arguments, and the package variables that the reading takes, are together of bulk at most 1048576: NARROWER than '..Said'. Prove '..Said' where nothing that the law and all that it calls make is longer than what came in: it says more and counts as full. Else prove '..UptoSaid'. A law counts once. -/
mutual
def uptoBulk {H : Type} : DataW H → Nat
  | .lit (.string bytes) => bytes.length + 1
  | .lit _ => 1
  | .nil => 1
  | .ptr d => uptoBulk d + 1
  | .slice elems spare => uptoBulkAll elems + uptoBulkAll spare + 1
  | .agg parts => uptoBulkAll parts + 1
  | .iface _ d => uptoBulk d + 1
  | .map entries => uptoBulkEntries entries + 1
  | .held _ => 1
def uptoBulkAll {H : Type} : List (DataW H) → Nat
  | [] => 0
  | d :: r => uptoBulk d + uptoBulkAll r
def uptoBulkEntries {H : Type} : List (Lit × DataW H) → Nat
  | [] => 0
  | x :: r => uptoBulkEntry x + uptoBulkEntries r
def uptoBulkEntry {H : Type} : Lit × DataW H → Nat
  | (.string bytes, d) => bytes.length + uptoBulk d + 1
  | (_, d) => uptoBulk d + 1
 end
def uptoSmall : (H : Type) → List (DataW H) → Bool := fun _ ds => decide (uptoBulkAll ds ≤ 1048576)
def OpenSpec.upto (s : _root_.Go.ChangeSpec) : _root_.Go.OpenSpec := { _root_.Go.OpenSpec.ofChange s with cond := some uptoSmall }

/-- 'laws.FnGracefulOk', WHERE WHAT IT READS IS OF BULK AT MOST 1048576: true; the input reads as it did. -/
def fnGracefulOkUptoRow : OpenClaim := { program := "ytcbnigipnepnkaa", sum := "43c86964025d74e435f5f4215b8b6ba8bb56e87b3cef4358a1fa45f7e4c5918b", func := "loop.example/labelnets/laws.FnGracefulOk", spec := "fnGracefulOk", recurses := true, apart := false, narrowed := true }
def FnGracefulOkUptoSaid : Prop := fnGracefulOkUptoRow.holds Try.pinned (OpenSpec.upto fnGracefulOkSpec)

/-- 'laws.FnGracefulRows', WHERE WHAT IT READS IS OF BULK AT MOST 1048576: true; the input reads as it did. -/
def fnGracefulRowsUptoRow : OpenClaim := { program := "ytcbnigipnepnkaa", sum := "43c86964025d74e435f5f4215b8b6ba8bb56e87b3cef4358a1fa45f7e4c5918b", func := "loop.example/labelnets/laws.FnGracefulRows", spec := "fnGracefulRows", recurses := true, apart := false, narrowed := true }
def FnGracefulRowsUptoSaid : Prop := fnGracefulRowsUptoRow.holds Try.pinned (OpenSpec.upto fnGracefulRowsSpec)

/-- 'laws.FnGracefulMany', WHERE WHAT IT READS IS OF BULK AT MOST 1048576: true; the input reads as it did. -/
def fnGracefulManyUptoRow : OpenClaim := { program := "ytcbnigipnepnkaa", sum := "43c86964025d74e435f5f4215b8b6ba8bb56e87b3cef4358a1fa45f7e4c5918b", func := "loop.example/labelnets/laws.FnGracefulMany", spec := "fnGracefulMany", recurses := true, apart := false, narrowed := true }
def FnGracefulManyUptoSaid : Prop := fnGracefulManyUptoRow.holds Try.pinned (OpenSpec.upto fnGracefulManySpec)

/-- 'laws.FnGracefulFirst', WHERE WHAT IT READS IS OF BULK AT MOST 1048576: true; the input reads as it did. -/
def fnGracefulFirstUptoRow : OpenClaim := { program := "ytcbnigipnepnkaa", sum := "43c86964025d74e435f5f4215b8b6ba8bb56e87b3cef4358a1fa45f7e4c5918b", func := "loop.example/labelnets/laws.FnGracefulFirst", spec := "fnGracefulFirst", recurses := true, apart := false, narrowed := true }
def FnGracefulFirstUptoSaid : Prop := fnGracefulFirstUptoRow.holds Try.pinned (OpenSpec.upto fnGracefulFirstSpec)

/-- 'laws.FnEvenOk', WHERE WHAT IT READS IS OF BULK AT MOST 1048576: true; the input reads as it did. -/
def fnEvenOkUptoRow : OpenClaim := { program := "ytcbnigipnepnkaa", sum := "43c86964025d74e435f5f4215b8b6ba8bb56e87b3cef4358a1fa45f7e4c5918b", func := "loop.example/labelnets/laws.FnEvenOk", spec := "fnEvenOk", apart := false, narrowed := true }
def FnEvenOkUptoSaid : Prop := fnEvenOkUptoRow.holds Try.pinned (OpenSpec.upto fnEvenOkSpec)

/-- 'laws.FnExactGracefulOk', WHERE WHAT IT READS IS OF BULK AT MOST 1048576: true; the input reads as it did. -/
def fnExactGracefulOkUptoRow : OpenClaim := { program := "ytcbnigipnepnkaa", sum := "43c86964025d74e435f5f4215b8b6ba8bb56e87b3cef4358a1fa45f7e4c5918b", func := "loop.example/labelnets/laws.FnExactGracefulOk", spec := "fnExactGracefulOk", apart := false, narrowed := true }
def FnExactGracefulOkUptoSaid : Prop := fnExactGracefulOkUptoRow.holds Try.pinned (OpenSpec.upto fnExactGracefulOkSpec)

/-- 'laws.FnExactGracefulRows', WHERE WHAT IT READS IS OF BULK AT MOST 1048576: true; the input reads as it did. -/
def fnExactGracefulRowsUptoRow : OpenClaim := { program := "ytcbnigipnepnkaa", sum := "43c86964025d74e435f5f4215b8b6ba8bb56e87b3cef4358a1fa45f7e4c5918b", func := "loop.example/labelnets/laws.FnExactGracefulRows", spec := "fnExactGracefulRows", recurses := true, apart := false, narrowed := true }
def FnExactGracefulRowsUptoSaid : Prop := fnExactGracefulRowsUptoRow.holds Try.pinned (OpenSpec.upto fnExactGracefulRowsSpec)

/-- 'laws.FnExactGracefulMany', WHERE WHAT IT READS IS OF BULK AT MOST 1048576: true; the input reads as it did. -/
def fnExactGracefulManyUptoRow : OpenClaim := { program := "ytcbnigipnepnkaa", sum := "43c86964025d74e435f5f4215b8b6ba8bb56e87b3cef4358a1fa45f7e4c5918b", func := "loop.example/labelnets/laws.FnExactGracefulMany", spec := "fnExactGracefulMany", recurses := true, apart := false, narrowed := true }
def FnExactGracefulManyUptoSaid : Prop := fnExactGracefulManyUptoRow.holds Try.pinned (OpenSpec.upto fnExactGracefulManySpec)

/-- 'laws.FnExactGracefulFirst', WHERE WHAT IT READS IS OF BULK AT MOST 1048576: true; the input reads as it did. -/
def fnExactGracefulFirstUptoRow : OpenClaim := { program := "ytcbnigipnepnkaa", sum := "43c86964025d74e435f5f4215b8b6ba8bb56e87b3cef4358a1fa45f7e4c5918b", func := "loop.example/labelnets/laws.FnExactGracefulFirst", spec := "fnExactGracefulFirst", recurses := true, apart := false, narrowed := true }
def FnExactGracefulFirstUptoSaid : Prop := fnExactGracefulFirstUptoRow.holds Try.pinned (OpenSpec.upto fnExactGracefulFirstSpec)

/-- 'laws.FnExactEvenOk', WHERE WHAT IT READS IS OF BULK AT MOST 1048576: true; the input reads as it did. -/
def fnExactEvenOkUptoRow : OpenClaim := { program := "ytcbnigipnepnkaa", sum := "43c86964025d74e435f5f4215b8b6ba8bb56e87b3cef4358a1fa45f7e4c5918b", func := "loop.example/labelnets/laws.FnExactEvenOk", spec := "fnExactEvenOk", apart := false, narrowed := true }
def FnExactEvenOkUptoSaid : Prop := fnExactEvenOkUptoRow.holds Try.pinned (OpenSpec.upto fnExactEvenOkSpec)

end Rows
end Go.Proofs.Ytcbnigipnepnkaa
