/-
  No cell of these rows narrows 'for every input' (looked for: loops, veiled, ifaces, maps, wideKeys, modest, calm, conditions, laid).
  DERIVED. THE GIVEN ROWS OF THIS SEAT. 10 by the template 'for every input the law returns true; each argument reads behind the call as it read before'; 0 by the template 'total and deterministic' (their statements: YtedainddipahaaaTotals.lean).
  GIVEN WITH THE SEED: the statements are not yours to turn. If you find one false, say at which input.
  Laid BY PROGRAM, IN A SANDBOX (cutbox-rows.mjs): the forced cells as the released guide's own fill.sh prints them over the translation f95f0b2a7f764b17… (all of the seat's roots in one cut). By AI agents, Wed Nov 11 2026. No macro, syntax, notation, axiom, sorry.
-/
import Derived.Test.YtedainddipahaaaChecked
import GoSem.Claim
import GoSem.ClaimJoined
import GoSem.ClaimMapViews
import Derived.JoinedTies
import Derived.KernelRfl
namespace Go.Proofs.Ytedainddipahaaa
/- THE CELL 'sum', in the pinned program and in every row, IS THE sha256 OF THE DUMP (.gsa) THAT YtedainddipahaaaProg.lean LOADS. Nothing in Lean hashes anything: it is a label: what it is worth is what the hold of that sum in a sandbox is worth. -/
noncomputable def Try.pinned : Pinned := { name := "ytedainddipahaaa", sum := "f95f0b2a7f764b17edea7d7723da813a79322000d37cd2991f148e8dbcc2395b", checked := Try.checked }
namespace Rows
def none {H : Type} : Left H := { results := [], args := [] }

/-- 'laws.FnCoprimeNet': WHATEVER THE INPUT: true; the input reads as it did. -/
def fnCoprimeNetSpec : ChangeSpec := { name := "fnCoprimeNet", fn := fun _ => fun
  | [d] => { results := [.lit (.bool true)], args := [d] }
  | _ => none }
def fnCoprimeNetRow : OpenClaim := { program := "ytedainddipahaaa", sum := "f95f0b2a7f764b17edea7d7723da813a79322000d37cd2991f148e8dbcc2395b", func := "loop.example/labelnets/laws.FnCoprimeNet", spec := "fnCoprimeNet", apart := false }
def FnCoprimeNetSaid : Prop := fnCoprimeNetRow.holds Try.pinned (OpenSpec.ofChange fnCoprimeNetSpec)

/-- ITS FALSE NEIGHBOUR: 'it returns false'. Refute it at one input. -/
def fnCoprimeNetWrong : ChangeSpec := { name := "fnCoprimeNet", fn := fun _ => fun
  | [d] => { results := [.lit (.bool false)], args := [d] }
  | _ => none }
def FnCoprimeNetWrongFalsely : Prop := fnCoprimeNetRow.holds Try.pinned (OpenSpec.ofChange fnCoprimeNetWrong)

/-- 'laws.FnDivisorNet': WHATEVER THE INPUT: true; the input reads as it did. -/
def fnDivisorNetSpec : ChangeSpec := { name := "fnDivisorNet", fn := fun _ => fun
  | [d] => { results := [.lit (.bool true)], args := [d] }
  | _ => none }
def fnDivisorNetRow : OpenClaim := { program := "ytedainddipahaaa", sum := "f95f0b2a7f764b17edea7d7723da813a79322000d37cd2991f148e8dbcc2395b", func := "loop.example/labelnets/laws.FnDivisorNet", spec := "fnDivisorNet", apart := false }
def FnDivisorNetSaid : Prop := fnDivisorNetRow.holds Try.pinned (OpenSpec.ofChange fnDivisorNetSpec)

/-- ITS FALSE NEIGHBOUR: 'it returns false'. Refute it at one input. -/
def fnDivisorNetWrong : ChangeSpec := { name := "fnDivisorNet", fn := fun _ => fun
  | [d] => { results := [.lit (.bool false)], args := [d] }
  | _ => none }
def FnDivisorNetWrongFalsely : Prop := fnDivisorNetRow.holds Try.pinned (OpenSpec.ofChange fnDivisorNetWrong)

/-- 'laws.FnSumNet': WHATEVER THE INPUT: true; the input reads as it did. -/
def fnSumNetSpec : ChangeSpec := { name := "fnSumNet", fn := fun _ => fun
  | [d] => { results := [.lit (.bool true)], args := [d] }
  | _ => none }
def fnSumNetRow : OpenClaim := { program := "ytedainddipahaaa", sum := "f95f0b2a7f764b17edea7d7723da813a79322000d37cd2991f148e8dbcc2395b", func := "loop.example/labelnets/laws.FnSumNet", spec := "fnSumNet", apart := false }
def FnSumNetSaid : Prop := fnSumNetRow.holds Try.pinned (OpenSpec.ofChange fnSumNetSpec)

/-- ITS FALSE NEIGHBOUR: 'it returns false'. Refute it at one input. -/
def fnSumNetWrong : ChangeSpec := { name := "fnSumNet", fn := fun _ => fun
  | [d] => { results := [.lit (.bool false)], args := [d] }
  | _ => none }
def FnSumNetWrongFalsely : Prop := fnSumNetRow.holds Try.pinned (OpenSpec.ofChange fnSumNetWrong)

/-- 'laws.FnPrimeOk': WHATEVER THE INPUT: true; the input reads as it did. -/
def fnPrimeOkSpec : ChangeSpec := { name := "fnPrimeOk", fn := fun _ => fun
  | [d] => { results := [.lit (.bool true)], args := [d] }
  | _ => none }
def fnPrimeOkRow : OpenClaim := { program := "ytedainddipahaaa", sum := "f95f0b2a7f764b17edea7d7723da813a79322000d37cd2991f148e8dbcc2395b", func := "loop.example/labelnets/laws.FnPrimeOk", spec := "fnPrimeOk", recurses := true, apart := false }
def FnPrimeOkSaid : Prop := fnPrimeOkRow.holds Try.pinned (OpenSpec.ofChange fnPrimeOkSpec)

/-- ITS FALSE NEIGHBOUR: 'it returns false'. Refute it at one input. -/
def fnPrimeOkWrong : ChangeSpec := { name := "fnPrimeOk", fn := fun _ => fun
  | [d] => { results := [.lit (.bool false)], args := [d] }
  | _ => none }
def FnPrimeOkWrongFalsely : Prop := fnPrimeOkRow.holds Try.pinned (OpenSpec.ofChange fnPrimeOkWrong)

/-- 'laws.FnPrimeFirst': WHATEVER THE INPUT: true; the input reads as it did. -/
def fnPrimeFirstSpec : ChangeSpec := { name := "fnPrimeFirst", fn := fun _ => fun
  | [d] => { results := [.lit (.bool true)], args := [d] }
  | _ => none }
def fnPrimeFirstRow : OpenClaim := { program := "ytedainddipahaaa", sum := "f95f0b2a7f764b17edea7d7723da813a79322000d37cd2991f148e8dbcc2395b", func := "loop.example/labelnets/laws.FnPrimeFirst", spec := "fnPrimeFirst", recurses := true, apart := false }
def FnPrimeFirstSaid : Prop := fnPrimeFirstRow.holds Try.pinned (OpenSpec.ofChange fnPrimeFirstSpec)

/-- ITS FALSE NEIGHBOUR: 'it returns false'. Refute it at one input. -/
def fnPrimeFirstWrong : ChangeSpec := { name := "fnPrimeFirst", fn := fun _ => fun
  | [d] => { results := [.lit (.bool false)], args := [d] }
  | _ => none }
def FnPrimeFirstWrongFalsely : Prop := fnPrimeFirstRow.holds Try.pinned (OpenSpec.ofChange fnPrimeFirstWrong)

/-- 'laws.FnExactCoprimeNet': WHATEVER THE INPUT: true; the input reads as it did. -/
def fnExactCoprimeNetSpec : ChangeSpec := { name := "fnExactCoprimeNet", fn := fun _ => fun
  | [d] => { results := [.lit (.bool true)], args := [d] }
  | _ => none }
def fnExactCoprimeNetRow : OpenClaim := { program := "ytedainddipahaaa", sum := "f95f0b2a7f764b17edea7d7723da813a79322000d37cd2991f148e8dbcc2395b", func := "loop.example/labelnets/laws.FnExactCoprimeNet", spec := "fnExactCoprimeNet", apart := false }
def FnExactCoprimeNetSaid : Prop := fnExactCoprimeNetRow.holds Try.pinned (OpenSpec.ofChange fnExactCoprimeNetSpec)

/-- ITS FALSE NEIGHBOUR: 'it returns false'. Refute it at one input. -/
def fnExactCoprimeNetWrong : ChangeSpec := { name := "fnExactCoprimeNet", fn := fun _ => fun
  | [d] => { results := [.lit (.bool false)], args := [d] }
  | _ => none }
def FnExactCoprimeNetWrongFalsely : Prop := fnExactCoprimeNetRow.holds Try.pinned (OpenSpec.ofChange fnExactCoprimeNetWrong)

/-- 'laws.FnExactDivisorNet': WHATEVER THE INPUT: true; the input reads as it did. -/
def fnExactDivisorNetSpec : ChangeSpec := { name := "fnExactDivisorNet", fn := fun _ => fun
  | [d] => { results := [.lit (.bool true)], args := [d] }
  | _ => none }
def fnExactDivisorNetRow : OpenClaim := { program := "ytedainddipahaaa", sum := "f95f0b2a7f764b17edea7d7723da813a79322000d37cd2991f148e8dbcc2395b", func := "loop.example/labelnets/laws.FnExactDivisorNet", spec := "fnExactDivisorNet", apart := false }
def FnExactDivisorNetSaid : Prop := fnExactDivisorNetRow.holds Try.pinned (OpenSpec.ofChange fnExactDivisorNetSpec)

/-- ITS FALSE NEIGHBOUR: 'it returns false'. Refute it at one input. -/
def fnExactDivisorNetWrong : ChangeSpec := { name := "fnExactDivisorNet", fn := fun _ => fun
  | [d] => { results := [.lit (.bool false)], args := [d] }
  | _ => none }
def FnExactDivisorNetWrongFalsely : Prop := fnExactDivisorNetRow.holds Try.pinned (OpenSpec.ofChange fnExactDivisorNetWrong)

/-- 'laws.FnExactSumNet': WHATEVER THE INPUT: true; the input reads as it did. -/
def fnExactSumNetSpec : ChangeSpec := { name := "fnExactSumNet", fn := fun _ => fun
  | [d] => { results := [.lit (.bool true)], args := [d] }
  | _ => none }
def fnExactSumNetRow : OpenClaim := { program := "ytedainddipahaaa", sum := "f95f0b2a7f764b17edea7d7723da813a79322000d37cd2991f148e8dbcc2395b", func := "loop.example/labelnets/laws.FnExactSumNet", spec := "fnExactSumNet", apart := false }
def FnExactSumNetSaid : Prop := fnExactSumNetRow.holds Try.pinned (OpenSpec.ofChange fnExactSumNetSpec)

/-- ITS FALSE NEIGHBOUR: 'it returns false'. Refute it at one input. -/
def fnExactSumNetWrong : ChangeSpec := { name := "fnExactSumNet", fn := fun _ => fun
  | [d] => { results := [.lit (.bool false)], args := [d] }
  | _ => none }
def FnExactSumNetWrongFalsely : Prop := fnExactSumNetRow.holds Try.pinned (OpenSpec.ofChange fnExactSumNetWrong)

/-- 'laws.FnExactPrimeOk': WHATEVER THE INPUT: true; the input reads as it did. -/
def fnExactPrimeOkSpec : ChangeSpec := { name := "fnExactPrimeOk", fn := fun _ => fun
  | [d1, d2] => { results := [.lit (.bool true)], args := [d1, d2] }
  | _ => none }
def fnExactPrimeOkRow : OpenClaim := { program := "ytedainddipahaaa", sum := "f95f0b2a7f764b17edea7d7723da813a79322000d37cd2991f148e8dbcc2395b", func := "loop.example/labelnets/laws.FnExactPrimeOk", spec := "fnExactPrimeOk", apart := false }
def FnExactPrimeOkSaid : Prop := fnExactPrimeOkRow.holds Try.pinned (OpenSpec.ofChange fnExactPrimeOkSpec)

/-- ITS FALSE NEIGHBOUR: 'it returns false'. Refute it at one input. -/
def fnExactPrimeOkWrong : ChangeSpec := { name := "fnExactPrimeOk", fn := fun _ => fun
  | [d1, d2] => { results := [.lit (.bool false)], args := [d1, d2] }
  | _ => none }
def FnExactPrimeOkWrongFalsely : Prop := fnExactPrimeOkRow.holds Try.pinned (OpenSpec.ofChange fnExactPrimeOkWrong)

/-- 'laws.FnExactPrimeFirst': WHATEVER THE INPUT: true; the input reads as it did. -/
def fnExactPrimeFirstSpec : ChangeSpec := { name := "fnExactPrimeFirst", fn := fun _ => fun
  | [d] => { results := [.lit (.bool true)], args := [d] }
  | _ => none }
def fnExactPrimeFirstRow : OpenClaim := { program := "ytedainddipahaaa", sum := "f95f0b2a7f764b17edea7d7723da813a79322000d37cd2991f148e8dbcc2395b", func := "loop.example/labelnets/laws.FnExactPrimeFirst", spec := "fnExactPrimeFirst", recurses := true, apart := false }
def FnExactPrimeFirstSaid : Prop := fnExactPrimeFirstRow.holds Try.pinned (OpenSpec.ofChange fnExactPrimeFirstSpec)

/-- ITS FALSE NEIGHBOUR: 'it returns false'. Refute it at one input. -/
def fnExactPrimeFirstWrong : ChangeSpec := { name := "fnExactPrimeFirst", fn := fun _ => fun
  | [d] => { results := [.lit (.bool false)], args := [d] }
  | _ => none }
def FnExactPrimeFirstWrongFalsely : Prop := fnExactPrimeFirstRow.holds Try.pinned (OpenSpec.ofChange fnExactPrimeFirstWrong)

/- THE SECOND FORM. 'bulk': how many values and letters a reading holds, each counted each time it is reached (what is shared counts as often as it is met; a slice's spare places count too). A statement '..UptoSaid' is the law's where the arguments, and the package variables that the reading takes, are together of bulk at most 1048576: NARROWER than '..Said'. Prove '..Said' where nothing that the law and all that it calls make is longer than what came in: it says more and counts as full. Else prove '..UptoSaid'. A law counts once. -/
mutual
def uptoBulk {H : Type} : DataW H → Nat
  | .lit (.string bytes) => bytes.length + 1
  | .lit _ => 1
  | .nil => 1
  | .ptr d => uptoBulk d + 1
  | .slice elems spare => uptoBulkAll elems + uptoBulkAll spare + 1
  | .agg parts => uptoBulkAll parts + 1
  | .iface _ d => uptoBulk d + 1
  | .map entries => uptoBulkEntries entries + 1
  | .held _ => 1
def uptoBulkAll {H : Type} : List (DataW H) → Nat
  | [] => 0
  | d :: r => uptoBulk d + uptoBulkAll r
def uptoBulkEntries {H : Type} : List (Lit × DataW H) → Nat
  | [] => 0
  | x :: r => uptoBulkEntry x + uptoBulkEntries r
def uptoBulkEntry {H : Type} : Lit × DataW H → Nat
  | (.string bytes, d) => bytes.length + uptoBulk d + 1
  | (_, d) => uptoBulk d + 1
 end
def uptoSmall : (H : Type) → List (DataW H) → Bool := fun _ ds => decide (uptoBulkAll ds ≤ 1048576)
def OpenSpec.upto (s : _root_.Go.ChangeSpec) : _root_.Go.OpenSpec := { _root_.Go.OpenSpec.ofChange s with cond := some uptoSmall }

/-- 'laws.FnCoprimeNet', WHERE WHAT IT READS IS OF BULK AT MOST 1048576: true; the input reads as it did. -/
def fnCoprimeNetUptoRow : OpenClaim := { program := "ytedainddipahaaa", sum := "f95f0b2a7f764b17edea7d7723da813a79322000d37cd2991f148e8dbcc2395b", func := "loop.example/labelnets/laws.FnCoprimeNet", spec := "fnCoprimeNet", apart := false, narrowed := true }
def FnCoprimeNetUptoSaid : Prop := fnCoprimeNetUptoRow.holds Try.pinned (OpenSpec.upto fnCoprimeNetSpec)

/-- 'laws.FnDivisorNet', WHERE WHAT IT READS IS OF BULK AT MOST 1048576: true; the input reads as it did. -/
def fnDivisorNetUptoRow : OpenClaim := { program := "ytedainddipahaaa", sum := "f95f0b2a7f764b17edea7d7723da813a79322000d37cd2991f148e8dbcc2395b", func := "loop.example/labelnets/laws.FnDivisorNet", spec := "fnDivisorNet", apart := false, narrowed := true }
def FnDivisorNetUptoSaid : Prop := fnDivisorNetUptoRow.holds Try.pinned (OpenSpec.upto fnDivisorNetSpec)

/-- 'laws.FnSumNet', WHERE WHAT IT READS IS OF BULK AT MOST 1048576: true; the input reads as it did. -/
def fnSumNetUptoRow : OpenClaim := { program := "ytedainddipahaaa", sum := "f95f0b2a7f764b17edea7d7723da813a79322000d37cd2991f148e8dbcc2395b", func := "loop.example/labelnets/laws.FnSumNet", spec := "fnSumNet", apart := false, narrowed := true }
def FnSumNetUptoSaid : Prop := fnSumNetUptoRow.holds Try.pinned (OpenSpec.upto fnSumNetSpec)

/-- 'laws.FnPrimeOk', WHERE WHAT IT READS IS OF BULK AT MOST 1048576: true; the input reads as it did. -/
def fnPrimeOkUptoRow : OpenClaim := { program := "ytedainddipahaaa", sum := "f95f0b2a7f764b17edea7d7723da813a79322000d37cd2991f148e8dbcc2395b", func := "loop.example/labelnets/laws.FnPrimeOk", spec := "fnPrimeOk", recurses := true, apart := false, narrowed := true }
def FnPrimeOkUptoSaid : Prop := fnPrimeOkUptoRow.holds Try.pinned (OpenSpec.upto fnPrimeOkSpec)

/-- 'laws.FnPrimeFirst', WHERE WHAT IT READS IS OF BULK AT MOST 1048576: true; the input reads as it did. -/
def fnPrimeFirstUptoRow : OpenClaim := { program := "ytedainddipahaaa", sum := "f95f0b2a7f764b17edea7d7723da813a79322000d37cd2991f148e8dbcc2395b", func := "loop.example/labelnets/laws.FnPrimeFirst", spec := "fnPrimeFirst", recurses := true, apart := false, narrowed := true }
def FnPrimeFirstUptoSaid : Prop := fnPrimeFirstUptoRow.holds Try.pinned (OpenSpec.upto fnPrimeFirstSpec)

/-- 'laws.FnExactCoprimeNet', WHERE WHAT IT READS IS OF BULK AT MOST 1048576: true; the input reads as it did. -/
def fnExactCoprimeNetUptoRow : OpenClaim := { program := "ytedainddipahaaa", sum := "f95f0b2a7f764b17edea7d7723da813a79322000d37cd2991f148e8dbcc2395b", func := "loop.example/labelnets/laws.FnExactCoprimeNet", spec := "fnExactCoprimeNet", apart := false, narrowed := true }
def FnExactCoprimeNetUptoSaid : Prop := fnExactCoprimeNetUptoRow.holds Try.pinned (OpenSpec.upto fnExactCoprimeNetSpec)

/-- 'laws.FnExactDivisorNet', WHERE WHAT IT READS IS OF BULK AT MOST 1048576: true; the input reads as it did. -/
def fnExactDivisorNetUptoRow : OpenClaim := { program := "ytedainddipahaaa", sum := "f95f0b2a7f764b17edea7d7723da813a79322000d37cd2991f148e8dbcc2395b", func := "loop.example/labelnets/laws.FnExactDivisorNet", spec := "fnExactDivisorNet", apart := false, narrowed := true }
def FnExactDivisorNetUptoSaid : Prop := fnExactDivisorNetUptoRow.holds Try.pinned (OpenSpec.upto fnExactDivisorNetSpec)

/-- 'laws.FnExactSumNet', WHERE WHAT IT READS IS OF BULK AT MOST 1048576: true; the input reads as it did. -/
def fnExactSumNetUptoRow : OpenClaim := { program := "ytedainddipahaaa", sum := "f95f0b2a7f764b17edea7d7723da813a79322000d37cd2991f148e8dbcc2395b", func := "loop.example/labelnets/laws.FnExactSumNet", spec := "fnExactSumNet", apart := false, narrowed := true }
def FnExactSumNetUptoSaid : Prop := fnExactSumNetUptoRow.holds Try.pinned (OpenSpec.upto fnExactSumNetSpec)

/-- 'laws.FnExactPrimeOk', WHERE WHAT IT READS IS OF BULK AT MOST 1048576: true; the input reads as it did. -/
def fnExactPrimeOkUptoRow : OpenClaim := { program := "ytedainddipahaaa", sum := "f95f0b2a7f764b17edea7d7723da813a79322000d37cd2991f148e8dbcc2395b", func := "loop.example/labelnets/laws.FnExactPrimeOk", spec := "fnExactPrimeOk", apart := false, narrowed := true }
def FnExactPrimeOkUptoSaid : Prop := fnExactPrimeOkUptoRow.holds Try.pinned (OpenSpec.upto fnExactPrimeOkSpec)

/-- 'laws.FnExactPrimeFirst', WHERE WHAT IT READS IS OF BULK AT MOST 1048576: true; the input reads as it did. -/
def fnExactPrimeFirstUptoRow : OpenClaim := { program := "ytedainddipahaaa", sum := "f95f0b2a7f764b17edea7d7723da813a79322000d37cd2991f148e8dbcc2395b", func := "loop.example/labelnets/laws.FnExactPrimeFirst", spec := "fnExactPrimeFirst", recurses := true, apart := false, narrowed := true }
def FnExactPrimeFirstUptoSaid : Prop := fnExactPrimeFirstUptoRow.holds Try.pinned (OpenSpec.upto fnExactPrimeFirstSpec)

end Rows
end Go.Proofs.Ytedainddipahaaa
