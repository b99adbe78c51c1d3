/-
  No cell of these rows narrows 'for every input' (looked for: loops, veiled, ifaces, maps, wideKeys, modest, calm, conditions, laid).
  DERIVED. THE GIVEN ROWS OF THIS SEAT. 16 by the template 'for every input the law returns true; each argument reads behind the call as it read before'; 0 by the template 'total and deterministic' (their statements: YtpmofepaoojfcaaTotals.lean).
  GIVEN WITH THE SEED: the statements are not yours to turn. If you find one false, say at which input.
  Laid BY PROGRAM, IN A SANDBOX (cutbox-rows.mjs): the forced cells as the released guide's own fill.sh prints them over the translation 856b407489427240… (all of the seat's roots in one cut). By AI agents, Wed Nov 11 2026. No macro, syntax, notation, axiom, sorry.
-/
import Derived.Test.YtpmofepaoojfcaaChecked
import GoSem.Claim
import GoSem.ClaimJoined
import GoSem.ClaimMapViews
import Derived.JoinedTies
import Derived.KernelRfl
namespace Go.Proofs.Ytpmofepaoojfcaa
/- THE CELL 'sum', in the pinned program and in every row, IS THE sha256 OF THE DUMP (.gsa) THAT YtpmofepaoojfcaaProg.lean LOADS. Nothing in Lean hashes anything: it is a label: what it is worth is what the hold of that sum in a sandbox is worth. -/
noncomputable def Try.pinned : Pinned := { name := "ytpmofepaoojfcaa", sum := "856b407489427240169609e4f399b43fedb7e9c34acf796988e7cbe98c286cb4", checked := Try.checked }
namespace Rows
def none {H : Type} : Left H := { results := [], args := [] }

/-- 'laws.FnNetOk': WHATEVER THE INPUT: true; the input reads as it did. -/
def fnNetOkSpec : ChangeSpec := { name := "fnNetOk", fn := fun _ => fun
  | [d] => { results := [.lit (.bool true)], args := [d] }
  | _ => none }
def fnNetOkRow : OpenClaim := { program := "ytpmofepaoojfcaa", sum := "856b407489427240169609e4f399b43fedb7e9c34acf796988e7cbe98c286cb4", func := "loop.example/labelnets/laws.FnNetOk", spec := "fnNetOk", apart := false }
def FnNetOkSaid : Prop := fnNetOkRow.holds Try.pinned (OpenSpec.ofChange fnNetOkSpec)

/-- ITS FALSE NEIGHBOUR: 'it returns false'. Refute it at one input. -/
def fnNetOkWrong : ChangeSpec := { name := "fnNetOk", fn := fun _ => fun
  | [d] => { results := [.lit (.bool false)], args := [d] }
  | _ => none }
def FnNetOkWrongFalsely : Prop := fnNetOkRow.holds Try.pinned (OpenSpec.ofChange fnNetOkWrong)

/-- 'laws.FnExactNetOk': WHATEVER THE INPUT: true; the input reads as it did. -/
def fnExactNetOkSpec : ChangeSpec := { name := "fnExactNetOk", fn := fun _ => fun
  | [d] => { results := [.lit (.bool true)], args := [d] }
  | _ => none }
def fnExactNetOkRow : OpenClaim := { program := "ytpmofepaoojfcaa", sum := "856b407489427240169609e4f399b43fedb7e9c34acf796988e7cbe98c286cb4", func := "loop.example/labelnets/laws.FnExactNetOk", spec := "fnExactNetOk", apart := false }
def FnExactNetOkSaid : Prop := fnExactNetOkRow.holds Try.pinned (OpenSpec.ofChange fnExactNetOkSpec)

/-- ITS FALSE NEIGHBOUR: 'it returns false'. Refute it at one input. -/
def fnExactNetOkWrong : ChangeSpec := { name := "fnExactNetOk", fn := fun _ => fun
  | [d] => { results := [.lit (.bool false)], args := [d] }
  | _ => none }
def FnExactNetOkWrongFalsely : Prop := fnExactNetOkRow.holds Try.pinned (OpenSpec.ofChange fnExactNetOkWrong)

/-- 'laws.FnWireList': WHATEVER THE INPUT: true; the input reads as it did. -/
def fnWireListSpec : ChangeSpec := { name := "fnWireList", fn := fun _ => fun
  | [d] => { results := [.lit (.bool true)], args := [d] }
  | _ => none }
def fnWireListRow : OpenClaim := { program := "ytpmofepaoojfcaa", sum := "856b407489427240169609e4f399b43fedb7e9c34acf796988e7cbe98c286cb4", func := "loop.example/labelnets/laws.FnWireList", spec := "fnWireList", apart := false }
def FnWireListSaid : Prop := fnWireListRow.holds Try.pinned (OpenSpec.ofChange fnWireListSpec)

/-- ITS FALSE NEIGHBOUR: 'it returns false'. Refute it at one input. -/
def fnWireListWrong : ChangeSpec := { name := "fnWireList", fn := fun _ => fun
  | [d] => { results := [.lit (.bool false)], args := [d] }
  | _ => none }
def FnWireListWrongFalsely : Prop := fnWireListRow.holds Try.pinned (OpenSpec.ofChange fnWireListWrong)

/-- 'laws.FnExactWireList': WHATEVER THE INPUT: true; the input reads as it did. -/
def fnExactWireListSpec : ChangeSpec := { name := "fnExactWireList", fn := fun _ => fun
  | [d] => { results := [.lit (.bool true)], args := [d] }
  | _ => none }
def fnExactWireListRow : OpenClaim := { program := "ytpmofepaoojfcaa", sum := "856b407489427240169609e4f399b43fedb7e9c34acf796988e7cbe98c286cb4", func := "loop.example/labelnets/laws.FnExactWireList", spec := "fnExactWireList", apart := false }
def FnExactWireListSaid : Prop := fnExactWireListRow.holds Try.pinned (OpenSpec.ofChange fnExactWireListSpec)

/-- ITS FALSE NEIGHBOUR: 'it returns false'. Refute it at one input. -/
def fnExactWireListWrong : ChangeSpec := { name := "fnExactWireList", fn := fun _ => fun
  | [d] => { results := [.lit (.bool false)], args := [d] }
  | _ => none }
def FnExactWireListWrongFalsely : Prop := fnExactWireListRow.holds Try.pinned (OpenSpec.ofChange fnExactWireListWrong)

/-- 'laws.FnWiresOf': WHATEVER THE INPUT: true; the input reads as it did. -/
def fnWiresOfSpec : ChangeSpec := { name := "fnWiresOf", fn := fun _ => fun
  | [d] => { results := [.lit (.bool true)], args := [d] }
  | _ => none }
def fnWiresOfRow : OpenClaim := { program := "ytpmofepaoojfcaa", sum := "856b407489427240169609e4f399b43fedb7e9c34acf796988e7cbe98c286cb4", func := "loop.example/labelnets/laws.FnWiresOf", spec := "fnWiresOf", apart := false }
def FnWiresOfSaid : Prop := fnWiresOfRow.holds Try.pinned (OpenSpec.ofChange fnWiresOfSpec)

/-- ITS FALSE NEIGHBOUR: 'it returns false'. Refute it at one input. -/
def fnWiresOfWrong : ChangeSpec := { name := "fnWiresOf", fn := fun _ => fun
  | [d] => { results := [.lit (.bool false)], args := [d] }
  | _ => none }
def FnWiresOfWrongFalsely : Prop := fnWiresOfRow.holds Try.pinned (OpenSpec.ofChange fnWiresOfWrong)

/-- 'laws.FnExactWiresOf': WHATEVER THE INPUT: true; the input reads as it did. -/
def fnExactWiresOfSpec : ChangeSpec := { name := "fnExactWiresOf", fn := fun _ => fun
  | [d] => { results := [.lit (.bool true)], args := [d] }
  | _ => none }
def fnExactWiresOfRow : OpenClaim := { program := "ytpmofepaoojfcaa", sum := "856b407489427240169609e4f399b43fedb7e9c34acf796988e7cbe98c286cb4", func := "loop.example/labelnets/laws.FnExactWiresOf", spec := "fnExactWiresOf", apart := false }
def FnExactWiresOfSaid : Prop := fnExactWiresOfRow.holds Try.pinned (OpenSpec.ofChange fnExactWiresOfSpec)

/-- ITS FALSE NEIGHBOUR: 'it returns false'. Refute it at one input. -/
def fnExactWiresOfWrong : ChangeSpec := { name := "fnExactWiresOf", fn := fun _ => fun
  | [d] => { results := [.lit (.bool false)], args := [d] }
  | _ => none }
def FnExactWiresOfWrongFalsely : Prop := fnExactWiresOfRow.holds Try.pinned (OpenSpec.ofChange fnExactWiresOfWrong)

/-- 'laws.FnMostNear': WHATEVER THE INPUT: true; the input reads as it did. -/
def fnMostNearSpec : ChangeSpec := { name := "fnMostNear", fn := fun _ => fun
  | [d] => { results := [.lit (.bool true)], args := [d] }
  | _ => none }
def fnMostNearRow : OpenClaim := { program := "ytpmofepaoojfcaa", sum := "856b407489427240169609e4f399b43fedb7e9c34acf796988e7cbe98c286cb4", func := "loop.example/labelnets/laws.FnMostNear", spec := "fnMostNear", apart := false }
def FnMostNearSaid : Prop := fnMostNearRow.holds Try.pinned (OpenSpec.ofChange fnMostNearSpec)

/-- ITS FALSE NEIGHBOUR: 'it returns false'. Refute it at one input. -/
def fnMostNearWrong : ChangeSpec := { name := "fnMostNear", fn := fun _ => fun
  | [d] => { results := [.lit (.bool false)], args := [d] }
  | _ => none }
def FnMostNearWrongFalsely : Prop := fnMostNearRow.holds Try.pinned (OpenSpec.ofChange fnMostNearWrong)

/-- 'laws.FnExactMostNear': WHATEVER THE INPUT: true; the input reads as it did. -/
def fnExactMostNearSpec : ChangeSpec := { name := "fnExactMostNear", fn := fun _ => fun
  | [d] => { results := [.lit (.bool true)], args := [d] }
  | _ => none }
def fnExactMostNearRow : OpenClaim := { program := "ytpmofepaoojfcaa", sum := "856b407489427240169609e4f399b43fedb7e9c34acf796988e7cbe98c286cb4", func := "loop.example/labelnets/laws.FnExactMostNear", spec := "fnExactMostNear", apart := false }
def FnExactMostNearSaid : Prop := fnExactMostNearRow.holds Try.pinned (OpenSpec.ofChange fnExactMostNearSpec)

/-- ITS FALSE NEIGHBOUR: 'it returns false'. Refute it at one input. -/
def fnExactMostNearWrong : ChangeSpec := { name := "fnExactMostNear", fn := fun _ => fun
  | [d] => { results := [.lit (.bool false)], args := [d] }
  | _ => none }
def FnExactMostNearWrongFalsely : Prop := fnExactMostNearRow.holds Try.pinned (OpenSpec.ofChange fnExactMostNearWrong)

/-- 'laws.FnPartMany': WHATEVER THE INPUT: true; the input reads as it did. -/
def fnPartManySpec : ChangeSpec := { name := "fnPartMany", fn := fun _ => fun
  | [d] => { results := [.lit (.bool true)], args := [d] }
  | _ => none }
def fnPartManyRow : OpenClaim := { program := "ytpmofepaoojfcaa", sum := "856b407489427240169609e4f399b43fedb7e9c34acf796988e7cbe98c286cb4", func := "loop.example/labelnets/laws.FnPartMany", spec := "fnPartMany", apart := false }
def FnPartManySaid : Prop := fnPartManyRow.holds Try.pinned (OpenSpec.ofChange fnPartManySpec)

/-- ITS FALSE NEIGHBOUR: 'it returns false'. Refute it at one input. -/
def fnPartManyWrong : ChangeSpec := { name := "fnPartMany", fn := fun _ => fun
  | [d] => { results := [.lit (.bool false)], args := [d] }
  | _ => none }
def FnPartManyWrongFalsely : Prop := fnPartManyRow.holds Try.pinned (OpenSpec.ofChange fnPartManyWrong)

/-- 'laws.FnExactPartMany': WHATEVER THE INPUT: true; the input reads as it did. -/
def fnExactPartManySpec : ChangeSpec := { name := "fnExactPartMany", fn := fun _ => fun
  | [d] => { results := [.lit (.bool true)], args := [d] }
  | _ => none }
def fnExactPartManyRow : OpenClaim := { program := "ytpmofepaoojfcaa", sum := "856b407489427240169609e4f399b43fedb7e9c34acf796988e7cbe98c286cb4", func := "loop.example/labelnets/laws.FnExactPartMany", spec := "fnExactPartMany", apart := false }
def FnExactPartManySaid : Prop := fnExactPartManyRow.holds Try.pinned (OpenSpec.ofChange fnExactPartManySpec)

/-- ITS FALSE NEIGHBOUR: 'it returns false'. Refute it at one input. -/
def fnExactPartManyWrong : ChangeSpec := { name := "fnExactPartMany", fn := fun _ => fun
  | [d] => { results := [.lit (.bool false)], args := [d] }
  | _ => none }
def FnExactPartManyWrongFalsely : Prop := fnExactPartManyRow.holds Try.pinned (OpenSpec.ofChange fnExactPartManyWrong)

/-- 'laws.FnTreeOk': WHATEVER THE INPUT: true; the input reads as it did. -/
def fnTreeOkSpec : ChangeSpec := { name := "fnTreeOk", fn := fun _ => fun
  | [d] => { results := [.lit (.bool true)], args := [d] }
  | _ => none }
def fnTreeOkRow : OpenClaim := { program := "ytpmofepaoojfcaa", sum := "856b407489427240169609e4f399b43fedb7e9c34acf796988e7cbe98c286cb4", func := "loop.example/labelnets/laws.FnTreeOk", spec := "fnTreeOk", apart := false }
def FnTreeOkSaid : Prop := fnTreeOkRow.holds Try.pinned (OpenSpec.ofChange fnTreeOkSpec)

/-- ITS FALSE NEIGHBOUR: 'it returns false'. Refute it at one input. -/
def fnTreeOkWrong : ChangeSpec := { name := "fnTreeOk", fn := fun _ => fun
  | [d] => { results := [.lit (.bool false)], args := [d] }
  | _ => none }
def FnTreeOkWrongFalsely : Prop := fnTreeOkRow.holds Try.pinned (OpenSpec.ofChange fnTreeOkWrong)

/-- 'laws.FnExactTreeOk': WHATEVER THE INPUT: true; the input reads as it did. -/
def fnExactTreeOkSpec : ChangeSpec := { name := "fnExactTreeOk", fn := fun _ => fun
  | [d] => { results := [.lit (.bool true)], args := [d] }
  | _ => none }
def fnExactTreeOkRow : OpenClaim := { program := "ytpmofepaoojfcaa", sum := "856b407489427240169609e4f399b43fedb7e9c34acf796988e7cbe98c286cb4", func := "loop.example/labelnets/laws.FnExactTreeOk", spec := "fnExactTreeOk", apart := false }
def FnExactTreeOkSaid : Prop := fnExactTreeOkRow.holds Try.pinned (OpenSpec.ofChange fnExactTreeOkSpec)

/-- ITS FALSE NEIGHBOUR: 'it returns false'. Refute it at one input. -/
def fnExactTreeOkWrong : ChangeSpec := { name := "fnExactTreeOk", fn := fun _ => fun
  | [d] => { results := [.lit (.bool false)], args := [d] }
  | _ => none }
def FnExactTreeOkWrongFalsely : Prop := fnExactTreeOkRow.holds Try.pinned (OpenSpec.ofChange fnExactTreeOkWrong)

/-- 'laws.FnSidesOf': WHATEVER THE INPUT: true; the input reads as it did. -/
def fnSidesOfSpec : ChangeSpec := { name := "fnSidesOf", fn := fun _ => fun
  | [d] => { results := [.lit (.bool true)], args := [d] }
  | _ => none }
def fnSidesOfRow : OpenClaim := { program := "ytpmofepaoojfcaa", sum := "856b407489427240169609e4f399b43fedb7e9c34acf796988e7cbe98c286cb4", func := "loop.example/labelnets/laws.FnSidesOf", spec := "fnSidesOf", apart := false }
def FnSidesOfSaid : Prop := fnSidesOfRow.holds Try.pinned (OpenSpec.ofChange fnSidesOfSpec)

/-- ITS FALSE NEIGHBOUR: 'it returns false'. Refute it at one input. -/
def fnSidesOfWrong : ChangeSpec := { name := "fnSidesOf", fn := fun _ => fun
  | [d] => { results := [.lit (.bool false)], args := [d] }
  | _ => none }
def FnSidesOfWrongFalsely : Prop := fnSidesOfRow.holds Try.pinned (OpenSpec.ofChange fnSidesOfWrong)

/-- 'laws.FnExactSidesOf': WHATEVER THE INPUT: true; the input reads as it did. -/
def fnExactSidesOfSpec : ChangeSpec := { name := "fnExactSidesOf", fn := fun _ => fun
  | [d] => { results := [.lit (.bool true)], args := [d] }
  | _ => none }
def fnExactSidesOfRow : OpenClaim := { program := "ytpmofepaoojfcaa", sum := "856b407489427240169609e4f399b43fedb7e9c34acf796988e7cbe98c286cb4", func := "loop.example/labelnets/laws.FnExactSidesOf", spec := "fnExactSidesOf", apart := false }
def FnExactSidesOfSaid : Prop := fnExactSidesOfRow.holds Try.pinned (OpenSpec.ofChange fnExactSidesOfSpec)

/-- ITS FALSE NEIGHBOUR: 'it returns false'. Refute it at one input. -/
def fnExactSidesOfWrong : ChangeSpec := { name := "fnExactSidesOf", fn := fun _ => fun
  | [d] => { results := [.lit (.bool false)], args := [d] }
  | _ => none }
def FnExactSidesOfWrongFalsely : Prop := fnExactSidesOfRow.holds Try.pinned (OpenSpec.ofChange fnExactSidesOfWrong)

/-- 'laws.FnShapeNet': WHATEVER THE INPUT: true; the input reads as it did. -/
def fnShapeNetSpec : ChangeSpec := { name := "fnShapeNet", fn := fun _ => fun
  | [d] => { results := [.lit (.bool true)], args := [d] }
  | _ => none }
def fnShapeNetRow : OpenClaim := { program := "ytpmofepaoojfcaa", sum := "856b407489427240169609e4f399b43fedb7e9c34acf796988e7cbe98c286cb4", func := "loop.example/labelnets/laws.FnShapeNet", spec := "fnShapeNet", apart := false }
def FnShapeNetSaid : Prop := fnShapeNetRow.holds Try.pinned (OpenSpec.ofChange fnShapeNetSpec)

/-- ITS FALSE NEIGHBOUR: 'it returns false'. Refute it at one input. -/
def fnShapeNetWrong : ChangeSpec := { name := "fnShapeNet", fn := fun _ => fun
  | [d] => { results := [.lit (.bool false)], args := [d] }
  | _ => none }
def FnShapeNetWrongFalsely : Prop := fnShapeNetRow.holds Try.pinned (OpenSpec.ofChange fnShapeNetWrong)

/-- 'laws.FnExactShapeNet': WHATEVER THE INPUT: true; the input reads as it did. -/
def fnExactShapeNetSpec : ChangeSpec := { name := "fnExactShapeNet", fn := fun _ => fun
  | [d1, d2] => { results := [.lit (.bool true)], args := [d1, d2] }
  | _ => none }
def fnExactShapeNetRow : OpenClaim := { program := "ytpmofepaoojfcaa", sum := "856b407489427240169609e4f399b43fedb7e9c34acf796988e7cbe98c286cb4", func := "loop.example/labelnets/laws.FnExactShapeNet", spec := "fnExactShapeNet", apart := false }
def FnExactShapeNetSaid : Prop := fnExactShapeNetRow.holds Try.pinned (OpenSpec.ofChange fnExactShapeNetSpec)

/-- ITS FALSE NEIGHBOUR: 'it returns false'. Refute it at one input. -/
def fnExactShapeNetWrong : ChangeSpec := { name := "fnExactShapeNet", fn := fun _ => fun
  | [d1, d2] => { results := [.lit (.bool false)], args := [d1, d2] }
  | _ => none }
def FnExactShapeNetWrongFalsely : Prop := fnExactShapeNetRow.holds Try.pinned (OpenSpec.ofChange fnExactShapeNetWrong)

/- THE SECOND FORM. 'bulk': how many values and letters a reading holds, each counted each time it is reached (what is shared counts as often as it is met; a slice's spare places count too). A statement '..UptoSaid' is the law's where the arguments, and the package variables that the reading takes, are together of bulk at most 1048576: NARROWER than '..Said'. Prove '..Said' where nothing that the law and all that it calls make is longer than what came in: it says more and counts as full. Else prove '..UptoSaid'. A law counts once. -/
mutual
def uptoBulk {H : Type} : DataW H → Nat
  | .lit (.string bytes) => bytes.length + 1
  | .lit _ => 1
  | .nil => 1
  | .ptr d => uptoBulk d + 1
  | .slice elems spare => uptoBulkAll elems + uptoBulkAll spare + 1
  | .agg parts => uptoBulkAll parts + 1
  | .iface _ d => uptoBulk d + 1
  | .map entries => uptoBulkEntries entries + 1
  | .held _ => 1
def uptoBulkAll {H : Type} : List (DataW H) → Nat
  | [] => 0
  | d :: r => uptoBulk d + uptoBulkAll r
def uptoBulkEntries {H : Type} : List (Lit × DataW H) → Nat
  | [] => 0
  | x :: r => uptoBulkEntry x + uptoBulkEntries r
def uptoBulkEntry {H : Type} : Lit × DataW H → Nat
  | (.string bytes, d) => bytes.length + uptoBulk d + 1
  | (_, d) => uptoBulk d + 1
 end
def uptoSmall : (H : Type) → List (DataW H) → Bool := fun _ ds => decide (uptoBulkAll ds ≤ 1048576)
def OpenSpec.upto (s : _root_.Go.ChangeSpec) : _root_.Go.OpenSpec := { _root_.Go.OpenSpec.ofChange s with cond := some uptoSmall }

/-- 'laws.FnNetOk', WHERE WHAT IT READS IS OF BULK AT MOST 1048576: true; the input reads as it did. -/
def fnNetOkUptoRow : OpenClaim := { program := "ytpmofepaoojfcaa", sum := "856b407489427240169609e4f399b43fedb7e9c34acf796988e7cbe98c286cb4", func := "loop.example/labelnets/laws.FnNetOk", spec := "fnNetOk", apart := false, narrowed := true }
def FnNetOkUptoSaid : Prop := fnNetOkUptoRow.holds Try.pinned (OpenSpec.upto fnNetOkSpec)

/-- 'laws.FnExactNetOk', WHERE WHAT IT READS IS OF BULK AT MOST 1048576: true; the input reads as it did. -/
def fnExactNetOkUptoRow : OpenClaim := { program := "ytpmofepaoojfcaa", sum := "856b407489427240169609e4f399b43fedb7e9c34acf796988e7cbe98c286cb4", func := "loop.example/labelnets/laws.FnExactNetOk", spec := "fnExactNetOk", apart := false, narrowed := true }
def FnExactNetOkUptoSaid : Prop := fnExactNetOkUptoRow.holds Try.pinned (OpenSpec.upto fnExactNetOkSpec)

/-- 'laws.FnWireList', WHERE WHAT IT READS IS OF BULK AT MOST 1048576: true; the input reads as it did. -/
def fnWireListUptoRow : OpenClaim := { program := "ytpmofepaoojfcaa", sum := "856b407489427240169609e4f399b43fedb7e9c34acf796988e7cbe98c286cb4", func := "loop.example/labelnets/laws.FnWireList", spec := "fnWireList", apart := false, narrowed := true }
def FnWireListUptoSaid : Prop := fnWireListUptoRow.holds Try.pinned (OpenSpec.upto fnWireListSpec)

/-- 'laws.FnExactWireList', WHERE WHAT IT READS IS OF BULK AT MOST 1048576: true; the input reads as it did. -/
def fnExactWireListUptoRow : OpenClaim := { program := "ytpmofepaoojfcaa", sum := "856b407489427240169609e4f399b43fedb7e9c34acf796988e7cbe98c286cb4", func := "loop.example/labelnets/laws.FnExactWireList", spec := "fnExactWireList", apart := false, narrowed := true }
def FnExactWireListUptoSaid : Prop := fnExactWireListUptoRow.holds Try.pinned (OpenSpec.upto fnExactWireListSpec)

/-- 'laws.FnWiresOf', WHERE WHAT IT READS IS OF BULK AT MOST 1048576: true; the input reads as it did. -/
def fnWiresOfUptoRow : OpenClaim := { program := "ytpmofepaoojfcaa", sum := "856b407489427240169609e4f399b43fedb7e9c34acf796988e7cbe98c286cb4", func := "loop.example/labelnets/laws.FnWiresOf", spec := "fnWiresOf", apart := false, narrowed := true }
def FnWiresOfUptoSaid : Prop := fnWiresOfUptoRow.holds Try.pinned (OpenSpec.upto fnWiresOfSpec)

/-- 'laws.FnExactWiresOf', WHERE WHAT IT READS IS OF BULK AT MOST 1048576: true; the input reads as it did. -/
def fnExactWiresOfUptoRow : OpenClaim := { program := "ytpmofepaoojfcaa", sum := "856b407489427240169609e4f399b43fedb7e9c34acf796988e7cbe98c286cb4", func := "loop.example/labelnets/laws.FnExactWiresOf", spec := "fnExactWiresOf", apart := false, narrowed := true }
def FnExactWiresOfUptoSaid : Prop := fnExactWiresOfUptoRow.holds Try.pinned (OpenSpec.upto fnExactWiresOfSpec)

/-- 'laws.FnMostNear', WHERE WHAT IT READS IS OF BULK AT MOST 1048576: true; the input reads as it did. -/
def fnMostNearUptoRow : OpenClaim := { program := "ytpmofepaoojfcaa", sum := "856b407489427240169609e4f399b43fedb7e9c34acf796988e7cbe98c286cb4", func := "loop.example/labelnets/laws.FnMostNear", spec := "fnMostNear", apart := false, narrowed := true }
def FnMostNearUptoSaid : Prop := fnMostNearUptoRow.holds Try.pinned (OpenSpec.upto fnMostNearSpec)

/-- 'laws.FnExactMostNear', WHERE WHAT IT READS IS OF BULK AT MOST 1048576: true; the input reads as it did. -/
def fnExactMostNearUptoRow : OpenClaim := { program := "ytpmofepaoojfcaa", sum := "856b407489427240169609e4f399b43fedb7e9c34acf796988e7cbe98c286cb4", func := "loop.example/labelnets/laws.FnExactMostNear", spec := "fnExactMostNear", apart := false, narrowed := true }
def FnExactMostNearUptoSaid : Prop := fnExactMostNearUptoRow.holds Try.pinned (OpenSpec.upto fnExactMostNearSpec)

/-- 'laws.FnPartMany', WHERE WHAT IT READS IS OF BULK AT MOST 1048576: true; the input reads as it did. -/
def fnPartManyUptoRow : OpenClaim := { program := "ytpmofepaoojfcaa", sum := "856b407489427240169609e4f399b43fedb7e9c34acf796988e7cbe98c286cb4", func := "loop.example/labelnets/laws.FnPartMany", spec := "fnPartMany", apart := false, narrowed := true }
def FnPartManyUptoSaid : Prop := fnPartManyUptoRow.holds Try.pinned (OpenSpec.upto fnPartManySpec)

/-- 'laws.FnExactPartMany', WHERE WHAT IT READS IS OF BULK AT MOST 1048576: true; the input reads as it did. -/
def fnExactPartManyUptoRow : OpenClaim := { program := "ytpmofepaoojfcaa", sum := "856b407489427240169609e4f399b43fedb7e9c34acf796988e7cbe98c286cb4", func := "loop.example/labelnets/laws.FnExactPartMany", spec := "fnExactPartMany", apart := false, narrowed := true }
def FnExactPartManyUptoSaid : Prop := fnExactPartManyUptoRow.holds Try.pinned (OpenSpec.upto fnExactPartManySpec)

/-- 'laws.FnTreeOk', WHERE WHAT IT READS IS OF BULK AT MOST 1048576: true; the input reads as it did. -/
def fnTreeOkUptoRow : OpenClaim := { program := "ytpmofepaoojfcaa", sum := "856b407489427240169609e4f399b43fedb7e9c34acf796988e7cbe98c286cb4", func := "loop.example/labelnets/laws.FnTreeOk", spec := "fnTreeOk", apart := false, narrowed := true }
def FnTreeOkUptoSaid : Prop := fnTreeOkUptoRow.holds Try.pinned (OpenSpec.upto fnTreeOkSpec)

/-- 'laws.FnExactTreeOk', WHERE WHAT IT READS IS OF BULK AT MOST 1048576: true; the input reads as it did. -/
def fnExactTreeOkUptoRow : OpenClaim := { program := "ytpmofepaoojfcaa", sum := "856b407489427240169609e4f399b43fedb7e9c34acf796988e7cbe98c286cb4", func := "loop.example/labelnets/laws.FnExactTreeOk", spec := "fnExactTreeOk", apart := false, narrowed := true }
def FnExactTreeOkUptoSaid : Prop := fnExactTreeOkUptoRow.holds Try.pinned (OpenSpec.upto fnExactTreeOkSpec)

/-- 'laws.FnSidesOf', WHERE WHAT IT READS IS OF BULK AT MOST 1048576: true; the input reads as it did. -/
def fnSidesOfUptoRow : OpenClaim := { program := "ytpmofepaoojfcaa", sum := "856b407489427240169609e4f399b43fedb7e9c34acf796988e7cbe98c286cb4", func := "loop.example/labelnets/laws.FnSidesOf", spec := "fnSidesOf", apart := false, narrowed := true }
def FnSidesOfUptoSaid : Prop := fnSidesOfUptoRow.holds Try.pinned (OpenSpec.upto fnSidesOfSpec)

/-- 'laws.FnExactSidesOf', WHERE WHAT IT READS IS OF BULK AT MOST 1048576: true; the input reads as it did. -/
def fnExactSidesOfUptoRow : OpenClaim := { program := "ytpmofepaoojfcaa", sum := "856b407489427240169609e4f399b43fedb7e9c34acf796988e7cbe98c286cb4", func := "loop.example/labelnets/laws.FnExactSidesOf", spec := "fnExactSidesOf", apart := false, narrowed := true }
def FnExactSidesOfUptoSaid : Prop := fnExactSidesOfUptoRow.holds Try.pinned (OpenSpec.upto fnExactSidesOfSpec)

/-- 'laws.FnShapeNet', WHERE WHAT IT READS IS OF BULK AT MOST 1048576: true; the input reads as it did. -/
def fnShapeNetUptoRow : OpenClaim := { program := "ytpmofepaoojfcaa", sum := "856b407489427240169609e4f399b43fedb7e9c34acf796988e7cbe98c286cb4", func := "loop.example/labelnets/laws.FnShapeNet", spec := "fnShapeNet", apart := false, narrowed := true }
def FnShapeNetUptoSaid : Prop := fnShapeNetUptoRow.holds Try.pinned (OpenSpec.upto fnShapeNetSpec)

/-- 'laws.FnExactShapeNet', WHERE WHAT IT READS IS OF BULK AT MOST 1048576: true; the input reads as it did. -/
def fnExactShapeNetUptoRow : OpenClaim := { program := "ytpmofepaoojfcaa", sum := "856b407489427240169609e4f399b43fedb7e9c34acf796988e7cbe98c286cb4", func := "loop.example/labelnets/laws.FnExactShapeNet", spec := "fnExactShapeNet", apart := false, narrowed := true }
def FnExactShapeNetUptoSaid : Prop := fnExactShapeNetUptoRow.holds Try.pinned (OpenSpec.upto fnExactShapeNetSpec)

end Rows
end Go.Proofs.Ytpmofepaoojfcaa
