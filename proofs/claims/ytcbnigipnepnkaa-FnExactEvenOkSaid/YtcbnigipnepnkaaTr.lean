/- The translation of the program's code into the abstract machine's: computed, checked against the type table. Own work; no condition. -/
import Derived.Test.YtcbnigipnepnkaaAbs
import Derived.Test.YtcbnigipnepnkaaOrder
import Derived.Test.YtcbnigipnepnkaaLate
namespace Go.Abs

def trVal : Value → Option AV
  | .int k n => some (.int k n)
  | .bool b => some (.bool b)
  | .string s => some (.str s.data.toList)
  | .slice none 0 0 => some (.sl SV.nil)
  | .pointer none => some .nilp
  | _ => none

def trOpd : Operand → Option Opd
  | .tmp t => some (.tmp t)
  | .const v => (trVal v).map .cst
  | _ => none

def trOpds : List Operand → Option (List Opd)
  | [] => some []
  | x :: l => do some ((← trOpd x) :: (← trOpds l))

def trOpdO : Option Operand → Option (Option Opd)
  | none => some none
  | some x => (trOpd x).map some

def trParts (place : Nat → Option Nat) : List (Nat × Operand) → Option (List (Nat × Opd))
  | [] => some []
  | (i, x) :: l => do some ((← place i, ← trOpd x) :: (← trParts place l))

def trVals : List Value → Option (List AV)
  | [] => some []
  | v :: l => do some ((← trVal v) :: (← trVals l))

/-- The element type of a slice type whose elements take one cell. -/
def elem1 (P : Program) (t : TypeId) : Option TypeId :=
  match P.underlying t with
  | some (.slice e) => match P.info? e with
    | some i => if i.size = 1 then some e else none
    | none => none
  | _ => none

/-- The same, with the zero value, which takes one cell; not more than 64 bytes. -/
def elemZ (P : Program) (t : TypeId) : Option (TypeId × AV) :=
  match P.underlying t with
  | some (.slice e) => match P.info? e with
    | some i => match i.zero with
      | some z => match trVal z with
        | some v => if i.size = 1 ∧ i.bytes ≤ 64 then some (e, v) else none
        | none => none
      | none => none
    | none => none
  | _ => none

/-- How many elements of one cell an array type has. -/
def arr1 (P : Program) (t : TypeId) : Option Nat :=
  match P.underlying t with
  | some (.array n e) => match P.info? e with
    | some i => if i.size = 1 then some n else none
    | none => none
  | _ => none
/-- A type whose values are of many cells, and how many. -/
def aggN (P : Program) (t : TypeId) : Option Nat :=
  match P.underlying t with
  | some (.struct _) | some (.array ..) => (P.info? t).map (·.size)
  | _ => none

def plain1 (P : Program) (t : TypeId) : Bool :=
  match P.underlying t with
  | some (.struct _) | some (.array ..) | none => false
  | some _ => true

def size1 (P : Program) (t : TypeId) : Bool :=
  match P.info? t with
  | some i => i.size == 1
  | none => false

def isInt (P : Program) (t : TypeId) : Bool :=
  match P.underlying t with
  | some (.int _) => true
  | _ => false
def intKind? (P : Program) (t : TypeId) : Option IntKind :=
  match P.underlying t with
  | some (.int k) => some k
  | _ => none
def isBool (P : Program) (t : TypeId) : Bool :=
  match P.underlying t with
  | some .bool => true
  | _ => false
def isStr (P : Program) (t : TypeId) : Bool :=
  match P.underlying t with
  | some .string => true
  | _ => false
def isSlice (P : Program) (t : TypeId) : Bool :=
  match P.underlying t with
  | some (.slice _) => true
  | _ => false

def canCall (P : Program) (f : FuncId) : Bool :=
  match P.funcs[f]? with
  | some fn => fn.body.isSome && fn.name != "runtime.NumGoroutine"
  | none => false

def trFld (P : Program) (s : TypeId) (f : Nat) : Option Nat :=
  match P.underlying s with
  | some (.struct fields) => match fields[f]? with
    | some fd => match P.info? fd.type with
      | some i => if i.size = 0 then none else some fd.offset
      | none => none
    | none => none
  | _ => none

/-- Where the field of a struct, or the element of an array, lies that takes one cell. -/
def trPlace (P : Program) (t : TypeId) (i : Nat) : Option Nat :=
  match P.underlying t with
  | some (.struct fields) => match fields.toList.mapM (fun f => (P.info? f.type).map fun i => (f.offset, i.size)) with
    | some places => match places[i]? with
      | some (off, n) => if n = 1 then some off else none
      | none => none
    | none => none
  | _ => none

/-- A struct whose fields' places are known. -/
def isStruct (P : Program) (t : TypeId) : Bool :=
  match P.underlying t with
  | some (.struct fields) => (fields.toList.mapM (fun f => (P.info? f.type).map fun i => (f.offset, i.size))).isSome
  | _ => false

def trZero (P : Program) (t : TypeId) : Option (List AV) :=
  match P.info? t with
  | some i => match i.zero with
    | some z => trVals z.cells.toList
    | none => none
  | none => none

def trCall (P : Program) (quiet : Bool) (c : Call) : Option AOp :=
  match c.callee, c.args.toList, c.argTypes.toList with
  | .value (.func f), args, _ => if canCall P f then do
      let xs ← trOpds args
      some (if quiet then .callq f xs else .call f xs)
    else none
  | .builtin .len, [x], [t] => if isSlice P t then (trOpd x).map .len else if isStr P t then (trOpd x).map .slen else none
  | .builtin .append, [s, x], [t, u] => if t = u then do
      let (e, _) ← elemZ P t
      some (.app e (← trOpd s) (← trOpd x))
    else none
  | .builtin .min, [x, y], _ => do some (.mn (← trOpd x) (← trOpd y))
  | .builtin .max, [x, y], _ => do some (.mx (← trOpd x) (← trOpd y))
  | _, _, _ => none

def trOp (P : Program) (quiet : Bool) (o : Op) : Option AOp :=
  match o with
  | .move x | .assign x => (trOpd x).map .mv
  | .pick c a b => do some (.pick (← trOpd c) (← trOpd a) (← trOpd b))
  | .binOp op t x y _ =>
    if isBool P t then match op with
      | .eql => do some (.eqb false (← trOpd x) (← trOpd y))
      | .neq => do some (.eqb true (← trOpd x) (← trOpd y))
      | _ => none
    else do some (.bin op (← trOpd x) (← trOpd y))
  | .unOp op _ x => (trOpd x).map (.un op)
  | .convert src dst x => if isInt P src then do some (.conv (← intKind? P dst) (← trOpd x)) else none
  | .indexAddr t x i => if (elem1 P t).isSome then do some (.idx (← trOpd x) (← trOpd i)) else do some (.aidx (← trOpd x) (← trOpd i) (← arr1 P t))
  | .fieldAddr s x f => do some (.fld (← trOpd x) (← trFld P s f))
  | .load t a => if plain1 P t then (trOpd a).map .ld else do some (.lda (← trOpd a) (← aggN P t))
  | .store t a v => if size1 P t then do some (.st (← trOpd a) (← trOpd v)) else do some (.sta (← trOpd a) (← trOpd v) (← aggN P t))
  | .nilCheck x => (trOpd x).map .nilck
  | .extract x i => (trOpd x).map (.ext · i)
  | .slice t x lo hi none => if (elem1 P t).isSome then do some (.sub (← trOpd x) (← trOpdO lo) (← trOpdO hi)) else do some (.asl (← trOpd x) (← trOpdO lo) (← trOpdO hi) (← arr1 P t))
  | .build t parts => if isStruct P t then do some (.bld (← trZero P t) (← trParts (trPlace P t) parts.toList)) else none
  | .box e v => (trOpd v).map (.box e)
  | .alloc t => match trZero P t with
    | some l => if l.length ≤ 1024 then some (.alc t (Vals.ofAgg l)) else none
    | none => none
  | .buildSlice t n parts => do
      let (e, z) ← elemZ P t
      if n ≤ 4096 then some (.bsl e z n (← trParts some parts.toList)) else none
  | .makeSlice t l c => do
      let (e, z) ← elemZ P t
      some (.mk e z (← trOpd l) (← trOpd c))
  | .call c => trCall P quiet c
  | _ => none

/-- Operations that leave memory alone. -/
def AOp.quiet : AOp → Bool
  | .st .. | .sta .. | .box .. | .alc .. | .bsl .. | .mk .. | .app .. | .call .. => false
  | _ => true
/-- Operations that leave the world alone. -/
def AOp.still : AOp → Bool
  | .callq .. => false
  | o => o.quiet

def trGuard (ops : Array Oper) : Option (Nat × Bool) → Option (Option (Nat × Bool))
  | none => some none
  | some (j, b) => match (ops[j]?).bind (·.dst) with
    | some g => some (some (g, b))
    | none => none

def trOper (P : Program) (n : Nat) (ops : Array Oper) (quiet : Bool) (o : Oper) : Option AOper :=
  if o.dst.all (· < n) then do
    some ⟨o.dst, ← trOp P quiet o.op, ← trGuard ops o.guard⟩
  else none

def trOpers (P : Program) (n : Nat) (ops : Array Oper) (quiet : Bool) : List Oper → Option (List AOper)
  | [] => some []
  | o :: l => do some ((← trOper P n ops quiet o) :: (← trOpers P n ops quiet l))

/-- A region that draws its order: all ahead of k quiet, the rest a chain. -/
def trLate (P : Program) (n : Nat) (ops : Array Oper) : Option ACode :=
  match (List.range ops.size).find? (Region.lexTailB .any ops) with
  | none => none
  | some k => match trOpers P n ops true (ops.toList.take k), trOpers P n ops false (ops.toList.drop k) with
    | some x, some y => if x.all (·.op.quiet) then some (.reg (x ++ y)) else none
    | _, _ => none

/-- A region that draws its order: all of it quiet; or what comes ahead of n still, the rest a chain; or the same behind moves that float. -/
def trDraw (P : Program) (n : Nat) (ops : Array Oper) : Option ACode :=
  match trOpers P n ops true ops.toList with
  | none => none
  | some as =>
    if Region.lexB .any ops && as.all (·.op.quiet) then some (.reg as)
    else match (List.range ops.size).find? (floatB ops) with
      | none => trLate P n ops
      | some k => match trOpers P n ops true (opsAt ops (floatF ops k)), trOpers P n ops true (opsAt ops (floatH ops k)), trOpers P n ops false (ops.toList.drop k) with
        | some f, some x, some y => if f.all (·.op.still) && x.all (·.op.still) then some (.reg (f ++ (x ++ y))) else trLate P n ops
        | _, _, _ => none

def trRegion (P : Program) (n : Nat) (l : List Oper) (draw : Bool) : Option ACode :=
  if draw then
    if P.follows .mixedOrders then trDraw P n l.toArray
    else none
  else match trOpers P n l.toArray false l with
    | some as => some (.reg as)
    | none => none

def trCode (P : Program) (n : Nat) : Code → Option ACode
  | .skip => some .skip
  | .region _ ops draw => trRegion P n ops.toList draw
  | .seq a b => do some (.seq (← trCode P n a) (← trCode P n b))
  | .cond c a b => do some (.cond (← trOpd c) (← trCode P n a) (← trCode P n b))
  | .block id c => do some (.block id (← trCode P n c))
  | .loop c => do some (.loop (← trCode P n c))
  | .exit id => some (.exit id)
  | .ret => some .ret
  | _ => none

structure AFn where
  n : Nat
  code : ACode
  res : List Nat
  deriving Inhabited, Repr

def trRes : List ResultVar → Option (List Nat)
  | [] => some []
  | .tmp t :: l => do some (t :: (← trRes l))
  | _ => none

def trFn (P : Program) (f : FuncId) : Option AFn :=
  match P.funcs[f]? with
  | some fn => match fn.body with
    | some c => do some ⟨fn.ntmps, ← trCode P fn.ntmps c, ← trRes fn.results.toList⟩
    | none => none
  | none => none

/-- A function whose one result is a variable of many cells. -/
def trResA (P : Program) : List ResultVar → Option (Nat × Nat)
  | [.cell a t] => (aggN P t).map fun n => (a, n)
  | _ => none
structure AFnA where
  n : Nat
  code : ACode
  res : Nat × Nat
  deriving Inhabited, Repr
def trFnA (P : Program) (f : FuncId) : Option AFnA :=
  match P.funcs[f]? with
  | some fn => match fn.body with
    | some c => do some ⟨fn.ntmps, ← trCode P fn.ntmps c, ← trResA P fn.results.toList⟩
    | none => none
  | none => none

end Go.Abs
