/- An abstract machine for the quiet part of the program: values are numbers, truths, texts, slices and addresses by row number; memory is a list of rows. Own work; no condition. -/
import Derived.Deep.Quiet
import Derived.StillTail
import Derived.Laws.AppendOwn
import Derived.Below
import Derived.KernelRfl
import Derived.Laws.Append
namespace Go.Abs
open Go.RowKit (Below)

/-- Where a row lies: its block, where it begins in it, and how many cells there are from there on. -/
structure Loc where
  blk : Nat
  off : Nat
  cap : Nat
  deriving Inhabited

/-- Where a slice points: nowhere, at an address that has no cell, at a row. -/
inductive Ref where
  | nil
  | far (a : Addr)
  | row (id : Nat)
  deriving Inhabited, DecidableEq, Repr
def Ref.id : Ref → Nat
  | .row i => i
  | _ => 0

/-- A slice: which row, from which cell on, how many. -/
structure SV where
  ref : Ref
  off : Nat
  len : Nat
  deriving Inhabited, DecidableEq, Repr

abbrev SV.nil : SV := ⟨.nil, 0, 0⟩

inductive AV where
  | int (k : IntKind) (n : Int)
  | bool (b : Bool)
  | str (s : List UInt8)
  | sl (s : SV)
  | ptr (id off : Nat)
  /-- A slice of a part of a row: of an array that lies in it. -/
  | psl (id off len cap : Nat)
  | nilp
  deriving Inhabited, DecidableEq, Repr

inductive XV where
  | one (v : AV)
  | tup (l : List AV)
  | agg (l : List AV)
  | undef
  deriving Inhabited, DecidableEq, Repr

abbrev Mu := Nat → Loc

def SV.conc (μ : Mu) (s : SV) : Value :=
  match s.ref with
  | .nil => .slice none 0 0
  | .far a => .slice (some a) 0 0
  | .row id => .slice (some ⟨(μ id).blk, (μ id).off + s.off, none⟩) s.len ((μ id).cap - s.off)

def conc (μ : Mu) : AV → Value
  | .int k n => .int k n
  | .bool b => .bool b
  | .str s => .string ⟨s.toArray⟩
  | .sl s => s.conc μ
  | .ptr id off => .pointer (some ⟨(μ id).blk, (μ id).off + off, none⟩)
  | .psl id off len cap => .slice (some ⟨(μ id).blk, (μ id).off + off, none⟩) len cap
  | .nilp => .pointer none

def concX (μ : Mu) : XV → Value
  | .one v => conc μ v
  | .tup l => .tuple (l.map (conc μ)).toArray
  | .agg l => .agg (l.map (conc μ)).toArray
  | .undef => .tuple #[]

/-- What a row holds, by kind. -/
inductive Vals where
  | ints (k : IntKind) (l : List Int)
  | bools (l : List Bool)
  | sls (l : List SV)
  | strs (l : List (List UInt8))
  | mix (l : List AV)
  deriving Inhabited, Repr

namespace Vals
def len : Vals → Nat
  | ints _ l => l.length
  | bools l => l.length
  | sls l => l.length
  | strs l => l.length
  | mix l => l.length
def get : Vals → Nat → AV
  | ints k l, i => .int k (l.getD i 0)
  | bools l, i => .bool (l.getD i false)
  | sls l, i => .sl (l.getD i SV.nil)
  | strs l, i => .str (l.getD i [])
  | mix l, i => l.getD i (.bool false)
def take : Vals → Nat → Vals
  | ints k l, n => ints k (l.take n)
  | bools l, n => bools (l.take n)
  | sls l, n => sls (l.take n)
  | strs l, n => strs (l.take n)
  | mix l, n => mix (l.take n)
def sub : Vals → Nat → Nat → Vals
  | ints k l, o, n => ints k ((l.drop o).take n)
  | bools l, o, n => bools ((l.drop o).take n)
  | sls l, o, n => sls ((l.drop o).take n)
  | strs l, o, n => strs ((l.drop o).take n)
  | mix l, o, n => mix ((l.drop o).take n)
def set : Vals → Nat → AV → Option Vals
  | ints k l, i, .int k' n => if k = k' then some (ints k (l.set i n)) else none
  | bools l, i, .bool b => some (bools (l.set i b))
  | sls l, i, .sl s => some (sls (l.set i s))
  | strs l, i, .str s => some (strs (l.set i s))
  | mix l, i, v => some (mix (l.set i v))
  | _, _, _ => none
def app : Vals → Vals → Option Vals
  | ints k l, ints k' l' => if k = k' then some (ints k (l ++ l')) else none
  | bools l, bools l' => some (bools (l ++ l'))
  | sls l, sls l' => some (sls (l ++ l'))
  | strs l, strs l' => some (strs (l ++ l'))
  | _, _ => none
/-- The row of n zeros of a kind. -/
def zeros : AV → Nat → Option Vals
  | .int k n, m => some (ints k (List.replicate m n))
  | .bool b, m => some (bools (List.replicate m b))
  | .sl s, m => some (sls (List.replicate m s))
  | .str s, m => some (strs (List.replicate m s))
  | _, _ => none
/-- Values of one kind, in their order. -/
def toInts (k : IntKind) : List AV → Option (List Int)
  | [] => some []
  | .int k' n :: l => if k' = k then (toInts k l).map (n :: ·) else none
  | _ => none
def toBools : List AV → Option (List Bool)
  | [] => some []
  | .bool b :: l => (toBools l).map (b :: ·)
  | _ => none
def toSls : List AV → Option (List SV)
  | [] => some []
  | .sl s :: l => (toSls l).map (s :: ·)
  | _ => none
def toStrs : List AV → Option (List (List UInt8))
  | [] => some []
  | .str s :: l => (toStrs l).map (s :: ·)
  | _ => none
def ofList : AV → List AV → Option Vals
  | .int k _, l => (toInts k l).map (ints k)
  | .bool _, l => (toBools l).map bools
  | .sl _, l => (toSls l).map sls
  | .str _, l => (toStrs l).map strs
  | _, _ => none
/-- The values of so many cells. -/
def cells (v : Vals) (o n : Nat) : List AV := (List.range n).map fun i => v.get (o + i)
/-- What a variable of many cells holds. -/
def ofAgg : List AV → Vals
  | [] => .ints .i64 []
  | z :: l => match ofList z (z :: l) with
    | some vs => vs
    | none => .mix (z :: l)
end Vals

structure Row where
  elem : TypeId
  fam : Nat
  own : Bool
  vals : Vals
  deriving Inhabited

abbrev Heap := List Row

/-- A store into row id at cell i: rows of the same family lose what they know from that cell on. -/
def Row.cut (r : Row) (i : Nat) : Row := { r with vals := r.vals.take i }
def Heap.cutFam (m : Heap) (f i : Nat) : Heap := m.map fun r => if r.own = true ∧ r.fam = f then r.cut i else r
def Heap.setRow (m : Heap) (id i : Nat) (r : Row) (v : Vals) : Heap := (m.cutFam r.fam i).set id { r with vals := v }

/-- What a cell holds. -/
def Heap.at (m : Heap) (id off : Nat) : Option AV :=
  match m[id]? with
  | some r => if off < r.vals.len then some (r.vals.get off) else none
  | none => none
/-- What so many cells hold. -/
def Heap.cells (m : Heap) (id off n : Nat) : Option (List AV) :=
  match m[id]? with
  | some r => if off + n ≤ r.vals.len then some (r.vals.cells off n) else none
  | none => none
def onCells (o : Option (List AV)) (K : XV → Prop) : Prop :=
  match o with
  | some l => K (.agg l)
  | none => False
/-- Bytes, as a text. -/
def toBytes : List AV → Option (List UInt8)
  | [] => some []
  | .int .u8 n :: l => (toBytes l).map (UInt8.ofNat n.toNat :: ·)
  | _ => none
def Heap.bytes (m : Heap) (s : SV) : Option (List UInt8) :=
  match s.ref with
  | .row id => match m[id]? with
    | some r => if s.off + s.len ≤ r.vals.len then toBytes (r.vals.cells s.off s.len) else none
    | none => none
  | _ => some []
def onBytes (o : Option (List UInt8)) (K : XV → Prop) : Prop :=
  match o with
  | some l => K (.one (.str l))
  | none => False
/-- There is a value, and it is right. -/
def onSome (o : Option AV) (K : AV → Prop) : Prop :=
  match o with
  | some v => K v
  | none => False

/-- A frame: slots that are known, the newest first. -/
abbrev Frame := List (Nat × XV)
def Frame.get : Frame → Nat → Option XV
  | [], _ => none
  | (u, x) :: σ, t => bif u == t then some x else Frame.get σ t
def Frame.put (σ : Frame) (d : Option Nat) (x : XV) : Frame :=
  match d with
  | none => σ
  | some d => (d, x) :: σ
def Frame.keep (σ : Frame) : List Nat → Frame
  | [] => []
  | t :: L => match σ.get t with
    | some x => (t, x) :: Frame.keep σ L
    | none => Frame.keep σ L

inductive Opd where
  | tmp (t : Nat)
  | cst (v : AV)
  deriving Inhabited, Repr, DecidableEq

def Frame.ev (σ : Frame) : Opd → Option XV
  | .tmp t => σ.get t
  | .cst v => some (.one v)
def Frame.evOr (σ : Frame) (d : Int) : Option Opd → Option XV
  | none => some (.one (.int .i64 d))
  | some x => σ.ev x

inductive AOp where
  | mv (x : Opd)
  | pick (c a b : Opd)
  | bin (op : BinOp) (x y : Opd)
  | eqb (neg : Bool) (x y : Opd)
  | un (op : UnOp) (x : Opd)
  | conv (k : IntKind) (x : Opd)
  | idx (x i : Opd)
  | aidx (x i : Opd) (n : Nat)
  | aixn (x i : Opd) (n k : Nat)
  | fld (x : Opd) (off : Nat)
  | ld (a : Opd)
  | lda (a : Opd) (n : Nat)
  | nilck (x : Opd)
  | len (x : Opd)
  | slen (x : Opd)
  | sidx (x i : Opd)
  | ssub (x : Opd) (lo hi : Option Opd)
  | b2s (x : Opd)
  | ext (x : Opd) (i : Nat)
  | sub (x : Opd) (lo hi : Option Opd)
  | asl (x : Opd) (lo hi : Option Opd) (n : Nat)
  | mn (x y : Opd)
  | mx (x y : Opd)
  | bld (zero : List AV) (parts : List (Nat × Opd))
  | st (a v : Opd)
  | sta (a v : Opd) (n : Nat)
  | box (elem : TypeId) (v : Opd)
  | alc (elem : TypeId) (vs : Vals)
  | bsl (elem : TypeId) (zero : AV) (len : Nat) (parts : List (Nat × Opd))
  | mk (elem : TypeId) (zero : AV) (len cap : Opd)
  | app (elem : TypeId) (s x : Opd)
  | call (f : FuncId) (args : List Opd)
  | callq (f : FuncId) (args : List Opd)
  deriving Inhabited, Repr

/-- Operations that do not look at memory. -/
def AOp.pure : AOp → Bool
  | .mv .. | .pick .. | .bin .. | .eqb .. | .un .. | .conv .. | .idx .. | .aidx .. | .aixn .. | .fld .. | .nilck .. | .ext .. | .len .. | .slen .. | .mn .. | .mx .. | .sub .. | .sidx .. | .ssub .. | .asl .. => true
  | _ => false

structure AOper where
  dst : Option Nat
  op : AOp
  guard : Option (Nat × Bool) := none
  deriving Inhabited, Repr

inductive ACode where
  | skip
  | reg (ops : List AOper)
  /-- What only reads, what keeps all that was there, the rest. -/
  | past (f x y : List AOper)
  /-- Either one first. -/
  | fork (o : AOper) (a : ACode) (u : AOper) (b : ACode)
  | seq (a b : ACode)
  | cond (c : Opd) (a b : ACode)
  | block (id : Nat) (c : ACode)
  | loop (c : ACode)
  | exit (id : Nat)
  | ret
  deriving Inhabited, Repr

inductive AExit where
  | normal
  | exit (id : Nat)
  | ret

/-! ### What the parts of the state mean -/

def SV.ok (μ : Mu) (n : Nat) (s : SV) : Prop := match s.ref with | .nil => s = SV.nil | .far a => s = ⟨.far a, 0, 0⟩ | .row id => id < n ∧ s.off + s.len ≤ (μ id).cap
def AV.ok (μ : Mu) (n : Nat) : AV → Prop
  | .sl s => s.ok μ n
  | .ptr id _ => id < n
  | .psl id _ _ _ => id < n
  | _ => True
def XV.ok (μ : Mu) (n : Nat) : XV → Prop
  | .one v => v.ok μ n
  | .tup l | .agg l => ∀ v ∈ l, v.ok μ n
  | .undef => True
/-- A value that names no row. -/
def AV.flat : AV → Prop
  | .int .. | .bool _ | .str _ => True
  | _ => False
def flats : List AV → Prop
  | [] => True
  | v :: l => v.flat ∧ flats l
def XV.flat : XV → Prop
  | .one (.int ..) | .one (.bool _) | .one (.str _) => True
  | .tup l | .agg l => flats l
  | _ => False

/-- A row, in the world. -/
structure RowRel (B : Nat) (μ : Mu) (n : Nat) (id : Nat) (r : Row) (w : World) : Prop where
  fam : r.fam ≤ id
  ok : ∀ i, i < r.vals.len → (r.vals.get i).ok μ n
  own : r.own = true → (μ id).off = 0 ∧ B ≤ (μ id).blk ∧ (μ id).cap ≤ maxLen ∧
    ∃ cur, w.heap[(μ id).blk]? = some (.cells cur r.elem (0, 0)) ∧ cur.size = (μ id).cap ∧ ∀ i, i < r.vals.len → cur[i]? = some (conc μ (r.vals.get i))
  old : r.own = false → (μ id).blk < B ∧ ∀ i, i < r.vals.len → w.cell? ⟨(μ id).blk, (μ id).off + i, none⟩ = some (conc μ (r.vals.get i))

structure HRel (B : Nat) (w0 : World) (μ : Mu) (m : Heap) (w : World) : Prop where
  below : Below B w0 w
  le : B ≤ w.heap.size
  rows : ∀ id r, m[id]? = some r → RowRel B μ m.length id r w
  sep : ∀ i j r s, m[i]? = some r → m[j]? = some s → r.own = true → s.own = true → r.fam ≠ s.fam → (μ i).blk ≠ (μ j).blk

def Agree (n : Nat) (μ μ' : Mu) : Prop := ∀ i, i < n → μ' i = μ i

structure FRel (μ : Mu) (n : Nat) (σ : Frame) (tmps : Array Value) (k : Nat) : Prop where
  size : tmps.size = k
  slot : ∀ t x, σ.get t = some x → t < k ∧ x.ok μ n ∧ tmps[t]? = some (concX μ x)

/-- What a call comes to, over rows. -/
def ACalls (P : Program) (f : FuncId) (args : List XV) (m : Heap) (R : XV → Heap → Prop) : Prop :=
  ∀ B w0 μ w, HRel B w0 μ m w → (∀ x ∈ args, x.ok μ m.length) →
    Calls P f (args.map (concX μ)).toArray w fun e w' => ∃ x m' μ', R x m' ∧ e = .returned (concX μ' x) ∧ x.ok μ' m'.length ∧ HRel B w0 μ' m' w' ∧ m.length ≤ m'.length ∧ Agree m.length μ μ'

/-! ### What operations do -/

def bandInt (k : IntKind) (a b : Int) : Int := k.wrap (BitVec.ofInt k.bits a &&& BitVec.ofInt k.bits b).toNat
def borInt (k : IntKind) (a b : Int) : Int := k.wrap (BitVec.ofInt k.bits a ||| BitVec.ofInt k.bits b).toNat
def bxorInt (k : IntKind) (a b : Int) : Int := k.wrap (BitVec.ofInt k.bits a ^^^ BitVec.ofInt k.bits b).toNat
def bandNotInt (k : IntKind) (a b : Int) : Int := k.wrap (BitVec.ofInt k.bits a &&& ~~~BitVec.ofInt k.bits b).toNat
/-- A number that its kind holds. -/
def inR : IntKind → Int → Prop
  | .i64, n => -9223372036854775808 ≤ n ∧ n ≤ 9223372036854775807
  | k, n => k.wrap n = n

def abin (op : BinOp) (x y : AV) (K : AV → Prop) : Prop :=
  match op, x, y with
  | .shl, .int k a, .int _ b => (0 ≤ b ∧ b < k.bits) ∧ inR k (a * 2 ^ b.toNat) ∧ K (.int k (a * 2 ^ b.toNat))
  | .shr, .int k a, .int _ b => (0 ≤ b ∧ b < k.bits) ∧ K (.int k (a / 2 ^ b.toNat))
  | op, .int k a, .int k' b => k = k' ∧
    match op with
    | .add => inR k (a + b) ∧ K (.int k (a + b))
    | .sub => inR k (a - b) ∧ K (.int k (a - b))
    | .mul => inR k (a * b) ∧ K (.int k (a * b))
    | .quo => (0 ≤ a ∧ 0 < b) ∧ inR k (a / b) ∧ K (.int k (a / b))
    | .rem => ((0 ≤ a ∨ a % b = 0) ∧ 0 < b) ∧ K (.int k (a % b))
    | .and => K (.int k (bandInt k a b))
    | .or => K (.int k (borInt k a b))
    | .xor => K (.int k (bxorInt k a b))
    | .andNot => K (.int k (bandNotInt k a b))
    | .eql => K (.bool (decide (a = b)))
    | .neq => K (.bool (decide (a ≠ b)))
    | .lss => K (.bool (a < b))
    | .leq => K (.bool (a ≤ b))
    | .gtr => K (.bool (b < a))
    | .geq => K (.bool (b ≤ a))
    | _ => False
  | .eql, .str a, .str b => K (.bool (decide (a = b)))
  | .neq, .str a, .str b => K (.bool (decide (a ≠ b)))
  | .add, .str a, .str b => a.length + b.length ≤ 1099511627776 ∧ K (.str (a ++ b))
  | _, _, _ => False

def aun (op : UnOp) (x : AV) (K : AV → Prop) : Prop :=
  match op, x with
  | .neg, .int k n => inR k (0 - n) ∧ K (.int k (0 - n))
  | .not, .bool b => K (.bool !b)
  | _, _ => False

/-- What comes next, of a value alone; at the memory as it is. -/
def KV (K : XV → Prop) (v : AV) : Prop := K (.one v)
def KM (K : XV → Heap → Prop) (m : Heap) (x : XV) : Prop := K x m

/-- A quiet operation: one value, no change of memory. -/
def aopQ (op : AOp) (σ : Frame) (m : Heap) (K : XV → Prop) : Prop :=
  match op with
  | .mv x => match σ.ev x with | some v => K v | none => False
  | .pick c a b => match σ.ev c with
    | some (.one (.bool t)) => (t = true → match σ.ev a with | some v => K v | none => False) ∧ (t = false → match σ.ev b with | some v => K v | none => False)
    | _ => False
  | .bin op x y => match σ.ev x, σ.ev y with
    | some (.one a), some (.one b) => abin op a b fun v => K (.one v)
    | _, _ => False
  | .eqb neg x y => match σ.ev x, σ.ev y with
    | some (.one (.bool a)), some (.one (.bool b)) => K (.one (.bool (if neg then decide (a ≠ b) else decide (a = b))))
    | _, _ => False
  | .un op x => match σ.ev x with
    | some (.one a) => aun op a fun v => K (.one v)
    | _ => False
  | .conv k x => match σ.ev x with
    | some (.one (.int _ n)) => match k with
      | .i64 => inR .i64 n ∧ K (.one (.int .i64 n))
      | k => K (.one (.int k (k.wrap n)))
    | _ => False
  | .idx x i => match σ.ev x, σ.ev i with
    | some (.one (.sl s)), some (.one (.int _ n)) => (0 ≤ n ∧ n < s.len) ∧ K (.one (.ptr (s.ref.id) (s.off + n.toNat)))
    | _, _ => False
  | .aidx x i n => match σ.ev x, σ.ev i with
    | some (.one (.ptr id off)), some (.one (.int _ j)) => (0 ≤ j ∧ j < n) ∧ K (.one (.ptr id (off + j.toNat)))
    | _, _ => False
  | .aixn x i n k => match σ.ev x, σ.ev i with
    | some (.one (.ptr id off)), some (.one (.int _ j)) => (0 ≤ j ∧ j < n) ∧ K (.one (.ptr id (off + j.toNat * k)))
    | _, _ => False
  | .fld x o => match σ.ev x with
    | some (.one (.ptr id off)) => K (.one (.ptr id (off + o)))
    | _ => False
  | .ld a => match σ.ev a with
    | some (.one (.ptr id off)) => onSome (m.at id off) (KV K)
    | _ => False
  | .lda a n => match σ.ev a with
    | some (.one (.ptr id off)) => onCells (m.cells id off n) K
    | _ => False
  | .nilck x => match σ.ev x with
    | some (.one (.ptr id off)) => K (.one (.ptr id off))
    | _ => False
  | .len x => match σ.ev x with
    | some (.one (.sl s)) => K (.one (.int .i64 s.len))
    | _ => False
  | .slen x => match σ.ev x with
    | some (.one (.str s)) => K (.one (.int .i64 s.length))
    | _ => False
  | .sidx x i => match σ.ev x, σ.ev i with
    | some (.one (.str s)), some (.one (.int _ n)) => (0 ≤ n ∧ n < s.length) ∧ K (.one (.int .u8 ((s.getD n.toNat 0).toNat : Int)))
    | _, _ => False
  | .ssub x lo hi => match σ.ev x, σ.evOr 0 lo with
    | some (.one (.str s)), some (.one (.int _ l)) => match σ.evOr s.length hi with
      | some (.one (.int _ h)) => (0 ≤ l ∧ l ≤ h ∧ h ≤ s.length) ∧ K (.one (.str ((s.drop l.toNat).take (h.toNat - l.toNat))))
      | _ => False
    | _, _ => False
  | .b2s x => match σ.ev x with
    | some (.one (.sl s)) => onBytes (m.bytes s) K
    | _ => False
  | .ext x i => match σ.ev x with
    | some (.tup l) => match l[i]? with | some v => K (.one v) | none => False
    | _ => False
  | .sub x lo hi =>
    match σ.ev x, σ.evOr 0 lo with
    | some (.one (.sl s)), some (.one (.int _ l)) =>
      match σ.evOr s.len hi with
      | some (.one (.int _ h)) => (0 ≤ l ∧ l ≤ h ∧ h ≤ s.len) ∧ ((l = 0 ∨ l < s.len) ∨ ∀ a : Addr, K (.one (.sl ⟨.far a, 0, 0⟩))) ∧
        K (.one (.sl ⟨s.ref, s.off + l.toNat, h.toNat - l.toNat⟩))
      | _ => False
    | _, _ => False
  | .asl x lo hi n =>
    match σ.ev x, σ.evOr 0 lo, σ.evOr n hi with
    | some (.one (.ptr id off)), some (.one (.int _ l)), some (.one (.int _ h)) => (0 ≤ l ∧ l ≤ h ∧ h ≤ n) ∧ ((l = 0 ∨ l < n) ∨ K (.one (.psl id off 0 0))) ∧
        K (.one (.psl id (off + l.toNat) (h.toNat - l.toNat) (n - l.toNat)))
    | _, _, _ => False
  | .mn x y => match σ.ev x, σ.ev y with
    | some (.one (.int k a)), some (.one (.int k' b)) => k = k' ∧ K (.one (.int k (min a b)))
    | _, _ => False
  | .mx x y => match σ.ev x, σ.ev y with
    | some (.one (.int k a)), some (.one (.int k' b)) => k = k' ∧ K (.one (.int k (max a b)))
    | _, _ => False
  | _ => False

/-- Values of operands. -/
def Frame.evs (σ : Frame) : List Opd → Option (List XV)
  | [] => some []
  | x :: l => match σ.ev x, Frame.evs σ l with
    | some v, some vs => some (v :: vs)
    | _, _ => none

def fillA (σ : Frame) (l : List AV) : List (Nat × Opd) → Option (List AV)
  | [] => some l
  | (i, x) :: ps => match σ.ev x with
    | some (.one v) => if i < l.length then fillA σ (l.set i v) ps else none
    | _ => none

def KU (K : XV → Heap → Prop) (m : Heap) : Prop := K .undef m
/-- A store. -/
def aSt (m : Heap) (id off : Nat) (v : AV) (K : Heap → Prop) : Prop :=
  match m[id]? with
  | some r => (r.own = true ∧ off < r.vals.len) ∧ match r.vals.set off v with
    | some vs => K (m.setRow id off r vs)
    | none => False
  | none => False

/-- A store of all cells of a row of the call's own. -/
def aStA (m : Heap) (id off n : Nat) (l : List AV) (K : Heap → Prop) : Prop :=
  match m[id]? with
  | some r => (r.own = true ∧ off = 0 ∧ n = l.length ∧ r.vals.len = n) ∧ K (m.setRow id 0 r (Vals.ofAgg l))
  | none => False

/-- append, of a slice to a slice. -/
def aApp (e : TypeId) (s x : SV) (m : Heap) (K : XV → Heap → Prop) : Prop :=
  match x.ref with
  | .row xi => match m[xi]? with
    | none => False
    | some rx => (x.off + x.len ≤ rx.vals.len ∧ s.len + x.len ≤ 1099511627776) ∧
      match s.ref with
      | .row si => match m[si]? with
        | none => False
        | some rs => (rs.own = true ∧ s.off = 0 ∧ s.len ≤ rs.vals.len ∧ rs.elem = e) ∧
          match (rs.vals.take s.len).app (rx.vals.sub x.off x.len) with
          | some vs => K (.one (.sl ⟨.row m.length, 0, s.len + x.len⟩)) (m.cutFam rs.fam s.len ++ [⟨e, rs.fam, true, vs⟩])
          | none => False
      | _ => (x.len = 0 → K (.one (.sl s)) m) ∧ (0 < x.len →
          K (.one (.sl ⟨.row m.length, 0, x.len⟩)) (m ++ [⟨e, m.length, true, rx.vals.sub x.off x.len⟩]))
  | _ => match s.ref with
    | .row si => match m[si]? with
      | some rs => (rs.own = true ∧ s.off = 0 ∧ s.len ≤ rs.vals.len) ∧ K (.one (.sl s)) m
      | none => False
    | _ => K (.one (.sl s)) m

/-- A call that hands back a value that names no row, and leaves all rows that were there. -/
def ACallq (P : Program) (f : FuncId) (xs : List XV) (m : Heap) (K : XV → Heap → Prop) : Prop :=
  ∃ x, ACalls P f xs m (fun x' m' => x' = x ∧ m <+: m') ∧ x.flat ∧ K x m

def aop (P : Program) (op : AOp) (σ : Frame) (m : Heap) (K : XV → Heap → Prop) : Prop :=
  match op with
  | .bld zero parts => match fillA σ zero parts with | some l => K (.agg l) m | none => False
  | .st a v => match σ.ev a, σ.ev v with
    | some (.one (.ptr id off)), some (.one v) => aSt m id off v (KU K)
    | _, _ => False
  | .sta a v n => match σ.ev a, σ.ev v with
    | some (.one (.ptr id off)), some (.agg l) => aStA m id off n l (KU K)
    | _, _ => False
  | .box e v => match σ.ev v with
    | some (.one v) => K (.one (.ptr m.length 0)) (m ++ [⟨e, m.length, true, .mix [v]⟩])
    | some (.agg l) => l.length ≤ 1024 ∧ K (.one (.ptr m.length 0)) (m ++ [⟨e, m.length, true, Vals.ofAgg l⟩])
    | _ => False
  | .alc e vs => vs.len ≤ 1024 ∧ K (.one (.ptr m.length 0)) (m ++ [⟨e, m.length, true, vs⟩])
  | .bsl e z n parts => match fillA σ (List.replicate n z) parts with
    | some l => match Vals.ofList z l with
      | some vs => K (.one (.sl ⟨.row m.length, 0, n⟩)) (m ++ [⟨e, m.length, true, vs⟩])
      | none => False
    | none => False
  | .mk e z l c => match σ.ev l, σ.ev c with
    | some (.one (.int .i64 l)), some (.one (.int .i64 c)) => (0 ≤ l ∧ l ≤ c ∧ c ≤ 1099511627776) ∧ match Vals.zeros z l.toNat with
      | some vs => K (.one (.sl ⟨.row m.length, 0, l.toNat⟩)) (m ++ [⟨e, m.length, true, vs⟩])
      | none => False
    | _, _ => False
  | .app e s x => match σ.ev s, σ.ev x with
    | some (.one (.sl s)), some (.one (.sl x)) => aApp e s x m K
    | some (.one (.sl s)), some (.one (.psl xi xo xl _)) => aApp e s ⟨.row xi, xo, xl⟩ m K
    | _, _ => False
  | .call f args => match σ.evs args with
    | some xs => ACalls P f xs m K
    | none => False
  | .callq f args => match σ.evs args with
    | some xs => ACallq P f xs m K
    | none => False
  | op => aopQ op σ m (KM K m)

/-- What comes behind an operation. -/
def Kont (F : Frame → Heap → Prop) (σ : Frame) (d : Option Nat) (x : XV) (m : Heap) : Prop := F (σ.put d x) m

def awpOps (P : Program) (Q : Frame → Heap → Prop) : List AOper → Frame → Heap → Prop
  | [], σ, m => Q σ m
  | o :: rest, σ, m => match o.guard with
    | none => aop P o.op σ m (Kont (awpOps P Q rest) σ o.dst)
    | some (g, b) => match σ.get g with
      | some (.one (.bool t)) => (t = b → aop P o.op ((g, .one (.bool b)) :: σ) m (Kont (awpOps P Q rest) ((g, .one (.bool b)) :: σ) o.dst)) ∧
          (t = !b → awpOps P Q rest (Frame.put ((g, .one (.bool !b)) :: σ) o.dst .undef) m)
      | some .undef => awpOps P Q rest (σ.put o.dst .undef) m
      | _ => False

/-- What comes behind an operation that keeps all that was there. -/
def KeepK (F : Frame → Heap → Prop) (σ : Frame) (d : Option Nat) (m : Heap) (x : XV) (m' : Heap) : Prop := m <+: m' ∧ F (σ.put d x) m'
def awpKeep (P : Program) (Q : Frame → Heap → Prop) : List AOper → Frame → Heap → Prop
  | [], σ, m => Q σ m
  | o :: rest, σ, m => aop P o.op σ m (KeepK (awpKeep P Q rest) σ o.dst m)

/-- One memory knows less than another one: the same rows, of some of which less is known. -/
structure Fewer (m m' : Heap) : Prop where
  le : m.length ≤ m'.length
  row : ∀ (id : Nat) (r : Row), m[id]? = some r → ∃ r', m'[id]? = some r' ∧ r'.fam = r.fam ∧ r'.own = r.own ∧ (r.own = true → r'.elem = r.elem) ∧ r.vals.len ≤ r'.vals.len ∧ ∀ i, i < r.vals.len → r'.vals.get i = r.vals.get i
/-- What comes behind an operation that keeps what is known of a memory. -/
def KeepF (mf : Heap) (F : Frame → Heap → Prop) (σ : Frame) (d : Option Nat) (x : XV) (m' : Heap) : Prop := Fewer mf m' ∧ F (σ.put d x) m'
def awpKeepF (P : Program) (mf : Heap) (Q : Frame → Heap → Prop) : List AOper → Frame → Heap → Prop
  | [], σ, m => Q σ m
  | o :: rest, σ, m => aop P o.op σ m (KeepF mf (awpKeepF P mf Q rest) σ o.dst)

def AExit.thn (next : Frame → Heap → Prop) (Q : AExit → Frame → Heap → Prop) : AExit → Frame → Heap → Prop
  | .normal => next
  | e => Q e
def AExit.blk (id : Nat) (Q : AExit → Frame → Heap → Prop) : AExit → Frame → Heap → Prop
  | .exit i => if i = id then Q .normal else Q (.exit i)
  | e => Q e

def aloop (step : (AExit → Frame → Heap → Prop) → Frame → Heap → Prop) (L : List Nat) (Q : AExit → Frame → Heap → Prop) : Nat → Frame → Heap → Prop
  | 0, _, _ => False
  | n + 1, σ, m => step (AExit.thn (fun σ' m' => aloop step L Q n σ' m') Q) (σ.keep L) m

def ALoop (step : (AExit → Frame → Heap → Prop) → Frame → Heap → Prop) (Q : AExit → Frame → Heap → Prop) (σ : Frame) (m : Heap) : Prop :=
  ∃ L n, aloop step L Q n σ m

def awp (P : Program) : ACode → (AExit → Frame → Heap → Prop) → Frame → Heap → Prop
  | .skip, Q, σ, m => Q .normal σ m
  | .reg ops, Q, σ, m => awpOps P (Q .normal) ops σ m
  | .past f x y, Q, σ, m => awpOps P (awpKeep P (awpOps P (Q .normal) y) x) f σ m ∨ ∃ mf : Heap, mf.length = m.length ∧ Fewer mf m ∧ awpOps P (fun σ' _ => awpKeepF P mf (awpOps P (Q .normal) y) x σ' m) f σ mf
  | .fork o a u b, Q, σ, m => awpOps P (awp P a Q) [o] σ m ∧ awpOps P (awp P b Q) [u] σ m
  | .seq a b, Q, σ, m => awp P a (AExit.thn (awp P b Q) Q) σ m
  | .cond c a b, Q, σ, m => match σ.ev c with
    | some (.one (.bool t)) => (t = true → awp P a Q σ m) ∧ (t = false → awp P b Q σ m)
    | _ => False
  | .block id c, Q, σ, m => awp P c (AExit.blk id Q) σ m
  | .loop c, Q, σ, m => ALoop (awp P c) Q σ m
  | .exit id, Q, σ, m => Q (.exit id) σ m
  | .ret, Q, σ, m => Q .ret σ m

end Go.Abs

/- Statements that draw their order: moves float, what leaves the world alone comes next, the rest is a chain. Own work; no condition. -/
namespace Go.Abs

/-- Nothing is asked of a panic. -/
def NoPanic (Q : Exit → Act → World → Prop) : Prop := ∀ c a w, ¬ Q (.panic c) a w

/-- The moves ahead of n that nothing up to n waits for; all others. -/
def sunk (ops : Array Oper) (n i : Nat) : Bool := (List.range (n + 1)).any fun j => decide (i < j) && Region.waitsFor .any ops j i
def floatF (ops : Array Oper) (n : Nat) : List Nat := (List.range n).filter fun i => !sunk ops n i
def floatH (ops : Array Oper) (n : Nat) : List Nat := (List.range n).filter fun i => sunk ops n i
def isMove (ops : Array Oper) (i : Nat) : Bool :=
  match ops[i]? with
  | some o => (match o.op with | .move _ => true | _ => false) && o.guard.isNone
  | none => false
def orderB (ops : Array Oper) : List Nat → Array Bool → Bool
  | [], _ => true
  | k :: L, listed => (Region.ready .any ops listed).contains k && Region.free .any ops listed k && orderB ops L (listed.setIfInBounds k true)
def listAll : List Nat → Array Bool → Array Bool
  | [], listed => listed
  | k :: L, listed => listAll L (listed.setIfInBounds k true)
def floatB (ops : Array Oper) (n : Nat) : Bool :=
  Region.noSelect ops && (decide (n < ops.size) && ((floatF ops n).all (isMove ops) && (orderB ops (floatF ops n) (Array.replicate ops.size false) && (orderB ops (floatH ops n) (listAll (floatF ops n) (Array.replicate ops.size false)) &&
    (Region.chainB .any ops n && (Region.seqB .any ops (ops.size - n) n (listAll (floatH ops n) (listAll (floatF ops n) (Array.replicate ops.size false))) && decide ((floatF ops n).length + (floatH ops n).length = n)))))))
def opsAt (ops : Array Oper) (L : List Nat) : List Oper := L.filterMap (ops[·]?)

section
variable {P : Program} {ops : Array Oper} {Q : Exit → Act → World → Prop} {w : World}

theorem upon_put {oj : Oper} {a : Act} {K : Act → World → Prop} {d : Option Tmp} {v : Value} {x : Operand} (hnp : NoPanic Q) (hne : ∀ t, d = some t → oj.dst ≠ some t) (hev : ∀ u, (a.put oj.dst u).eval x = v)
    (r : Result Next) (h : oj.upon P (a.put d v) K Q r) : oj.upon P a (fun a' w' => a'.eval x = v ∧ K (a'.put d v) w') Q r := by
  have comm : ∀ u, (a.put d v).put oj.dst u = (a.put oj.dst u).put d v := fun u => Act.put_comm a v u hne
  cases r with
  | ok n w' =>
    cases n <;> simp only [Oper.upon] at h ⊢
    case value u => exact ⟨hev u, comm u ▸ h⟩
    case skip => exact ⟨hev _, comm _ ▸ h⟩
    case defer df =>
      refine ⟨?_, ?_⟩
      · have := hev undef
        cases hx : oj.dst with
        | none => rw [hx] at this; exact this
        | some t => rw [hx] at this; exact this
      · rw [Act.put_defers] at h
        rw [Act.put_comm _ v undef hne] at h
        exact h
    case enter f args =>
      refine Calls.mono h fun e w'' he => ?_
      cases e with
      | returned u => exact ⟨hev u, comm u ▸ he⟩
      | panicked c => exact absurd he (hnp _ _ _)
      | outgrown => exact he
    case row row args => exact Rows.mono h fun u w'' he => ⟨hev u, comm u ▸ he⟩
  | halt y w' =>
    cases y <;> simp only [Oper.upon] at h
    case panic v => exact absurd h (hnp _ _ _)

theorem wpOp_put {j : Nat} {oi oj : Oper} {x : Operand} {a : Act} {v : Value} {K : Act → World → Prop} (hnp : NoPanic Q) (hj : ops[j]? = some oj) (hap : oi.apart ops oj = true) (hx : oi.op = .move x) (hsj : ∀ cs b, oj.op ≠ .select cs b) (hv : a.eval x = v)
    (h : wpOp P ops Q j K (a.put oi.dst v) w) : wpOp P ops Q j (fun a' w' => a'.eval x = v ∧ K (a'.put oi.dst v) w') a w := by
  obtain ⟨h1, h2, h3⟩ := Oper.apart_spec hap
  have hev : ∀ u, (a.put oj.dst u).eval x = v := fun u => by
    rw [Act.eval_put fun d hd hxd => h3 d hd (by subst hxd; exact List.mem_append_left _ (List.mem_filterMap.2 ⟨.tmp d, by simp [hx, Op.operands], rfl⟩))]
    exact hv
  unfold wpOp at *
  simp only [hj] at *
  rw [wanted_put oj a oi.dst v h1] at h
  split
  · rename_i hw
    simp only [hw, if_true] at h
    rcases h with h | ⟨h, hl⟩
    · left
      unfold Oper.wp at *
      rw [execOp_put oj hsj a oi.dst v h1] at h
      exact upon_put hnp h2 hev _ h
    · right
      unfold Oper.asks at *
      rw [execOp_put oj hsj a oi.dst v h1] at h
      exact ⟨h, hl⟩
  · rename_i hw
    simp only [hw] at h
    exact ⟨hev _, by rw [Act.put_comm a v undef h2] at h; exact h⟩

/-- A move that may come up now may be taken first. -/
theorem wpAny_float {i : Nat} {oi : Oper} {x : Operand} (hnp : NoPanic Q) (hi : ops[i]? = some oi) (hx : oi.op = .move x) (hg : oi.guard = none) (hsel : ∀ (j : Nat) (o : Oper) cs b, ops[j]? = some o → o.op ≠ .select cs b) :
    ∀ (fuel : Nat) (listed : Array Bool) (a : Act) (w : World) (v : Value),
      (∀ j oj, ops[j]? = some oj → j ≠ i → listed.getD j true = false → (∀ e ∈ oj.after, Region.binds .any e = true → e.on ≠ i) → oi.apart ops oj = true) →
      i ∈ Region.ready .any ops listed → a.eval x = v →
      wpAny P .any ops Q fuel (listed.setIfInBounds i true) (a.put oi.dst v) w → wpAny P .any ops Q (fuel + 1) listed a w := by
  have self : ∀ (K : Act → World → Prop) (a : Act) (w : World) (v : Value), a.eval x = v → K (a.put oi.dst v) w → wpOp P ops Q i K a w := fun K a w v hv hK => by
    unfold wpOp
    simp only [hi]
    have hw : Region.wanted oi (yielded ops a.tmps) = true := by simp [Region.wanted, hg]
    rw [hw]
    simp only [if_true]
    left
    unfold Oper.wp
    simp only [execOp, hx, hv]
    exact hK
  intro fuel
  induction fuel with
  | zero =>
    intro listed a w v _ hr hv H
    refine ⟨fun h => (by rw [h] at hr; cases hr), fun j hj => ?_⟩
    by_cases hji : j = i
    · subst hji; exact self _ a w v hv H
    · have := ready_mono hj hji
      rw [H.1] at this
      cases this
  | succ fuel ih =>
    intro listed a w v hfree hr hv H
    refine ⟨fun h => (by rw [h] at hr; cases hr), fun j hj => ?_⟩
    by_cases hji : j = i
    · subst hji; exact self _ a w v hv H
    · have h1 := H.2 j (ready_mono hj hji)
      obtain ⟨hjun, oj, hoj, hall⟩ := mem_ready.1 hj
      have hnot : ∀ e ∈ oj.after, Region.binds .any e = true → e.on ≠ i := fun e he hb heq => by
        have h1 := hall e he hb
        rw [heq, getD_both (mem_ready.1 hr).1] at h1
        cases h1
      have h2 := wpOp_put hnp hoj (hfree j oj hoj hji hjun hnot) hx (fun cs b => hsel j oj cs b hoj) hv h1
      refine wpOp_mono (fun a' w' h3 => ih (listed.setIfInBounds j true) a' w' v (fun k ok hk hki hun hno => hfree k ok hk hki ?_ hno) (ready_mono hr (Ne.symm hji)) h3.1 ?_) h2
      · by_cases hjk : j = k
        · subst hjk; exact hjun
        · rw [getD_set_ne true hjk] at hun; exact hun
      · rw [Array.setIfInBounds_comm _ _ hji]
        exact h3.2

theorem wpAny_floats (hnp : NoPanic Q) (hs : Region.noSelect ops = true) : ∀ (F : List Nat) (fuel : Nat) (listed : Array Bool) (a : Act), F.all (isMove ops) = true → orderB ops F listed = true →
    wpStill P ops w (fun a' => wpAny P .any ops Q fuel (listAll F listed) a' w) (opsAt ops F) a → wpAny P .any ops Q (F.length + fuel) listed a w
  | [], fuel, listed, a, _, _, h => by rw [List.length_nil, Nat.zero_add]; exact h
  | k :: F, fuel, listed, a, hF, hO, h => by
    simp only [List.all_cons, Bool.and_eq_true] at hF
    simp only [orderB, Bool.and_eq_true] at hO
    obtain ⟨⟨hr, hf⟩, hO⟩ := hO
    have hm := hF.1
    unfold isMove at hm
    split at hm
    · rename_i o ho
      simp only [Bool.and_eq_true] at hm
      obtain ⟨hm1, hm2⟩ := hm
      split at hm1
      · rename_i x hx
        have hg : o.guard = none := by simpa using hm2
        have hops : opsAt ops (k :: F) = o :: opsAt ops F := by simp [opsAt, ho]
        rw [hops] at h
        have hw : Region.wanted o (yielded ops a.tmps) = true := by simp [Region.wanted, hg]
        simp only [wpStill, hw, if_true, Oper.still, execOp, hx] at h
        have h' : wpStill P ops w (fun a' => wpAny P .any ops Q fuel (listAll (k :: F) listed) a' w) (opsAt ops F) (a.put o.dst (a.eval x)) := h.2
        rw [show (k :: F).length + fuel = (F.length + fuel) + 1 by simp only [List.length_cons]; omega]
        exact wpAny_float hnp ho hx hg (Region.noSelect_spec hs) (F.length + fuel) listed a w _ (Region.free_spec ho hf) (by simpa using hr) rfl (wpAny_floats hnp hs F fuel _ _ hF.2 hO h')
      · cases hm1
    · cases hm

/-- Whatever of what comes ahead of n is not listed is waited for. -/
def Sunk (ops : Array Oper) (n : Nat) (listed : Array Bool) : Prop := ∀ i, i < n → listed.getD i true = false → sunk ops n i = true
theorem Sunk.set {n k : Nat} {listed : Array Bool} (h : Sunk ops n listed) : Sunk ops n (listed.setIfInBounds k true) := fun i hi hun => h i hi (by
  by_cases hk : k = i
  · subst hk
    rcases Nat.lt_or_ge k listed.size with h' | h'
    · simp [h'] at hun
    · simp at hun
  · rw [getD_set_ne true hk] at hun; exact hun)

theorem tail_late {n : Nat} {listed : Array Bool} (hs : Sunk ops n listed) (hc : Region.chainB .any ops n = true) (hn : n < ops.size) (inv : HeadInv .any ops n listed) :
    ∀ (d i : Nat), n - i = d → i < n → listed.getD i true = false → ∀ t, n ≤ t → t ∉ Region.ready .any ops listed := by
  intro d
  induction d using Nat.strongRecOn with
  | _ d ih =>
    intro i hd hi hun t ht hr
    obtain ⟨_, ot, hot, hall⟩ := mem_ready.1 hr
    have htl : t < ops.size := (Array.getElem?_eq_some_iff.1 hot).1
    rcases Nat.lt_or_ge n t with htn | htn
    · have h1 := List.all_eq_true.1 hc t (List.mem_range.2 htl)
      simp only [Bool.or_eq_true, decide_eq_true_eq] at h1
      rcases h1 with h1 | h1
      · omega
      · obtain ⟨o', ho', e, he, hb, hon⟩ := Region.waitsFor_spec h1
        obtain rfl : o' = ot := Option.some.inj (ho'.symm.trans hot)
        have h2 := hall e he hb
        rw [hon, getD_both (inv.tail (t - 1) (by omega) (by omega))] at h2
        cases h2
    · obtain rfl : t = n := by omega
      obtain ⟨j, hj, hj2⟩ := List.any_eq_true.1 (hs i hi hun)
      simp only [Bool.and_eq_true, decide_eq_true_eq] at hj2
      obtain ⟨oj, hoj, e, he, hb, hon⟩ := Region.waitsFor_spec hj2.2
      have hjl := List.mem_range.1 hj
      rcases Nat.lt_or_ge j t with hjt | hjt
      · cases hl : listed.getD j false with
        | true =>
          have h2 := inv.closed j oj hoj hl e he hb
          rw [hon, getD_both hun] at h2
          cases h2
        | false => exact ih (t - j) (by omega) j rfl hjt (getD_in (by rw [inv.size]; omega) hl) t (Nat.le_refl _) hr
      · obtain rfl : j = t := by omega
        obtain rfl : oj = ot := Option.some.inj (hoj.symm.trans hot)
        have h2 := hall e he hb
        rw [hon, getD_both hun] at h2
        cases h2

theorem head_first {n i : Nat} {oi : Oper} {v : Value} {L : Array Bool → Act → Prop} (hi : ops[i]? = some oi) (hsel : ∀ (j : Nat) (o : Oper) cs b, ops[j]? = some o → o.op ≠ .select cs b) (hc : Region.chainB .any ops n = true) (hn : n < ops.size) (hin : i < n)
    (hdone : ∀ listed a, L listed a → ∀ j ∈ Region.ready .any ops listed, n ≤ j) :
    ∀ (f : Nat) (listed : Array Bool) (a : Act), HeadInv .any ops n listed → Sunk ops n listed →
      (∀ j oj, ops[j]? = some oj → j ≠ i → listed.getD j true = false → (∀ e ∈ oj.after, Region.binds .any e = true → e.on ≠ i) → oi.apart ops oj = true) →
      i ∈ Region.ready .any ops listed → YieldsAt P ops w oi v a →
      wpAnyL P .any ops w n L f (listed.setIfInBounds i true) (a.put oi.dst v) → wpAnyL P .any ops w n L (f + 1) listed a := by
  intro f
  induction f with
  | zero =>
    intro listed a inv hs _ hr hy H
    refine ⟨fun h => (by rw [h] at hr; cases hr), fun j hj => ?_⟩
    have hjn : j < n := Nat.lt_of_not_le fun h => absurd hj (tail_late hs hc hn inv _ i rfl hin (mem_ready.1 hr).1 j h)
    refine ⟨hjn, ?_⟩
    by_cases hji : j = i
    · subst hji; exact hy.stOp hi H
    · have := hdone _ _ H j (ready_mono hj hji)
      omega
  | succ f ih =>
    intro listed a inv hs hfree hr hy H
    have hun := (mem_ready.1 hr).1
    refine ⟨fun h => (by rw [h] at hr; cases hr), fun j hj => ?_⟩
    have hjn : j < n := Nat.lt_of_not_le fun h => absurd hj (tail_late hs hc hn inv _ i rfl hin hun j h)
    refine ⟨hjn, ?_⟩
    by_cases hji : j = i
    · subst hji; exact hy.stOp hi H
    · have h1 := (H.2 j (ready_mono hj hji)).2
      obtain ⟨hjun, oj, hoj, hall⟩ := mem_ready.1 hj
      have hnot : ∀ e ∈ oj.after, Region.binds .any e = true → e.on ≠ i := fun e he hb heq => by
        have h1 := hall e he hb
        rw [heq, getD_both hun] at h1
        cases h1
      have h2 := stOp_put hoj (hfree j oj hoj hji hjun hnot) (fun cs b => hsel i oi cs b hi) (fun cs b => hsel j oj cs b hoj) hy h1
      refine stOp_mono (fun a' h3 => ih (listed.setIfInBounds j true) a' (inv.set hj hjn) hs.set (fun k ok hk hki hun hno => hfree k ok hk hki ?_ hno) (ready_mono hr (Ne.symm hji)) h3.1 ?_) h2
      · by_cases hjk : j = k
        · subst hjk; exact hjun
        · rw [getD_set_ne true hjk] at hun; exact hun
      · rw [Array.setIfInBounds_comm _ _ hji]
        exact h3.2

theorem head_order {n g : Nat} {Lq : Act → Prop} (hsel : Region.noSelect ops = true) (hc : Region.chainB .any ops n = true) (hn : n < ops.size) :
    ∀ (H : List Nat) (listed : Array Bool) (a : Act), (∀ k ∈ H, k < n) → HeadInv .any ops n listed → Sunk ops n listed → orderB ops H listed = true → Region.seqB .any ops g n (listAll H listed) = true →
    wpStill P ops w Lq (opsAt ops H) a → wpAnyL P .any ops w n (fun listed' a' => Region.seqB .any ops g n listed' = true ∧ Lq a') H.length listed a
  | [], listed, a, _, _, _, _, hB, h => ⟨hB, h⟩
  | k :: H, listed, a, hlt, inv, hs, hO, hB, h => by
    simp only [orderB, Bool.and_eq_true] at hO
    obtain ⟨⟨hr, hf⟩, hO⟩ := hO
    have hr' : k ∈ Region.ready .any ops listed := by simpa using hr
    obtain ⟨_, o, ho, _⟩ := mem_ready.1 hr'
    have hops : opsAt ops (k :: H) = o :: opsAt ops H := by simp [opsAt, ho]
    rw [hops] at h
    have hst : stOp P ops w k (wpStill P ops w Lq (opsAt ops H)) a := by unfold stOp; simp only [ho]; exact h
    obtain ⟨v, hy, hK⟩ := yieldsAt_of_stOp ho hst
    have hkn := hlt k (by simp)
    exact head_first ho (Region.noSelect_spec hsel) hc hn hkn (fun listed' a' hL => seqB_ready hL.1) H.length listed a inv hs (Region.free_spec ho hf) hr' hy
      (head_order hsel hc hn H _ _ (fun k hk => hlt k (by simp [hk])) (inv.set hr' hkn) hs.set hO hB hK)

theorem listAll_spec {n : Nat} : ∀ (L : List Nat) (listed : Array Bool), (∀ k ∈ L, k < n) → orderB ops L listed = true → HeadInv .any ops n listed → HeadInv .any ops n (listAll L listed) ∧ (∀ i, (listAll L listed).getD i true = false → i ∉ L ∧ listed.getD i true = false)
  | [], listed, _, _, inv => ⟨inv, fun i h => ⟨by simp, h⟩⟩
  | k :: L, listed, hlt, hO, inv => by
    simp only [orderB, Bool.and_eq_true] at hO
    obtain ⟨⟨hr, _⟩, hO⟩ := hO
    have hr' : k ∈ Region.ready .any ops listed := by simpa using hr
    obtain ⟨h1, h2⟩ := listAll_spec L (listed.setIfInBounds k true) (fun k hk => hlt k (by simp [hk])) hO (inv.set hr' (hlt k (by simp)))
    refine ⟨h1, fun i hi => ?_⟩
    obtain ⟨h3, h4⟩ := h2 i hi
    have hne : k ≠ i := fun e => by
      subst e
      rcases Nat.lt_or_ge k listed.size with h' | h'
      · simp [h'] at h4
      · simp at h4
    rw [getD_set_ne true hne] at h4
    exact ⟨by simp [Ne.symm hne, h3], h4⟩

theorem wp_region_float {id : Nat} {a : Act} (n : Nat) (hnp : NoPanic Q) (hm : P.follows .mixedOrders = true) (hB : floatB ops n = true)
    (h : wpStill P ops { w with drawn := w.drawn + 1 } (fun a1 => wpStill P ops { w with drawn := w.drawn + 1 } (fun a2 => wpList P ops Q (ops.toList.drop n) a2 { w with drawn := w.drawn + 1 }) (opsAt ops (floatH ops n)) a1) (opsAt ops (floatF ops n)) a) :
    (Code.region id ops true).wp P Q a w := by
  simp only [floatB, Bool.and_eq_true, decide_eq_true_eq] at hB
  obtain ⟨hsel, hn, hF, hO1, hO2, hc, hq, hlen⟩ := hB
  have inv0 : HeadInv .any ops n (Array.replicate ops.size false) :=
    ⟨by simp, fun j oj _ hl => (by rw [getD_replicate_false] at hl; cases hl), fun t _ ht => getD_in (by simpa using ht) (getD_replicate_false _ _)⟩
  have ltF : ∀ k ∈ floatF ops n, k < n := fun k hk => List.mem_range.1 (List.mem_filter.1 hk).1
  have ltH : ∀ k ∈ floatH ops n, k < n := fun k hk => List.mem_range.1 (List.mem_filter.1 hk).1
  obtain ⟨inv1, hun⟩ := listAll_spec (floatF ops n) _ ltF hO1 inv0
  have hsk : Sunk ops n (listAll (floatF ops n) (Array.replicate ops.size false)) := fun i hi hu => by
    have h1 := (hun i hu).1
    cases hs : sunk ops n i with
    | true => rfl
    | false => exact absurd (List.mem_filter.2 ⟨List.mem_range.2 hi, by rw [hs]; rfl⟩) h1
  refine wp_region_any hm ?_
  rw [show ops.size = (floatF ops n).length + ((floatH ops n).length + (ops.size - n)) by omega]
  have hdl : (ops.toList.drop n).length = ops.size - n := by simp
  rw [← show ops.size = (floatF ops n).length + ((floatH ops n).length + (ops.size - n)) by omega]
  have key := wpAny_floats (P := P) (w := { w with drawn := w.drawn + 1 }) hnp hsel (floatF ops n) ((floatH ops n).length + (ops.size - n)) (Array.replicate ops.size false) a hF hO1 ?_
  · rw [show (floatF ops n).length + ((floatH ops n).length + (ops.size - n)) = ops.size by omega] at key
    exact key
  · refine stillMono (fun a1 h1 => ?_) _ _ h
    have H := head_order (P := P) (w := { w with drawn := w.drawn + 1 }) (g := ops.size - n) hsel hc hn (floatH ops n) _ a1 ltH inv1 hsk hO2 hq h1
    exact wpAny_of_head (Q' := Q) (g := ops.size - n) (fun listed a' hL => by
      have := wpAny_of_seq (md := .any) (Q' := Q) (ops.toList.drop n) n listed a' { w with drawn := w.drawn + 1 } (fun j => by simp [List.getElem?_drop]) (by rw [hdl]; exact hL.1) hL.2
      rwa [hdl] at this) _ _ _ H
where
  stillMono {w : World} {Q Q' : Act → Prop} (h : ∀ a, Q a → Q' a) : ∀ (l : List Oper) (a : Act), wpStill P ops w Q l a → wpStill P ops w Q' l a
    | [], a, hh => h a hh
    | o :: l, a, hh => by
      simp only [wpStill] at hh ⊢
      split
      · rename_i hw; simp only [hw, if_true] at hh; exact Oper.still_mono (fun a' => stillMono h l a') hh
      · rename_i hw; simp only [hw] at hh; exact stillMono h l _ hh

end
end Go.Abs

/- Statements that draw their order: calls and whatever else is quiet come first, in any order, the rest is a chain. Own work; no condition. -/
namespace Go.Abs

section
variable {P : Program} {ops : Array Oper} {C : World → Prop} {n : Nat}

/-- Whatever order is picked up to n; L behind it. -/
def pickQ (P : Program) (ops : Array Oper) (C : World → Prop) (n : Nat) (L : Array Bool → Act → Prop) : Nat → Array Bool → Act → Prop
  | 0, listed, a => L listed a
  | f + 1, listed, a => Region.ready .any ops listed ≠ [] ∧ ∀ i ∈ Region.ready .any ops listed, i < n ∧ qOp P ops C i (pickQ P ops C n L f (listed.setIfInBounds i true)) a

theorem pickQ_any {g : Nat} {L : Array Bool → Act → Prop} {Q' : Exit → Act → World → Prop} (hL : ∀ listed a, L listed a → ∀ w, C w → wpAny P .any ops Q' g listed a w) :
    ∀ (f : Nat) (listed : Array Bool) (a : Act) (w : World), C w → pickQ P ops C n L f listed a → wpAny P .any ops Q' (f + g) listed a w
  | 0, listed, a, w, hw, h => (Nat.zero_add g).symm ▸ hL _ _ h w hw
  | f + 1, listed, a, w, hw, h => by
    have key : wpAny P .any ops Q' (f + g + 1) listed a w := ⟨fun h0 => absurd h0 h.1, fun i hi => wpOp_of_qOp hw (fun a' w' hw' h' => pickQ_any hL f _ a' w' hw' h') (h.2 i hi).2⟩
    rwa [show f + g + 1 = f + 1 + g by omega] at key

theorem pickQ_head {i : Nat} {oi : Oper} {v : Value} {L : Array Bool → Act → Prop} (hi : ops[i]? = some oi) (hsel : ∀ (j : Nat) (o : Oper) cs b, ops[j]? = some o → o.op ≠ .select cs b)
    (hs : Region.sinkB .any ops n = true) (hc : Region.chainB .any ops n = true) (hn : n < ops.size) (hin : i < n) (hdone : ∀ listed a, L listed a → ∀ j ∈ Region.ready .any ops listed, n ≤ j) :
    ∀ (f : Nat) (listed : Array Bool) (a : Act), HeadInv .any ops n listed →
      (∀ j oj, ops[j]? = some oj → j ≠ i → listed.getD j true = false → (∀ e ∈ oj.after, Region.binds .any e = true → e.on ≠ i) → oi.apart ops oj = true) →
      i ∈ Region.ready .any ops listed → YieldsIn P ops C oi v a →
      pickQ P ops C n L f (listed.setIfInBounds i true) (a.put oi.dst v) → pickQ P ops C n L (f + 1) listed a := by
  intro f
  induction f with
  | zero =>
    intro listed a inv _ hr hy H
    refine ⟨fun h => (by rw [h] at hr; cases hr), fun j hj => ?_⟩
    have hjn : j < n := Nat.lt_of_not_le fun h => tail_waits hs hc hn inv _ i rfl hin (mem_ready.1 hr).1 j h hj
    refine ⟨hjn, ?_⟩
    by_cases hji : j = i
    · subst hji; exact hy.qOp hi H
    · have := hdone _ _ H j (ready_mono hj hji); omega
  | succ f ih =>
    intro listed a inv hfree hr hy H
    have hun := (mem_ready.1 hr).1
    refine ⟨fun h => (by rw [h] at hr; cases hr), fun j hj => ?_⟩
    have hjn : j < n := Nat.lt_of_not_le fun h => tail_waits hs hc hn inv _ i rfl hin hun j h hj
    refine ⟨hjn, ?_⟩
    by_cases hji : j = i
    · subst hji; exact hy.qOp hi H
    · obtain ⟨hjun, oj, hoj, hall⟩ := mem_ready.1 hj
      have hnot : ∀ e ∈ oj.after, Region.binds .any e = true → e.on ≠ i := fun e he hb heq => by
        have h1 := hall e he hb
        rw [heq, getD_both hun] at h1
        cases h1
      have h2 := qOp_put hoj (hfree j oj hoj hji hjun hnot) (fun cs b => hsel i oi cs b hi) (fun cs b => hsel j oj cs b hoj) hy (H.2 j (ready_mono hj hji)).2
      refine qOp_mono (fun a' h3 => ih _ a' (inv.set hj hjn) (fun k ok hk hki hu hno => hfree k ok hk hki ?_ hno) (ready_mono hr (Ne.symm hji)) h3.1 ?_) h2
      · by_cases hjk : j = k
        · subst hjk; exact hjun
        · rwa [getD_set_ne true hjk] at hu
      · rw [Array.setIfInBounds_comm _ _ hji]; exact h3.2

theorem pickQ_lex {g : Nat} {Lq : Act → Prop} (hsel : Region.noSelect ops = true) (hs : Region.sinkB .any ops n = true) (hc : Region.chainB .any ops n = true) (hn : n < ops.size) :
    ∀ (l : List Oper) (k : Nat) (listed : Array Bool) (a : Act), (∀ j, j < l.length → l[j]? = ops[k + j]?) → k + l.length = n → HeadInv .any ops n listed →
    Region.lexHead .any ops g l.length k listed = true → wpQuiet P ops C Lq l a →
    pickQ P ops C n (fun listed' a' => Region.seqB .any ops g n listed' = true ∧ Lq a') l.length listed a
  | [], k, listed, a, _, hk, _, hB, h => by
    obtain rfl : k = n := by simpa using hk
    exact ⟨by simpa [Region.lexHead] using hB, h⟩
  | o :: l, k, listed, a, hl, hk, inv, hB, h => by
    have h0 : ops[k]? = some o := by simpa using (hl 0 (by simp)).symm
    rw [List.length_cons] at hk
    simp only [List.length_cons, Region.lexHead, Bool.and_eq_true] at hB
    obtain ⟨⟨hr, hf⟩, hB'⟩ := hB
    have hr' : k ∈ Region.ready .any ops listed := by simpa using hr
    obtain ⟨v, hy, hK⟩ := yieldsIn_of_qOp h0 (K := wpQuiet P ops C Lq l) (by unfold qOp; simp only [h0]; exact h)
    exact pickQ_head h0 (Region.noSelect_spec hsel) hs hc hn (by omega) (fun _ _ hL => seqB_ready hL.1) l.length listed a inv (Region.free_spec h0 hf) hr' hy
      (pickQ_lex hsel hs hc hn l (k + 1) _ _ (fun j hj => by have := hl (j + 1) (by simp; omega); simpa [Nat.add_assoc, Nat.add_comm 1 j] using this) (by omega) (inv.set hr' (by omega)) hB' hK)

/-- Quiet ones first, then a chain. -/
theorem wp_region_late {id : Nat} {Q : Exit → Act → World → Prop} {a : Act} {w : World} (hm : P.follows .mixedOrders = true) (hB : Region.lexTailB .any ops n = true) (hC : C { w with drawn := w.drawn + 1 })
    (h : wpQuiet P ops C (fun a' => ∀ w', C w' → wpList P ops Q (ops.toList.drop n) a' w') (ops.toList.take n) a) : (Code.region id ops true).wp P Q a w := by
  simp only [Region.lexTailB, Bool.and_eq_true, decide_eq_true_eq] at hB
  obtain ⟨⟨⟨⟨hsel, hn⟩, hs⟩, hc⟩, hlex⟩ := hB
  have htl : (ops.toList.take n).length = n := by simp; omega
  have hdl : (ops.toList.drop n).length = ops.size - n := by simp
  have inv0 : HeadInv .any ops n (Array.replicate ops.size false) :=
    ⟨by simp, fun j oj _ hl => (by rw [getD_replicate_false] at hl; cases hl), fun t _ ht => getD_in (by simpa using ht) (getD_replicate_false _ _)⟩
  have H := pickQ_lex (g := ops.size - n) hsel hs hc hn (ops.toList.take n) 0 _ a (fun j hj => by
    have hj' : j < n := by rw [htl] at hj; exact hj
    simp [hj']) (by simpa using htl) inv0 (by rw [htl]; exact hlex) h
  refine wp_region_any hm ?_
  have key := pickQ_any (Q' := Q) (g := ops.size - n) (fun listed a' hL w' hw' => by
    have := wpAny_of_seq (md := .any) (Q' := Q) (ops.toList.drop n) n listed a' w' (fun j => by simp [List.getElem?_drop]) (by rw [hdl]; exact hL.1) (hL.2 w' hw')
    rwa [hdl] at this) _ _ _ _ hC H
  rwa [htl, show n + (ops.size - n) = ops.size by omega] at key

end
end Go.Abs

/- Statements that draw their order: what only reads floats past calls that keep what it reads. Own work; no condition. -/
namespace Go.Abs

section
variable {P : Program} {ops : Array Oper} {C : World → Prop} {Q : Exit → Act → World → Prop} {t : Nat} {w : World}

/-- In every world of the class the operation yields this value, and leaves the world alone; or it is not wanted. -/
def YieldsC (P : Program) (ops : Array Oper) (C : World → Prop) (o : Oper) (v : Value) (a : Act) : Prop :=
  (Region.wanted o (yielded ops a.tmps) = true ∧ ∀ w, C w → (execOp a.eval o).run P w = .ok (.value v) w) ∨ (Region.wanted o (yielded ops a.tmps) = false ∧ v = undef)
theorem YieldsC.same {o : Oper} {v : Value} {a a' : Act} (hy : YieldsC P ops C o v a) (he : execOp a'.eval o = execOp a.eval o) (hw : Region.wanted o (yielded ops a'.tmps) = Region.wanted o (yielded ops a.tmps)) : YieldsC P ops C o v a' := by
  unfold YieldsC at *
  rw [he, hw]
  exact hy

theorem upon_putC {oj : Oper} {a : Act} {K : Act → World → Prop} {d : Option Tmp} {v : Value} {Y : Act → Prop} (hnp : NoPanic Q) (hne : ∀ t, d = some t → oj.dst ≠ some t) (hY : ∀ u, Y (a.put oj.dst u)) (hYd : ∀ df, Y ({ a with defers := df :: a.defers }.put oj.dst undef))
    (r : Result Next) (h : oj.upon P (a.put d v) K Q r) : oj.upon P a (fun a' w' => Y a' ∧ K (a'.put d v) w') Q r := by
  have comm : ∀ u, (a.put d v).put oj.dst u = (a.put oj.dst u).put d v := fun u => Act.put_comm a v u hne
  cases r with
  | ok n w' =>
    cases n <;> simp only [Oper.upon] at h ⊢
    case value u => exact ⟨hY u, comm u ▸ h⟩
    case skip => exact ⟨hY _, comm _ ▸ h⟩
    case defer df =>
      refine ⟨hYd df, ?_⟩
      rw [Act.put_defers] at h
      rw [Act.put_comm _ v undef hne] at h
      exact h
    case enter f args =>
      refine Calls.mono h fun e w'' he => ?_
      cases e with
      | returned u => exact ⟨hY u, comm u ▸ he⟩
      | panicked c => exact absurd he (hnp _ _ _)
      | outgrown => exact he
    case row row args => exact Rows.mono h fun u w'' he => ⟨hY u, comm u ▸ he⟩
  | halt y w' =>
    cases y <;> simp only [Oper.upon] at h
    case panic v => exact absurd h (hnp _ _ _)

theorem wpOp_putC {j : Nat} {oi oj : Oper} {a : Act} {v : Value} {K : Act → World → Prop} (hnp : NoPanic Q) (hj : ops[j]? = some oj) (hap : oi.apart ops oj = true) (hsi : ∀ cs b, oi.op ≠ .select cs b) (hsj : ∀ cs b, oj.op ≠ .select cs b) (hy : YieldsC P ops C oi v a)
    (h : wpOp P ops Q j K (a.put oi.dst v) w) : wpOp P ops Q j (fun a' w' => YieldsC P ops C oi v a' ∧ K (a'.put oi.dst v) w') a w := by
  obtain ⟨h1, h2, h3⟩ := Oper.apart_spec hap
  have keep : ∀ u, YieldsC P ops C oi v (a.put oj.dst u) := fun u => hy.same (execOp_put oi hsi a oj.dst u h3) (wanted_put oi a oj.dst u h3)
  have keepd : ∀ df, YieldsC P ops C oi v ({ a with defers := df :: a.defers }.put oj.dst undef) := fun df => by
    have := keep undef
    cases hx : oj.dst with
    | none => rw [hx] at this; exact this
    | some t => rw [hx] at this; exact this
  unfold wpOp at *
  simp only [hj] at *
  rw [wanted_put oj a oi.dst v h1] at h
  split
  · rename_i hw
    simp only [hw, if_true] at h
    rcases h with h | ⟨h, hl⟩
    · left
      unfold Oper.wp at *
      rw [execOp_put oj hsj a oi.dst v h1] at h
      exact upon_putC hnp h2 keep keepd _ h
    · right
      unfold Oper.asks at *
      rw [execOp_put oj hsj a oi.dst v h1] at h
      exact ⟨h, hl⟩
  · rename_i hw
    simp only [hw] at h
    exact ⟨keep _, by rw [Act.put_comm a v undef h2] at h; exact h⟩

/-- Whatever order is picked; all ahead of t leave a world of the class. -/
def wpAnyD (P : Program) (ops : Array Oper) (C : World → Prop) (Q : Exit → Act → World → Prop) (t : Nat) : Nat → Array Bool → Act → World → Prop
  | 0, listed, a, w => Region.ready .any ops listed = [] ∧ Q .normal a w
  | f + 1, listed, a, w => (Region.ready .any ops listed = [] → Q .normal a w) ∧ ∀ i ∈ Region.ready .any ops listed, wpOp P ops Q i (fun a' w' => (i < t → C w') ∧ wpAnyD P ops C Q t f (listed.setIfInBounds i true) a' w') a w

theorem wpAnyD_any : ∀ (f : Nat) (listed : Array Bool) (a : Act) (w : World), wpAnyD P ops C Q t f listed a w → wpAny P .any ops Q f listed a w
  | 0, _, _, _, h => h
  | f + 1, _, _, _, h => ⟨h.1, fun i hi => wpOp_mono (fun a' w' h' => wpAnyD_any f _ a' w' h'.2) (h.2 i hi)⟩

theorem wpAnyD_float {i : Nat} {oi : Oper} {v : Value} (hnp : NoPanic Q) (hi : ops[i]? = some oi) (hit : i < t) (hsel : ∀ (j : Nat) (o : Oper) cs b, ops[j]? = some o → o.op ≠ .select cs b)
    (hs : Region.sinkB .any ops t = true) (hc : Region.chainB .any ops t = true) (hn : t < ops.size) :
    ∀ (fuel : Nat) (listed : Array Bool) (a : Act) (w : World), HeadInv .any ops t listed →
      (∀ j oj, ops[j]? = some oj → j ≠ i → listed.getD j true = false → (∀ e ∈ oj.after, Region.binds .any e = true → e.on ≠ i) → oi.apart ops oj = true) →
      i ∈ Region.ready .any ops listed → C w → YieldsC P ops C oi v a →
      wpAnyD P ops C Q t fuel (listed.setIfInBounds i true) (a.put oi.dst v) w → wpAnyD P ops C Q t (fuel + 1) listed a w := by
  have self : ∀ (K : Act → World → Prop) (a : Act) (w : World), C w → YieldsC P ops C oi v a → K (a.put oi.dst v) w → wpOp P ops Q i K a w := fun K a w hw hy hK => by
    unfold wpOp
    simp only [hi]
    rcases hy with ⟨h1, h2⟩ | ⟨h1, rfl⟩
    · rw [h1]
      simp only [if_true]
      left
      unfold Oper.wp
      rw [h2 w hw]
      exact hK
    · rw [h1]
      simp only [Bool.false_eq_true, if_false]
      exact hK
  intro fuel
  induction fuel with
  | zero =>
    intro listed a w _ _ hr hw hy H
    refine ⟨fun h => (by rw [h] at hr; cases hr), fun j hj => ?_⟩
    by_cases hji : j = i
    · subst hji; exact self _ a w hw hy ⟨fun _ => hw, H⟩
    · have := ready_mono hj hji
      rw [H.1] at this
      cases this
  | succ fuel ih =>
    intro listed a w inv hfree hr hw hy H
    have hun := (mem_ready.1 hr).1
    refine ⟨fun h => (by rw [h] at hr; cases hr), fun j hj => ?_⟩
    have hjt : j < t := Nat.lt_of_not_le fun h => tail_waits hs hc hn inv _ i rfl hit hun j h hj
    by_cases hji : j = i
    · subst hji; exact self _ a w hw hy ⟨fun _ => hw, H⟩
    · have h1 := H.2 j (ready_mono hj hji)
      obtain ⟨hjun, oj, hoj, hall⟩ := mem_ready.1 hj
      have hnot : ∀ e ∈ oj.after, Region.binds .any e = true → e.on ≠ i := fun e he hb heq => by
        have h1 := hall e he hb
        rw [heq, getD_both hun] at h1
        cases h1
      have h2 := wpOp_putC hnp hoj (hfree j oj hoj hji hjun hnot) (fun cs b => hsel i oi cs b hi) (fun cs b => hsel j oj cs b hoj) hy h1
      refine wpOp_mono (fun a' w' h3 => ⟨fun _ => h3.2.1 hjt, ih (listed.setIfInBounds j true) a' w' (inv.set hj hjt) (fun k ok hk hki hu hno => hfree k ok hk hki ?_ hno) (ready_mono hr (Ne.symm hji)) (h3.2.1 hjt) h3.1 ?_⟩) h2
      · by_cases hjk : j = k
        · subst hjk; exact hjun
        · rwa [getD_set_ne true hjk] at hu
      · rw [Array.setIfInBounds_comm _ _ hji]
        exact h3.2.2

/-- What has the same value in every world may come first. -/
theorem wpAny_pure {i : Nat} {oi : Oper} {v : Value} (hnp : NoPanic Q) (hi : ops[i]? = some oi) (hsel : ∀ (j : Nat) (o : Oper) cs b, ops[j]? = some o → o.op ≠ .select cs b) :
    ∀ (fuel : Nat) (listed : Array Bool) (a : Act) (w : World),
      (∀ j oj, ops[j]? = some oj → j ≠ i → listed.getD j true = false → (∀ e ∈ oj.after, Region.binds .any e = true → e.on ≠ i) → oi.apart ops oj = true) →
      i ∈ Region.ready .any ops listed → YieldsC P ops (fun _ => True) oi v a →
      wpAny P .any ops Q fuel (listed.setIfInBounds i true) (a.put oi.dst v) w → wpAny P .any ops Q (fuel + 1) listed a w := by
  have self : ∀ (K : Act → World → Prop) (a : Act) (w : World), YieldsC P ops (fun _ => True) oi v a → K (a.put oi.dst v) w → wpOp P ops Q i K a w := fun K a w hy hK => by
    unfold wpOp
    simp only [hi]
    rcases hy with ⟨h1, h2⟩ | ⟨h1, rfl⟩
    · rw [h1]
      simp only [if_true]
      left
      unfold Oper.wp
      rw [h2 w trivial]
      exact hK
    · rw [h1]
      simp only [Bool.false_eq_true, if_false]
      exact hK
  intro fuel
  induction fuel with
  | zero =>
    intro listed a w _ hr hy H
    refine ⟨fun h => (by rw [h] at hr; cases hr), fun j hj => ?_⟩
    by_cases hji : j = i
    · subst hji; exact self _ a w hy H
    · have := ready_mono hj hji
      rw [H.1] at this
      cases this
  | succ fuel ih =>
    intro listed a w hfree hr hy H
    have hun := (mem_ready.1 hr).1
    refine ⟨fun h => (by rw [h] at hr; cases hr), fun j hj => ?_⟩
    by_cases hji : j = i
    · subst hji; exact self _ a w hy H
    · have h1 := H.2 j (ready_mono hj hji)
      obtain ⟨hjun, oj, hoj, hall⟩ := mem_ready.1 hj
      have hnot : ∀ e ∈ oj.after, Region.binds .any e = true → e.on ≠ i := fun e he hb heq => by
        have h1 := hall e he hb
        rw [heq, getD_both hun] at h1
        cases h1
      have h2 := wpOp_putC hnp hoj (hfree j oj hoj hji hjun hnot) (fun cs b => hsel i oi cs b hi) (fun cs b => hsel j oj cs b hoj) hy h1
      refine wpOp_mono (fun a' w' h3 => ih (listed.setIfInBounds j true) a' w' (fun k ok hk hki hu hno => hfree k ok hk hki ?_ hno) (ready_mono hr (Ne.symm hji)) h3.1 ?_) h2
      · by_cases hjk : j = k
        · subst hjk; exact hjun
        · rwa [getD_set_ne true hjk] at hu
      · rw [Array.setIfInBounds_comm _ _ hji]
        exact h3.2

/-- Operations that only read, one after the other. -/
def wpReads (P : Program) (ops : Array Oper) (C : World → Prop) (Q : Act → Prop) : List Oper → Act → Prop
  | [], a => Q a
  | o :: rest, a => ∃ v, YieldsC P ops C o v a ∧ wpReads P ops C Q rest (a.put o.dst v)

theorem wpAnyD_floats (hnp : NoPanic Q) (hsel : Region.noSelect ops = true) (hs : Region.sinkB .any ops t = true) (hc : Region.chainB .any ops t = true) (hn : t < ops.size) (hw : C w) :
    ∀ (F : List Nat) (fuel : Nat) (listed : Array Bool) (a : Act), (∀ k ∈ F, k < t) → HeadInv .any ops t listed → orderB ops F listed = true →
      wpReads P ops C (fun a' => wpAnyD P ops C Q t fuel (listAll F listed) a' w) (opsAt ops F) a → wpAnyD P ops C Q t (F.length + fuel) listed a w
  | [], fuel, listed, a, _, _, _, h => by rw [List.length_nil, Nat.zero_add]; exact h
  | k :: F, fuel, listed, a, hF, inv, hO, h => by
    simp only [orderB, Bool.and_eq_true] at hO
    obtain ⟨⟨hr, hf⟩, hO⟩ := hO
    have hr' : k ∈ Region.ready .any ops listed := by simpa using hr
    obtain ⟨_, o, ho, _⟩ := mem_ready.1 hr'
    have hops : opsAt ops (k :: F) = o :: opsAt ops F := by simp [opsAt, ho]
    rw [hops] at h
    obtain ⟨v, hy, h⟩ := h
    rw [show (k :: F).length + fuel = (F.length + fuel) + 1 by simp only [List.length_cons]; omega]
    exact wpAnyD_float hnp ho (hF k (by simp)) (Region.noSelect_spec hsel) hs hc hn (F.length + fuel) listed a w inv (Region.free_spec ho hf) hr' hw hy
      (wpAnyD_floats hnp hsel hs hc hn hw F fuel _ _ (fun k hk => hF k (by simp [hk])) (inv.set hr' (hF k (by simp))) hO h)

/-- One after the other, none else ready. -/
def seqLB (ops : Array Oper) : List Nat → Array Bool → Bool
  | [], listed => (Region.ready .any ops listed).isEmpty
  | k :: L, listed => decide (Region.ready .any ops listed = [k]) && seqLB ops L (listed.setIfInBounds k true)
def wpSeqD (P : Program) (ops : Array Oper) (C : World → Prop) (Q : Exit → Act → World → Prop) (t : Nat) : List Nat → Act → World → Prop
  | [], a, w => Q .normal a w
  | k :: L, a, w => wpOp P ops Q k (fun a' w' => (k < t → C w') ∧ wpSeqD P ops C Q t L a' w') a w
theorem wpAnyD_seq : ∀ (L : List Nat) (listed : Array Bool) (a : Act) (w : World), seqLB ops L listed = true → wpSeqD P ops C Q t L a w → wpAnyD P ops C Q t L.length listed a w
  | [], listed, a, w, hB, h => ⟨by simpa [seqLB] using hB, h⟩
  | k :: L, listed, a, w, hB, h => by
    simp only [seqLB, Bool.and_eq_true, decide_eq_true_eq] at hB
    refine ⟨fun h1 => (by rw [hB.1] at h1; cases h1), fun i hi => ?_⟩
    rw [hB.1] at hi
    obtain rfl : i = k := by simpa using hi
    exact wpOp_mono (fun a' w' h' => ⟨h'.1, wpAnyD_seq L _ a' w' hB.2 h'.2⟩) h

/-- What only reads comes first, the rest one after the other. -/
def pastB (ops : Array Oper) (t : Nat) (F L : List Nat) : Bool :=
  Region.noSelect ops && (decide (t < ops.size) && (Region.sinkB .any ops t && (Region.chainB .any ops t && (F.all (fun k => decide (k < t)) && (orderB ops F (Array.replicate ops.size false) && (seqLB ops L (listAll F (Array.replicate ops.size false)) && decide (F.length + L.length = ops.size)))))))
theorem wp_region_past {id : Nat} {a : Act} {F L : List Nat} (hnp : NoPanic Q) (hm : P.follows .mixedOrders = true) (hB : pastB ops t F L = true) (hC : C { w with drawn := w.drawn + 1 })
    (h : wpReads P ops C (fun a' => wpSeqD P ops C Q t L a' { w with drawn := w.drawn + 1 }) (opsAt ops F) a) : (Code.region id ops true).wp P Q a w := by
  simp only [pastB, Bool.and_eq_true, decide_eq_true_eq] at hB
  obtain ⟨hsel, hn, hs, hc, hF, hO, hseq, hlen⟩ := hB
  have inv0 : HeadInv .any ops t (Array.replicate ops.size false) :=
    ⟨by simp, fun j oj _ hl => (by rw [getD_replicate_false] at hl; cases hl), fun k _ hk => getD_in (by simpa using hk) (getD_replicate_false _ _)⟩
  refine wp_region_any hm (wpAnyD_any (C := C) (t := t) _ _ _ _ ?_)
  have key := wpAnyD_floats (P := P) (ops := ops) (C := C) (Q := Q) (t := t) hnp hsel hs hc hn hC F L.length (Array.replicate ops.size false) a (fun k hk => by have := List.all_eq_true.1 hF k hk; simpa using this) inv0 hO
    (readsMono (fun a' h' => wpAnyD_seq L _ a' _ hseq h') _ _ h)
  rw [hlen] at key
  exact key
where
  readsMono {Q Q' : Act → Prop} (h : ∀ a, Q a → Q' a) : ∀ (l : List Oper) (a : Act), wpReads P ops C Q l a → wpReads P ops C Q' l a
    | [], a, hh => h a hh
    | _ :: l, _, ⟨v, hy, hh⟩ => ⟨v, hy, readsMono h l _ hh⟩

end
end Go.Abs

/- The translation of the program's code into the abstract machine's: computed, checked against the type table. Own work; no condition. -/
namespace Go.Abs

def trVal : Value → Option AV
  | .int k n => some (.int k n)
  | .bool b => some (.bool b)
  | .string s => some (.str s.data.toList)
  | .slice none 0 0 => some (.sl SV.nil)
  | .pointer none => some .nilp
  | _ => none

def trOpd : Operand → Option Opd
  | .tmp t => some (.tmp t)
  | .const v => (trVal v).map .cst
  | _ => none

def trOpds : List Operand → Option (List Opd)
  | [] => some []
  | x :: l => do some ((← trOpd x) :: (← trOpds l))

def trOpdO : Option Operand → Option (Option Opd)
  | none => some none
  | some x => (trOpd x).map some

def trParts (place : Nat → Option Nat) : List (Nat × Operand) → Option (List (Nat × Opd))
  | [] => some []
  | (i, x) :: l => do some ((← place i, ← trOpd x) :: (← trParts place l))

def trVals : List Value → Option (List AV)
  | [] => some []
  | v :: l => do some ((← trVal v) :: (← trVals l))

/-- The element type of a slice type whose elements take one cell. -/
def elem1 (P : Program) (t : TypeId) : Option TypeId :=
  match P.underlying t with
  | some (.slice e) => match P.info? e with
    | some i => if i.size = 1 then some e else none
    | none => none
  | _ => none

/-- The same, with the zero value, which takes one cell; not more than 64 bytes. -/
def elemZ (P : Program) (t : TypeId) : Option (TypeId × AV) :=
  match P.underlying t with
  | some (.slice e) => match P.info? e with
    | some i => match i.zero with
      | some z => match trVal z with
        | some v => if i.size = 1 ∧ i.bytes ≤ 64 then some (e, v) else none
        | none => none
      | none => none
    | none => none
  | _ => none

/-- How many elements of one cell an array type has. -/
def arr1 (P : Program) (t : TypeId) : Option Nat :=
  match P.underlying t with
  | some (.array n e) => match P.info? e with
    | some i => if i.size = 1 then some n else none
    | none => none
  | _ => none
/-- How many elements an array type has, and how many cells each of them. -/
def arrN (P : Program) (t : TypeId) : Option (Nat × Nat) :=
  match P.underlying t with
  | some (.array n e) => (P.info? e).map fun i => (n, i.size)
  | _ => none
/-- A type whose values are of many cells, and how many. -/
def aggN (P : Program) (t : TypeId) : Option Nat :=
  match P.underlying t with
  | some (.struct _) | some (.array ..) => (P.info? t).map (·.size)
  | _ => none

def plain1 (P : Program) (t : TypeId) : Bool :=
  match P.underlying t with
  | some (.struct _) | some (.array ..) | none => false
  | some _ => true

def size1 (P : Program) (t : TypeId) : Bool :=
  match P.info? t with
  | some i => i.size == 1
  | none => false

def isInt (P : Program) (t : TypeId) : Bool :=
  match P.underlying t with
  | some (.int _) => true
  | _ => false
def intKind? (P : Program) (t : TypeId) : Option IntKind :=
  match P.underlying t with
  | some (.int k) => some k
  | _ => none
def isBool (P : Program) (t : TypeId) : Bool :=
  match P.underlying t with
  | some .bool => true
  | _ => false
def isStr (P : Program) (t : TypeId) : Bool :=
  match P.underlying t with
  | some .string => true
  | _ => false
def isSlice (P : Program) (t : TypeId) : Bool :=
  match P.underlying t with
  | some (.slice _) => true
  | _ => false

def isBytes (P : Program) (t : TypeId) : Bool :=
  match P.underlying t with
  | some (.slice e) => match P.underlying e with
    | some (.int .u8) => true
    | _ => false
  | _ => false

def canCall (P : Program) (f : FuncId) : Bool :=
  match P.funcs[f]? with
  | some fn => fn.body.isSome && fn.name != "runtime.NumGoroutine"
  | none => false

def trFld (P : Program) (s : TypeId) (f : Nat) : Option Nat :=
  match P.underlying s with
  | some (.struct fields) => match fields[f]? with
    | some fd => match P.info? fd.type with
      | some i => if i.size = 0 then none else some fd.offset
      | none => none
    | none => none
  | _ => none

/-- Where the field of a struct, or the element of an array, lies that takes one cell. -/
def trPlace (P : Program) (t : TypeId) (i : Nat) : Option Nat :=
  match P.underlying t with
  | some (.struct fields) => match fields.toList.mapM (fun f => (P.info? f.type).map fun i => (f.offset, i.size)) with
    | some places => match places[i]? with
      | some (off, n) => if n = 1 then some off else none
      | none => none
    | none => none
  | _ => none

/-- A struct whose fields' places are known. -/
def isStruct (P : Program) (t : TypeId) : Bool :=
  match P.underlying t with
  | some (.struct fields) => (fields.toList.mapM (fun f => (P.info? f.type).map fun i => (f.offset, i.size))).isSome
  | _ => false

def trZero (P : Program) (t : TypeId) : Option (List AV) :=
  match P.info? t with
  | some i => match i.zero with
    | some z => trVals z.cells.toList
    | none => none
  | none => none

def trCall (P : Program) (quiet : Bool) (c : Call) : Option AOp :=
  match c.callee, c.args.toList, c.argTypes.toList with
  | .value (.func f), args, _ => if canCall P f then do
      let xs ← trOpds args
      some (if quiet then .callq f xs else .call f xs)
    else none
  | .builtin .len, [x], [t] => if isSlice P t then (trOpd x).map .len else if isStr P t then (trOpd x).map .slen else none
  | .builtin .append, [s, x], [t, u] => if t = u then do
      let (e, _) ← elemZ P t
      some (.app e (← trOpd s) (← trOpd x))
    else none
  | .builtin .min, [x, y], _ => do some (.mn (← trOpd x) (← trOpd y))
  | .builtin .max, [x, y], _ => do some (.mx (← trOpd x) (← trOpd y))
  | _, _, _ => none

def trOp (P : Program) (quiet : Bool) (o : Op) : Option AOp :=
  match o with
  | .move x | .assign x => (trOpd x).map .mv
  | .pick c a b => do some (.pick (← trOpd c) (← trOpd a) (← trOpd b))
  | .binOp op t x y _ =>
    if isBool P t then match op with
      | .eql => do some (.eqb false (← trOpd x) (← trOpd y))
      | .neq => do some (.eqb true (← trOpd x) (← trOpd y))
      | _ => none
    else do some (.bin op (← trOpd x) (← trOpd y))
  | .unOp op _ x => (trOpd x).map (.un op)
  | .convert src dst x => if isInt P src then do some (.conv (← intKind? P dst) (← trOpd x)) else if isBytes P src && isStr P dst then (trOpd x).map .b2s else none
  | .index t x i => if isStr P t then do some (.sidx (← trOpd x) (← trOpd i)) else none
  | .indexAddr t x i => if (elem1 P t).isSome then do some (.idx (← trOpd x) (← trOpd i)) else match arr1 P t with
    | some n => do some (.aidx (← trOpd x) (← trOpd i) n)
    | none => do
      let nk ← arrN P t
      some (.aixn (← trOpd x) (← trOpd i) nk.1 nk.2)
  | .fieldAddr s x f => do some (.fld (← trOpd x) (← trFld P s f))
  | .load t a => if plain1 P t then (trOpd a).map .ld else do some (.lda (← trOpd a) (← aggN P t))
  | .store t a v => if size1 P t then do some (.st (← trOpd a) (← trOpd v)) else do some (.sta (← trOpd a) (← trOpd v) (← aggN P t))
  | .nilCheck x => (trOpd x).map .nilck
  | .extract x i => (trOpd x).map (.ext · i)
  | .slice t x lo hi none => if isStr P t then do some (.ssub (← trOpd x) (← trOpdO lo) (← trOpdO hi)) else if (elem1 P t).isSome then do some (.sub (← trOpd x) (← trOpdO lo) (← trOpdO hi)) else do some (.asl (← trOpd x) (← trOpdO lo) (← trOpdO hi) (← arr1 P t))
  | .build t parts => if isStruct P t then do some (.bld (← trZero P t) (← trParts (trPlace P t) parts.toList)) else none
  | .box e v => (trOpd v).map (.box e)
  | .alloc t => match trZero P t with
    | some l => if l.length ≤ 1024 then some (.alc t (Vals.ofAgg l)) else none
    | none => none
  | .buildSlice t n parts => do
      let (e, z) ← elemZ P t
      if n ≤ 4096 then some (.bsl e z n (← trParts some parts.toList)) else none
  | .makeSlice t l c => do
      let (e, z) ← elemZ P t
      some (.mk e z (← trOpd l) (← trOpd c))
  | .call c => trCall P quiet c
  | _ => none

/-- Operations that leave memory alone. -/
def AOp.quiet : AOp → Bool
  | .st .. | .sta .. | .box .. | .alc .. | .bsl .. | .mk .. | .app .. | .call .. => false
  | _ => true
/-- Operations that leave the world alone. -/
def AOp.still : AOp → Bool
  | .callq .. => false
  | o => o.quiet

def trGuard (ops : Array Oper) : Option (Nat × Bool) → Option (Option (Nat × Bool))
  | none => some none
  | some (j, b) => match (ops[j]?).bind (·.dst) with
    | some g => some (some (g, b))
    | none => none

def trOper (P : Program) (n : Nat) (ops : Array Oper) (quiet : Bool) (o : Oper) : Option AOper :=
  if o.dst.all (· < n) then do
    some ⟨o.dst, ← trOp P quiet o.op, ← trGuard ops o.guard⟩
  else none

def trOpers (P : Program) (n : Nat) (ops : Array Oper) (quiet : Bool) : List Oper → Option (List AOper)
  | [] => some []
  | o :: l => do some ((← trOper P n ops quiet o) :: (← trOpers P n ops quiet l))

/-- A call that hands back a slice. -/
def slicy (P : Program) (o : Oper) : Bool :=
  match o.op with
  | .call c => match c.callee with
    | .value (.func f) => match P.funcs[f]? with
      | some fn => fn.resultTypes.toList.any (isSlice P)
      | none => false
    | _ => false
  | _ => false

/-- A region that draws its order: all ahead of k quiet, the rest a chain. -/
def trLate (P : Program) (n : Nat) (ops : Array Oper) : Option ACode :=
  match (List.range ops.size).find? (Region.lexTailB .any ops) with
  | none => none
  | some k => match trOpers P n ops true (ops.toList.take k), trOpers P n ops false (ops.toList.drop k) with
    | some x, some y => if x.all (·.op.quiet) then some (.reg (x ++ y)) else none
    | _, _ => none

/-- What only reads, and waits for nothing else, ahead of t; what else comes ahead of t; the rest. -/
def isStill (P : Program) (n : Nat) (ops : Array Oper) (i : Nat) : Bool := match ops[i]? with
  | some o => (match trOper P n ops true o with | some a => a.op.still | none => false)
  | none => false
def pastF (P : Program) (n : Nat) (ops : Array Oper) (t : Nat) : List Nat :=
  (List.range t).foldl (fun F i => if isStill P n ops i && (List.range i).all (fun j => !(Region.waitsFor .any ops i j) || F.contains j) then F ++ [i] else F) []
def pastX (P : Program) (n : Nat) (ops : Array Oper) (t : Nat) : List Nat := (List.range t).filter fun i => !(pastF P n ops t).contains i
def pastY (ops : Array Oper) (t : Nat) : List Nat := (List.range ops.size).filter fun i => Nat.ble t i
/-- A region that draws its order: reads first, past calls that keep what was there. -/
def trPast (P : Program) (n : Nat) (ops : Array Oper) : Option ACode :=
  match (List.range ops.size).find? (fun t => pastB ops t (pastF P n ops t) (pastX P n ops t ++ pastY ops t)) with
  | none => none
  | some t => match trOpers P n ops true (opsAt ops (pastF P n ops t)), trOpers P n ops false (opsAt ops (pastX P n ops t)), trOpers P n ops false (opsAt ops (pastY ops t)) with
    | some f, some x, some y => if f.all (·.op.still) && x.all (·.guard.isNone) then some (.past f x y) else none
    | _, _, _ => none
/-- Is a slice handed back ahead of the chain? -/
def lateSlicy (P : Program) (ops : Array Oper) : Bool :=
  match (List.range ops.size).find? (Region.lexTailB .any ops) with
  | none => false
  | some k => (ops.toList.take k).any (slicy P)
/-- A call that is handed an address: it may write there. -/
def pointy (P : Program) (o : Oper) : Bool :=
  match o.op with
  | .call c => match c.callee with
    | .value (.func f) => match P.funcs[f]? with
      | some fn => fn.params.toList.any fun t => match P.underlying t with | some (.pointer _) => true | _ => false
      | none => false
    | _ => false
  | _ => false
def latePointy (P : Program) (ops : Array Oper) : Bool :=
  match (List.range ops.size).find? (Region.lexTailB .any ops) with
  | none => false
  | some k => (ops.toList.take k).any (pointy P)
/-- Is it ready, free of all others, and does it not look at memory? -/
def pureB (P : Program) (n : Nat) (ops : Array Oper) (listed : Array Bool) (i : Nat) : Bool :=
  match ops[i]? with
  | some o => match trOper P n ops false o with
    | some a => a.op.pure && a.guard.isNone && Region.free .any ops listed i
    | none => false
  | none => false
/-- One of a region's operations, if it is always wanted. -/
def oneOp (P : Program) (n : Nat) (ops : Array Oper) (i : Nat) : Option AOper :=
  match ops[i]? with
  | some o => match trOper P n ops false o with
    | some a => if a.guard.isNone then some a else none
    | none => none
  | none => none
/-- A region that draws its order, by all its orders; what does not look at memory comes as soon as it may. -/
def trAny (P : Program) (n : Nat) (ops : Array Oper) : Nat → Array Bool → Option ACode
  | 0, listed => if Region.ready .any ops listed = [] then some .skip else none
  | f + 1, listed =>
    match Region.ready .any ops listed with
    | [] => some .skip
    | i :: l => match (i :: l).find? (pureB P n ops listed) with
      | some j => match oneOp P n ops j, trAny P n ops f (listed.setIfInBounds j true) with
        | some o, some c => some (.seq (.reg [o]) c)
        | _, _ => none
      | none => match l with
        | [] => match oneOp P n ops i, trAny P n ops f (listed.setIfInBounds i true) with
          | some o, some c => some (.seq (.reg [o]) c)
          | _, _ => none
        | [j] => match oneOp P n ops i, trAny P n ops f (listed.setIfInBounds i true), oneOp P n ops j, trAny P n ops f (listed.setIfInBounds j true) with
          | some o, some c, some u, some d => some (.fork o c u d)
          | _, _, _, _ => none
        | _ => none
def trLateP (P : Program) (n : Nat) (ops : Array Oper) : Option ACode :=
  match (if lateSlicy P ops || (latePointy P ops && (trPast P n ops).isSome) then none else trLate P n ops) with
  | some c => some c
  | none => match trPast P n ops with
    | some c => some c
    | none => if Region.noSelect ops then trAny P n ops ops.size (Array.replicate ops.size false) else none

/-- A region that draws its order: all of it quiet; or what comes ahead of n still, the rest a chain; or the same behind moves that float. -/
def trDraw (P : Program) (n : Nat) (ops : Array Oper) : Option ACode :=
  match trOpers P n ops true ops.toList with
  | none => none
  | some as =>
    if Region.lexB .any ops && as.all (·.op.quiet) then match (if ops.toList.any (slicy P) then trLateP P n ops else none) with
      | some c => some c
      | none => some (.reg as)
    else match (List.range ops.size).find? (floatB ops) with
      | none => trLateP P n ops
      | some k => match trOpers P n ops true (opsAt ops (floatF ops k)), trOpers P n ops true (opsAt ops (floatH ops k)), trOpers P n ops false (ops.toList.drop k) with
        | some f, some x, some y => if f.all (·.op.still) && x.all (·.op.still) then some (.reg (f ++ (x ++ y))) else trLateP P n ops
        | _, _, _ => none

def trRegion (P : Program) (n : Nat) (l : List Oper) (draw : Bool) : Option ACode :=
  if draw then
    if P.follows .mixedOrders then trDraw P n l.toArray
    else none
  else match trOpers P n l.toArray false l with
    | some as => some (.reg as)
    | none => none

def trCode (P : Program) (n : Nat) : Code → Option ACode
  | .skip => some .skip
  | .region _ ops draw => trRegion P n ops.toList draw
  | .seq a b => do some (.seq (← trCode P n a) (← trCode P n b))
  | .cond c a b => do some (.cond (← trOpd c) (← trCode P n a) (← trCode P n b))
  | .block id c => do some (.block id (← trCode P n c))
  | .loop c => do some (.loop (← trCode P n c))
  | .exit id => some (.exit id)
  | .ret => some .ret
  | _ => none

structure AFn where
  n : Nat
  code : ACode
  res : List Nat
  deriving Inhabited, Repr

def trRes : List ResultVar → Option (List Nat)
  | [] => some []
  | .tmp t :: l => do some (t :: (← trRes l))
  | _ => none

def trFn (P : Program) (f : FuncId) : Option AFn :=
  match P.funcs[f]? with
  | some fn => match fn.body with
    | some c => do some ⟨fn.ntmps, ← trCode P fn.ntmps c, ← trRes fn.results.toList⟩
    | none => none
  | none => none

/-- A function whose one result is a variable of many cells. -/
def trResA (P : Program) : List ResultVar → Option (Nat × Nat)
  | [.cell a t] => (aggN P t).map fun n => (a, n)
  | _ => none
structure AFnA where
  n : Nat
  code : ACode
  res : Nat × Nat
  deriving Inhabited, Repr
def trFnA (P : Program) (f : FuncId) : Option AFnA :=
  match P.funcs[f]? with
  | some fn => match fn.body with
    | some c => do some ⟨fn.ntmps, ← trCode P fn.ntmps c, ← trResA P fn.results.toList⟩
    | none => none
  | none => none

end Go.Abs

/- The quiet operations of the abstract machine are the program's. Own work; no condition. -/
namespace Go.Abs
open Go.RowKit (Below)

/-! ### Frames -/

theorem ev_tmp {μ : Mu} {n k : Nat} {σ : Frame} {a : Act} (hf : FRel μ n σ a.tmps k) {t : Nat} {x : XV} (h : σ.get t = some x) :
    a.eval (.tmp t) = concX μ x ∧ x.ok μ n := by
  obtain ⟨_, h2, h3⟩ := hf.slot t x h
  refine ⟨?_, h2⟩
  show a.tmps.getD t undef = _
  rw [Array.getD_eq_getD_getElem?, h3]
  rfl

theorem trVal_spec {v : Value} {x : AV} (h : trVal v = some x) (μ : Mu) (n : Nat) : v = conc μ x ∧ x.ok μ n := by
  unfold trVal at h
  split at h <;> first | (cases h; done) | (cases h; exact ⟨rfl, trivial⟩) | skip
  case h_4 => cases h; exact ⟨rfl, rfl⟩

theorem ev_spec {μ : Mu} {n k : Nat} {σ : Frame} {a : Act} (hf : FRel μ n σ a.tmps k) {o : Operand} {p : Opd} (ht : trOpd o = some p) {x : XV} (h : σ.ev p = some x) :
    a.eval o = concX μ x ∧ x.ok μ n := by
  unfold trOpd at ht
  split at ht
  · cases ht; exact ev_tmp hf h
  · rename_i v
    cases hv : trVal v with
    | none => simp [hv] at ht
    | some y =>
      simp [hv] at ht
      subst ht
      cases h
      obtain ⟨h1, h2⟩ := trVal_spec hv μ n
      exact ⟨h1, h2⟩
  · cases ht

theorem get_put {σ : Frame} {d : Option Nat} {v x : XV} {t : Nat} (h : (σ.put d v).get t = some x) : (d = some t ∧ x = v) ∨ (d ≠ some t ∧ σ.get t = some x) := by
  cases d with
  | none => exact .inr ⟨by simp, h⟩
  | some d =>
    simp only [Frame.put, Frame.get] at h
    by_cases e : d = t
    · subst e; simp at h; exact .inl ⟨rfl, h.symm⟩
    · rw [beq_false_of_ne e] at h; exact .inr ⟨by simpa using e, h⟩

theorem FRel.put {μ : Mu} {n k : Nat} {σ : Frame} {a : Act} (hf : FRel μ n σ a.tmps k) {d : Option Nat} (hd : d.all (· < k) = true) {x : XV} (hx : x.ok μ n) :
    FRel μ n (σ.put d x) (a.put d (concX μ x)).tmps k := by
  refine ⟨?_, fun t y h => ?_⟩
  · cases d <;> simp [Act.put, hf.size]
  · rcases get_put h with ⟨rfl, rfl⟩ | ⟨hne, hg⟩
    · have htk : t < k := by simpa using hd
      refine ⟨htk, hx, ?_⟩
      show (a.tmps.setIfInBounds t _)[t]? = _
      rw [Array.getElem?_setIfInBounds_self_of_lt (by rw [hf.size]; exact htk)]
    · obtain ⟨h1, h2, h3⟩ := hf.slot t y hg
      refine ⟨h1, h2, ?_⟩
      cases d with
      | none => exact h3
      | some d =>
        show (a.tmps.setIfInBounds d _)[t]? = _
        rw [Array.getElem?_setIfInBounds_ne (by intro e; exact hne (by rw [e]))]
        exact h3

/-! ### Agreement of places -/

theorem SV.conc_agree {n : Nat} {μ μ' : Mu} (h : Agree n μ μ') {s : SV} (hs : s.ok μ n) : s.conc μ' = s.conc μ ∧ s.ok μ' n := by
  obtain ⟨r, o, l⟩ := s
  cases r with
  | nil => exact ⟨rfl, hs⟩
  | far a => exact ⟨rfl, hs⟩
  | row id =>
    have hid := h id hs.1
    simp only [SV.conc, SV.ok, hid]
    exact ⟨trivial, hs⟩

theorem conc_agree {n : Nat} {μ μ' : Mu} (h : Agree n μ μ') {v : AV} (hv : v.ok μ n) : conc μ' v = conc μ v ∧ v.ok μ' n := by
  cases v with
  | sl s => exact SV.conc_agree h hv
  | ptr id off => have hid := h id hv; simp only [conc, hid]; exact ⟨trivial, hv⟩
  | psl id off len cap => have hid := h id hv; simp only [conc, hid]; exact ⟨trivial, hv⟩
  | _ => exact ⟨rfl, trivial⟩

theorem concX_agree {n : Nat} {μ μ' : Mu} (h : Agree n μ μ') {x : XV} (hx : x.ok μ n) : concX μ' x = concX μ x ∧ x.ok μ' n := by
  cases x with
  | one v => exact conc_agree h hx
  | tup l =>
    have : l.map (conc μ') = l.map (conc μ) := List.map_congr_left fun v hv => (conc_agree h (hx v hv)).1
    exact ⟨by simp [concX, this], fun v hv => (conc_agree h (hx v hv)).2⟩
  | agg l =>
    have : l.map (conc μ') = l.map (conc μ) := List.map_congr_left fun v hv => (conc_agree h (hx v hv)).1
    exact ⟨by simp [concX, this], fun v hv => (conc_agree h (hx v hv)).2⟩
  | undef => exact ⟨rfl, trivial⟩

theorem AV.ok_mono {μ : Mu} {n n' : Nat} (h : n ≤ n') {v : AV} (hv : v.ok μ n) : v.ok μ n' := by
  cases v with
  | sl s =>
    obtain ⟨r, o, l⟩ := s
    cases r with
    | nil => exact hv
    | far a => exact hv
    | row id => exact ⟨Nat.lt_of_lt_of_le hv.1 h, hv.2⟩
  | ptr id off => exact Nat.lt_of_lt_of_le hv h
  | psl id off len cap => exact Nat.lt_of_lt_of_le hv h
  | _ => trivial

theorem XV.ok_mono {μ : Mu} {n n' : Nat} (h : n ≤ n') {x : XV} (hx : x.ok μ n) : x.ok μ n' := by
  cases x with
  | one v => exact AV.ok_mono h hx
  | tup l => exact fun v hv => AV.ok_mono h (hx v hv)
  | agg l => exact fun v hv => AV.ok_mono h (hx v hv)
  | undef => trivial

theorem FRel.agree {μ μ' : Mu} {n n' k : Nat} {σ : Frame} {tmps : Array Value} (hf : FRel μ n σ tmps k) (h : Agree n μ μ') (hn : n ≤ n') : FRel μ' n' σ tmps k := by
  refine ⟨hf.size, fun t x hx => ?_⟩
  obtain ⟨h1, h2, h3⟩ := hf.slot t x hx
  obtain ⟨h4, h5⟩ := concX_agree h h2
  exact ⟨h1, XV.ok_mono hn h5, by rw [h4]; exact h3⟩

theorem Agree.refl (n : Nat) (μ : Mu) : Agree n μ μ := fun _ _ => rfl
theorem Agree.trans {n n' : Nat} {μ μ' μ'' : Mu} (h : Agree n μ μ') (h' : Agree n' μ' μ'') (hn : n ≤ n') : Agree n μ μ'' :=
  fun i hi => (h' i (Nat.lt_of_lt_of_le hi hn)).trans (h i hi)

/-! ### Rows -/

theorem RowRel.agree {B : Nat} {μ μ' : Mu} {n n' id : Nat} {r : Row} {w : World} (h : RowRel B μ n id r w) (ha : Agree n μ μ') (hn : n ≤ n') (hid : id < n) : RowRel B μ' n' id r w := by
  have hi := ha id hid
  refine ⟨h.fam, fun i hi => AV.ok_mono hn (conc_agree ha (h.ok i hi)).2, fun ho => ?_, fun ho => ?_⟩
  · obtain ⟨h1, h2, h3, cur, h4, h5, h6⟩ := h.own ho
    rw [hi]
    exact ⟨h1, h2, h3, cur, h4, h5, fun i hi => by rw [(conc_agree ha (h.ok i hi)).1]; exact h6 i hi⟩
  · obtain ⟨h1, h2⟩ := h.old ho
    rw [hi]
    exact ⟨h1, fun i hi => by rw [(conc_agree ha (h.ok i hi)).1]; exact h2 i hi⟩

/-- The rows of a beginning of memory, seen by the places of that beginning. -/
theorem HRel.restrict {B : Nat} {w0 w : World} {μ μ' : Mu} {m m' : Heap} (h : HRel B w0 μ' m' w) (hm : m <+: m') (ha : Agree m.length μ μ')
    (hok : ∀ (id : Nat) (r : Row), m[id]? = some r → ∀ i : Nat, i < r.vals.len → (r.vals.get i).ok μ m.length) : HRel B w0 μ m w := by
  obtain ⟨t, rfl⟩ := hm
  have hl : ∀ id r, m[id]? = some r → id < m.length := fun id r h => (List.getElem?_eq_some_iff.1 h).1
  have hg : ∀ id r, m[id]? = some r → (m ++ t)[id]? = some r := fun id r h => by rw [List.getElem?_append_left (hl id r h)]; exact h
  refine ⟨h.below, h.le, fun id r hr => ?_, fun i j r s hi hj ho hs hf => ?_⟩
  · have h0 := h.rows id r (hg id r hr)
    have hid := ha id (hl id r hr)
    have hc : ∀ i, i < r.vals.len → conc μ' (r.vals.get i) = conc μ (r.vals.get i) := fun i hi => (conc_agree ha (hok id r hr i hi)).1
    refine ⟨h0.fam, hok id r hr, fun ho => ?_, fun ho => ?_⟩
    · obtain ⟨h1, h2, h3, cur, h4, h5, h6⟩ := h0.own ho
      rw [hid] at h1 h2 h3 h4 h5
      exact ⟨h1, h2, h3, cur, h4, h5, fun i hi => by rw [← hc i hi]; exact h6 i hi⟩
    · obtain ⟨h1, h2⟩ := h0.old ho
      rw [hid] at h1 h2
      exact ⟨h1, fun i hi => by rw [← hc i hi]; exact h2 i hi⟩
  · have := h.sep i j r s (hg i r hi) (hg j s hj) ho hs hf
    rw [ha i (hl i r hi), ha j (hl j s hj)] at this
    exact this

/-- What holds of a memory holds of one that knows less. -/
theorem HRel.fewer {B : Nat} {w0 w : World} {μ μ' : Mu} {m m' : Heap} (h : HRel B w0 μ' m' w) (hm : Fewer m m') (ha : Agree m.length μ μ')
    (hok : ∀ (id : Nat) (r : Row), m[id]? = some r → ∀ i : Nat, i < r.vals.len → (r.vals.get i).ok μ m.length) : HRel B w0 μ m w := by
  have hl : ∀ id r, m[id]? = some r → id < m.length := fun id r h => (List.getElem?_eq_some_iff.1 h).1
  refine ⟨h.below, h.le, fun id r hr => ?_, fun i j r s hi hj ho hs hf => ?_⟩
  · obtain ⟨r', e0, e1, e2, e3, e4, e5⟩ := hm.row id r hr
    have h0 := h.rows id r' e0
    have hid := ha id (hl id r hr)
    have hc : ∀ i, i < r.vals.len → conc μ' (r.vals.get i) = conc μ (r.vals.get i) := fun i hi => (conc_agree ha (hok id r hr i hi)).1
    refine ⟨e1 ▸ h0.fam, hok id r hr, fun ho => ?_, fun ho => ?_⟩
    · obtain ⟨h1, h2, h3, cur, h4, h5, h6⟩ := h0.own (e2.trans ho)
      rw [hid] at h1 h2 h3 h4 h5
      rw [e3 ho] at h4
      exact ⟨h1, h2, h3, cur, h4, h5, fun i hi => by rw [← hc i hi, ← e5 i hi]; exact h6 i (by omega)⟩
    · obtain ⟨h1, h2⟩ := h0.old (e2.trans ho)
      rw [hid] at h1 h2
      exact ⟨h1, fun i hi => by rw [← hc i hi, ← e5 i hi]; exact h2 i (by omega)⟩
  · obtain ⟨r', e0, e1, e2, _⟩ := hm.row i r hi
    obtain ⟨s', g0, g1, g2, _⟩ := hm.row j s hj
    have := h.sep i j r' s' e0 g0 (e2.trans ho) (g2.trans hs) (by rw [e1, g1]; exact hf)
    rw [ha i (hl i r hi), ha j (hl j s hj)] at this
    exact this

theorem RowRel.cell {B : Nat} {μ : Mu} {n id : Nat} {r : Row} {w : World} (h : RowRel B μ n id r w) {i : Nat} (hi : i < r.vals.len) :
    w.cell? ⟨(μ id).blk, (μ id).off + i, none⟩ = some (conc μ (r.vals.get i)) := by
  cases ho : r.own with
  | false => exact (h.old ho).2 i hi
  | true =>
    obtain ⟨h1, h2, h3, cur, h4, h5, h6⟩ := h.own ho
    rw [h1, Nat.zero_add, cell_of_row w _ i cur _ _ h4]
    exact h6 i hi

/-- A draw changes no row. -/
theorem HRel.drew {B : Nat} {w0 w : World} {μ : Mu} {m : Heap} (h : HRel B w0 μ m w) : HRel B w0 μ m w.drew :=
  ⟨h.below.drew, h.le, fun id r hr => let q := h.rows id r hr; ⟨q.fam, q.ok, q.own, q.old⟩, h.sep⟩

end Go.Abs
