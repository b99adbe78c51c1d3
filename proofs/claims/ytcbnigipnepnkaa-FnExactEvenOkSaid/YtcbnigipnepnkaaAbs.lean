/- An abstract machine for the quiet part of the program: values are numbers, truths, texts, slices and addresses by row number; memory is a list of rows. Own work; no condition. -/
import Derived.Deep.Quiet
import Derived.StillTail
import Derived.Laws.AppendOwn
import Derived.Below
import Derived.KernelRfl
namespace Go.Abs
open Go.RowKit (Below)

/-- Where a row lies: its block, where it begins in it, and how many cells there are from there on. -/
structure Loc where
  blk : Nat
  off : Nat
  cap : Nat
  deriving Inhabited

/-- Where a slice points: nowhere, at an address that has no cell, at a row. -/
inductive Ref where
  | nil
  | far (a : Addr)
  | row (id : Nat)
  deriving Inhabited, DecidableEq, Repr
def Ref.id : Ref → Nat
  | .row i => i
  | _ => 0

/-- A slice: which row, from which cell on, how many. -/
structure SV where
  ref : Ref
  off : Nat
  len : Nat
  deriving Inhabited, DecidableEq, Repr

abbrev SV.nil : SV := ⟨.nil, 0, 0⟩

inductive AV where
  | int (k : IntKind) (n : Int)
  | bool (b : Bool)
  | str (s : List UInt8)
  | sl (s : SV)
  | ptr (id off : Nat)
  /-- A slice of a part of a row: of an array that lies in it. -/
  | psl (id off len cap : Nat)
  | nilp
  deriving Inhabited, DecidableEq, Repr

inductive XV where
  | one (v : AV)
  | tup (l : List AV)
  | agg (l : List AV)
  | undef
  deriving Inhabited, DecidableEq, Repr

abbrev Mu := Nat → Loc

def SV.conc (μ : Mu) (s : SV) : Value :=
  match s.ref with
  | .nil => .slice none 0 0
  | .far a => .slice (some a) 0 0
  | .row id => .slice (some ⟨(μ id).blk, (μ id).off + s.off, none⟩) s.len ((μ id).cap - s.off)

def conc (μ : Mu) : AV → Value
  | .int k n => .int k n
  | .bool b => .bool b
  | .str s => .string ⟨s.toArray⟩
  | .sl s => s.conc μ
  | .ptr id off => .pointer (some ⟨(μ id).blk, (μ id).off + off, none⟩)
  | .psl id off len cap => .slice (some ⟨(μ id).blk, (μ id).off + off, none⟩) len cap
  | .nilp => .pointer none

def concX (μ : Mu) : XV → Value
  | .one v => conc μ v
  | .tup l => .tuple (l.map (conc μ)).toArray
  | .agg l => .agg (l.map (conc μ)).toArray
  | .undef => .tuple #[]

/-- What a row holds, by kind. -/
inductive Vals where
  | ints (k : IntKind) (l : List Int)
  | bools (l : List Bool)
  | sls (l : List SV)
  | strs (l : List (List UInt8))
  | mix (l : List AV)
  deriving Inhabited, Repr

namespace Vals
def len : Vals → Nat
  | ints _ l => l.length
  | bools l => l.length
  | sls l => l.length
  | strs l => l.length
  | mix l => l.length
def get : Vals → Nat → AV
  | ints k l, i => .int k (l.getD i 0)
  | bools l, i => .bool (l.getD i false)
  | sls l, i => .sl (l.getD i SV.nil)
  | strs l, i => .str (l.getD i [])
  | mix l, i => l.getD i (.bool false)
def take : Vals → Nat → Vals
  | ints k l, n => ints k (l.take n)
  | bools l, n => bools (l.take n)
  | sls l, n => sls (l.take n)
  | strs l, n => strs (l.take n)
  | mix l, n => mix (l.take n)
def sub : Vals → Nat → Nat → Vals
  | ints k l, o, n => ints k ((l.drop o).take n)
  | bools l, o, n => bools ((l.drop o).take n)
  | sls l, o, n => sls ((l.drop o).take n)
  | strs l, o, n => strs ((l.drop o).take n)
  | mix l, o, n => mix ((l.drop o).take n)
def set : Vals → Nat → AV → Option Vals
  | ints k l, i, .int k' n => if k = k' then some (ints k (l.set i n)) else none
  | bools l, i, .bool b => some (bools (l.set i b))
  | sls l, i, .sl s => some (sls (l.set i s))
  | strs l, i, .str s => some (strs (l.set i s))
  | mix l, i, v => some (mix (l.set i v))
  | _, _, _ => none
def app : Vals → Vals → Option Vals
  | ints k l, ints k' l' => if k = k' then some (ints k (l ++ l')) else none
  | bools l, bools l' => some (bools (l ++ l'))
  | sls l, sls l' => some (sls (l ++ l'))
  | strs l, strs l' => some (strs (l ++ l'))
  | _, _ => none
/-- The row of n zeros of a kind. -/
def zeros : AV → Nat → Option Vals
  | .int k n, m => some (ints k (List.replicate m n))
  | .bool b, m => some (bools (List.replicate m b))
  | .sl s, m => some (sls (List.replicate m s))
  | .str s, m => some (strs (List.replicate m s))
  | _, _ => none
/-- Values of one kind, in their order. -/
def toInts (k : IntKind) : List AV → Option (List Int)
  | [] => some []
  | .int k' n :: l => if k' = k then (toInts k l).map (n :: ·) else none
  | _ => none
def toBools : List AV → Option (List Bool)
  | [] => some []
  | .bool b :: l => (toBools l).map (b :: ·)
  | _ => none
def toSls : List AV → Option (List SV)
  | [] => some []
  | .sl s :: l => (toSls l).map (s :: ·)
  | _ => none
def toStrs : List AV → Option (List (List UInt8))
  | [] => some []
  | .str s :: l => (toStrs l).map (s :: ·)
  | _ => none
def ofList : AV → List AV → Option Vals
  | .int k _, l => (toInts k l).map (ints k)
  | .bool _, l => (toBools l).map bools
  | .sl _, l => (toSls l).map sls
  | .str _, l => (toStrs l).map strs
  | _, _ => none
/-- The values of so many cells. -/
def cells (v : Vals) (o n : Nat) : List AV := (List.range n).map fun i => v.get (o + i)
/-- What a variable of many cells holds. -/
def ofAgg : List AV → Vals
  | [] => .ints .i64 []
  | z :: l => match ofList z (z :: l) with
    | some vs => vs
    | none => .mix (z :: l)
end Vals

structure Row where
  elem : TypeId
  fam : Nat
  own : Bool
  vals : Vals
  deriving Inhabited

abbrev Heap := List Row

/-- A store into row id at cell i: rows of the same family lose what they know from that cell on. -/
def Row.cut (r : Row) (i : Nat) : Row := { r with vals := r.vals.take i }
def Heap.cutFam (m : Heap) (f i : Nat) : Heap := m.map fun r => if r.own = true ∧ r.fam = f then r.cut i else r
def Heap.setRow (m : Heap) (id i : Nat) (r : Row) (v : Vals) : Heap := (m.cutFam r.fam i).set id { r with vals := v }

/-- What a cell holds. -/
def Heap.at (m : Heap) (id off : Nat) : Option AV :=
  match m[id]? with
  | some r => if off < r.vals.len then some (r.vals.get off) else none
  | none => none
/-- What so many cells hold. -/
def Heap.cells (m : Heap) (id off n : Nat) : Option (List AV) :=
  match m[id]? with
  | some r => if off + n ≤ r.vals.len then some (r.vals.cells off n) else none
  | none => none
def onCells (o : Option (List AV)) (K : XV → Prop) : Prop :=
  match o with
  | some l => K (.agg l)
  | none => False
/-- There is a value, and it is right. -/
def onSome (o : Option AV) (K : AV → Prop) : Prop :=
  match o with
  | some v => K v
  | none => False

/-- A frame: slots that are known, the newest first. -/
abbrev Frame := List (Nat × XV)
def Frame.get : Frame → Nat → Option XV
  | [], _ => none
  | (u, x) :: σ, t => bif u == t then some x else Frame.get σ t
def Frame.put (σ : Frame) (d : Option Nat) (x : XV) : Frame :=
  match d with
  | none => σ
  | some d => (d, x) :: σ
def Frame.keep (σ : Frame) : List Nat → Frame
  | [] => []
  | t :: L => match σ.get t with
    | some x => (t, x) :: Frame.keep σ L
    | none => Frame.keep σ L

inductive Opd where
  | tmp (t : Nat)
  | cst (v : AV)
  deriving Inhabited, Repr, DecidableEq

def Frame.ev (σ : Frame) : Opd → Option XV
  | .tmp t => σ.get t
  | .cst v => some (.one v)
def Frame.evOr (σ : Frame) (d : Int) : Option Opd → Option XV
  | none => some (.one (.int .i64 d))
  | some x => σ.ev x

inductive AOp where
  | mv (x : Opd)
  | pick (c a b : Opd)
  | bin (op : BinOp) (x y : Opd)
  | eqb (neg : Bool) (x y : Opd)
  | un (op : UnOp) (x : Opd)
  | conv (k : IntKind) (x : Opd)
  | idx (x i : Opd)
  | aidx (x i : Opd) (n : Nat)
  | fld (x : Opd) (off : Nat)
  | ld (a : Opd)
  | lda (a : Opd) (n : Nat)
  | nilck (x : Opd)
  | len (x : Opd)
  | slen (x : Opd)
  | ext (x : Opd) (i : Nat)
  | sub (x : Opd) (lo hi : Option Opd)
  | asl (x : Opd) (lo hi : Option Opd) (n : Nat)
  | mn (x y : Opd)
  | mx (x y : Opd)
  | bld (zero : List AV) (parts : List (Nat × Opd))
  | st (a v : Opd)
  | sta (a v : Opd) (n : Nat)
  | box (elem : TypeId) (v : Opd)
  | alc (elem : TypeId) (vs : Vals)
  | bsl (elem : TypeId) (zero : AV) (len : Nat) (parts : List (Nat × Opd))
  | mk (elem : TypeId) (zero : AV) (len cap : Opd)
  | app (elem : TypeId) (s x : Opd)
  | call (f : FuncId) (args : List Opd)
  | callq (f : FuncId) (args : List Opd)
  deriving Inhabited, Repr

structure AOper where
  dst : Option Nat
  op : AOp
  guard : Option (Nat × Bool) := none
  deriving Inhabited, Repr

inductive ACode where
  | skip
  | reg (ops : List AOper)
  | seq (a b : ACode)
  | cond (c : Opd) (a b : ACode)
  | block (id : Nat) (c : ACode)
  | loop (c : ACode)
  | exit (id : Nat)
  | ret
  deriving Inhabited, Repr

inductive AExit where
  | normal
  | exit (id : Nat)
  | ret

/-! ### What the parts of the state mean -/

def SV.ok (μ : Mu) (n : Nat) (s : SV) : Prop := match s.ref with | .nil => s = SV.nil | .far a => s = ⟨.far a, 0, 0⟩ | .row id => id < n ∧ s.off + s.len ≤ (μ id).cap
def AV.ok (μ : Mu) (n : Nat) : AV → Prop
  | .sl s => s.ok μ n
  | .ptr id _ => id < n
  | .psl id _ _ _ => id < n
  | _ => True
def XV.ok (μ : Mu) (n : Nat) : XV → Prop
  | .one v => v.ok μ n
  | .tup l | .agg l => ∀ v ∈ l, v.ok μ n
  | .undef => True
/-- A value that names no row. -/
def AV.flat : AV → Prop
  | .int .. | .bool _ | .str _ => True
  | _ => False
def flats : List AV → Prop
  | [] => True
  | v :: l => v.flat ∧ flats l
def XV.flat : XV → Prop
  | .one (.int ..) | .one (.bool _) | .one (.str _) => True
  | .tup l | .agg l => flats l
  | _ => False

/-- A row, in the world. -/
structure RowRel (B : Nat) (μ : Mu) (n : Nat) (id : Nat) (r : Row) (w : World) : Prop where
  fam : r.fam ≤ id
  ok : ∀ i, i < r.vals.len → (r.vals.get i).ok μ n
  own : r.own = true → (μ id).off = 0 ∧ B ≤ (μ id).blk ∧ (μ id).cap ≤ maxLen ∧
    ∃ cur, w.heap[(μ id).blk]? = some (.cells cur r.elem (0, 0)) ∧ cur.size = (μ id).cap ∧ ∀ i, i < r.vals.len → cur[i]? = some (conc μ (r.vals.get i))
  old : r.own = false → (μ id).blk < B ∧ ∀ i, i < r.vals.len → w.cell? ⟨(μ id).blk, (μ id).off + i, none⟩ = some (conc μ (r.vals.get i))

structure HRel (B : Nat) (w0 : World) (μ : Mu) (m : Heap) (w : World) : Prop where
  below : Below B w0 w
  le : B ≤ w.heap.size
  rows : ∀ id r, m[id]? = some r → RowRel B μ m.length id r w
  sep : ∀ i j r s, m[i]? = some r → m[j]? = some s → r.own = true → s.own = true → r.fam ≠ s.fam → (μ i).blk ≠ (μ j).blk

def Agree (n : Nat) (μ μ' : Mu) : Prop := ∀ i, i < n → μ' i = μ i

structure FRel (μ : Mu) (n : Nat) (σ : Frame) (tmps : Array Value) (k : Nat) : Prop where
  size : tmps.size = k
  slot : ∀ t x, σ.get t = some x → t < k ∧ x.ok μ n ∧ tmps[t]? = some (concX μ x)

/-- What a call comes to, over rows. -/
def ACalls (P : Program) (f : FuncId) (args : List XV) (m : Heap) (R : XV → Heap → Prop) : Prop :=
  ∀ B w0 μ w, HRel B w0 μ m w → (∀ x ∈ args, x.ok μ m.length) →
    Calls P f (args.map (concX μ)).toArray w fun e w' => ∃ x m' μ', R x m' ∧ e = .returned (concX μ' x) ∧ x.ok μ' m'.length ∧ HRel B w0 μ' m' w' ∧ m.length ≤ m'.length ∧ Agree m.length μ μ'

/-! ### What operations do -/

def bandInt (k : IntKind) (a b : Int) : Int := k.wrap (BitVec.ofInt k.bits a &&& BitVec.ofInt k.bits b).toNat
def borInt (k : IntKind) (a b : Int) : Int := k.wrap (BitVec.ofInt k.bits a ||| BitVec.ofInt k.bits b).toNat
def bxorInt (k : IntKind) (a b : Int) : Int := k.wrap (BitVec.ofInt k.bits a ^^^ BitVec.ofInt k.bits b).toNat
def bandNotInt (k : IntKind) (a b : Int) : Int := k.wrap (BitVec.ofInt k.bits a &&& ~~~BitVec.ofInt k.bits b).toNat
/-- A number that its kind holds. -/
def inR : IntKind → Int → Prop
  | .i64, n => -9223372036854775808 ≤ n ∧ n ≤ 9223372036854775807
  | k, n => k.wrap n = n

def abin (op : BinOp) (x y : AV) (K : AV → Prop) : Prop :=
  match op, x, y with
  | .shl, .int k a, .int _ b => (0 ≤ b ∧ b < k.bits) ∧ inR k (a * 2 ^ b.toNat) ∧ K (.int k (a * 2 ^ b.toNat))
  | .shr, .int k a, .int _ b => (0 ≤ b ∧ b < k.bits) ∧ K (.int k (a / 2 ^ b.toNat))
  | op, .int k a, .int k' b => k = k' ∧
    match op with
    | .add => inR k (a + b) ∧ K (.int k (a + b))
    | .sub => inR k (a - b) ∧ K (.int k (a - b))
    | .mul => inR k (a * b) ∧ K (.int k (a * b))
    | .quo => (0 ≤ a ∧ 0 < b) ∧ inR k (a / b) ∧ K (.int k (a / b))
    | .rem => (0 ≤ a ∧ 0 < b) ∧ K (.int k (a % b))
    | .and => K (.int k (bandInt k a b))
    | .or => K (.int k (borInt k a b))
    | .xor => K (.int k (bxorInt k a b))
    | .andNot => K (.int k (bandNotInt k a b))
    | .eql => K (.bool (decide (a = b)))
    | .neq => K (.bool (decide (a ≠ b)))
    | .lss => K (.bool (a < b))
    | .leq => K (.bool (a ≤ b))
    | .gtr => K (.bool (b < a))
    | .geq => K (.bool (b ≤ a))
    | _ => False
  | .eql, .str a, .str b => K (.bool (decide (a = b)))
  | .neq, .str a, .str b => K (.bool (decide (a ≠ b)))
  | .add, .str a, .str b => a.length + b.length ≤ 1099511627776 ∧ K (.str (a ++ b))
  | _, _, _ => False

def aun (op : UnOp) (x : AV) (K : AV → Prop) : Prop :=
  match op, x with
  | .neg, .int k n => inR k (0 - n) ∧ K (.int k (0 - n))
  | .not, .bool b => K (.bool !b)
  | _, _ => False

/-- What comes next, of a value alone; at the memory as it is. -/
def KV (K : XV → Prop) (v : AV) : Prop := K (.one v)
def KM (K : XV → Heap → Prop) (m : Heap) (x : XV) : Prop := K x m

/-- A quiet operation: one value, no change of memory. -/
def aopQ (op : AOp) (σ : Frame) (m : Heap) (K : XV → Prop) : Prop :=
  match op with
  | .mv x => match σ.ev x with | some v => K v | none => False
  | .pick c a b => match σ.ev c with
    | some (.one (.bool t)) => (t = true → match σ.ev a with | some v => K v | none => False) ∧ (t = false → match σ.ev b with | some v => K v | none => False)
    | _ => False
  | .bin op x y => match σ.ev x, σ.ev y with
    | some (.one a), some (.one b) => abin op a b fun v => K (.one v)
    | _, _ => False
  | .eqb neg x y => match σ.ev x, σ.ev y with
    | some (.one (.bool a)), some (.one (.bool b)) => K (.one (.bool (if neg then decide (a ≠ b) else decide (a = b))))
    | _, _ => False
  | .un op x => match σ.ev x with
    | some (.one a) => aun op a fun v => K (.one v)
    | _ => False
  | .conv k x => match σ.ev x with
    | some (.one (.int _ n)) => match k with
      | .i64 => inR .i64 n ∧ K (.one (.int .i64 n))
      | k => K (.one (.int k (k.wrap n)))
    | _ => False
  | .idx x i => match σ.ev x, σ.ev i with
    | some (.one (.sl s)), some (.one (.int _ n)) => (0 ≤ n ∧ n < s.len) ∧ K (.one (.ptr (s.ref.id) (s.off + n.toNat)))
    | _, _ => False
  | .aidx x i n => match σ.ev x, σ.ev i with
    | some (.one (.ptr id off)), some (.one (.int _ j)) => (0 ≤ j ∧ j < n) ∧ K (.one (.ptr id (off + j.toNat)))
    | _, _ => False
  | .fld x o => match σ.ev x with
    | some (.one (.ptr id off)) => K (.one (.ptr id (off + o)))
    | _ => False
  | .ld a => match σ.ev a with
    | some (.one (.ptr id off)) => onSome (m.at id off) (KV K)
    | _ => False
  | .lda a n => match σ.ev a with
    | some (.one (.ptr id off)) => onCells (m.cells id off n) K
    | _ => False
  | .nilck x => match σ.ev x with
    | some (.one (.ptr id off)) => K (.one (.ptr id off))
    | _ => False
  | .len x => match σ.ev x with
    | some (.one (.sl s)) => K (.one (.int .i64 s.len))
    | _ => False
  | .slen x => match σ.ev x with
    | some (.one (.str s)) => K (.one (.int .i64 s.length))
    | _ => False
  | .ext x i => match σ.ev x with
    | some (.tup l) => match l[i]? with | some v => K (.one v) | none => False
    | _ => False
  | .sub x lo hi =>
    match σ.ev x, σ.evOr 0 lo with
    | some (.one (.sl s)), some (.one (.int _ l)) =>
      match σ.evOr s.len hi with
      | some (.one (.int _ h)) => (0 ≤ l ∧ l ≤ h ∧ h ≤ s.len) ∧ (l = 0 ∨ l < s.len) ∧
        K (.one (.sl ⟨s.ref, s.off + l.toNat, h.toNat - l.toNat⟩))
      | _ => False
    | _, _ => False
  | .asl x lo hi n =>
    match σ.ev x, σ.evOr 0 lo, σ.evOr n hi with
    | some (.one (.ptr id off)), some (.one (.int _ l)), some (.one (.int _ h)) => (0 ≤ l ∧ l ≤ h ∧ h ≤ n) ∧ (l = 0 ∨ l < n) ∧
        K (.one (.psl id (off + l.toNat) (h.toNat - l.toNat) (n - l.toNat)))
    | _, _, _ => False
  | .mn x y => match σ.ev x, σ.ev y with
    | some (.one (.int k a)), some (.one (.int k' b)) => k = k' ∧ K (.one (.int k (min a b)))
    | _, _ => False
  | .mx x y => match σ.ev x, σ.ev y with
    | some (.one (.int k a)), some (.one (.int k' b)) => k = k' ∧ K (.one (.int k (max a b)))
    | _, _ => False
  | _ => False

/-- Values of operands. -/
def Frame.evs (σ : Frame) : List Opd → Option (List XV)
  | [] => some []
  | x :: l => match σ.ev x, Frame.evs σ l with
    | some v, some vs => some (v :: vs)
    | _, _ => none

def fillA (σ : Frame) (l : List AV) : List (Nat × Opd) → Option (List AV)
  | [] => some l
  | (i, x) :: ps => match σ.ev x with
    | some (.one v) => if i < l.length then fillA σ (l.set i v) ps else none
    | _ => none

def KU (K : XV → Heap → Prop) (m : Heap) : Prop := K .undef m
/-- A store. -/
def aSt (m : Heap) (id off : Nat) (v : AV) (K : Heap → Prop) : Prop :=
  match m[id]? with
  | some r => (r.own = true ∧ off < r.vals.len) ∧ match r.vals.set off v with
    | some vs => K (m.setRow id off r vs)
    | none => False
  | none => False

/-- A store of all cells of a row of the call's own. -/
def aStA (m : Heap) (id off n : Nat) (l : List AV) (K : Heap → Prop) : Prop :=
  match m[id]? with
  | some r => (r.own = true ∧ off = 0 ∧ n = l.length ∧ r.vals.len = n) ∧ K (m.setRow id 0 r (Vals.ofAgg l))
  | none => False

/-- append, of a slice to a slice. -/
def aApp (e : TypeId) (s x : SV) (m : Heap) (K : XV → Heap → Prop) : Prop :=
  match x.ref with
  | .row xi => match m[xi]? with
    | none => False
    | some rx => (x.off + x.len ≤ rx.vals.len ∧ s.len + x.len ≤ 1099511627776) ∧
      match s.ref with
      | .row si => match m[si]? with
        | none => False
        | some rs => (rs.own = true ∧ s.off = 0 ∧ s.len ≤ rs.vals.len ∧ rs.elem = e) ∧
          match (rs.vals.take s.len).app (rx.vals.sub x.off x.len) with
          | some vs => K (.one (.sl ⟨.row m.length, 0, s.len + x.len⟩)) (m.cutFam rs.fam s.len ++ [⟨e, rs.fam, true, vs⟩])
          | none => False
      | _ => (x.len = 0 → K (.one (.sl s)) m) ∧ (0 < x.len →
          K (.one (.sl ⟨.row m.length, 0, x.len⟩)) (m ++ [⟨e, m.length, true, rx.vals.sub x.off x.len⟩]))
  | _ => match s.ref with
    | .row si => match m[si]? with
      | some rs => (rs.own = true ∧ s.off = 0 ∧ s.len ≤ rs.vals.len) ∧ K (.one (.sl s)) m
      | none => False
    | _ => K (.one (.sl s)) m

/-- A call that hands back a value that names no row, and leaves all rows that were there. -/
def ACallq (P : Program) (f : FuncId) (xs : List XV) (m : Heap) (K : XV → Heap → Prop) : Prop :=
  ∃ x, ACalls P f xs m (fun x' m' => x' = x ∧ m <+: m') ∧ x.flat ∧ K x m

def aop (P : Program) (op : AOp) (σ : Frame) (m : Heap) (K : XV → Heap → Prop) : Prop :=
  match op with
  | .bld zero parts => match fillA σ zero parts with | some l => K (.agg l) m | none => False
  | .st a v => match σ.ev a, σ.ev v with
    | some (.one (.ptr id off)), some (.one v) => aSt m id off v (KU K)
    | _, _ => False
  | .sta a v n => match σ.ev a, σ.ev v with
    | some (.one (.ptr id off)), some (.agg l) => aStA m id off n l (KU K)
    | _, _ => False
  | .box e v => match σ.ev v with
    | some (.one v) => K (.one (.ptr m.length 0)) (m ++ [⟨e, m.length, true, .mix [v]⟩])
    | some (.agg l) => l.length ≤ 1024 ∧ K (.one (.ptr m.length 0)) (m ++ [⟨e, m.length, true, Vals.ofAgg l⟩])
    | _ => False
  | .alc e vs => vs.len ≤ 1024 ∧ K (.one (.ptr m.length 0)) (m ++ [⟨e, m.length, true, vs⟩])
  | .bsl e z n parts => match fillA σ (List.replicate n z) parts with
    | some l => match Vals.ofList z l with
      | some vs => K (.one (.sl ⟨.row m.length, 0, n⟩)) (m ++ [⟨e, m.length, true, vs⟩])
      | none => False
    | none => False
  | .mk e z l c => match σ.ev l, σ.ev c with
    | some (.one (.int .i64 l)), some (.one (.int .i64 c)) => (0 ≤ l ∧ l ≤ c ∧ c ≤ 1099511627776) ∧ match Vals.zeros z l.toNat with
      | some vs => K (.one (.sl ⟨.row m.length, 0, l.toNat⟩)) (m ++ [⟨e, m.length, true, vs⟩])
      | none => False
    | _, _ => False
  | .app e s x => match σ.ev s, σ.ev x with
    | some (.one (.sl s)), some (.one (.sl x)) => aApp e s x m K
    | some (.one (.sl s)), some (.one (.psl xi xo xl _)) => aApp e s ⟨.row xi, xo, xl⟩ m K
    | _, _ => False
  | .call f args => match σ.evs args with
    | some xs => ACalls P f xs m K
    | none => False
  | .callq f args => match σ.evs args with
    | some xs => ACallq P f xs m K
    | none => False
  | op => aopQ op σ m (KM K m)

/-- What comes behind an operation. -/
def Kont (F : Frame → Heap → Prop) (σ : Frame) (d : Option Nat) (x : XV) (m : Heap) : Prop := F (σ.put d x) m

def awpOps (P : Program) (Q : Frame → Heap → Prop) : List AOper → Frame → Heap → Prop
  | [], σ, m => Q σ m
  | o :: rest, σ, m => match o.guard with
    | none => aop P o.op σ m (Kont (awpOps P Q rest) σ o.dst)
    | some (g, b) => match σ.get g with
      | some (.one (.bool t)) => (t = b → aop P o.op ((g, .one (.bool b)) :: σ) m (Kont (awpOps P Q rest) ((g, .one (.bool b)) :: σ) o.dst)) ∧
          (t = !b → awpOps P Q rest (Frame.put ((g, .one (.bool !b)) :: σ) o.dst .undef) m)
      | some .undef => awpOps P Q rest (σ.put o.dst .undef) m
      | _ => False

def AExit.thn (next : Frame → Heap → Prop) (Q : AExit → Frame → Heap → Prop) : AExit → Frame → Heap → Prop
  | .normal => next
  | e => Q e
def AExit.blk (id : Nat) (Q : AExit → Frame → Heap → Prop) : AExit → Frame → Heap → Prop
  | .exit i => if i = id then Q .normal else Q (.exit i)
  | e => Q e

def aloop (step : (AExit → Frame → Heap → Prop) → Frame → Heap → Prop) (L : List Nat) (Q : AExit → Frame → Heap → Prop) : Nat → Frame → Heap → Prop
  | 0, _, _ => False
  | n + 1, σ, m => step (AExit.thn (fun σ' m' => aloop step L Q n σ' m') Q) (σ.keep L) m

def ALoop (step : (AExit → Frame → Heap → Prop) → Frame → Heap → Prop) (Q : AExit → Frame → Heap → Prop) (σ : Frame) (m : Heap) : Prop :=
  ∃ L n, aloop step L Q n σ m

def awp (P : Program) : ACode → (AExit → Frame → Heap → Prop) → Frame → Heap → Prop
  | .skip, Q, σ, m => Q .normal σ m
  | .reg ops, Q, σ, m => awpOps P (Q .normal) ops σ m
  | .seq a b, Q, σ, m => awp P a (AExit.thn (awp P b Q) Q) σ m
  | .cond c a b, Q, σ, m => match σ.ev c with
    | some (.one (.bool t)) => (t = true → awp P a Q σ m) ∧ (t = false → awp P b Q σ m)
    | _ => False
  | .block id c, Q, σ, m => awp P c (AExit.blk id Q) σ m
  | .loop c, Q, σ, m => ALoop (awp P c) Q σ m
  | .exit id, Q, σ, m => Q (.exit id) σ m
  | .ret, Q, σ, m => Q .ret σ m

end Go.Abs
