/- Parts and sides of nets as plain functions, a net told by one number; what is checked of each net. Own work; no condition. -/
import Derived.Test.YtedainddipahaaaUse
namespace Go.Abs.Parts

/-- f of a number, which is told first. -/
noncomputable def frc {α : Type} (v : Nat) (f : Nat → α) : α := @Nat.rec (fun _ => α) (f 0) (fun m _ => f (Nat.succ m)) v
theorem frc_eq {α : Type} (v : Nat) (f : Nat → α) : frc v f = f v := by cases v <;> rfl
/-- Sets of places, told by a number, laid out a byte a place. -/
def spread (s : Nat) : Nat := Nat.land (Nat.mul s 34630287489) 1103823438081
def pick1 (y : Nat) : Nat := Nat.land (Nat.lor y (Nat.lor (Nat.shiftRight y 8) (Nat.shiftRight y 16))) 63
/-- All places with a neighbour in s; a net is told by one number, a byte a place. -/
noncomputable def near (N s : Nat) : Nat := frc (Nat.land N (Nat.mul (spread s) 63)) fun x => pick1 (Nat.lor x (Nat.shiftRight x 24))
/-- x without y, below 64. -/
def less (x y : Nat) : Nat := Nat.land x (Nat.xor y 63)
def has (x k : Nat) : Bool := Nat.beq (Nat.land (Nat.shiftRight x k) 1) 1
def least (x : Nat) : Nat := Nat.land x (Nat.sub 64 x)
/-- The waves from a set: even, odd, the newest one; 4096 if they go on. -/
noncomputable def wv (N f : Nat) : Nat → Nat → Nat → Nat :=
  @Nat.rec (fun _ => Nat → Nat → Nat → Nat) (fun e o w => bif Nat.beq w 0 then Nat.add e (Nat.mul 64 o) else 4096)
    (fun _ ih e o w => bif Nat.beq w 0 then Nat.add e (Nat.mul 64 o) else
      frc (less (near N w) (Nat.lor e o)) fun a => frc (Nat.lor o a) fun o1 => frc (less (near N a) (Nat.lor e o1)) fun w1 => frc (Nat.lor e w1) fun e1 => ih e1 o1 w1) f
/-- How many parts, taken one by one. -/
noncomputable def pm (N f : Nat) : Nat → Nat → Nat :=
  @Nat.rec (fun _ => Nat → Nat → Nat) (fun left n => bif Nat.beq left 0 then n else 1000)
    (fun _ ih left n => bif Nat.beq left 0 then n else frc (least left) fun s => frc (wv N 5 s 0 s) fun R => bif Nat.ble 4096 R then 1000 else
      frc (less left (Nat.lor (Nat.mod R 64) (Nat.div R 64))) fun left1 => ih left1 (Nat.succ n)) f
/-- The side, part by part; 777 if there is none. -/
noncomputable def sdi (N f : Nat) : Nat → Nat → Nat :=
  @Nat.rec (fun _ => Nat → Nat → Nat) (fun left d => bif Nat.beq left 0 then d else 1000)
    (fun _ ih left d => bif Nat.beq left 0 then d else frc (least left) fun s => frc (wv N 5 s 0 s) fun R => bif Nat.ble 4096 R then 1000 else
      frc (Nat.mod R 64) fun e => frc (Nat.div R 64) fun o =>
      bif Nat.beq (Nat.land (near N e) e) 0 then (bif Nat.beq (Nat.land (near N o) o) 0 then frc (less left (Nat.lor e o)) fun left1 => ih left1 (Nat.lor d e) else 777) else 777) f
/-- The part of a set, step by step. -/
noncomputable def pt (N f : Nat) : Nat → Nat :=
  @Nat.rec (fun _ => Nat → Nat) (fun s => s) (fun _ ih s => frc (Nat.lor s (near N s)) fun t => bif Nat.beq t s then s else ih t) f
noncomputable def fixed (N s : Nat) : Bool := Nat.beq (Nat.lor s (near N s)) s
/-- Is the place k the least of its part? 2 if its steps go on. -/
noncomputable def first (N k : Nat) : Nat := frc (Nat.pow 2 k) fun q => frc (pt N 6 q) fun C => bif fixed N C then (bif Nat.beq (Nat.land C (Nat.sub q 1)) 0 then 1 else 0) else 2
noncomputable def cnt (N k : Nat) : Nat :=
  @Nat.rec (fun _ => Nat) 0 (fun k ih => frc (first N k) fun i => bif Nat.beq i 2 then 2000 else Nat.add ih i) k
def row (N a : Nat) : Nat := Nat.land (Nat.shiftRight N (Nat.mul 8 a)) 255
/-- One place of a pass that gives neighbours the other side; both sides in one number. -/
noncomputable def prow (N a S : Nat) : Nat := frc (Nat.mod S 64) fun A => frc (Nat.div S 64) fun B =>
  bif has A a then Nat.add A (Nat.mul 64 (Nat.lor B (less (row N a) (Nat.lor A B)))) else bif has B a then Nat.add (Nat.lor A (less (row N a) (Nat.lor A B))) (Nat.mul 64 B) else S
noncomputable def pass (N n : Nat) : Nat → Nat := @Nat.rec (fun _ => Nat → Nat) (fun S => S) (fun a ih S => frc (ih S) fun T => prow N a T) n
noncomputable def rep (N n f : Nat) : Nat → Nat := @Nat.rec (fun _ => Nat → Nat) (fun S => S) (fun _ ih S => frc (Nat.lor (Nat.mod S 64) (Nat.div S 64)) fun U => bif Nat.beq (less (near N U) U) 0 then S else frc (pass N n S) ih) f
noncomputable def sds (N n k : Nat) : Nat :=
  @Nat.rec (fun _ => Nat) 0 (fun k ih => frc ih fun S => bif Nat.ble 4096 S then S else frc (first N k) fun i => bif Nat.beq i 2 then 8192 else
    bif Nat.beq i 1 then (bif has S k then 8192 else bif has S (Nat.add 6 k) then 8192 else rep N n n (Nat.add S (Nat.pow 2 k))) else (bif has S k then rep N n n S else S)) k
noncomputable def proper (N A : Nat) : Bool := Nat.beq (Nat.land (near N A) A) 0
noncomputable def sdsEnd (N n : Nat) : Nat := frc (sds N n n) fun S => bif Nat.ble 4096 S then 2000 else frc (Nat.mod S 64) fun A => frc (Nat.div S 64) fun B =>
  bif Nat.beq (Nat.lor A B) (Nat.sub (Nat.pow 2 n) 1) then (bif proper N A then (bif proper N B then A else 777) else 777) else 2000
noncomputable def upto (P : Nat → Bool) (n : Nat) : Bool := @Nat.rec (fun _ => Bool) true (fun k ih => bif P k then ih else false) n
/-- What a tree keeps: without a wire there are two parts. -/
noncomputable def cuts (N n : Nat) : Bool := upto (fun b => upto (fun a => bif has (row N a) b then Nat.beq (pm (Nat.sub (Nat.sub N (Nat.mul (Nat.pow 2 b) (Nat.pow 256 a))) (Nat.mul (Nat.pow 2 a) (Nat.pow 256 b))) 6 (Nat.sub (Nat.pow 2 n) 1) 0) 2 else true) b) n
noncomputable def fact (n N W : Nat) : Bool := frc (Nat.sub (Nat.pow 2 n) 1) fun full => frc (pm N 6 full 0) fun p => frc (sdi N 6 full 0) fun d =>
  bif Nat.beq p (cnt N n) then bif Nat.ble 1 p then bif Nat.ble p n then bif Nat.ble n (Nat.add p W) then bif (bif Nat.beq p n then Nat.beq W 0 else Nat.ble 1 W) then
  bif Nat.beq d (sdsEnd N n) then bif (bif Nat.beq d 777 then true else bif Nat.beq (Nat.land d 1) 1 then bif Nat.ble d full then bif proper N d then proper N (less full d) else false else false else false) then
  (bif Nat.beq p 1 then bif Nat.beq (Nat.succ W) n then bif Nat.beq d 777 then false else cuts N n else true else true) else false else false else false else false else false else false else false
def pop (s : Nat) : Nat := Nat.add (Nat.mod s 2) (Nat.add (Nat.mod (Nat.div s 2) 2) (Nat.add (Nat.mod (Nat.div s 4) 2) (Nat.add (Nat.mod (Nat.div s 8) 2) (Nat.mod (Nat.div s 16) 2))))
/-- One place more, a neighbour of the places of s. -/
def ext (n N s : Nat) : Nat := Nat.add N (Nat.add (Nat.mul (spread s) (Nat.pow 2 n)) (Nat.mul s (Nat.pow 256 n)))
/-- All nets with d places more than this one. -/
noncomputable def chk (d : Nat) : Nat → Nat → Nat → Bool := @Nat.rec (fun _ => Nat → Nat → Nat → Bool) fact
  (fun _ ih n N W => upto (fun s => frc (ext n N s) fun N1 => frc (Nat.add W (pop s)) fun W1 => ih (Nat.succ n) N1 W1) (Nat.pow 2 n)) d

/-- The nets of six places, an eighth of them. -/
noncomputable def eighth (i : Nat) : Bool := upto (fun s1 => upto (fun s2 => frc (ext 3 (ext 2 (ext 1 0 s1) s2) i) fun N => frc (Nat.add (Nat.add (pop s1) (pop s2)) (pop i)) fun W => chk 2 4 N W) 4) 2
end Go.Abs.Parts
