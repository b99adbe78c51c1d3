/- Caterpillars as plain functions, a net told by one number; what is checked of each tree. Own work; no condition. -/
import Derived.Test.YtklmfnafbfghjaaGrace4
set_option maxRecDepth 100000
set_option linter.unusedSimpArgs false
set_option linter.unusedVariables false
namespace Go.Abs
open Go.Proofs
attribute [local irreducible] awp awpOps awpKeep KeepK awpKeepF KeepF aloop ALoop ACalls ACallq AQuiet retPost retPostA AExit.thn AExit.blk aApp aSt aStA
open Parts

/-- The places of two neighbours or more, of the first k. -/
noncomputable def inn (N k : Nat) : Nat := @Nat.rec (fun _ => Nat) 0 (fun k ih => frc ih fun s => bif Nat.ble 2 (pc (row N k)) then Nat.add s (Nat.pow 2 k) else s) k
/-- The least end of the backbone, one more; of the last d places. -/
noncomputable def stt (N I n d : Nat) : Nat := @Nat.rec (fun _ => Nat) 0 (fun d ih => frc (Nat.sub n (Nat.succ d)) fun k => bif (bif has I k then Nat.ble (pc (Nat.land (row N k) I)) 1 else false) then Nat.succ k else ih) d
/-- The greatest of a set, one more. -/
noncomputable def nx (X k : Nat) : Nat := @Nat.rec (fun _ => Nat) 0 (fun k ih => bif has X k then Nat.succ k else ih) k
/-- A list told by one number, sixteenfold, and its length: one more at its end. -/
def psh (P a : Nat) : Nat := Nat.add P (Nat.succ (Nat.mul a (Nat.mul 16 (Nat.pow 256 (Nat.mod P 16)))))
def pa (P k : Nat) : Nat := lab (Nat.div P 16) k
noncomputable def bn (N n f : Nat) : Nat → Nat → Nat → Nat := @Nat.rec (fun _ => Nat → Nat → Nat → Nat) (fun at1 _ P => bif Nat.beq at1 0 then P else 15)
  (fun _ ih at1 left P => bif Nat.beq at1 0 then P else frc (Nat.pred at1) fun a => frc (less left (Nat.pow 2 a)) fun l1 => frc (nx (Nat.land (row N a) l1) n) fun a1 => frc (psh P a) fun P1 => ih a1 l1 P1) f
noncomputable def boneP (N n : Nat) : Nat := frc (inn N n) fun I => bif Nat.beq I 0 then 1 else frc (stt N I n n) fun s => bn N n 7 s I 0
noncomputable def inP (P x k : Nat) : Bool := @Nat.rec (fun _ => Bool) false (fun k ih => bif Nat.beq (pa P k) x then true else ih) k
/-- The neighbours of c that are not in B, put at T's end. -/
noncomputable def nbp (N B c T j : Nat) : Nat := @Nat.rec (fun _ => Nat) T (fun j ih => frc ih fun T1 => bif (bif has (row N c) j then (bif inP B j (Nat.mod B 16) then false else true) else false) then psh T1 j else T1) j
noncomputable def colT (N n B k T : Nat) : Nat := frc (pa B k) fun c => frc (nbp N B c T n) fun T1 => bif Nat.ble (Nat.add k 2) (Nat.mod B 16) then psh T1 (pa B (Nat.succ k)) else T1
def big : Nat := 340282366920938463463374607431768211456
noncomputable def cols (N n B k : Nat) : Nat := @Nat.rec (fun _ => Nat) (psh 0 (pa B 0)) (fun k ih => frc ih fun S => bif Nat.beq (Nat.mod k 2) 0 then Nat.add (Nat.mod S big) (Nat.mul big (colT N n B k (Nat.div S big))) else Nat.add (colT N n B k (Nat.mod S big)) (Nat.mul big (Nat.div S big))) k
noncomputable def colsP (N n : Nat) : Nat := frc (boneP N n) fun B => cols N n B (Nat.mod B 16)
/-- A row's number of a place, set. -/
def setD (R i v : Nat) : Nat := Nat.add (Nat.sub R (Nat.mul (lab R i) (Nat.pow 256 i))) (Nat.mul v (Nat.pow 256 i))
noncomputable def setA (A R k : Nat) : Nat := @Nat.rec (fun _ => Nat) R (fun k ih => frc ih fun R1 => setD R1 (pa A k) k) k
noncomputable def setB (n B R k : Nat) : Nat := @Nat.rec (fun _ => Nat) R (fun k ih => frc ih fun R1 => setD R1 (pa B k) (Nat.sub (Nat.sub n 1) k)) k
noncomputable def catR (N n : Nat) : Nat := frc (colsP N n) fun S => frc (Nat.mod S big) fun A => frc (Nat.div S big) fun B => setB n B (setA A 0 (Nat.mod A 16)) (Nat.mod B 16)
/-- Wires between two columns, and that none crosses one: the least second end allowed, and sixteenfold how many; 4096 if one crosses. -/
noncomputable def scan (N A B i S j : Nat) : Nat := @Nat.rec (fun _ => Nat) S (fun j ih => frc ih fun S1 => bif Nat.ble 4096 S1 then 4096 else bif has (row N (pa A i)) (pa B j) then (bif Nat.ble (Nat.mod S1 16) j then Nat.add j (Nat.mul 16 (Nat.succ (Nat.div S1 16))) else 4096) else S1) j
noncomputable def scans (N A B i : Nat) : Nat := @Nat.rec (fun _ => Nat) 0 (fun i ih => frc ih fun S => scan N A B i S (Nat.mod B 16)) i
noncomputable def below (P n : Nat) : Bool := upto (fun k => Nat.ble (Nat.succ (pa P k)) n) (Nat.mod P 16)
noncomputable def catF (n N W : Nat) : Bool := bif Nat.beq (Nat.succ W) n then (bif Nat.beq (pm N 6 (Nat.sub (Nat.pow 2 n) 1) 0) 1 then
  (frc (inn N n) fun I => frc (boneP N n) fun P => frc (Nat.mod P 16) fun L => frc (colsP N n) fun S => frc (Nat.mod S big) fun A => frc (Nat.div S big) fun B => frc (catR N n) fun R =>
    bif upto (fun k => Nat.ble (pc (Nat.land (row N k) I)) 2) n then bif Nat.ble 1 L then bif below P n then bif (bif Nat.ble n 2 then Nat.ble L n else Nat.ble (Nat.add L 2) n) then
    bif upto (fun k => bif Nat.beq k 0 then true else (bif has (row N (pa P (Nat.pred k))) (pa P k) then Nat.ble 2 (pc (row N (pa P k))) else false)) L then
    bif upto (fun k => frc (cols N n P k) fun S => bif Nat.ble (Nat.mod (Nat.mod S big) 16) 6 then Nat.ble (Nat.mod (Nat.div S big) 16) 6 else false) (Nat.succ L) then bif below A n then bif below B n then bif Nat.beq (Nat.add (Nat.mod A 16) (Nat.mod B 16)) n then bif Nat.ble 1 (Nat.mod A 16) then
    bif (frc (scans N A B (Nat.mod A 16)) fun S => bif Nat.ble 4096 S then false else Nat.beq (Nat.div S 16) W) then bif okRow n N W R then Nat.beq (lab R (pa A 0)) 0
    else false else false else false else false else false else false else false else false else false else false else false else false) else true) else true

theorem catF1 : chkF catF 1 0 0 0 = true := by decide +kernel
theorem catF2 : chkF catF 2 0 0 0 = true := by decide +kernel
theorem catF3 : chkF catF 3 0 0 0 = true := by decide +kernel
theorem catF4 : chkF catF 4 0 0 0 = true := by decide +kernel
theorem catF5 : chkF catF 5 0 0 0 = true := by decide +kernel
theorem catF6 : chkF catF 6 0 0 0 = true := by decide +kernel

end Go.Abs
