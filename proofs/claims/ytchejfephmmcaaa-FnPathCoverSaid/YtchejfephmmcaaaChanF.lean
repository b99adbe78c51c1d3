/- First fit of channels, gone through. Own work; no condition. -/
import Derived.Test.YtchejfephmmcaaaGrace4
import Derived.Test.YtchejfephmmcaaaOrd2
set_option maxRecDepth 100000
set_option linter.unusedSimpArgs false
set_option linter.unusedVariables false
namespace Go.Abs
open Go.Proofs
attribute [local irreducible] awp awpOps awpKeep KeepK awpKeepF KeepF aloop ALoop ACalls ACallq AQuiet retPost retPostA AExit.thn AExit.blk aApp aSt aStA
open Parts

/-! ### First fit, gone through -/

/-- The channels that are barred to a place by the places of V. -/
noncomputable def barr (N R V S p k : Nat) : Nat := @Nat.rec (fun _ => Nat) 0 (fun k ih => frc ih fun M => bif has V k then (bif has (row N p) k then Nat.lor M (Nat.shiftRight (Nat.shiftLeft 7 (lab R k)) 1) else bif has S k then Nat.lor M (Nat.shiftLeft 1 (lab R k)) else M) else M) k
/-- The least number from n on that is not in M. -/
noncomputable def gapp (M f : Nat) : Nat → Nat := @Nat.rec (fun _ => Nat → Nat) (fun n => n) (fun _ ih n => bif has M n then ih (Nat.succ n) else n) f
/-- Places in their own order. -/
noncomputable def ffI (N n k : Nat) : Nat := @Nat.rec (fun _ => Nat) 0 (fun k ih => frc ih fun R => frc (less (near N (row N k)) (Nat.pow 2 k)) fun S => frc (barr N R (Nat.sub (Nat.pow 2 k) 1) S k n) fun M => frc (gapp M 20 0) fun v => Nat.add R (Nat.mul v (Nat.pow 256 k))) k
/-- Each place a neighbour of some ahead of it. -/
noncomputable def ffT (N n f : Nat) : Nat → Nat → Nat := @Nat.rec (fun _ => Nat → Nat → Nat) (fun _ R => R)
  (fun _ ih V R => frc (Nat.pred (topp (less (near N V) V) n)) fun p => frc (less (near N (row N p)) (Nat.pow 2 p)) fun S => frc (barr N R V S p n) fun M => frc (gapp M 20 0) fun v => frc (Nat.lor V (Nat.pow 2 p)) fun V1 => frc (Nat.add R (Nat.mul v (Nat.pow 256 p))) fun R1 => ih V1 R1) f
noncomputable def okCh (n N R t : Nat) : Bool := upto (fun k => bif Nat.ble (lab R k) t then upto (fun j => bif (bif has (row N k) j then (bif Nat.ble (Nat.add (lab R j) 2) (lab R k) then true else Nat.ble (Nat.add (lab R k) 2) (lab R j)) else true) then (bif Nat.beq (Nat.land (row N k) (row N j)) 0 then true else (bif Nat.beq (lab R j) (lab R k) then false else true)) else false) k else false) n
noncomputable def mxd (N k : Nat) : Nat := @Nat.rec (fun _ => Nat) 0 (fun k ih => frc ih fun D => frc (pc (row N k)) fun a => bif Nat.ble a D then D else a) k
noncomputable def spanF (n N W : Nat) : Bool := frc (mxd N n) fun D => bif (bif Nat.ble D 2 then okCh n N (ffI N n n) (Nat.mul D (Nat.succ D)) else true) then (bif Nat.beq (Nat.succ W) n then (bif Nat.beq (pm N 6 (Nat.sub (Nat.pow 2 n) 1) 0) 1 then okCh n N (ffT N n (Nat.pred n) 1 0) (Nat.add D 2) else true) else true) else false
theorem spanF1 : chkF spanF 1 0 0 0 = true := by decide +kernel
theorem spanF2 : chkF spanF 2 0 0 0 = true := by decide +kernel
theorem spanF3 : chkF spanF 3 0 0 0 = true := by decide +kernel
theorem spanF4 : chkF spanF 4 0 0 0 = true := by decide +kernel
theorem spanF5 : chkF spanF 5 0 0 0 = true := by decide +kernel
theorem spanF6 : chkF spanF 6 0 0 0 = true := by decide +kernel


end Go.Abs
