/- The rows of caterpillars are parted. Own work; no condition. -/
import Derived.Test.YtnkmcllbljjeoaaAlpha1
import Derived.Test.YtnkmcllbljjeoaaBone6
set_option maxRecDepth 100000
set_option linter.unusedSimpArgs false
set_option linter.unusedVariables false
namespace Go.Abs
open Go.Proofs
attribute [local irreducible] awp awpOps awpKeep KeepK aloop ALoop ACalls ACallq AQuiet retPost retPostA AExit.thn AExit.blk aApp aSt aStA
open Parts

noncomputable def partF (n N W : Nat) : Bool := bif Nat.beq (Nat.succ W) n then (bif Nat.beq (pm N 6 (Nat.sub (Nat.pow 2 n) 1) 0) 1 then
  (frc (catR N n) fun R => frc (Nat.pred (Nat.mod (Nat.mod (colsP N n) big) 16)) fun c => upto (fun b => upto (fun a => bif has (row N b) a then (bif Nat.ble (lab R a) c then (bif Nat.ble (lab R b) c then false else true) else Nat.ble (lab R b) c) else true) b) n) else true) else true

theorem partF1 : chkF partF 1 0 0 0 = true := by decide +kernel
theorem partF2 : chkF partF 2 0 0 0 = true := by decide +kernel
theorem partF3 : chkF partF 3 0 0 0 = true := by decide +kernel
theorem partF4 : chkF partF 4 0 0 0 = true := by decide +kernel
theorem partF5 : chkF partF 5 0 0 0 = true := by decide +kernel
theorem partF6 : chkF partF 6 0 0 0 = true := by decide +kernel

theorem cat_parted {net : List Int} (hT : treeOk net = true) : 0 ≤ partedAt net (catL net) := by
  have hC := cat_is hT
  have hN := hC.ok
  have h6 := hN.six
  have hF := all_of partF1 partF2 partF3 partF4 partF5 partF6 hN
  obtain ⟨_, h1, h2⟩ := of_decide_eq_true hT
  rw [partMany, if_pos hN] at h1
  rw [wiresOf, if_pos hN] at h2
  unfold partF at hF
  rw [show Nat.beq (Nat.succ (wires net).length) net.length = true by rw [show Nat.succ (wires net).length = net.length by omega]; simp] at hF
  have e1 : pm (pk net) 6 (2 ^ net.length - 1) 0 = 1 := by omega
  have e2 : Nat.sub (Nat.pow 2 net.length) 1 = 2 ^ net.length - 1 := rfl
  rw [e2, e1] at hF
  simp only [frc_eq, cond_true, show Nat.beq 1 1 = true from rfl] at hF
  have eL : catL net = labs (catRow net) net.length := if_pos hT
  have hG := hC.grace
  rw [eL]
  refine (partedAt_of (n := ((Nat.pred (Nat.mod (Nat.mod (colsP (pk net) net.length) big) 16) : Nat) : Int)) hG (Int.natCast_nonneg _) fun i hi => ?_).2.1
  have eR : catR (pk net) net.length = catRow net := rfl
  rw [eR] at hF
  generalize Nat.pred (Nat.mod (Nat.mod (colsP (pk net) net.length) big) 16) = c at hF
  obtain ⟨x, y, e0, q1, q2, q3, q4⟩ := wire_at hi
  have hb : has (row (pk net) y) x = true := by
    rw [row_of hN (by omega), has_tbit]
    have := hN.sym q3 q1
    rw [q4] at this
    unfold bit at this
    exact this
  have hu := upto_all (upto_all hF y q3) x q2
  rw [hb, cond_true] at hu
  rw [perWire_get _ hi e0, perWire_get _ hi e0, labs_get q1, labs_get q3]
  cases hx : Nat.ble (lab (catRow net) x) c with
  | true =>
    rw [hx, cond_true] at hu
    have h3 := Nat.le_of_ble_eq_true hx
    have h4 : ¬ lab (catRow net) y ≤ c := fun h => by rw [Nat.ble_eq_true_of_le h] at hu; cases hu
    omega
  | false =>
    rw [hx, cond_false] at hu
    have h3 := Nat.le_of_ble_eq_true hu
    have h4 : ¬ lab (catRow net) x ≤ c := fun h => by rw [Nat.ble_eq_true_of_le h] at hx; cases hx
    omega

end Go.Abs
