/- Prime rows: each tree has one, by going through all nets. Own work; no condition. -/
import Derived.Test.YtedainddipahaaaNum1
import Derived.Test.YtedainddipahaaaGrace4
set_option maxRecDepth 100000
set_option linter.unusedSimpArgs false
set_option linter.unusedVariables false
namespace Go.Abs
open Go.Proofs
attribute [local irreducible] awp awpOps awpKeep KeepK awpKeepF KeepF aloop ALoop ACalls ACallq AQuiet retPost retPostA AExit.thn AExit.blk aApp aSt aStA
open Parts

/-- A prime row. -/
structure PrimeRow (net row : List Int) : Prop where
  ok : NetOk net
  len : row.length = net.length
  low : ∀ k, k < net.length → 1 ≤ (row.getD k 0) ∧ (row.getD k 0) ≤ net.length
  once : Once row
  co : ∀ b, b < net.length → ∀ a, a < b → bit ((net.getD b 0)) a = true → Nat.gcd ((row.getD a 0)).toNat ((row.getD b 0)).toNat = 1
noncomputable instance (net row : List Int) : Decidable (PrimeRow net row) := Classical.propDecidable _

noncomputable def copr (N a R x : Nat) (k : Nat) : Bool := @Nat.rec (fun _ => Bool) true (fun j ih => bif ih then (bif has (row N a) j then Nat.beq (Nat.gcd x (lab R j)) 1 else true) else false) k
/-- The first prime row from place a on; 0 if there is none, else the row with a mark above. -/
noncomputable def dfsP (n N : Nat) (f : Nat) : Nat → Nat → Nat → Nat := @Nat.rec (fun _ => Nat → Nat → Nat → Nat) (fun _ R _ => Nat.add R 1152921504606846976)
  (fun _ ih a R U => @Nat.rec (fun _ => Nat) 0 (fun x sofar => frc sofar fun found => bif Nat.beq found 0 then (bif has U x then 0 else bif copr N a R (Nat.succ x) a then
    frc (Nat.succ a) fun a1 => frc (Nat.add R (Nat.mul (Nat.succ x) (Nat.pow 256 a))) fun R1 => frc (Nat.add U (Nat.pow 2 x)) fun U1 => ih a1 R1 U1 else 0) else found) n) f
/-- Is a row prime? -/
noncomputable def okPr (n N R : Nat) : Bool :=
  upto (fun k => bif Nat.ble 1 (lab R k) then (bif Nat.ble (lab R k) n then upto (fun j => bif Nat.beq (lab R j) (lab R k) then false else bif has (row N k) j then Nat.beq (Nat.gcd (lab R j) (lab R k)) 1 else true) k else false) else false) n
noncomputable def primF (n N W : Nat) : Bool := bif Nat.beq (Nat.succ W) n then (bif Nat.beq (pm N 6 (Nat.sub (Nat.pow 2 n) 1) 0) 1 then
  frc (Nat.land (dfsP n N n 0 0 0) 1152921504606846975) fun R => okPr n N R else true) else true
theorem primF1 : chkF primF 1 0 0 0 = true := by decide +kernel
theorem primF2 : chkF primF 2 0 0 0 = true := by decide +kernel
theorem primF3 : chkF primF 3 0 0 0 = true := by decide +kernel
theorem primF4 : chkF primF 4 0 0 0 = true := by decide +kernel
theorem primF5 : chkF primF 5 0 0 0 = true := by decide +kernel
theorem primF6 : chkF primF 6 0 0 0 = true := by decide +kernel

theorem okPr_prime {net : List Int} (hN : NetOk net) {R : Nat} (h : okPr net.length (pk net) R = true) : PrimeRow net (labs R net.length) := by
  have h6 := hN.six
  have hb : ∀ b a, b < net.length → a < 6 → has (row (pk net) b) a = bit ((net.getD b 0)) a := fun b a hb ha => by
    rw [row_of hN (by omega), has_tbit]; unfold bit nrow; rfl
  have hk1 : ∀ k, k < net.length → 1 ≤ lab R k ∧ lab R k ≤ net.length ∧ ∀ j, j < k → lab R j ≠ lab R k ∧ (has (row (pk net) k) j = true → Nat.gcd (lab R j) (lab R k) = 1) := fun k hk => by
    obtain ⟨g1, g2⟩ := bif_and (upto_all h k hk)
    obtain ⟨g3, g4⟩ := bif_and (show (bif Nat.ble (lab R k) net.length then upto _ k else false) = true from g2)
    refine ⟨Nat.le_of_ble_eq_true g1, Nat.le_of_ble_eq_true g3, fun j hj => ?_⟩
    have g5 := upto_all g4 j hj
    cases e : Nat.beq (lab R j) (lab R k) with
    | true => rw [e] at g5; cases g5
    | false =>
      rw [e] at g5
      refine ⟨fun c => by rw [c] at e; simp at e, fun hh => ?_⟩
      rw [hh] at g5
      exact Nat.eq_of_beq_eq_true g5
  refine ⟨hN, labs_len _ _, fun k hk => ?_, fun k hk j hj e => ?_, fun b hb1 a hab hbit => ?_⟩
  · obtain ⟨q1, q2, _⟩ := hk1 k hk
    rw [labs_get hk]; omega
  · rw [labs_len] at hk
    obtain ⟨_, _, q3⟩ := hk1 k hk
    rw [labs_get hk, labs_get (by omega)] at e
    exact (q3 j hj).1 (by omega)
  · obtain ⟨_, _, q3⟩ := hk1 b hb1
    rw [labs_get hb1, labs_get (by omega), Int.toNat_natCast, Int.toNat_natCast]
    exact (q3 a hab).2 ((hb b a hb1 (by omega)).trans hbit)

/-- Each tree has a prime row. -/
theorem tree_prime {net : List Int} (h : treeOk net = true) : ∃ row, PrimeRow net row := by
  obtain ⟨hN, h1, h2⟩ := of_decide_eq_true h
  have h6 := hN.six
  have hp := hN.pos
  have hF := all_of primF1 primF2 primF3 primF4 primF5 primF6 hN
  rw [partMany, if_pos hN] at h1
  rw [wiresOf, if_pos hN] at h2
  unfold primF at hF
  rw [show Nat.beq (Nat.succ (wires net).length) net.length = true by rw [show Nat.succ (wires net).length = net.length by omega]; simp] at hF
  have e1 : pm (pk net) 6 (2 ^ net.length - 1) 0 = 1 := by omega
  have e2 : Nat.sub (Nat.pow 2 net.length) 1 = 2 ^ net.length - 1 := rfl
  rw [e2, e1] at hF
  simp only [frc_eq, cond_true, show Nat.beq 1 1 = true from rfl] at hF
  exact ⟨_, okPr_prime hN hF⟩

end Go.Abs
