/- Wires between two columns, one after the other. Own work; no condition. -/
import Derived.Test.YtakgeocdbplpjaaBone6
set_option maxRecDepth 100000
set_option linter.unusedSimpArgs false
set_option linter.unusedVariables false
namespace Go.Abs
open Go.Proofs
attribute [local irreducible] awp awpOps awpKeep KeepK aloop ALoop ACalls ACallq AQuiet retPost retPostA AExit.thn AExit.blk aApp aSt aStA
open Parts

theorem scan_succ (N A B i S j : Nat) : scan N A B i S (j + 1) = if 4096 ≤ scan N A B i S j then 4096 else if (row N (pa A i)).testBit (pa B j) = true then (if scan N A B i S j % 16 ≤ j then j + 16 * (scan N A B i S j / 16 + 1) else 4096) else scan N A B i S j := by
  have e : scan N A B i S (j + 1) = frc (scan N A B i S j) fun S1 => bif Nat.ble 4096 S1 then 4096 else bif has (row N (pa A i)) (pa B j) then (bif Nat.ble (Nat.mod S1 16) j then Nat.add j (Nat.mul 16 (Nat.succ (Nat.div S1 16))) else 4096) else S1 := rfl
  rw [e, frc_eq, has_tbit]
  generalize scan N A B i S j = z
  cases hb : Nat.ble 4096 z with
  | true => rw [if_pos (Nat.le_of_ble_eq_true hb)]; rfl
  | false =>
    rw [if_neg fun c => (by rw [Nat.ble_eq_true_of_le c] at hb; cases hb)]
    cases ht : (row N (pa A i)).testBit (pa B j) with
    | false => rfl
    | true =>
      rw [if_pos rfl]
      cases hc : Nat.ble (Nat.mod z 16) j with
      | true => rw [if_pos (show z % 16 ≤ j from Nat.le_of_ble_eq_true hc)]; rfl
      | false => rw [if_neg fun c : z % 16 ≤ j => (by rw [show Nat.ble (Nat.mod z 16) j = true from Nat.ble_eq_true_of_le c] at hc; cases hc)]; rfl
theorem scans_succ (N A B i : Nat) : scans N A B (i + 1) = scan N A B i (scans N A B i) (B % 16) := by
  have e : scans N A B (i + 1) = frc (scans N A B i) fun S => scan N A B i S (Nat.mod B 16) := rfl
  rw [e, frc_eq]; rfl
theorem scan_stick (N A B i S : Nat) {j : Nat} : ∀ {n : Nat}, j ≤ n → 4096 ≤ scan N A B i S j → 4096 ≤ scan N A B i S n
  | 0, h, hs => by rw [Nat.le_zero.1 h] at hs; exact hs
  | n + 1, h, hs => by
    by_cases e : j = n + 1
    · rw [← e]; exact hs
    · rw [scan_succ, if_pos (scan_stick N A B i S (by omega : j ≤ n) hs)]; exact Nat.le_refl _
theorem scans_stick (N A B : Nat) {i : Nat} : ∀ {n : Nat}, i ≤ n → 4096 ≤ scans N A B i → 4096 ≤ scans N A B n
  | 0, h, hs => by rw [Nat.le_zero.1 h] at hs; exact hs
  | n + 1, h, hs => by
    by_cases e : i = n + 1
    · rw [← e]; exact hs
    · rw [scans_succ]
      exact scan_stick N A B n _ (Nat.zero_le _) (scans_stick N A B (by omega : i ≤ n) hs)

end Go.Abs
