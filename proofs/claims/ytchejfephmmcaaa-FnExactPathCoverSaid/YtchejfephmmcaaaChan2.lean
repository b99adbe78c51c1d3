/- Channels and paths of the other net. Own work; no condition. -/
import Derived.Test.YtchejfephmmcaaaChan1
set_option maxRecDepth 100000
set_option linter.unusedSimpArgs false
set_option linter.unusedVariables false
namespace Go.Abs
open Go.Proofs
attribute [local irreducible] awp awpOps awpKeep KeepK awpKeepF KeepF aloop ALoop ACalls ACallq AQuiet retPost retPostA AExit.thn AExit.blk aApp aSt aStA

/-! ### The other net -/

def other (net : List Int) : List Int := if NetOk net then (List.range net.length).map fun k : Nat => 2 ^ net.length - 1 - (net.getD k 0) - 2 ^ k else []
theorem other_bit : ∀ n, n < 7 → ∀ s, s < 2 ^ n → ∀ k, k < n → s.testBit k = false → s + 2 ^ k < 2 ^ n ∧ ∀ j, j < n → (2 ^ n - 1 - s - 2 ^ k).testBit j = (decide (j ≠ k) && !(s.testBit j)) := by decide +kernel
theorem other_get {net : List Int} (hN : NetOk net) {k : Nat} (hk : k < net.length) : (other net).length = net.length ∧ (0 ≤ (other net).getD k 0 ∧ (other net).getD k 0 < 2 ^ net.length) ∧ ∀ j, j < net.length → bit ((other net).getD k 0) j = (decide (j ≠ k) && !(bit ((net.getD k 0)) j)) := by
  have e : other net = (List.range net.length).map fun k : Nat => 2 ^ net.length - 1 - (net.getD k 0) - 2 ^ k := if_pos hN
  have eg : (other net).getD k 0 = 2 ^ net.length - 1 - (net.getD k 0) - 2 ^ k := by rw [e]; simp [List.getD_eq_getElem?_getD, hk]
  obtain ⟨s, hs⟩ := Int.eq_ofNat_of_zero_le (hN.low k hk)
  have hh := hN.high k hk
  have ho := hN.own k hk
  rw [eg, hs] at *
  have hp : (2 : Int) ^ net.length = ((2 ^ net.length : Nat) : Int) := by simp
  have hpk : (2 : Int) ^ k = ((2 ^ k : Nat) : Int) := by simp
  rw [hp] at hh ⊢
  rw [hpk]
  rw [bit_nat] at ho
  obtain ⟨q1, q2⟩ := other_bit net.length (by have := hN.six; omega) s (by omega) k hk ho
  have q3 : (s : Int) + ((2 ^ k : Nat) : Int) < ((2 ^ net.length : Nat) : Int) := by rw [← Int.natCast_add]; exact Int.ofNat_lt.2 q1
  have q4 : 0 ≤ ((2 ^ k : Nat) : Int) := Int.natCast_nonneg _
  refine ⟨by rw [e]; simp, by generalize ((2 ^ k : Nat) : Int) = B at *; generalize ((2 ^ net.length : Nat) : Int) = A at *; omega, fun j hj => ?_⟩
  rw [show (((2 ^ net.length : Nat) : Int) - 1 - (s : Int) - ((2 ^ k : Nat) : Int)) = ((2 ^ net.length - 1 - s - 2 ^ k : Nat) : Int) by omega, bit_nat, bit_nat, q2 j hj]
theorem other_len {net : List Int} (hN : NetOk net) : (other net).length = net.length := (other_get hN (k := 0) hN.pos).1
theorem other_net {net : List Int} (hN : NetOk net) : NetOk (other net) := by
  have hl := other_len hN
  refine ⟨by rw [hl]; exact hN.pos, by rw [hl]; exact hN.six, fun k hk => ?_, fun k hk => ?_, fun k hk => ?_, fun k hk j hj => ?_⟩
  · rw [hl] at hk; exact (other_get hN hk).2.1.1
  · rw [hl] at hk ⊢; exact (other_get hN hk).2.1.2
  · rw [hl] at hk; rw [(other_get hN hk).2.2 k hk]; simp
  · rw [hl] at hk
    rw [(other_get hN hk).2.2 j (by omega), (other_get hN (show j < net.length by omega)).2.2 k hk, hN.sym hk (by omega)]
    have : decide (j ≠ k) = decide (k ≠ j) := decide_eq_decide.2 ⟨fun h c => h c.symm, fun h c => h c.symm⟩
    rw [this]
theorem other_ord {net x : List Int} (hN : NetOk net) : OrdOk (other net) x ↔ OrdOk net x := by
  have hl := other_len hN
  constructor
  · rintro ⟨⟨_, h1, h2⟩, h3⟩; rw [hl] at h1 h2; exact ⟨⟨hN, h1, h2⟩, h3⟩
  · rintro ⟨⟨_, h1, h2⟩, h3⟩; exact ⟨⟨other_net hN, by rw [hl]; exact h1, by rw [hl]; exact h2⟩, h3⟩
theorem other_adj {net : List Int} (hN : NetOk net) {a b : Nat} (ha : a < net.length) (hb : b < net.length) (hab : a ≠ b) : adj (other net) (a : Int) (b : Int) = !(adj net (a : Int) (b : Int)) := by
  rw [adj_nat, adj_nat, (other_get hN ha).2.2 b hb, decide_eq_true (Ne.symm hab), Bool.true_and]

/-! ### Neighbours side by side -/

/-! ### Places in the order of their channels -/

open Classical in
/-- How many channels below T are those of a bad place. -/
noncomputable def hc (net g : List Int) (T : Nat) : Int := sig T fun v => if ∃ w, Bad net g w ∧ (g.getD w 0) = (v : Int) then 1 else 0
end Go.Abs
