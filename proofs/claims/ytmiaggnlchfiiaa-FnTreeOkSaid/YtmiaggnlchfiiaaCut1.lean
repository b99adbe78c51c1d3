/- Nets less a wire, told by numbers. Own work; no condition. -/
import Derived.Test.YtmiaggnlchfiiaaPart3
import Derived.Test.YtmiaggnlchfiiaaLess
set_option maxRecDepth 100000
set_option linter.unusedSimpArgs false
set_option linter.unusedVariables false
namespace Go.Abs
open Go.Proofs
attribute [local irreducible] awp awpOps aloop ALoop ACalls ACallq AQuiet retPost AExit.thn AExit.blk aApp aSt
open Parts

/-! ### A tree less a wire -/

theorem row_pk {net : List Int} (h : NetOk net) {a : Nat} (ha : a < 6) : row (pk net) a = nrow net a := by
  have r := nrow_lt h
  have r0 := r 0
  have r1 := r 1
  have r2 := r 2
  have r3 := r 3
  have r4 := r 4
  have r5 := r 5
  have e : row (pk net) a = pk net / 2 ^ (8 * a) % 256 := by
    show (pk net >>> (8 * a)) &&& (2 ^ 8 - 1) = _
    rw [Nat.and_two_pow_sub_one_eq_mod, Nat.shiftRight_eq_div_pow]
  rw [e]
  unfold pk
  have hc : a = 0 ∨ a = 1 ∨ a = 2 ∨ a = 3 ∨ a = 4 ∨ a = 5 := by omega
  rcases hc with rfl | rfl | rfl | rfl | rfl | rfl <;> omega
theorem has_bit' (x k : Nat) : has x k = x.testBit k := by
  unfold has
  have e : Nat.land (Nat.shiftRight x k) 1 = x / 2 ^ k % 2 := by
    show (x >>> k) &&& 1 = _
    rw [Nat.and_one_is_mod, Nat.shiftRight_eq_div_pow]
  rw [e, Nat.testBit_eq_decide_div_mod_eq]
  cases hb : Nat.beq (x / 2 ^ k % 2) 1 with
  | true => exact (decide_eq_true (Nat.eq_of_beq_eq_true hb)).symm
  | false => exact (decide_eq_false fun c => by rw [c] at hb; cases hb).symm

theorem cuts_use {N n : Nat} (h : cuts N n = true) {a b : Nat} (hab : a < b) (hb : b < n) (hh : has (row N a) b = true) : pm (N - 2 ^ b * 256 ^ a - 2 ^ a * 256 ^ b) 6 (2 ^ n - 1) 0 = 2 := by
  have h1 := upto_all (upto_all h b hb) a hab
  simp only [hh, cond_true] at h1
  exact Nat.eq_of_beq_eq_true h1

theorem nrow_less2 {net : List Int} {a b : Nat} (h : NetOk net) (ha : a < net.length) (hb : b < net.length) (hab : a ≠ b) (hw : bit ((net.getD a 0)) b = true) (k : Nat) : nrow (less2 net a b) k = if k = b then nrow net b - 2 ^ a else if k = a then nrow net a - 2 ^ b else nrow net k := by
  have h6 := h.six
  have ga := bit_sub (h.small ha) (by omega : b < 6) hw
  have gb := bit_sub (h.small hb) (by omega : a < 6) (by rw [h.sym hb ha]; exact hw)
  unfold nrow
  rw [less2_get h ha hb hab hw]
  split
  · have := h.low b hb; have := gb.1; have := pow_nat a; omega
  · split
    · have := h.low a ha; have := ga.1; have := pow_nat b; omega
    · rfl
theorem pow_le_nrow {net : List Int} {a b : Nat} (h : NetOk net) (ha : a < net.length) (hb : b < 6) (hw : bit ((net.getD a 0)) b = true) : 2 ^ b ≤ nrow net a := by
  have ga := bit_sub (h.small ha) hb hw
  have := ga.1
  have := pow_nat b
  unfold nrow
  omega

set_option maxHeartbeats 8000000 in
theorem pk_less2 {net : List Int} {a b : Nat} (h : NetOk net) (ha : a < net.length) (hb : b < net.length) (hab : a < b) (hw : bit ((net.getD a 0)) b = true) : pk (less2 net a b) = pk net - 2 ^ b * 256 ^ a - 2 ^ a * 256 ^ b := by
  have h6 := h.six
  have hr := nrow_less2 h ha hb (by omega) hw
  have pa := pow_le_nrow h ha (by omega : b < 6) hw
  have pb := pow_le_nrow h hb (by omega : a < 6) (by rw [h.sym hb ha]; exact hw)
  unfold pk
  rw [hr 0, hr 1, hr 2, hr 3, hr 4, hr 5]
  have hc : (a = 0 ∧ b = 1) ∨ (a = 0 ∧ b = 2) ∨ (a = 0 ∧ b = 3) ∨ (a = 0 ∧ b = 4) ∨ (a = 0 ∧ b = 5) ∨ (a = 1 ∧ b = 2) ∨ (a = 1 ∧ b = 3) ∨ (a = 1 ∧ b = 4) ∨ (a = 1 ∧ b = 5) ∨ (a = 2 ∧ b = 3) ∨ (a = 2 ∧ b = 4) ∨ (a = 2 ∧ b = 5) ∨ (a = 3 ∧ b = 4) ∨ (a = 3 ∧ b = 5) ∨ (a = 4 ∧ b = 5) := by omega
  clear hr
  rcases hc with ⟨rfl, rfl⟩ | ⟨rfl, rfl⟩ | ⟨rfl, rfl⟩ | ⟨rfl, rfl⟩ | ⟨rfl, rfl⟩ | ⟨rfl, rfl⟩ | ⟨rfl, rfl⟩ | ⟨rfl, rfl⟩ | ⟨rfl, rfl⟩ | ⟨rfl, rfl⟩ | ⟨rfl, rfl⟩ | ⟨rfl, rfl⟩ | ⟨rfl, rfl⟩ | ⟨rfl, rfl⟩ | ⟨rfl, rfl⟩ <;> simp only [Nat.reduceEqDiff, if_true, if_false, Nat.reducePow, Nat.reduceMul] at pa pb ⊢ <;> omega

end Go.Abs
