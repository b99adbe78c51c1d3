/- A net less a wire has one wire less. Own work; no condition. -/
import Derived.Test.YtcbnigipnepnkaaLess
import Derived.Test.YtcbnigipnepnkaaSig
set_option maxRecDepth 100000
set_option linter.unusedSimpArgs false
set_option linter.unusedVariables false
namespace Go.Abs
open Go.Proofs
attribute [local irreducible] awp awpOps aloop ALoop ACalls ACallq AQuiet retPost retPostA AExit.thn AExit.blk aApp aSt aStA

theorem sizes_sig (net : List Int) : ∀ k, (sizes net k : Int) = sig k fun i => (pc ((net.getD i 0)).toNat : Int)
  | 0 => rfl
  | k + 1 => by rw [sig_succ, ← sizes_sig net k]; rfl

/-- A sum of which one part is less by one. -/
theorem sig_less {f g : Nat → Int} {a : Nat} : ∀ {n : Nat}, a < n → (∀ i, i ≠ a → g i = f i) → g a = f a - 1 → sig n g = sig n f - 1
  | 0, h, _, _ => absurd h (Nat.not_lt_zero _)
  | n + 1, h, h1, h2 => by
    rw [sig_succ, sig_succ]
    by_cases e : a = n
    · subst e
      rw [sig_congr (f := g) (g := f) fun i hi => h1 i (by omega), h2]; omega
    · rw [sig_less (n := n) (by omega) h1 h2, h1 n (by omega)]; omega

theorem pc_sub : ∀ n, n < 64 → ∀ b, b < 6 → n.testBit b = true → pc (n - 2 ^ b) + 1 = pc n := by decide +kernel
theorem pc_bit {n : Int} {b : Nat} (h0 : 0 ≤ n ∧ n < 64) (hb : b < 6) (h : bit n b = true) : pc (n - 2 ^ b).toNat + 1 = pc n.toNat := by
  obtain ⟨x, rfl⟩ := Int.eq_ofNat_of_zero_le h0.1
  have h1 := (bit_sub h0 hb h).1
  have h' : x.testBit b = true := by unfold bit at h; exact h
  have e : ((x : Int) - 2 ^ b).toNat = x - 2 ^ b := by rw [pow_nat] at h1 ⊢; omega
  rw [e]
  exact pc_sub x (by omega) b hb h'

theorem wires_less2 {net : List Int} {a b : Nat} (h : NetOk net) (ha : a < net.length) (hb : b < net.length) (hab : a ≠ b) (hw : bit ((net.getD a 0)) b = true) : (wires (less2 net a b)).length + 1 = (wires net).length := by
  have h6 := h.six
  have hY := less2_yes h ha hb hab hw
  have c1 := (count_wires h).1
  have c2 := (count_wires hY).1
  rw [less2_len] at c2
  have e1 := sizes_sig net net.length
  have e2 := sizes_sig (less2 net a b) net.length
  have hg := less2_get h ha hb hab hw
  have pa := pc_bit (h.small ha) (by omega : b < 6) hw
  have pb := pc_bit (h.small hb) (by omega : a < 6) (by rw [h.sym hb ha]; exact hw)
  have s1 := sig_less (f := fun i => (pc ((net.getD i 0)).toNat : Int)) (g := fun i => if i = a then (pc ((net.getD a 0) - 2 ^ b).toNat : Int) else (pc ((net.getD i 0)).toNat : Int)) ha (fun i hi => if_neg hi) (by simp only [if_true]; omega)
  have s2 := sig_less (f := fun i => if i = a then (pc ((net.getD a 0) - 2 ^ b).toNat : Int) else (pc ((net.getD i 0)).toNat : Int)) (g := fun i => (pc (((less2 net a b).getD i 0)).toNat : Int)) hb (fun i hi => by
    rw [hg, if_neg hi]
    by_cases e : i = a
    · rw [if_pos e, if_pos e]
    · rw [if_neg e, if_neg e]) (by
    rw [hg, if_pos rfl, if_neg (fun c => hab c.symm)]
    omega)
  rw [← e1] at s1
  omega

theorem bxor_bit : ∀ x, x < 64 → ∀ b, b < 6 → x.testBit b = true → bxorInt .i64 ((x : Nat) : Int) ((2 ^ b : Nat) : Int) = ((x - 2 ^ b : Nat) : Int) := by decide +kernel
theorem bxor_less {n : Int} {b : Nat} (h0 : 0 ≤ n ∧ n < 64) (hb : b < 6) (h : bit n b = true) : bxorInt .i64 n (2 ^ b) = n - 2 ^ b := by
  obtain ⟨x, rfl⟩ := Int.eq_ofNat_of_zero_le h0.1
  have h1 := (bit_sub h0 hb h).1
  have h' : x.testBit b = true := by unfold bit at h; exact h
  rw [pow_nat] at h1 ⊢
  rw [bxor_bit x (by omega) b hb h']
  omega

end Go.Abs
