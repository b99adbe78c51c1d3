/- A net less a wire. Own work; no condition. -/
import Derived.Test.YtcbnigipnepnkaaNear1
import Derived.Test.YtcbnigipnepnkaaWire2
set_option maxRecDepth 100000
set_option linter.unusedSimpArgs false
set_option linter.unusedVariables false
namespace Go.Abs
open Go.Proofs
attribute [local irreducible] awp awpOps aloop ALoop ACalls ACallq AQuiet retPost retPostA AExit.thn AExit.blk aApp aSt aStA

theorem sub_bit : ∀ n, n < 64 → ∀ b, b < 6 → n.testBit b = true → (2 ^ b ≤ n ∧ ∀ j, j < 6 → (n - 2 ^ b).testBit j = (n.testBit j && !(j == b))) := by decide +kernel
theorem bit_sub {n : Int} {b : Nat} (h0 : 0 ≤ n ∧ n < 64) (hb : b < 6) (h : bit n b = true) : 2 ^ b ≤ n ∧ ∀ j, j < 6 → bit (n - 2 ^ b) j = (bit n j && !(j == b)) := by
  obtain ⟨x, rfl⟩ := Int.eq_ofNat_of_zero_le h0.1
  have h' : x.testBit b = true := by unfold bit at h; exact h
  obtain ⟨h1, h2⟩ := sub_bit x (by omega) b hb h'
  have e : ((x : Int) - 2 ^ b) = ((x - 2 ^ b : Nat) : Int) := by rw [pow_nat]; omega
  refine ⟨by rw [pow_nat]; omega, fun j hj => ?_⟩
  rw [e]
  unfold bit
  exact h2 j hj

theorem getI_set {l : List Int} {i k : Nat} {x : Int} (hi : i < l.length) : (l.set i x).getD k 0 = if i = k then x else l.getD k 0 := by
  simp only [List.getD_eq_getElem?_getD, List.getElem?_set]
  by_cases h : i = k
  · subst h; simp [hi]
  · simp [h]

/-- A net less one end of a wire, less both. -/
def less1 (net : List Int) (a b : Nat) : List Int := net.set a ((net.getD a 0) - 2 ^ b)
def less2 (net : List Int) (a b : Nat) : List Int := (less1 net a b).set b (((less1 net a b).getD b 0) - 2 ^ a)
theorem less1_len (net : List Int) (a b : Nat) : (less1 net a b).length = net.length := by simp [less1]
theorem less2_len (net : List Int) (a b : Nat) : (less2 net a b).length = net.length := by simp [less2, less1]

theorem less1_b {net : List Int} {a b : Nat} (_ : NetOk net) (ha : a < net.length) (_ : b < net.length) (hab : a ≠ b) (_ : bit ((net.getD a 0)) b = true) : ((less1 net a b).getD b 0) = (net.getD b 0) := by rw [less1, getI_set ha, if_neg hab]

section
variable {net : List Int} {a b : Nat} (h : NetOk net) (ha : a < net.length) (hb : b < net.length) (hab : a ≠ b) (hw : bit ((net.getD a 0)) b = true)
include h ha hb hab hw

theorem less2_get (k : Nat) : ((less2 net a b).getD k 0) = if k = b then (net.getD b 0) - 2 ^ a else if k = a then (net.getD a 0) - 2 ^ b else (net.getD k 0) := by
  rw [less2, getI_set (by rw [less1_len]; exact hb), less1_b h ha hb hab hw, less1, getI_set ha]
  by_cases e : k = b
  · simp only [if_pos e, if_pos e.symm]
  · simp only [if_neg e, if_neg fun c : b = k => e c.symm]
    by_cases e2 : k = a
    · simp only [if_pos e2, if_pos e2.symm]
    · simp only [if_neg e2, if_neg fun c : a = k => e2 c.symm]

theorem less1_no : ¬ NetOk (less1 net a b) := by
  intro c
  have h6 := h.six
  have s := c.sym (k := b) (j := a) (by rw [less1_len]; exact hb) (by rw [less1_len]; exact ha)
  rw [less1_b h ha hb hab hw, less1, getI_set ha, if_pos rfl] at s
  rw [h.sym hb ha, hw, (bit_sub (h.small ha) (by omega) hw).2 b (by omega)] at s
  simp at s

theorem less2_bit {k : Nat} (hk : k < net.length) {j : Nat} (hj : j < net.length) : bit (((less2 net a b).getD k 0)) j = (bit ((net.getD k 0)) j && !((k == a && j == b) || (k == b && j == a))) := by
  have h6 := h.six
  rw [less2_get h ha hb hab hw]
  by_cases e : k = b
  · subst e
    rw [if_pos rfl, (bit_sub (h.small hb) (by omega) (by rw [h.sym hb ha]; exact hw)).2 j (by omega)]
    have e1 : (k == a) = false := by simpa using Ne.symm hab
    rw [e1]; simp
  · rw [if_neg e]
    by_cases e2 : k = a
    · subst e2
      rw [if_pos rfl, (bit_sub (h.small ha) (by omega) hw).2 j (by omega)]
      have e1 : (k == b) = false := by simpa using e
      rw [e1]; simp
    · rw [if_neg e2]
      simp [e, e2]

theorem less2_yes : NetOk (less2 net a b) := by
  have h6 := h.six
  have hl := less2_len net a b
  have ga := bit_sub (h.small ha) (by omega : b < 6) hw
  have gb := bit_sub (h.small hb) (by omega : a < 6) (by rw [h.sym hb ha]; exact hw)
  have pa := (pow_bounds (p := a) (by omega)).1
  have pb := (pow_bounds (p := b) (by omega)).1
  have va := h.high a ha
  have vb := h.high b hb
  refine ⟨by rw [hl]; exact h.pos, by rw [hl]; exact h6, fun k hk => ?_, fun k hk => ?_, fun k hk => ?_, fun k hk j hj => ?_⟩
  · rw [hl] at hk
    have := h.low k hk
    rw [less2_get h ha hb hab hw]
    split
    · omega
    · split <;> omega
  · rw [hl] at hk ⊢
    have := h.high k hk
    rw [less2_get h ha hb hab hw]
    split
    · omega
    · split <;> omega
  · rw [hl] at hk
    rw [less2_bit h ha hb hab hw hk hk, h.own k hk]
    rfl
  · rw [hl] at hk
    rw [less2_bit h ha hb hab hw hk (by omega), less2_bit h ha hb hab hw (by omega) hk, h.both k hk j hj]
    congr 2
    rw [Bool.or_comm]
    congr 1 <;> rw [Bool.and_comm]
end

theorem push64_no {net : List Int} : ¬ NetOk (net ++ [64]) := by
  intro c
  have h6 := c.six
  have h1 := c.high net.length (by simp)
  have h2 := pow_le6 h6
  have e : (net ++ [64]).getD net.length 0 = 64 := by simp [List.getD_eq_getElem?_getD]
  rw [e] at h1
  omega

end Go.Abs
