/- Orders: nets of one part have no empty cut; which nets have rows of width one. Own work; no condition. -/
import Derived.Test.YtedainddipahaaaOrd1
import Derived.Test.YtedainddipahaaaAlpha2
import Derived.Test.YtedainddipahaaaPart2
import Derived.Test.YtedainddipahaaaGrace4
set_option maxRecDepth 100000
set_option linter.unusedSimpArgs false
set_option linter.unusedVariables false
namespace Go.Abs
open Go.Proofs
attribute [local irreducible] awp awpOps awpKeep KeepK awpKeepF KeepF aloop ALoop ACalls ACallq AQuiet retPost retPostA AExit.thn AExit.blk aApp aSt aStA
open Parts

/-! ### One part -/

section
variable {net : List Int} {c : Nat → Bool}
theorem InCl.same (hN : NetOk net) (hc : ∀ x y, x < net.length → y < net.length → bit ((net.getD x 0)) y = true → c x = c y) {b : Bool} {x : Nat} (h64 : x < 64) (hx : InCl net c b x) : InCl net c b (Parts.near (pk net) x) := fun j hj => by
  rw [near_pk hN h64] at hj
  obtain ⟨i, h1, h2, h3⟩ := (nearTo_tb net x j net.length).1 hj
  have hj' : j < net.length := Nat.lt_of_not_le fun hle => by
    have hl : nrow net i < 2 ^ net.length := by
      have := hN.high i h1
      have h0 := hN.low i h1
      unfold nrow
      have e : ((2 : Int) ^ net.length) = ((2 ^ net.length : Nat) : Int) := by simp
      omega
    have := Nat.testBit_lt_two_pow (Nat.lt_of_lt_of_le hl (Nat.pow_le_pow_right (by decide) hle))
    rw [h3] at this
    cases this
  exact ⟨hj', by rw [← hc i j h1 hj' (by rw [bit_nrow]; exact h3)]; exact (hx i h2).2⟩
theorem pt_class (hN : NetOk net) (hc : ∀ x y, x < net.length → y < net.length → bit ((net.getD x 0)) y = true → c x = c y) {b : Bool} : ∀ (f s : Nat), s < 64 → InCl net c b s → InCl net c b (pt (pk net) f s)
  | 0, _, _, h => h
  | f + 1, s, h64, h => by
    rw [pt_succ]
    split
    · exact h
    · exact pt_class hN hc f _ (lor64 h64 (near64 hN h64)) (h.lor (h.same hN hc h64))
theorem first_least (hN : NetOk net) (hc : ∀ x y, x < net.length → y < net.length → bit ((net.getD x 0)) y = true → c x = c y) {k : Nat} (hk : k < net.length) (hl : ∀ j, j < k → c j ≠ c k) (h2 : first (pk net) k ≠ 2) : first (pk net) k = 1 := by
  have h6 := hN.six
  rw [(first_two h2).2, if_pos]
  have hI : InCl net c (c k) (pt (pk net) 6 (2 ^ k)) := pt_class hN hc 6 _ (pow_lt64 (by omega)) fun j h => by
    rw [Nat.testBit_two_pow, decide_eq_true_eq] at h
    subst h
    exact ⟨hk, rfl⟩
  refine zero_of_tb fun j => ?_
  rw [show (Nat.land (pt (pk net) 6 (2 ^ k)) (2 ^ k - 1)).testBit j = ((pt (pk net) 6 (2 ^ k)).testBit j && (2 ^ k - 1).testBit j) from Nat.testBit_and _ _ j, Nat.testBit_two_pow_sub_one]
  cases h1 : (pt (pk net) 6 (2 ^ k)).testBit j with
  | false => rfl
  | true =>
    by_cases hjk : j < k
    · exact absurd (hI j h1).2 (hl j hjk)
    · rw [decide_eq_false hjk]; rfl
theorem cnt_two {N n i j : Nat} (hc : cnt N n < 1000) (hij : i < j) (hj : j < n) (h1 : first N i = 1) (h2 : first N j = 1) : 2 ≤ cnt N n := by
  have m1 := cnt_mono hc (show i + 1 ≤ n by omega)
  have s1 := cnt_step (N := N) (k := i) (by omega)
  have m2 := cnt_mono hc (show j + 1 ≤ n by omega)
  have s2 := cnt_step (N := N) (k := j) (by omega)
  have m3 := cnt_mono (N := N) (n := j) (k := i + 1) (by omega) (by omega)
  omega
theorem first_ok {N : Nat} : ∀ {n k : Nat}, cnt N n < 1000 → k < n → first N k ≠ 2 := fun {n k} hc hk => (cnt_step (N := N) (k := k) (by have := cnt_mono hc (show k + 1 ≤ n by omega); omega)).1
/-- The least of some places. -/
theorem least_at {P : Nat → Prop} [DecidablePred P] : ∀ {k : Nat}, P k → ∃ j, j ≤ k ∧ P j ∧ ∀ i, i < j → ¬ P i := fun {k} hk => by
  induction k using Nat.strongRecOn with
  | _ k ih =>
    by_cases c : ∃ i, i < k ∧ P i
    · obtain ⟨i, hi, hp⟩ := c
      obtain ⟨j, h1, h2, h3⟩ := ih i hi hp
      exact ⟨j, by omega, h2, h3⟩
    · exact ⟨k, Nat.le_refl _, hk, fun i hi hp => c ⟨i, hi, hp⟩⟩
/-- In a net of one part all places are of one class, if neighbours are. -/
theorem one_part (hN : NetOk net) (hc : ∀ x y, x < net.length → y < net.length → bit ((net.getD x 0)) y = true → c x = c y) (h1 : partMany net = 1) {x y : Nat} (hx : x < net.length) (hy : y < net.length) : c x = c y := by
  have hf := fact_use (all_fact hN)
  rw [partMany, if_pos hN] at h1
  have hc1 : cnt (pk net) net.length = 1 := by rw [← hf.1]; omega
  refine Decidable.byContradiction fun hxy => ?_
  obtain ⟨i, i1, i2, i3⟩ := least_at (P := fun j => c j = c x) (k := x) rfl
  obtain ⟨j, j1, j2, j3⟩ := least_at (P := fun j => c j = c y) (k := y) rfl
  have f1 := first_least hN hc (k := i) (by omega) (fun k hk e => i3 k hk (by rw [e]; exact i2)) (first_ok (n := net.length) (by omega) (by omega))
  have f2 := first_least hN hc (k := j) (by omega) (fun k hk e => j3 k hk (by rw [e]; exact j2)) (first_ok (n := net.length) (by omega) (by omega))
  rcases Nat.lt_trichotomy i j with h | h | h
  · have := cnt_two (N := pk net) (n := net.length) (by omega) h (by omega) f1 f2; omega
  · subst h; exact hxy (i2.symm.trans j2)
  · have := cnt_two (N := pk net) (n := net.length) (by omega) h (by omega) f2 f1; omega
end

/-! ### Rows of width one -/

end Go.Abs
