/- Orders: nets of one part have no empty cut; which nets have rows of width one. Own work; no condition. -/
import Derived.Test.YtchejfephmmcaaaOrd1
import Derived.Test.YtchejfephmmcaaaAlpha2
import Derived.Test.YtchejfephmmcaaaPart2
import Derived.Test.YtchejfephmmcaaaGrace4
set_option maxRecDepth 100000
set_option linter.unusedSimpArgs false
set_option linter.unusedVariables false
namespace Go.Abs
open Go.Proofs
attribute [local irreducible] awp awpOps awpKeep KeepK awpKeepF KeepF aloop ALoop ACalls ACallq AQuiet retPost retPostA AExit.thn AExit.blk aApp aSt aStA
open Parts

/-! ### One part -/

section
variable {net : List Int} {c : Nat → Bool}
theorem InCl.same (hN : NetOk net) (hc : ∀ x y, x < net.length → y < net.length → bit ((net.getD x 0)) y = true → c x = c y) {b : Bool} {x : Nat} (h64 : x < 64) (hx : InCl net c b x) : InCl net c b (Parts.near (pk net) x) := fun j hj => by
  rw [near_pk hN h64] at hj
  obtain ⟨i, h1, h2, h3⟩ := (nearTo_tb net x j net.length).1 hj
  have hj' : j < net.length := Nat.lt_of_not_le fun hle => by
    have hl : nrow net i < 2 ^ net.length := by
      have := hN.high i h1
      have h0 := hN.low i h1
      unfold nrow
      have e : ((2 : Int) ^ net.length) = ((2 ^ net.length : Nat) : Int) := by simp
      omega
    have := Nat.testBit_lt_two_pow (Nat.lt_of_lt_of_le hl (Nat.pow_le_pow_right (by decide) hle))
    rw [h3] at this
    cases this
  exact ⟨hj', by rw [← hc i j h1 hj' (by rw [bit_nrow]; exact h3)]; exact (hx i h2).2⟩
theorem pt_class (hN : NetOk net) (hc : ∀ x y, x < net.length → y < net.length → bit ((net.getD x 0)) y = true → c x = c y) {b : Bool} : ∀ (f s : Nat), s < 64 → InCl net c b s → InCl net c b (pt (pk net) f s)
  | 0, _, _, h => h
  | f + 1, s, h64, h => by
    rw [pt_succ]
    split
    · exact h
    · exact pt_class hN hc f _ (lor64 h64 (near64 hN h64)) (h.lor (h.same hN hc h64))
theorem first_ok {N : Nat} : ∀ {n k : Nat}, cnt N n < 1000 → k < n → first N k ≠ 2 := fun {n k} hc hk => (cnt_step (N := N) (k := k) (by have := cnt_mono hc (show k + 1 ≤ n by omega); omega)).1
/-- The least of some places. -/
theorem least_at {P : Nat → Prop} [DecidablePred P] : ∀ {k : Nat}, P k → ∃ j, j ≤ k ∧ P j ∧ ∀ i, i < j → ¬ P i := fun {k} hk => by
  induction k using Nat.strongRecOn with
  | _ k ih =>
    by_cases c : ∃ i, i < k ∧ P i
    · obtain ⟨i, hi, hp⟩ := c
      obtain ⟨j, h1, h2, h3⟩ := ih i hi hp
      exact ⟨j, by omega, h2, h3⟩
    · exact ⟨k, Nat.le_refl _, hk, fun i hi hp => c ⟨i, hi, hp⟩⟩
end

/-! ### Rows of width one -/

end Go.Abs
