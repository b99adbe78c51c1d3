/- Parts and sides in the program: each function by a contract. Own work; no condition. -/
import Derived.Test.YtchejfephmmcaaaPart2
import Derived.Test.YtchejfephmmcaaaGrow
set_option maxRecDepth 100000
set_option linter.unusedSimpArgs false
set_option linter.unusedVariables false
namespace Go.Abs
open Go.Proofs
attribute [local irreducible] awp awpOps awpKeep KeepK awpKeepF KeepF aloop ALoop ACalls ACallq AQuiet retPost retPostA AExit.thn AExit.blk aApp aSt aStA
open Parts

theorem bor_lor {x y : Nat} (h : x < 64) (h' : y < 64) : borInt .i64 (x : Int) (y : Int) = ((Nat.lor x y : Nat) : Int) := bor_nat x y (by omega) (by omega)
theorem bandNot_less {x y : Nat} (h : x < 64) (h' : y < 64) : bandNotInt .i64 (x : Int) (y : Int) = ((less x y : Nat) : Int) := less_int x h y h'
theorem band_land {x y : Nat} (h : x < 64) (h' : y < 64) : bandInt .i64 (x : Int) (y : Int) = ((Nat.land x y : Nat) : Int) := band_nat x y (by omega) (by omega)


theorem bit_nat (x j : Nat) : bit (x : Int) j = x.testBit j := by unfold bit; rfl

theorem nrow_int {net : List Int} (h : NetOk net) {k : Nat} (hk : k < net.length) : (net.getD k 0) = ((nrow net k : Nat) : Int) := by
  have := h.low k hk
  unfold nrow
  omega

/-- Into how many parts a net falls. -/
noncomputable def partMany (net : List Int) : Int := if NetOk net then (pm (pk net) 6 (2 ^ net.length - 1) 0 : Nat) else -1

theorem full_lt {n : Nat} (h : n ≤ 6) : 2 ^ n - 1 < 64 := by
  have : n = 0 ∨ n = 1 ∨ n = 2 ∨ n = 3 ∨ n = 4 ∨ n = 5 ∨ n = 6 := by omega
  rcases this with rfl | rfl | rfl | rfl | rfl | rfl | rfl <;> decide
theorem full_int {n : Nat} (h : n ≤ 6) : ((2 : Int) ^ n - 1) = ((2 ^ n - 1 : Nat) : Int) := by
  have : n = 0 ∨ n = 1 ∨ n = 2 ∨ n = 3 ∨ n = 4 ∨ n = 5 ∨ n = 6 := by omega
  rcases this with rfl | rfl | rfl | rfl | rfl | rfl | rfl <;> decide

noncomputable def treeOk (net : List Int) : Bool := decide (NetOk net ∧ partMany net = 1 ∧ wiresOf net = (net.length : Int) - 1)

end Go.Abs

/- Parts in the model: each function by a contract. Own work; no condition. -/
set_option maxRecDepth 100000
set_option linter.unusedSimpArgs false
set_option linter.unusedVariables false
namespace Go.Abs
open Go.Proofs
attribute [local irreducible] awp awpOps awpKeep KeepK awpKeepF KeepF aloop ALoop ACalls ACallq AQuiet retPost retPostA AExit.thn AExit.blk aApp aSt aStA
open Parts

theorem pt_succ (N f s : Nat) : pt N (f + 1) s = if Nat.lor s (near N s) = s then s else pt N f (Nat.lor s (near N s)) := by
  show (frc (Nat.lor s (near N s)) fun t => bif Nat.beq t s then s else pt N f t) = _
  rw [frc_eq]
  by_cases h : Nat.lor s (near N s) = s
  · rw [if_pos h, h]
    rw [show Nat.beq s s = true by simp]; rfl
  · rw [if_neg h]
    cases hb : Nat.beq (Nat.lor s (near N s)) s with
    | true => exact absurd (Nat.eq_of_beq_eq_true hb) h
    | false => rfl
theorem fixed_eq {N s : Nat} (h : fixed N s = true) : Nat.lor s (near N s) = s := Nat.eq_of_beq_eq_true h

theorem pow_lt64 {k : Nat} (h : k < 6) : 2 ^ k < 64 := by
  have : k = 0 ∨ k = 1 ∨ k = 2 ∨ k = 3 ∨ k = 4 ∨ k = 5 := by omega
  rcases this with rfl | rfl | rfl | rfl | rfl | rfl <;> decide
theorem nrow_high {net : List Int} (h : NetOk net) {k : Nat} (hk : k < net.length) : nrow net k < 2 ^ net.length := by
  have h1 := h.high k hk
  have h2 := h.low k hk
  rw [pow_nat] at h1
  unfold nrow
  omega

theorem cnt_step {N k : Nat} (h : cnt N (k + 1) < 1000) : first N k ≠ 2 ∧ cnt N (k + 1) = cnt N k + first N k := by
  have e : cnt N (k + 1) = frc (first N k) fun i => bif Nat.beq i 2 then 2000 else Nat.add (cnt N k) i := rfl
  rw [frc_eq] at e
  rw [e] at h ⊢
  cases hb : Nat.beq (first N k) 2 with
  | true => rw [hb] at h; exact absurd h (by show ¬ 2000 < 1000; decide)
  | false => exact ⟨fun c => (by rw [c] at hb; exact Bool.noConfusion hb), rfl⟩
theorem cnt_mono {N : Nat} : ∀ {n k : Nat}, cnt N n < 1000 → k ≤ n → cnt N k ≤ cnt N n
  | 0, k, _, hk => by rw [Nat.le_zero.1 hk]; exact Nat.le_refl _
  | n + 1, k, h, hk => by
    obtain ⟨_, e⟩ := cnt_step h
    by_cases e2 : k = n + 1
    · rw [e2]; exact Nat.le_refl _
    · have hn : cnt N n < 1000 := by omega
      have := cnt_mono hn (show k ≤ n by omega)
      omega
theorem first_two {N k : Nat} (h : first N k ≠ 2) : fixed N (pt N 6 (2 ^ k)) = true ∧ first N k = if Nat.land (pt N 6 (2 ^ k)) (2 ^ k - 1) = 0 then 1 else 0 := by
  have e : first N k = frc (Nat.pow 2 k) fun q => frc (pt N 6 q) fun C => bif fixed N C then (bif Nat.beq (Nat.land C (Nat.sub q 1)) 0 then 1 else 0) else 2 := rfl
  simp only [frc_eq] at e
  have e2 : Nat.pow 2 k = 2 ^ k := rfl
  rw [e2] at e
  cases hf : fixed N (pt N 6 (2 ^ k)) with
  | false => rw [hf] at e; exact absurd e h
  | true =>
    rw [hf] at e
    refine ⟨rfl, ?_⟩
    rw [e]
    cases hb : Nat.beq (Nat.land (pt N 6 (2 ^ k)) (Nat.sub (2 ^ k) 1)) 0 with
    | true => rw [if_pos (show Nat.land (pt N 6 (2 ^ k)) (2 ^ k - 1) = 0 from Nat.eq_of_beq_eq_true hb)]; rfl
    | false => rw [if_neg fun c => (by rw [show Nat.land (pt N 6 (2 ^ k)) (Nat.sub (2 ^ k) 1) = 0 from c] at hb; exact Bool.noConfusion hb)]; rfl

theorem pt_lt {net : List Int} (h : NetOk net) : ∀ f s, s < 64 → pt (pk net) f s < 64
  | 0, s, hs => hs
  | f + 1, s, hs => by
    rw [pt_succ]
    split
    · exact hs
    · refine pt_lt h f _ (lor_lt hs ?_)
      rw [near_pk h hs]; exact nearTo_lt h _ _

end Go.Abs
