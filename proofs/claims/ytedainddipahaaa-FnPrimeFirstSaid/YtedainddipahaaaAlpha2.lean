/- Nets whose places fall into two classes with no wire inside have sides. Own work; no condition. -/
import Derived.Test.YtedainddipahaaaAlpha1
import Derived.Test.YtedainddipahaaaSide2
set_option maxRecDepth 100000
set_option linter.unusedSimpArgs false
set_option linter.unusedVariables false
namespace Go.Abs
open Go.Proofs
attribute [local irreducible] awp awpOps awpKeep KeepK awpKeepF KeepF aloop ALoop ACalls ACallq AQuiet retPost retPostA AExit.thn AExit.blk aApp aSt aStA
open Parts

theorem lor64 {x y : Nat} (hx : x < 64) (hy : y < 64) : Nat.lor x y < 64 := Nat.or_lt_two_pow (n := 6) hx hy
/-- Places of one class, and of none but the net's. -/
def InCl (net : List Int) (c : Nat → Bool) (b : Bool) (x : Nat) : Prop := ∀ j, x.testBit j = true → j < net.length ∧ c j = b
section
variable {net : List Int} {c : Nat → Bool}

theorem InCl.lor {b : Bool} {x y : Nat} (hx : InCl net c b x) (hy : InCl net c b y) : InCl net c b (Nat.lor x y) := fun j hj => by
  rw [lor_tb, Bool.or_eq_true] at hj
  rcases hj with h | h
  · exact hx j h
  · exact hy j h
theorem InCl.less {b : Bool} {x : Nat} (y : Nat) (h64 : x < 64) (hx : InCl net c b x) : InCl net c b (less x y) := fun j hj => by
  rw [less_tb y h64, Bool.and_eq_true] at hj
  exact hx j hj.1
theorem near64 (hN : NetOk net) {x : Nat} (hx : x < 64) : near (pk net) x < 64 := by rw [near_pk hN hx]; exact nearTo_lt hN x _
theorem InCl.near (hN : NetOk net) (hc : ∀ x y, x < net.length → y < net.length → bit ((net.getD x 0)) y = true → c x ≠ c y) {b : Bool} {x : Nat} (h64 : x < 64) (hx : InCl net c b x) : InCl net c (!b) (near (pk net) x) := fun j hj => by
  rw [near_pk hN h64] at hj
  obtain ⟨i, h1, h2, h3⟩ := (nearTo_tb net x j net.length).1 hj
  have hj' : j < net.length := Nat.lt_of_not_le fun hle => by
    have hl : nrow net i < 2 ^ net.length := by
      have := hN.high i h1
      have h0 := hN.low i h1
      unfold nrow
      have e : ((2 : Int) ^ net.length) = ((2 ^ net.length : Nat) : Int) := by simp
      omega
    have := Nat.testBit_lt_two_pow (Nat.lt_of_lt_of_le hl (Nat.pow_le_pow_right (by decide) hle))
    rw [h3] at this
    cases this
  have := hc i j h1 hj' (by rw [bit_nrow]; exact h3)
  have hi := (hx i h2).2
  refine ⟨hj', ?_⟩
  rw [hi] at this
  cases hcj : c j <;> cases b <;> simp_all
theorem InCl.apart {b : Bool} {x y : Nat} (hx : InCl net c b x) (hy : InCl net c (!b) y) : Nat.land y x = 0 := zero_of_tb fun j => by
  rw [show (Nat.land y x).testBit j = (y.testBit j && x.testBit j) from Nat.testBit_and y x j]
  cases h1 : y.testBit j with
  | false => rfl
  | true =>
    cases h2 : x.testBit j with
    | false => rfl
    | true =>
      have e1 := (hx j h2).2
      have e2 := (hy j h1).2
      rw [e1] at e2
      cases b <;> cases e2

end

end Go.Abs
