/- Nets told by one number: what the places near a set are, and how the machine tells sets. Own work; no condition. -/
import Derived.Test.YtmiaggnlchfiiaaParts0
import Derived.Test.YtmiaggnlchfiiaaCount1
set_option maxRecDepth 100000
set_option linter.unusedSimpArgs false
set_option linter.unusedVariables false
namespace Go.Abs
open Go.Proofs
attribute [local irreducible] awp awpOps aloop ALoop ACalls ACallq AQuiet retPost AExit.thn AExit.blk aApp aSt
open Parts

theorem split_land {p u : Nat} (q v : Nat) (hp : p < 256) (hu : u < 256) : Nat.land (p + 256 * q) (u + 256 * v) = Nat.land p u + 256 * Nat.land q v := by
  have e : Nat.land p u < 2 ^ 8 := Nat.lt_of_le_of_lt (Nat.and_le_left (n := p) (m := u)) hp
  apply Nat.eq_of_testBit_eq
  intro i
  show ((p + 256 * q) &&& (u + 256 * v)).testBit i = _
  rw [Nat.testBit_and, Nat.add_comm p, Nat.add_comm u, Nat.add_comm (Nat.land p u)]
  rw [show 256 = 2 ^ 8 from rfl, Nat.testBit_two_pow_mul_add q hp, Nat.testBit_two_pow_mul_add v hu, Nat.testBit_two_pow_mul_add _ e]
  split
  · exact (Nat.testBit_and p u i).symm
  · exact (Nat.testBit_and q v _).symm
theorem split_lor {p u : Nat} (q v : Nat) (hp : p < 256) (hu : u < 256) : Nat.lor (p + 256 * q) (u + 256 * v) = Nat.lor p u + 256 * Nat.lor q v := by
  have e : Nat.lor p u < 2 ^ 8 := Nat.or_lt_two_pow hp hu
  apply Nat.eq_of_testBit_eq
  intro i
  show ((p + 256 * q) ||| (u + 256 * v)).testBit i = _
  rw [Nat.testBit_or, Nat.add_comm p, Nat.add_comm u, Nat.add_comm (Nat.lor p u)]
  rw [show 256 = 2 ^ 8 from rfl, Nat.testBit_two_pow_mul_add q hp, Nat.testBit_two_pow_mul_add v hu, Nat.testBit_two_pow_mul_add _ e]
  split
  · exact (Nat.testBit_or p u i).symm
  · exact (Nat.testBit_or q v _).symm

/-- The neighbours of a place, as a set. -/
def nrow (net : List Int) (k : Nat) : Nat := ((net.getD k 0)).toNat
/-- A net, told by one number. -/
def pk (net : List Int) : Nat := nrow net 0 + 256 * (nrow net 1 + 256 * (nrow net 2 + 256 * (nrow net 3 + 256 * (nrow net 4 + 256 * nrow net 5))))
/-- The places with a neighbour in s, of the first k places. -/
def nearTo (net : List Int) (s : Nat) : Nat → Nat
  | 0 => 0
  | k + 1 => if s.testBit k = true then nearTo net s k ||| nrow net k else nearTo net s k

theorem nrow_lt {net : List Int} (h : NetOk net) (k : Nat) : nrow net k < 64 := by
  unfold nrow
  by_cases hk : k < net.length
  · have := h.small hk; omega
  · rw [List.getD_eq_getElem?_getD, List.getElem?_eq_none (by omega)]; decide
theorem nrow_out {net : List Int} {k : Nat} (hk : net.length ≤ k) : nrow net k = 0 := by
  unfold nrow
  rw [List.getD_eq_getElem?_getD, List.getElem?_eq_none hk]; rfl
theorem nearTo_lt {net : List Int} (h : NetOk net) (s : Nat) : ∀ k, nearTo net s k < 64
  | 0 => by show 0 < 64; decide
  | k + 1 => by
    have h1 := nearTo_lt h s k
    have h2 := nrow_lt h k
    unfold nearTo
    split
    · exact Nat.or_lt_two_pow (n := 6) h1 h2
    · exact h1
theorem nearTo_out {net : List Int} (s : Nat) {k : Nat} : ∀ {j : Nat}, net.length ≤ k → k ≤ j → nearTo net s j = nearTo net s k
  | 0, _, h => by rw [Nat.le_zero.1 h]
  | j + 1, hk, h => by
    by_cases e : k = j + 1
    · rw [e]
    · rw [show nearTo net s (j + 1) = if s.testBit j = true then nearTo net s j ||| nrow net j else nearTo net s j from rfl, nearTo_out s hk (by omega : k ≤ j), nrow_out (by omega), Nat.or_zero, ite_self]

theorem spread_eq : ∀ s, s < 64 → Nat.mul (spread s) 63 = 63 * (s.testBit 0).toNat + 256 * (63 * (s.testBit 1).toNat + 256 * (63 * (s.testBit 2).toNat + 256 * (63 * (s.testBit 3).toNat + 256 * (63 * (s.testBit 4).toNat + 256 * (63 * (s.testBit 5).toNat))))) := by decide +kernel
theorem land_b {a : Nat} (h : a < 64) (b : Bool) : Nat.land a (63 * b.toNat) = if b = true then a else 0 := by
  cases b
  · exact Nat.and_zero a
  · show a &&& (2 ^ 6 - 1) = _
    rw [Nat.and_two_pow_sub_one_eq_mod, Nat.mod_eq_of_lt h]; rfl
theorem b63 (b : Bool) : 63 * b.toNat < 256 := by cases b <;> decide

theorem near_pk {net : List Int} (h : NetOk net) {s : Nat} (hs : s < 64) : near (pk net) s = nearTo net s net.length := by
  rw [← nearTo_out s (Nat.le_refl _) h.six]
  have a := nrow_lt h
  unfold near
  rw [frc_eq, spread_eq s hs, pk]
  rw [split_land _ _ (by have := a 0; omega) (b63 _), split_land _ _ (by have := a 1; omega) (b63 _), split_land _ _ (by have := a 2; omega) (b63 _), split_land _ _ (by have := a 3; omega) (b63 _), split_land _ _ (by have := a 4; omega) (b63 _)]
  rw [land_b (a 0), land_b (a 1), land_b (a 2), land_b (a 3), land_b (a 4), land_b (a 5)]
  have hc : ∀ (b : Bool) (k : Nat), (if b = true then nrow net k else 0) < 64 := fun b k => by split; exact a k; decide
  have c0 := hc (s.testBit 0) 0
  have c1 := hc (s.testBit 1) 1
  have c2 := hc (s.testBit 2) 2
  have c3 := hc (s.testBit 3) 3
  have c4 := hc (s.testBit 4) 4
  have c5 := hc (s.testBit 5) 5
  have hstep : ∀ k, nearTo net s (k + 1) = nearTo net s k ||| (if s.testBit k = true then nrow net k else 0) := fun k => by
    rw [nearTo]
    split
    · rfl
    · rw [Nat.or_zero]
  rw [hstep 5, hstep 4, hstep 3, hstep 2, hstep 1, hstep 0, nearTo]
  generalize (if s.testBit 0 = true then nrow net 0 else 0) = d0 at *
  generalize (if s.testBit 1 = true then nrow net 1 else 0) = d1 at *
  generalize (if s.testBit 2 = true then nrow net 2 else 0) = d2 at *
  generalize (if s.testBit 3 = true then nrow net 3 else 0) = d3 at *
  generalize (if s.testBit 4 = true then nrow net 4 else 0) = d4 at *
  generalize (if s.testBit 5 = true then nrow net 5 else 0) = d5 at *
  have e1 : Nat.shiftRight (d0 + 256 * (d1 + 256 * (d2 + 256 * (d3 + 256 * (d4 + 256 * d5))))) 24 = d3 + 256 * (d4 + 256 * (d5 + 256 * 0)) := by
    show (_ >>> 24) = _
    rw [Nat.shiftRight_eq_div_pow]; omega
  rw [e1, split_lor _ _ (by omega) (by omega), split_lor _ _ (by omega) (by omega), split_lor _ _ (by omega) (by omega)]
  have o1 : Nat.lor d0 d3 < 64 := Nat.or_lt_two_pow (n := 6) c0 c3
  have o2 : Nat.lor d1 d4 < 64 := Nat.or_lt_two_pow (n := 6) c1 c4
  have o3 : Nat.lor d2 d5 < 64 := Nat.or_lt_two_pow (n := 6) c2 c5
  unfold pick1
  generalize hq : Nat.lor (d3 + 256 * (d4 + 256 * d5)) 0 = q
  have e2 : Nat.shiftRight (Nat.lor d0 d3 + 256 * (Nat.lor d1 d4 + 256 * (Nat.lor d2 d5 + 256 * q))) 8 = Nat.lor d1 d4 + 256 * (Nat.lor d2 d5 + 256 * q) := by
    show (_ >>> 8) = _
    rw [Nat.shiftRight_eq_div_pow]; omega
  have e3 : Nat.shiftRight (Nat.lor d0 d3 + 256 * (Nat.lor d1 d4 + 256 * (Nat.lor d2 d5 + 256 * q))) 16 = Nat.lor d2 d5 + 256 * q := by
    show (_ >>> 16) = _
    rw [Nat.shiftRight_eq_div_pow]; omega
  rw [e2, e3, split_lor _ _ (by omega) (by omega), split_lor _ _ (by omega) (by exact Nat.lt_trans (Nat.or_lt_two_pow (n := 6) o2 o3) (by decide))]
  have o4 : Nat.lor (Nat.lor d0 d3) (Nat.lor (Nat.lor d1 d4) (Nat.lor d2 d5)) < 2 ^ 6 := Nat.or_lt_two_pow (n := 6) o1 (Nat.or_lt_two_pow (n := 6) o2 o3)
  have e5 : ∀ r, Nat.land (Nat.lor (Nat.lor d0 d3) (Nat.lor (Nat.lor d1 d4) (Nat.lor d2 d5)) + 256 * r) 63 = Nat.lor (Nat.lor d0 d3) (Nat.lor (Nat.lor d1 d4) (Nat.lor d2 d5)) := fun r => by
    show _ &&& (2 ^ 6 - 1) = _
    rw [Nat.and_two_pow_sub_one_eq_mod]
    omega
  rw [e5]
  show ((d0 ||| d3) ||| ((d1 ||| d4) ||| (d2 ||| d5))) = ((((((0 ||| d0) ||| d1) ||| d2) ||| d3) ||| d4) ||| d5)
  rw [Nat.zero_or]
  ac_rfl

theorem less_int : ∀ x, x < 64 → ∀ y, y < 64 → bandNotInt .i64 ((x : Nat) : Int) ((y : Nat) : Int) = ((less x y : Nat) : Int) := by decide +kernel
theorem least_int : ∀ x, x < 64 → bandInt .i64 ((x : Nat) : Int) (0 - ((x : Nat) : Int)) = ((least x : Nat) : Int) ∧ least x < 64 := by decide +kernel
theorem less_lt {x : Nat} (y : Nat) (h : x < 64) : less x y < 64 := Nat.lt_of_le_of_lt (Nat.and_le_left (n := x)) h
theorem lor_lt {x y : Nat} (h : x < 64) (h' : y < 64) : Nat.lor x y < 64 := Nat.or_lt_two_pow (n := 6) h h'

end Go.Abs
