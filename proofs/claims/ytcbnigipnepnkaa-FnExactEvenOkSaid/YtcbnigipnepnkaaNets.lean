/- Plain facts on sets told by numbers, and on nets. Own work; no condition. -/
import Derived.Test.YtcbnigipnepnkaaUse
namespace Go.Abs

/-- Is place j in the set n? -/
def bit (n : Int) (j : Nat) : Bool := n.toNat.testBit j

theorem pow_bounds {p : Nat} (hp : p < 62) : 0 < (2 : Int) ^ p ∧ (2 : Int) ^ p < 4611686018427387904 := by
  refine ⟨Int.pow_pos (by decide), ?_⟩
  have h : (2 : Nat) ^ p < 2 ^ 62 := Nat.pow_lt_pow_right (by decide) hp
  have : (((2 : Nat) ^ p : Nat) : Int) < 4611686018427387904 := by
    have h2 : (2 : Nat) ^ p < 4611686018427387904 := h
    omega
  simpa using this

theorem pow_nat (p : Nat) : (2 : Int) ^ p = ((2 ^ p : Nat) : Int) := by simp

theorem and_pow_ne (x j : Nat) : ((x &&& 2 ^ j) != 0) = x.testBit j := by
  by_cases h : x.testBit j = true
  · rw [h, bne_iff_ne]
    intro e
    have := congrArg (Nat.testBit · j) e
    simp [h] at this
  · have h' : x.testBit j = false := by simpa using h
    have e : x &&& 2 ^ j = 0 := by
      apply Nat.eq_of_testBit_eq
      intro i
      rw [Nat.testBit_and, Nat.testBit_two_pow, Nat.zero_testBit]
      by_cases hij : j = i
      · subst hij; simp [h']
      · simp [hij]
    rw [h', e]
    rfl

theorem has_bit {n : Int} {j : Nat} (h0 : 0 ≤ n) (h1 : n < 4611686018427387904) (hj : j < 62) : decide (bandInt .i64 n (2 ^ j) ≠ 0) = bit n j := by
  obtain ⟨x, rfl⟩ := Int.eq_ofNat_of_zero_le h0
  rw [pow_nat]
  have hb := pow_bounds hj
  rw [pow_nat] at hb
  rw [band_nat _ _ (by omega) (by omega)]
  simp only [bit, Int.toNat_natCast]
  rw [← and_pow_ne]
  by_cases e : x &&& 2 ^ j = 0
  · simp [e]
  · have h : ((x &&& 2 ^ j) != 0) = true := bne_iff_ne.2 e
    rw [h]
    exact decide_eq_true (by omega)

theorem shr_bit {n : Int} {j : Nat} (h0 : 0 ≤ n) : n / 2 ^ j % 2 = if bit n j then 1 else 0 := by
  obtain ⟨x, rfl⟩ := Int.eq_ofNat_of_zero_le h0
  simp only [bit, Int.toNat_natCast, Nat.testBit_eq_decide_div_mod_eq]
  rw [pow_nat]
  have h : ((x : Int) / ((2 ^ j : Nat) : Int) % 2) = ((x / 2 ^ j % 2 : Nat) : Int) := by simp
  rw [h]
  have hlt : x / 2 ^ j % 2 < 2 := Nat.mod_lt _ (by decide)
  by_cases e : x / 2 ^ j % 2 = 1
  · simp [e]
  · have : x / 2 ^ j % 2 = 0 := by omega
    simp [this]

/-- A net: each place has a set of other places, and each is in the sets of its own. -/
structure NetOk (net : List Int) : Prop where
  pos : 1 ≤ net.length
  six : net.length ≤ 6
  low : ∀ k, k < net.length → 0 ≤ (net.getD k 0)
  high : ∀ k, k < net.length → (net.getD k 0) < 2 ^ net.length
  own : ∀ k, k < net.length → bit ((net.getD k 0)) k = false
  both : ∀ k, k < net.length → ∀ j, j < k → bit ((net.getD k 0)) j = bit ((net.getD j 0)) k

theorem NetOk.sym {net : List Int} (h : NetOk net) {k j : Nat} (hk : k < net.length) (hj : j < net.length) : bit ((net.getD k 0)) j = bit ((net.getD j 0)) k := by
  rcases Nat.lt_trichotomy j k with h1 | rfl | h1
  · exact h.both k hk j h1
  · rfl
  · exact (h.both j hj k h1).symm

theorem netOk_iff (net : List Int) : NetOk net ↔ (1 ≤ net.length ∧ net.length ≤ 6 ∧ (∀ k, k < net.length → 0 ≤ (net.getD k 0) ∧ (net.getD k 0) < 2 ^ net.length ∧ bit ((net.getD k 0)) k = false) ∧
    ∀ k, k < net.length → ∀ j, j < k → bit ((net.getD k 0)) j = bit ((net.getD j 0)) k) :=
  ⟨fun h => ⟨h.pos, h.six, fun k hk => ⟨h.low k hk, h.high k hk, h.own k hk⟩, h.both⟩, fun h => ⟨h.1, h.2.1, fun k hk => (h.2.2.1 k hk).1, fun k hk => (h.2.2.1 k hk).2.1, fun k hk => (h.2.2.1 k hk).2.2, h.2.2.2⟩⟩

instance (net : List Int) : Decidable (NetOk net) := decidable_of_iff' _ (netOk_iff net)

theorem pow_le6 {n : Nat} (h : n ≤ 6) : (2 : Int) ^ n ≤ 64 := by
  have : n = 0 ∨ n = 1 ∨ n = 2 ∨ n = 3 ∨ n = 4 ∨ n = 5 ∨ n = 6 := by omega
  rcases this with rfl | rfl | rfl | rfl | rfl | rfl | rfl <;> decide

theorem bit_lt {n : Int} {j p : Nat} (h0 : 0 ≤ n) (h : n < 2 ^ p) (hj : p ≤ j) : bit n j = false := by
  obtain ⟨x, rfl⟩ := Int.eq_ofNat_of_zero_le h0
  rw [pow_nat] at h
  simp only [bit, Int.toNat_natCast]
  exact Nat.testBit_lt_two_pow (Nat.lt_of_lt_of_le (by omega) (Nat.pow_le_pow_right (by decide) hj))

attribute [irreducible] bit
end Go.Abs
