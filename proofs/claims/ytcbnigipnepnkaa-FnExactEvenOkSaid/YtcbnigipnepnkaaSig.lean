/- Sums over places and over wires. Own work; no condition. -/
import Derived.Test.YtcbnigipnepnkaaCount1
import Derived.Test.YtcbnigipnepnkaaWire2
namespace Go.Abs

/-- The sum of f over the numbers below n. -/
def sig : Nat → (Nat → Int) → Int
  | 0, _ => 0
  | n + 1, f => sig n f + f n
theorem sig_succ (n : Nat) (f : Nat → Int) : sig (n + 1) f = sig n f + f n := rfl
theorem sig_zero (f : Nat → Int) : sig 0 f = 0 := rfl
theorem sig_congr {f g : Nat → Int} : ∀ {n : Nat}, (∀ i, i < n → f i = g i) → sig n f = sig n g
  | 0, _ => rfl
  | n + 1, h => by rw [sig_succ, sig_succ, sig_congr fun i hi => h i (by omega), h n (by omega)]
theorem sig_add (f g : Nat → Int) : ∀ n, sig n (fun i => f i + g i) = sig n f + sig n g
  | 0 => rfl
  | n + 1 => by rw [sig_succ, sig_succ, sig_succ, sig_add f g n]; omega
theorem sig_mul (c : Int) (f : Nat → Int) : ∀ n, sig n (fun i => c * f i) = c * sig n f
  | 0 => by simp [sig_zero]
  | n + 1 => by rw [sig_succ, sig_succ, sig_mul c f n, Int.mul_add]
theorem sig_none : ∀ n, sig n (fun _ => 0) = 0
  | 0 => rfl
  | n + 1 => by rw [sig_succ, sig_none n]; rfl
theorem sig_swap (f : Nat → Nat → Int) : ∀ n m, (sig n fun i => sig m fun j => f i j) = sig m fun j => sig n fun i => f i j
  | 0, m => by simp only [sig_zero, sig_none]
  | n + 1, m => by simp only [sig_succ]; rw [sig_swap f n m, sig_add]
theorem sig_nonneg {f : Nat → Int} : ∀ {n : Nat}, (∀ i, i < n → 0 ≤ f i) → 0 ≤ sig n f
  | 0, _ => Int.le_refl _
  | n + 1, h => by have := sig_nonneg (n := n) fun i hi => h i (by omega); have := h n (by omega); rw [sig_succ]; omega
theorem sig_le {f g : Nat → Int} : ∀ {n : Nat}, (∀ i, i < n → f i ≤ g i) → sig n f ≤ sig n g
  | 0, _ => Int.le_refl _
  | n + 1, h => by have := sig_le (n := n) fun i hi => h i (by omega); have := h n (by omega); rw [sig_succ, sig_succ]; omega
/-- What is nought from n on. -/
theorem sig_ext {f : Nat → Int} {n : Nat} : ∀ {m : Nat}, n ≤ m → (∀ i, n ≤ i → i < m → f i = 0) → sig m f = sig n f
  | 0, h, _ => by rw [Nat.le_zero.1 h]
  | m + 1, h, hz => by
    by_cases e : n = m + 1
    · rw [e]
    · rw [sig_succ, hz m (by omega) (by omega), sig_ext (m := m) (by omega) fun i h1 h2 => hz i h1 (by omega)]; omega

/-- The sum over all pairs is that over pairs in order, both ways. -/
theorem sig_pairs (A : Nat → Nat → Int) (n : Nat) (hd : ∀ i, i < n → A i i = 0) : (sig n fun i => sig n fun j => A i j) = sig n fun i => sig n fun j => if i < j then A i j + A j i else 0 := by
  have h1 : (sig n fun i => sig n fun j => A i j) = (sig n fun i => sig n fun j => if i < j then A i j else 0) + sig n fun i => sig n fun j => if j < i then A i j else 0 := by
    rw [← sig_add]
    refine sig_congr fun i hi => ?_
    rw [← sig_add]
    refine sig_congr fun j _ => ?_
    rcases Nat.lt_trichotomy i j with h | rfl | h
    · rw [if_pos h, if_neg (by omega)]; omega
    · rw [if_neg (by omega), hd i hi]; rfl
    · rw [if_neg (by omega), if_pos h]; omega
  rw [h1, sig_swap (fun i j => if j < i then A i j else 0), ← sig_add]
  refine sig_congr fun i _ => ?_
  rw [← sig_add]
  refine sig_congr fun j _ => ?_
  by_cases h : i < j
  · rw [if_pos h, if_pos h, if_pos h]
  · rw [if_neg h, if_neg h, if_neg h]; rfl

theorem in_sum (net : List Int) (F : List Int → Int) (k : Nat) : ∀ j, ((wiresIn net k j).map F).sum = sig j fun j => if k < j ∧ bit ((net.getD k 0)) j = true then F [(k : Int), (j : Int)] else 0
  | 0 => rfl
  | j + 1 => by
    rw [sig_succ, ← in_sum net F k j, wiresIn]
    by_cases h : k < j ∧ bit ((net.getD k 0)) j = true
    · rw [if_pos h, if_pos h, List.map_append, List.sum_append]; simp
    · rw [if_neg h, if_neg h]; omega
theorem to_sum (net : List Int) (F : List Int → Int) : ∀ k, ((wiresTo net k).map F).sum = sig k fun k => sig net.length fun j => if k < j ∧ bit ((net.getD k 0)) j = true then F [(k : Int), (j : Int)] else 0
  | 0 => rfl
  | k + 1 => by rw [sig_succ, ← to_sum net F k, wiresTo, List.map_append, List.sum_append, in_sum]
theorem wires_sum (net : List Int) (F : List Int → Int) : ((wires net).map F).sum = sig net.length fun k => sig net.length fun j => if k < j ∧ bit ((net.getD k 0)) j = true then F [(k : Int), (j : Int)] else 0 := to_sum net F net.length

theorem pc_sig {net : List Int} (h : NetOk net) {k : Nat} (hk : k < net.length) : (pc ((net.getD k 0)).toNat : Int) = sig net.length fun j => (nb net k j : Int) := by
  rw [pc_nb h hk, ← sig_ext (m := 6) h.six fun i h1 _ => by rw [nb_out h hk h1]; rfl]
  simp only [sig]
  omega

/-- The sum of a list, from its head on. -/
def psum (l : List Int) (k : Nat) : Int := sig k fun i => (l.getD i 0)
theorem psum_sum : ∀ l : List Int, psum l l.length = l.sum := by
  intro l
  have key : ∀ (l : List Int) (k : Nat), k ≤ l.length → psum l k = (l.take k).sum := by
    intro l k
    induction k with
    | zero => intro _; rfl
    | succ k ih =>
      intro h
      rw [psum, sig_succ, List.take_succ_eq_append_getElem (by omega), List.sum_append, ← ih (by omega)]
      simp [psum, List.getD_eq_getElem?_getD, show k < l.length by omega]
  rw [key l l.length (Nat.le_refl _), List.take_length]

end Go.Abs
