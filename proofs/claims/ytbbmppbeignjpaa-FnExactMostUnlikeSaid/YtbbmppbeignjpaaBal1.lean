/- Rows of noughts and ones: values and plain facts. Own work; no condition. -/
import Derived.Test.YtbbmppbeignjpaaGrace3
set_option maxRecDepth 100000
set_option linter.unusedSimpArgs false
set_option linter.unusedVariables false
namespace Go.Abs
open Go.Proofs
attribute [local irreducible] awp awpOps awpKeep KeepK awpKeepF KeepF aloop ALoop ACalls ACallq AQuiet retPost retPostA AExit.thn AExit.blk aApp aSt aStA

/-- The number of a place: 1 if it is in a set. -/
def b01 (set : Int) (k : Nat) : Int := if bit set k then 1 else 0
theorem b01_or (set : Int) (k : Nat) : b01 set k = 0 ∨ b01 set k = 1 := by unfold b01; split <;> simp
def rowB (set : Int) (n : Nat) : List Int := (List.range n).map (b01 set)
theorem rowB_len (set : Int) (n : Nat) : (rowB set n).length = n := by simp [rowB]
theorem rowB_get (set : Int) {n k : Nat} (h : k < n) : (rowB set n).getD k 0 = b01 set k := by simp [rowB, List.getD_eq_getElem?_getD, h]
theorem rowB_ok {net : List Int} (h : NetOk net) (set : Int) : RowOk net (rowB set net.length) := ⟨h, rowB_len _ _, fun k hk => by
  rw [rowB_len] at hk
  rw [rowB_get _ hk]
  have := b01_or set k
  omega⟩

/-- Is just one of two ends in a set, wire by wire? -/
def xo (a b : Int) : Int := (a + b) % 2
def unlikes (net : List Int) (set : Int) : List Int := perWire xo net (rowB set net.length)
def unlTo (net : List Int) (set : Int) (k : Nat) : Int := psum (unlikes net set) k
def unlike (net : List Int) (set : Int) : Int := unlTo net set (wires net).length
theorem unlTo_zero (net : List Int) (set : Int) : unlTo net set 0 = 0 := rfl
theorem unlTo_step {net : List Int} (set : Int) {i x y : Nat} (hi : i < (wires net).length) (hx : x < net.length) (hy : y < net.length) (h : (wires net).getD i [] = [(x : Int), (y : Int)]) : unlTo net set (i + 1) = unlTo net set i + (b01 set x + b01 set y) % 2 := by
  unfold unlTo psum
  rw [sig_succ]
  congr 1
  rw [unlikes, perWire_get _ hi h, rowB_get _ hx, rowB_get _ hy]
  rfl
theorem unlTo_range (net : List Int) (set : Int) : ∀ k, k ≤ (wires net).length → 0 ≤ unlTo net set k ∧ unlTo net set k ≤ k
  | 0, _ => ⟨Int.le_refl _, Int.le_refl _⟩
  | k + 1, h => by
    have := unlTo_range net set k (by omega)
    obtain ⟨x, y, e, h1, h2, h3, _⟩ := wire_at (net := net) (i := k) (by omega)
    rw [unlTo_step set (by omega) (by omega) h3 e]
    omega
theorem unlike_range (net : List Int) (set : Int) : 0 ≤ unlike net set ∧ unlike net set ≤ qOf net := unlTo_range net set _ (Nat.le_refl _)

/-- A set of places of a net. -/
def Bits (net : List Int) (set : Int) : Prop := NetOk net ∧ 0 ≤ set ∧ set ≤ 2 ^ net.length - 1
instance (net : List Int) (set : Int) : Decidable (Bits net set) := by unfold Bits; infer_instance
def unlikeWires (net : List Int) (set : Int) : Int := if Bits net set then unlike net set else -1
def Bal (net : List Int) (set : Int) : Prop := Bits net set ∧ -2 < (net.length : Int) - 2 * (pc set.toNat : Int) ∧ (net.length : Int) - 2 * (pc set.toNat : Int) < 2
instance (net : List Int) (set : Int) : Decidable (Bal net set) := by unfold Bal; infer_instance
def Friend (net : List Int) (set : Int) : Prop := Bal net set ∧ -2 < (qOf net : Int) - 2 * unlike net set ∧ (qOf net : Int) - 2 * unlike net set < 2
instance (net : List Int) (set : Int) : Decidable (Friend net set) := by unfold Friend; infer_instance

theorem pow_cases {n : Nat} (h6 : n ≤ 6) : (1 : Int) ≤ 2 ^ n ∧ (2 : Int) ^ n ≤ 64 := by
  have hc : n = 0 ∨ n = 1 ∨ n = 2 ∨ n = 3 ∨ n = 4 ∨ n = 5 ∨ n = 6 := by omega
  rcases hc with rfl | rfl | rfl | rfl | rfl | rfl | rfl <;> decide
theorem Bits.lt {net : List Int} {set : Int} (h : Bits net set) : 0 ≤ set ∧ set < 64 := by
  have := pow_cases h.1.six
  have := h.2
  omega

/-! ### All other places -/

theorem other_nat : ∀ n, n < 7 → ∀ s, s < 2 ^ n → pc (2 ^ n - 1 - s) + pc s = n ∧ ∀ k, k < n → (2 ^ n - 1 - s).testBit k = !(s.testBit k) := by decide +kernel
theorem other_is {net : List Int} {set : Int} (h : Bits net set) : Bits net (2 ^ net.length - 1 - set) ∧ (pc (2 ^ net.length - 1 - set : Int).toNat : Int) + pc set.toNat = net.length ∧ ∀ k, k < net.length → b01 (2 ^ net.length - 1 - set) k = 1 - b01 set k := by
  obtain ⟨hN, h0, h1⟩ := h
  obtain ⟨s, rfl⟩ := Int.eq_ofNat_of_zero_le h0
  have hp : (2 : Int) ^ net.length = ((2 ^ net.length : Nat) : Int) := by simp
  rw [hp] at h1 ⊢
  have hs : s < 2 ^ net.length := by omega
  obtain ⟨g1, g2⟩ := other_nat net.length (by have := hN.six; omega) s hs
  have e : (((2 ^ net.length : Nat) : Int) - 1 - (s : Int)).toNat = 2 ^ net.length - 1 - s := by omega
  refine ⟨⟨hN, by omega, by omega⟩, ?_, fun k hk => ?_⟩
  · rw [e, Int.toNat_natCast]; omega
  · unfold b01 bit
    rw [e, Int.toNat_natCast, g2 k hk]
    cases s.testBit k <;> rfl
theorem unlike_other {net : List Int} {set : Int} (h : Bits net set) : unlike net (2 ^ net.length - 1 - set) = unlike net set := by
  obtain ⟨_, _, g⟩ := other_is h
  unfold unlike unlTo
  have : unlikes net (2 ^ net.length - 1 - set) = unlikes net set := perWire_congr fun x y hx hy => by
    rw [rowB_get _ hx, rowB_get _ hy, rowB_get _ hx, rowB_get _ hy, g x hx, g y hy]
    unfold xo
    omega
  rw [this]
theorem bal_other {net : List Int} {set : Int} (h : Bits net set) : Bal net (2 ^ net.length - 1 - set) ↔ Bal net set := by
  obtain ⟨g1, g2, _⟩ := other_is h
  unfold Bal
  constructor
  · rintro ⟨_, h1, h2⟩; exact ⟨h, by omega, by omega⟩
  · rintro ⟨_, h1, h2⟩; exact ⟨g1, by omega, by omega⟩
theorem friend_other {net : List Int} {set : Int} (h : Friend net set) : Friend net (2 ^ net.length - 1 - set) := by
  have hB := h.1.1
  exact ⟨(bal_other hB).2 h.1, by rw [unlike_other hB]; exact h.2⟩

theorem unlike_none (net : List Int) : unlike net 0 = 0 := by
  have : ∀ k, k ≤ (wires net).length → unlTo net 0 k = 0 := fun k => by
    induction k with
    | zero => intro _; rfl
    | succ k ih =>
      intro hk
      obtain ⟨x, y, e, h1, h2, h3, _⟩ := wire_at (net := net) (i := k) (by omega)
      rw [unlTo_step 0 (by omega) (by omega) h3 e, ih (by omega)]
      have : ∀ j, b01 0 j = 0 := fun j => by unfold b01 bit; simp
      rw [this, this]
      decide
  exact this _ (Nat.le_refl _)

/-- Even nets have an even number of unlike wires. -/
theorem unlike_even {net : List Int} (hN : NetOk net) (he : EvenNet net) (set : Int) : unlike net set % 2 = 0 := by
  have hR := rowB_ok hN set
  have h1 : ∀ k, k ≤ (wires net).length → (unlTo net set k - psum (sums net (rowB set net.length)) k) % 2 = 0 := fun k => by
    induction k with
    | zero => intro _; rfl
    | succ k ih =>
      intro hk
      obtain ⟨x, y, e, h1, h2, h3, _⟩ := wire_at (net := net) (i := k) (by omega)
      have ih := ih (by omega)
      rw [unlTo_step set (by omega) (by omega) h3 e]
      unfold psum at *
      rw [sig_succ, sums, if_pos hR, perWire_get _ (by omega) e, rowB_get _ (by omega), rowB_get _ h3]
      rw [sums, if_pos hR] at ih
      omega
  have h2 := h1 _ (Nat.le_refl _)
  rw [psum_sums hR] at h2
  have h3 : ∀ k, k ≤ net.length → wsum net (rowB set net.length) k % 2 = 0 := fun k => by
    induction k with
    | zero => intro _; rfl
    | succ k ih =>
      intro hk
      have ih := ih (by omega)
      have hp := he k (by omega)
      unfold wsum at *
      rw [sig_succ, rowB_get _ (by omega)]
      rcases b01_or set k with e | e <;> rw [e] <;> omega
  have h4 := h3 _ (Nat.le_refl _)
  unfold unlike
  omega

/-- Friends of an even net: its wires do not leave 2 by 4. -/
theorem friend_parity {net : List Int} {set : Int} (he : EvenNet net) (h : Friend net set) : qOf net % 4 ≠ 2 := by
  have h1 := unlike_even h.1.1.1 he set
  have := h.2
  omega

/-! ### The least number of some -/

/-- The least number below n that P holds of; -1 if there is none. -/
def firstTo (P : Nat → Prop) [DecidablePred P] : Nat → Int
  | 0 => -1
  | n + 1 => if 0 ≤ firstTo P n then firstTo P n else if P n then n else -1
theorem firstTo_none {P : Nat → Prop} [DecidablePred P] : ∀ {n : Nat}, (∀ k, k < n → ¬ P k) → firstTo P n = -1
  | 0, _ => rfl
  | n + 1, h => by
    unfold firstTo
    rw [firstTo_none (n := n) fun k hk => h k (by omega), if_neg (by decide), if_neg (h n (by omega))]
theorem firstTo_is {P : Nat → Prop} [DecidablePred P] {k : Nat} (hk : P k) (hl : ∀ j, j < k → ¬ P j) : ∀ {n : Nat}, k < n → firstTo P n = k
  | n + 1, h => by
    unfold firstTo
    by_cases e : k = n
    · subst e
      rw [firstTo_none hl, if_neg (by decide), if_pos hk]
    · rw [firstTo_is hk hl (n := n) (by omega), if_pos (by omega)]
theorem firstTo_use {P : Nat → Prop} [DecidablePred P] : ∀ {n : Nat}, 0 ≤ firstTo P n → ∃ k, k < n ∧ P k ∧ firstTo P n = k
  | 0, h => absurd h (show ¬ (0 : Int) ≤ -1 by decide)
  | n + 1, h => by
    unfold firstTo at h ⊢
    by_cases c : 0 ≤ firstTo P n
    · rw [if_pos c]
      obtain ⟨k, h1, h2, h3⟩ := firstTo_use c
      exact ⟨k, by omega, h2, h3⟩
    · rw [if_neg c] at h ⊢
      by_cases d : P n
      · rw [if_pos d]; exact ⟨n, by omega, d, rfl⟩
      · rw [if_neg d] at h; exact absurd h (by decide)
theorem firstTo_pos {P : Nat → Prop} [DecidablePred P] {k : Nat} (hk : P k) : ∀ {n : Nat}, k < n → 0 ≤ firstTo P n
  | n + 1, h => by
    unfold firstTo
    by_cases c : 0 ≤ firstTo P n
    · rw [if_pos c]; exact c
    · rw [if_neg c]
      by_cases e : k = n
      · subst e; rw [if_pos hk]; omega
      · exact absurd (firstTo_pos hk (n := n) (by omega)) c
theorem firstTo_neg {P : Nat → Prop} [DecidablePred P] : ∀ {n : Nat}, ¬ 0 ≤ firstTo P n → firstTo P n = -1
  | 0, _ => rfl
  | n + 1, h => by
    unfold firstTo at h ⊢
    by_cases c : 0 ≤ firstTo P n
    · rw [if_pos c] at h; exact absurd c h
    · rw [if_neg c] at h ⊢
      by_cases d : P n
      · rw [if_pos d] at h; omega
      · rw [if_neg d]

def friendFirst (net : List Int) : Int := if NetOk net then firstTo (fun s => Friend net (s : Int)) (2 ^ net.length) else -1
theorem friendFirst_use {net : List Int} (h : 0 ≤ friendFirst net) : Friend net (friendFirst net) := by
  unfold friendFirst at *
  split at h
  · rename_i hN
    rw [if_pos hN]
    obtain ⟨k, _, h2, h3⟩ := firstTo_use h
    rw [h3]
    exact h2
  · exact absurd h (by decide)
theorem friendFirst_neg {net : List Int} (h : ¬ 0 ≤ friendFirst net) : friendFirst net = -1 := by
  unfold friendFirst at *
  split at h
  · rename_i hN; rw [if_pos hN]; exact firstTo_neg h
  · rename_i hN; rw [if_neg hN]
theorem friendFirst_of {net : List Int} {set : Int} (h : Friend net set) : 0 ≤ friendFirst net := by
  obtain ⟨hN, h0, h1⟩ := h.1.1
  obtain ⟨s, rfl⟩ := Int.eq_ofNat_of_zero_le h0
  rw [friendFirst, if_pos hN]
  have hp : (2 : Int) ^ net.length = ((2 ^ net.length : Nat) : Int) := by simp
  exact firstTo_pos (P := fun s => Friend net (s : Int)) h (by omega)

/-! ### Gaps -/

def gapOf (net : List Int) (s : Nat) : Int := if (qOf net : Int) - 2 * unlike net s < 0 then -((qOf net : Int) - 2 * unlike net s) else (qOf net : Int) - 2 * unlike net s
def GapTo (net : List Int) (g n : Nat) : Prop := ∃ s, s < n ∧ Bal net (s : Int) ∧ gapOf net s = (g : Int)
instance (net : List Int) (g n : Nat) : Decidable (GapTo net g n) := by unfold GapTo; infer_instance
theorem gapTo_step (net : List Int) (g n : Nat) : GapTo net g (n + 1) ↔ GapTo net g n ∨ (Bal net (n : Int) ∧ gapOf net n = (g : Int)) := by
  constructor
  · rintro ⟨s, h1, h2⟩
    rcases Nat.lt_succ_iff_lt_or_eq.1 h1 with c | rfl
    · exact .inl ⟨s, c, h2⟩
    · exact .inr h2
  · rintro (⟨s, h1, h2⟩ | h)
    · exact ⟨s, by omega, h2⟩
    · exact ⟨n, by omega, h⟩
def gapsTo (net : List Int) : Nat → List Int
  | 0 => []
  | k + 1 => if GapTo net k (2 ^ net.length) then gapsTo net k ++ [(k : Int)] else gapsTo net k
def gaps (net : List Int) : List Int := if NetOk net then gapsTo net (qOf net + 1) else []
theorem gapsTo_len (net : List Int) : ∀ k, (gapsTo net k).length ≤ k
  | 0 => Nat.le_refl _
  | k + 1 => by have := gapsTo_len net k; unfold gapsTo; split <;> simp <;> omega
theorem gapsTo_mem {net : List Int} {z : Int} : ∀ {k : Nat}, z ∈ gapsTo net k ↔ ∃ g : Nat, g < k ∧ z = (g : Int) ∧ GapTo net g (2 ^ net.length)
  | 0 => by simp [gapsTo]
  | k + 1 => by
    unfold gapsTo
    by_cases c : GapTo net k (2 ^ net.length)
    · rw [if_pos c, List.mem_append, gapsTo_mem (k := k), List.mem_singleton]
      constructor
      · rintro (⟨g, h1, h2, h3⟩ | h)
        · exact ⟨g, by omega, h2, h3⟩
        · exact ⟨k, by omega, h, c⟩
      · rintro ⟨g, h1, h2, h3⟩
        rcases Nat.lt_succ_iff_lt_or_eq.1 h1 with d | rfl
        · exact .inl ⟨g, d, h2, h3⟩
        · exact .inr h2
    · rw [if_neg c, gapsTo_mem (k := k)]
      constructor
      · rintro ⟨g, h1, h2, h3⟩; exact ⟨g, by omega, h2, h3⟩
      · rintro ⟨g, h1, h2, h3⟩
        rcases Nat.lt_succ_iff_lt_or_eq.1 h1 with d | rfl
        · exact ⟨g, d, h2, h3⟩
        · exact absurd h3 c
theorem gapsTo_up (net : List Int) : ∀ k, ∀ i, i + 1 < (gapsTo net k).length → ((gapsTo net k).getD i 0) < ((gapsTo net k).getD (i + 1) 0)
  | 0, i, h => absurd h (Nat.not_lt_zero _)
  | k + 1, i, h => by
    have ih := gapsTo_up net k
    unfold gapsTo at h ⊢
    by_cases c : GapTo net k (2 ^ net.length)
    · rw [if_pos c] at h ⊢
      rw [List.length_append, List.length_cons, List.length_nil] at h
      have e1 : (gapsTo net k ++ [(k : Int)]).getD i 0 = (gapsTo net k).getD i 0 := by
        simp only [List.getD_eq_getElem?_getD]
        rw [List.getElem?_append_left (by omega)]
      rw [e1]
      by_cases d : i + 1 < (gapsTo net k).length
      · have e2 : (gapsTo net k ++ [(k : Int)]).getD (i + 1) 0 = (gapsTo net k).getD (i + 1) 0 := by
          simp only [List.getD_eq_getElem?_getD]
          rw [List.getElem?_append_left d]
        rw [e2]
        exact ih i d
      · have e2 : (gapsTo net k ++ [(k : Int)]).getD (i + 1) 0 = (k : Int) := by
          have : i + 1 = (gapsTo net k).length := by omega
          simp [List.getD_eq_getElem?_getD, this]
        rw [e2]
        have hm : ((gapsTo net k).getD i 0) ∈ gapsTo net k := by
          simp only [List.getD_eq_getElem?_getD]
          rw [List.getElem?_eq_getElem (by omega)]
          exact List.getElem_mem _
        obtain ⟨g, h1, h2, _⟩ := gapsTo_mem.1 hm
        omega
    · rw [if_neg c] at h ⊢
      exact ih i h

/-! ### The most -/

def maxTo (net : List Int) : Nat → Int
  | 0 => 0
  | s + 1 => max (maxTo net s) (unlike net s)
def mostUnlike (net : List Int) : Int := if NetOk net then maxTo net (2 ^ net.length) else -1
theorem maxTo_step (net : List Int) (s : Nat) : maxTo net (s + 1) = max (maxTo net s) (unlike net s) := rfl
theorem maxTo_range (net : List Int) : ∀ n, 0 ≤ maxTo net n ∧ maxTo net n ≤ qOf net
  | 0 => ⟨Int.le_refl _, Int.natCast_nonneg _⟩
  | n + 1 => by have := maxTo_range net n; have := unlike_range net n; rw [maxTo_step]; omega
theorem maxTo_ge (net : List Int) : ∀ {n s : Nat}, s < n → unlike net s ≤ maxTo net n
  | n + 1, s, h => by
    rw [maxTo_step]
    rcases Nat.lt_succ_iff_lt_or_eq.1 h with c | rfl
    · have := maxTo_ge net c; omega
    · omega
theorem maxTo_or (net : List Int) : ∀ n, maxTo net n = 0 ∨ ∃ s, s < n ∧ maxTo net n = unlike net s
  | 0 => .inl rfl
  | n + 1 => by
    rw [maxTo_step]
    by_cases c : maxTo net n ≤ unlike net n
    · exact .inr ⟨n, by omega, by omega⟩
    · rcases maxTo_or net n with e | ⟨s, h1, h2⟩
      · exact .inl (by omega)
      · exact .inr ⟨s, by omega, by omega⟩

end Go.Abs
