/- How often pairs of numbers come on a ring; graceful rows make all pairs once. Own work; no condition. -/
import Derived.Test.YtklmfnafbfghjaaRing1
set_option maxRecDepth 100000
set_option linter.unusedSimpArgs false
set_option linter.unusedVariables false
namespace Go.Abs
open Go.Proofs
attribute [local irreducible] awp awpOps awpKeep KeepK awpKeepF KeepF aloop ALoop ACalls ACallq AQuiet retPost retPostA AExit.thn AExit.blk aApp aSt aStA

def fsts (net row : List Int) : List Int := perWire (fun x _ => x) net row
def snds (net row : List Int) : List Int := perWire (fun _ y => y) net row
/-- In how many turned rows a pair stands at a wire. -/
def countP (net row : List Int) (ring a b : Int) : Int := sig ring.toNat fun t => sig (wires net).length fun k => hit ring (((fsts net row).getD k 0)) (((snds net row).getD k 0)) a b t
/-- How many wires are so far from each other. -/
def farMany (net row : List Int) (ring d : Int) (k : Nat) : Int := sig k fun i => if ((roundDiffs net row ring).getD i 0) = d then 1 else 0

theorem fst_snd {net row : List Int} {ring : Int} (hR : RingOk net row ring) {k : Nat} (hk : k < (wires net).length) : (0 ≤ ((fsts net row).getD k 0) ∧ ((fsts net row).getD k 0) < ring) ∧ (0 ≤ ((snds net row).getD k 0) ∧ ((snds net row).getD k 0) < ring) ∧ ((fsts net row).getD k 0) ≠ ((snds net row).getD k 0) ∧ ((roundDiffs net row ring).getD k 0) = roundD ring (((fsts net row).getD k 0)) (((snds net row).getD k 0)) := by
  obtain ⟨x, y, e0, q1, q2, q3, q4⟩ := wire_at hk
  have hlen := hR.low.len
  have h1 := hR.low.low x (by omega)
  have h2 := hR.low.low y (by omega)
  have h3 := hR.once y (by omega) x q2
  rw [roundDiffs, if_pos hR, fsts, snds, perWire_get _ hk e0, perWire_get _ hk e0, perWire_get _ hk e0]
  exact ⟨by omega, by omega, h3, rfl⟩

theorem countP_eq {net row : List Int} {ring a b : Int} (hR : RingOk net row ring) (ha : 0 ≤ a) (hab : a < b) (hb : b < ring) :
    countP net row ring a b = (if 2 * min (b - a) (ring - b + a) = ring then 2 else 1) * farMany net row ring (min (b - a) (ring - b + a)) (wires net).length := by
  unfold countP farMany
  rw [sig_swap, ← sig_mul]
  refine sig_congr fun k hk => ?_
  obtain ⟨h1, h2, h3, h4⟩ := fst_snd hR hk
  rw [hits h1 h2 h3 ha hab hb, h4]
  by_cases c : roundD ring (((fsts net row).getD k 0)) (((snds net row).getD k 0)) = min (b - a) (ring - b + a)
  · rw [if_pos c, if_pos c, Int.mul_one]
  · rw [if_neg c, if_neg c, Int.mul_zero]

/-! ### All pairs, in their order -/

def pairsIn (f : Nat → Nat → Int) (a : Nat) : Nat → List Int
  | 0 => []
  | b + 1 => pairsIn f a b ++ (if a < b then [f a b] else [])
def pairsTo (f : Nat → Nat → Int) (n : Nat) : Nat → List Int
  | 0 => []
  | a + 1 => pairsTo f n a ++ pairsIn f a n
theorem pairsIn_nil (f : Nat → Nat → Int) (a : Nat) : ∀ {b : Nat}, b ≤ a + 1 → pairsIn f a b = []
  | 0, _ => rfl
  | b + 1, h => by rw [pairsIn, pairsIn_nil f a (by omega), if_neg (by omega), List.nil_append]
theorem pairsIn_pre (f : Nat → Nat → Int) (a : Nat) {b : Nat} : ∀ {n : Nat}, b ≤ n → pairsIn f a b <+: pairsIn f a n
  | 0, h => by rw [Nat.le_zero.1 h]; exact List.prefix_rfl
  | n + 1, h => by
    by_cases e : b = n + 1
    · rw [e]; exact List.prefix_rfl
    · exact (pairsIn_pre f a (by omega : b ≤ n)).trans (by rw [pairsIn]; exact List.prefix_append _ _)
theorem pairsTo_pre (f : Nat → Nat → Int) (n : Nat) {a : Nat} : ∀ {m : Nat}, a ≤ m → pairsTo f n a <+: pairsTo f n m
  | 0, h => by rw [Nat.le_zero.1 h]; exact List.prefix_rfl
  | m + 1, h => by
    by_cases e : a = m + 1
    · rw [e]; exact List.prefix_rfl
    · exact (pairsTo_pre f n (by omega : a ≤ m)).trans (by rw [pairsTo]; exact List.prefix_append _ _)
theorem pairs_pre (f : Nat → Nat → Int) {n a b : Nat} (hab : a < b) (hb : b < n) : pairsTo f n a ++ pairsIn f a b ++ [f a b] <+: pairsTo f n n := by
  have h1 : pairsIn f a (b + 1) = pairsIn f a b ++ [f a b] := by rw [pairsIn, if_pos hab]
  have h2 := pairsIn_pre f a (show b + 1 ≤ n by omega)
  rw [h1] at h2
  refine List.IsPrefix.trans ?_ (pairsTo_pre f n (show a + 1 ≤ n by omega))
  rw [pairsTo, List.append_assoc]
  exact (List.prefix_append_right_inj _).2 h2
theorem pairs_get (f : Nat → Nat → Int) {n a b : Nat} (hab : a < b) (hb : b < n) : (pairsTo f n a).length + (pairsIn f a b).length < (pairsTo f n n).length ∧ (pairsTo f n n).getD ((pairsTo f n a).length + (pairsIn f a b).length) 0 = f a b := by
  obtain ⟨t, ht⟩ := pairs_pre f hab hb
  rw [← ht]
  constructor
  · simp only [List.length_append, List.length_cons, List.length_nil]; omega
  · rw [List.getD_eq_getElem?_getD, List.getElem?_append_left (by simp), List.getElem?_append_right (by simp)]
    simp
theorem pairsIn_sum (f : Nat → Nat → Int) (a : Nat) : ∀ b, (pairsIn f a b).sum = sig b fun b => if a < b then f a b else 0
  | 0 => rfl
  | b + 1 => by
    rw [pairsIn, List.sum_append, pairsIn_sum f a b, sig_succ]
    split <;> simp
theorem pairsTo_sum (f : Nat → Nat → Int) (n : Nat) : ∀ a, (pairsTo f n a).sum = sig a fun a => sig n fun b => if a < b then f a b else 0
  | 0 => rfl
  | a + 1 => by rw [pairsTo, List.sum_append, pairsTo_sum f n a, sig_succ, pairsIn_sum]
theorem pairsIn_len (f : Nat → Nat → Int) (a : Nat) : ∀ b, (pairsIn f a b).length ≤ b
  | 0 => Nat.le_refl _
  | b + 1 => by
    rw [pairsIn, List.length_append]
    have := pairsIn_len f a b
    split <;> simp <;> omega
theorem pairsTo_len (f : Nat → Nat → Int) (n : Nat) : ∀ a, (pairsTo f n a).length ≤ a * n
  | 0 => Nat.zero_le _
  | a + 1 => by
    rw [pairsTo, List.length_append, Nat.succ_mul]
    have := pairsTo_len f n a
    have := pairsIn_len f a n
    omega
def pairCounts (net row : List Int) (ring : Int) : List Int := if RingOk net row ring then pairsTo (fun a b => countP net row ring a b) ring.toNat ring.toNat else []

theorem hit_total {ring u v : Int} (hr : 1 ≤ ring) (huv : u ≠ v) (hu : 0 ≤ u ∧ u < ring) (hv : 0 ≤ v ∧ v < ring) {t : Nat} (ht : t < ring.toNat) : (sig ring.toNat fun a => sig ring.toNat fun b => if a < b then hit ring u v a b t else 0) = 1 := by
  have hx := emod_ring (x := u + t) (ring := ring) (by omega) (by omega)
  have hy := emod_ring (x := v + t) (ring := ring) (by omega) (by omega)
  have hne : (u + t) % ring ≠ (v + t) % ring := by rw [hx, hy]; split <;> split <;> omega
  have hxr : 0 ≤ (u + t) % ring ∧ (u + t) % ring < ring := ⟨Int.emod_nonneg _ (by omega), Int.emod_lt_of_pos _ (by omega)⟩
  have hyr : 0 ≤ (v + t) % ring ∧ (v + t) % ring < ring := ⟨Int.emod_nonneg _ (by omega), Int.emod_lt_of_pos _ (by omega)⟩
  unfold hit
  generalize (u + t) % ring = x at *
  generalize (v + t) % ring = y at *
  clear hx hy
  rw [sig_congr (g := fun a : Nat => if a = (min x y).toNat then 1 else 0) fun a ha => ?_, sig_at (by omega)]
  by_cases c : a = (min x y).toNat
  · rw [if_pos c, sig_congr (g := fun b : Nat => if b = (max x y).toNat then 1 else 0) fun b hb => ?_, sig_at (by omega)]
    by_cases c2 : b = (max x y).toNat
    · rw [if_pos c2, if_pos (by omega), if_pos (by omega)]
    · rw [if_neg c2]
      split
      · rw [if_neg (by omega)]
      · rfl
  · rw [if_neg c, sig_congr (g := fun _ => 0) fun b hb => ?_, sig_none]
    split
    · rw [if_neg (by omega)]
    · rfl

theorem pairs_total {net row : List Int} {ring : Int} (hR : RingOk net row ring) : (pairCounts net row ring).sum = ring * (wires net).length := by
  have hr := hR.size
  rw [pairCounts, if_pos hR, pairsTo_sum]
  have e1 : (sig ring.toNat fun a => sig ring.toNat fun b => if a < b then countP net row ring a b else 0) = sig ring.toNat fun t => sig (wires net).length fun k => sig ring.toNat fun a => sig ring.toNat fun b => if a < b then hit ring (((fsts net row).getD k 0)) (((snds net row).getD k 0)) a b t else 0 := by
    have s1 : ∀ a b : Nat, (if a < b then countP net row ring a b else 0) = sig ring.toNat fun t => sig (wires net).length fun k => if a < b then hit ring (((fsts net row).getD k 0)) (((snds net row).getD k 0)) a b t else 0 := fun a b => by
      by_cases c : a < b
      · simp only [if_pos c]; rfl
      · simp only [if_neg c, sig_none]
    rw [sig_congr fun a _ => sig_congr fun b _ => s1 a b]
    rw [sig_congr fun a _ => (sig_swap (fun b t => sig (wires net).length fun k => if a < b then hit ring (((fsts net row).getD k 0)) (((snds net row).getD k 0)) a b t else 0) ring.toNat ring.toNat)]
    rw [sig_swap (fun a t => sig ring.toNat fun b => sig (wires net).length fun k => if a < b then hit ring (((fsts net row).getD k 0)) (((snds net row).getD k 0)) a b t else 0)]
    refine sig_congr fun t _ => ?_
    rw [sig_congr fun a _ => (sig_swap (fun b k => if a < b then hit ring (((fsts net row).getD k 0)) (((snds net row).getD k 0)) a b t else 0) ring.toNat (wires net).length)]
    rw [sig_swap (fun a k => sig ring.toNat fun b => if a < b then hit ring (((fsts net row).getD k 0)) (((snds net row).getD k 0)) a b t else 0)]
  have hsum : ∀ (c : Int) n, (sig n fun _ => c) = n * c := fun c n => by
    induction n with
    | zero => simp [sig_zero]
    | succ n ih => rw [sig_succ, ih, Int.natCast_add, Int.add_mul]; simp
  refine Eq.trans e1 ?_
  rw [sig_congr (g := fun _ => ((wires net).length : Int)) fun t ht => ?_, hsum, Int.toNat_of_nonneg (by omega)]
  rw [sig_congr (g := fun _ => 1) fun k hk => ?_, hsum, Int.mul_one]
  obtain ⟨h1, h2, h3, _⟩ := fst_snd hR hk
  exact hit_total hr.1 h3 h1 h2 ht

/-- Does each pair come just once? -/
def CoversOk (net row : List Int) (ring : Int) : Prop := RingOk net row ring ∧ ∀ i, i < (pairCounts net row ring).length → ((pairCounts net row ring).getD i 0) = 1
instance (net row : List Int) (ring : Int) : Decidable (CoversOk net row ring) := by unfold CoversOk; infer_instance

end Go.Abs
