/- The table of pairs on a ring, turn by turn and wire by wire. Own work; no condition. -/
import Derived.Test.YtklmfnafbfghjaaRing2
set_option maxRecDepth 100000
set_option linter.unusedSimpArgs false
set_option linter.unusedVariables false
namespace Go.Abs
open Go.Proofs
attribute [local irreducible] awp awpOps awpKeep KeepK awpKeepF KeepF aloop ALoop ACalls ACallq AQuiet retPost retPostA AExit.thn AExit.blk aApp aSt aStA

/-- How often a pair has come: in all turns ahead of t, and at the first k wires of the turn t. -/
def cnt (net row : List Int) (ring : Int) (t k a b : Nat) : Int := (sig t fun t' => sig (wires net).length fun k' => hit ring (((fsts net row).getD k' 0)) (((snds net row).getD k' 0)) a b t') + sig k fun k' => hit ring (((fsts net row).getD k' 0)) (((snds net row).getD k' 0)) a b t
theorem cnt_step (net row : List Int) (ring : Int) (t k a b : Nat) : cnt net row ring t (k + 1) a b = cnt net row ring t k a b + hit ring (((fsts net row).getD k 0)) (((snds net row).getD k 0)) a b t := by
  unfold cnt
  rw [sig_succ, Int.add_assoc]
theorem cnt_turn (net row : List Int) (ring : Int) (t a b : Nat) : cnt net row ring (t + 1) 0 a b = cnt net row ring t (wires net).length a b := by
  unfold cnt
  rw [sig_succ]
  exact Int.add_zero _
theorem cnt_all (net row : List Int) (ring : Int) (a b : Nat) : cnt net row ring ring.toNat 0 a b = countP net row ring a b := by
  unfold cnt countP
  exact Int.add_zero _
theorem cnt_none (net row : List Int) (ring : Int) (a b : Nat) : cnt net row ring 0 0 a b = 0 := rfl

theorem pair_inj {n a b c d : Nat} (hb : b < n) (hd : d < n) (h : a * n + b = c * n + d) : a = c ∧ b = d := by
  rcases Nat.lt_trichotomy a c with h1 | h1 | h1
  · have := Nat.mul_le_mul_right n (show a + 1 ≤ c by omega)
    rw [Nat.succ_mul] at this
    omega
  · subst h1
    exact ⟨rfl, by omega⟩
  · have := Nat.mul_le_mul_right n (show c + 1 ≤ a by omega)
    rw [Nat.succ_mul] at this
    omega
theorem pair_lt {n a b : Nat} (ha : a < n) (hb : b < n) : a * n + b < n * n := by
  have := Nat.mul_le_mul_right n (show a + 1 ≤ n by omega)
  rw [Nat.succ_mul] at this
  omega

structure Tab (net row : List Int) (ring : Int) (t k : Nat) (L : List Int) : Prop where
  len : L.length = ring.toNat * ring.toNat
  low : ∀ i, i < L.length → 0 ≤ (L.getD i 0) ∧ (L.getD i 0) ≤ 36 * (t : Int) + k
  pair : ∀ a b : Nat, a < b → b < ring.toNat → L.getD (a * ring.toNat + b) 0 = cnt net row ring t k a b

theorem tab_none (net row : List Int) (ring : Int) : Tab net row ring 0 0 (List.replicate (ring.toNat * ring.toNat) 0) := by
  have e : ∀ i, (List.replicate (ring.toNat * ring.toNat) (0 : Int)).getD i 0 = 0 := fun i => by
    rw [List.getD_eq_getElem?_getD, List.getElem?_replicate]
    split <;> rfl
  exact ⟨List.length_replicate, fun i _ => by rw [e]; omega, fun a b _ _ => by rw [e, cnt_none]⟩
theorem Tab.turn {net row : List Int} {ring : Int} {t : Nat} {L : List Int} (hW : (wires net).length ≤ 36) (h : Tab net row ring t (wires net).length L) : Tab net row ring (t + 1) 0 L :=
  ⟨h.len, fun i hi => by have := h.low i hi; omega, fun a b h1 h2 => by rw [cnt_turn]; exact h.pair a b h1 h2⟩
theorem Tab.step {net row : List Int} {ring : Int} {t k : Nat} {L : List Int} (h : Tab net row ring t k L) {a b : Nat} (hab : a < b) (hb : b < ring.toNat)
    (ea : min ((((fsts net row).getD k 0) + t) % ring) ((((snds net row).getD k 0) + t) % ring) = a) (eb : max ((((fsts net row).getD k 0) + t) % ring) ((((snds net row).getD k 0) + t) % ring) = b) :
    Tab net row ring t (k + 1) (L.set (a * ring.toNat + b) (L.getD (a * ring.toNat + b) 0 + 1)) := by
  have hlt : a * ring.toNat + b < L.length := by rw [h.len]; exact pair_lt (by omega) hb
  have g : ∀ i, (L.set (a * ring.toNat + b) (L.getD (a * ring.toNat + b) 0 + 1)).getD i 0 = if i = a * ring.toNat + b then L.getD (a * ring.toNat + b) 0 + 1 else (L.getD i 0) := fun i => by
    rw [List.getD_eq_getElem?_getD, List.getElem?_set]
    by_cases e : i = a * ring.toNat + b
    · subst e
      rw [if_pos rfl, if_pos rfl, if_pos hlt]
      rfl
    · rw [if_neg (fun c => e c.symm), if_neg e, List.getD_eq_getElem?_getD]
  refine ⟨by rw [List.length_set]; exact h.len, fun i hi => ?_, fun c d hcd hd => ?_⟩
  · rw [List.length_set] at hi
    rw [g]
    have h1 := h.low i hi
    have h2 := h.low _ hlt
    split <;> omega
  · rw [g, cnt_step]
    have hp := h.pair c d hcd hd
    unfold hit
    rw [ea, eb]
    by_cases e : c * ring.toNat + d = a * ring.toNat + b
    · obtain ⟨e1, e2⟩ := pair_inj hd hb e
      subst e1
      subst e2
      rw [if_pos rfl, if_pos ⟨rfl, rfl⟩, hp]
    · rw [if_neg e, if_neg fun q => e (by
        have q1 : a = c := by omega
        have q2 : b = d := by omega
        rw [q1, q2]), hp, Int.add_zero]

/-- What a wire's numbers come to in a turn. -/
theorem turned_pair {net row : List Int} {ring : Int} (hR : RingOk net row ring) {k t : Nat} (hk : k < (wires net).length) (ht : t < ring.toNat) :
    ∃ a b : Nat, a < b ∧ b < ring.toNat ∧ min ((((fsts net row).getD k 0) + t) % ring) ((((snds net row).getD k 0) + t) % ring) = a ∧ max ((((fsts net row).getD k 0) + t) % ring) ((((snds net row).getD k 0) + t) % ring) = b := by
  obtain ⟨h1, h2, h3, _⟩ := fst_snd hR hk
  have hr := hR.size
  rw [emod_ring (by omega) (by omega), emod_ring (by omega) (by omega)]
  generalize ((fsts net row).getD k 0) = u at *
  generalize ((snds net row).getD k 0) = v at *
  refine ⟨(min (if u + t < ring then u + t else u + t - ring) (if v + t < ring then v + t else v + t - ring)).toNat, (max (if u + t < ring then u + t else u + t - ring) (if v + t < ring then v + t else v + t - ring)).toNat, ?_, ?_, ?_, ?_⟩ <;> split <;> split <;> omega

theorem turnedBy_len (net row : List Int) (ring b : Int) : (turnedBy net row ring b).length ≤ 1048576 := by
  unfold turnedBy
  split
  · rename_i h
    have := h.1.low.len
    have := h.1.low.ok.six
    rw [List.length_map]
    omega
  · simp
theorem roundDiffs_len (net row : List Int) (ring : Int) : (roundDiffs net row ring).length ≤ 1048576 := by
  unfold roundDiffs
  split
  · rename_i h
    rw [perWire_len]
    have := wires_len h.low.ok
    omega
  · simp
theorem pairCounts_len (net row : List Int) (ring : Int) : (pairCounts net row ring).length ≤ 1048576 := by
  unfold pairCounts
  split
  · rename_i h
    have h1 := h.size
    have h2 := pairsTo_len (fun a b => countP net row ring a b) ring.toNat ring.toNat
    have h3 := Nat.mul_le_mul (show ring.toNat ≤ 31 by omega) (show ring.toNat ≤ 31 by omega)
    omega
  · simp

end Go.Abs
