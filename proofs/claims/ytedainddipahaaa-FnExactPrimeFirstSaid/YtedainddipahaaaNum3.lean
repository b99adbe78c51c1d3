/- The greatest number of a list is alone by sums; the first prime row. Own work; no condition. -/
import Derived.Test.YtedainddipahaaaNum2
import Derived.Test.YtedainddipahaaaCover1
set_option maxRecDepth 100000
set_option linter.unusedSimpArgs false
set_option linter.unusedVariables false
namespace Go.Abs
open Go.Proofs
attribute [local irreducible] awp awpOps awpKeep KeepK awpKeepF KeepF aloop ALoop ACalls ACallq AQuiet retPost retPostA AExit.thn AExit.blk aApp aSt aStA
open Parts

theorem part_one {net : List Int} (hN : NetOk net) (h1 : net.length = 1) : partMany net = 1 := by
  have h := (cover_use hN).1
  have hc := (cover_range hN).2
  have hp : 1 ≤ partMany net := by
    have hf := fact_use (all_fact hN)
    have hpart : partMany net = (pm (pk net) 6 (2 ^ net.length - 1) 0 : Nat) := if_pos hN
    have := hf.2.2.1
    omega
  omega
theorem su_part {l : List Int} (h : Nums l) {k : Nat} (hk : k < l.length) (ht : ∀ j, j < l.length → (l.getD j 0) ≤ (l.getD k 0)) : l.length = 1 ↔ partMany (suNet l) = 1 := by
  obtain ⟨_, hN, hl⟩ := su_net h
  constructor
  · intro h1; exact part_one hN (by omega)
  · intro h1
    have hz := su_top h hk ht
    have hno : ∀ j, bit (((suNet l).getD k 0)) j = false := fun j => by rw [show ((suNet l).getD k 0) = 0 from hz]; exact bit_nat 0 j ▸ by simp
    have hc : ∀ x y, x < (suNet l).length → y < (suNet l).length → bit (((suNet l).getD x 0)) y = true → decide (x = k) = decide (y = k) := fun x y hx hy hxy => by
      by_cases c1 : x = k
      · rw [c1, hno] at hxy; cases hxy
      · by_cases c2 : y = k
        · rw [hN.sym hx hy, c2, hno] at hxy; cases hxy
        · rw [decide_eq_false c1, decide_eq_false c2]
    have h1l := h.pos
    by_cases c : l.length = 1
    · exact c
    · have hx : (if k = 0 then 1 else 0) < l.length := by split <;> omega
      have := one_part hN hc h1 (x := k) (y := if k = 0 then 1 else 0) (by rw [hl]; exact hk) (by rw [hl]; exact hx)
      rw [decide_eq_true rfl] at this
      have := of_decide_eq_true this.symm
      split at this <;> omega

/-! ### Prime rows by orders -/

theorem PrimeRow.of_order {net row : List Int} (h : PrimeRow net row) : ∃ x, OrdOk net x ∧ moved net x 1 = row := by
  have h6 := h.ok.six
  have hO : OrdOk net (row.map fun z => z - 1) := ⟨⟨h.ok, by rw [List.length_map]; exact h.len, fun k hk => by
    rw [List.length_map, h.len] at hk
    rw [map_get _ (by rw [h.len]; exact hk)]
    have := h.low k hk
    omega⟩, once_map _ (fun a b e => by omega) h.once⟩
  refine ⟨_, hO, ?_⟩
  have e : ((row.map fun z => z - 1).map fun z => z + 1) = row := by
    rw [List.map_map]
    have : ((fun z : Int => z + 1) ∘ fun z => z - 1) = id := by funext z; show z - 1 + 1 = z; omega
    rw [this, List.map_id]
  have hW : Within 30 ((row.map fun z => z - 1).map fun z => z + 1) := by
    rw [e]
    intro k hk
    have := h.low k (by rw [← h.len]; exact hk)
    omega
  rw [moved, if_pos ⟨hO.rowOk, by decide, hW⟩, e]

/-- The first prime row of the orders from 1 on. -/
noncomputable def primeAt (net : List Int) (k : Nat) : List Int := moved net ((ords net.length).getD k []) 1
noncomputable def primeTo (net : List Int) : Nat → Option (List Int)
  | 0 => none
  | k + 1 => match primeTo net k with
    | some r => some r
    | none => if PrimeRow net (primeAt net k) then some (primeAt net k) else none
theorem primeTo_step (net : List Int) (k : Nat) : primeTo net (k + 1) = match primeTo net k with
    | some r => some r
    | none => if PrimeRow net (primeAt net k) then some (primeAt net k) else none := rfl
noncomputable def primeFirst (net : List Int) : Option (List Int) := if NetOk net then primeTo net (ords net.length).length else none
theorem primeTo_is {net : List Int} : ∀ {k : Nat} {r : List Int}, primeTo net k = some r → PrimeRow net r
  | 0, _, h => by cases h
  | k + 1, r, h => by
    rw [primeTo_step] at h
    cases e : primeTo net k with
    | some r' => rw [e] at h; cases h; exact primeTo_is e
    | none =>
      rw [e] at h
      by_cases c : PrimeRow net (primeAt net k)
      · rw [if_pos c] at h; cases h; exact c
      · rw [if_neg c] at h; cases h
theorem primeTo_none {net : List Int} : ∀ {k : Nat}, primeTo net k = none → ∀ i, i < k → ¬ PrimeRow net (primeAt net i)
  | 0, _, i, hi => absurd hi (Nat.not_lt_zero i)
  | k + 1, h, i, hi => by
    rw [primeTo_step] at h
    cases e : primeTo net k with
    | some r' => rw [e] at h; cases h
    | none =>
      rw [e] at h
      by_cases c : PrimeRow net (primeAt net k)
      · rw [if_pos c] at h; cases h
      · rcases Nat.lt_succ_iff_lt_or_eq.1 hi with hlt | rfl
        · exact primeTo_none e i hlt
        · exact c
theorem prime_is {net r : List Int} (h : primeFirst net = some r) : PrimeRow net r := by
  by_cases hN : NetOk net
  · rw [primeFirst, if_pos hN] at h; exact primeTo_is h
  · rw [primeFirst, if_neg hN] at h; cases h
theorem prime_some {net row : List Int} (h : PrimeRow net row) : ∃ r, primeFirst net = some r := by
  obtain ⟨x, hx, he⟩ := h.of_order
  obtain ⟨i, hi, hxi⟩ := ords_index h.ok hx
  rw [primeFirst, if_pos h.ok]
  cases e : primeTo net (ords net.length).length with
  | some r => exact ⟨r, rfl⟩
  | none => exact absurd h (by have := primeTo_none e i hi; rwa [primeAt, hxi, he] at this)
theorem prime_tree {net : List Int} (h : treeOk net = true) : ∃ r, primeFirst net = some r := by
  obtain ⟨row, hr⟩ := tree_prime h
  exact prime_some hr

end Go.Abs
