/- Nets that numbers make. Own work; no condition. -/
import Derived.Test.YtedainddipahaaaSpecH1
import Derived.Test.YtedainddipahaaaOrd3
import Derived.Test.YtedainddipahaaaSets
import Derived.Test.YtedainddipahaaaGrace4
import Derived.Test.YtedainddipahaaaCover1
set_option maxRecDepth 100000
set_option linter.unusedSimpArgs false
set_option linter.unusedVariables false
namespace Go.Abs
open Go.Proofs
attribute [local irreducible] awp awpOps awpKeep KeepK awpKeepF KeepF aloop ALoop ACalls ACallq AQuiet retPost retPostA AExit.thn AExit.blk aApp aSt aStA

/-! ### Lists of numbers -/

structure Nums (l : List Int) : Prop where
  pos : 1 ≤ l.length
  six : l.length ≤ 6
  low : ∀ k, k < l.length → 1 ≤ (l.getD k 0) ∧ (l.getD k 0) ≤ 30
  once : Once l
noncomputable instance (l : List Int) : Decidable (Nums l) := Classical.propDecidable _

def coF (l : List Int) (k j : Nat) : Bool := decide (j ≠ k) && decide (Nat.gcd ((l.getD k 0)).toNat ((l.getD j 0)).toNat = 1)
def diF (l : List Int) (k j : Nat) : Bool := decide (j ≠ k) && decide ((l.getD k 0) % (l.getD j 0) = 0 ∨ (l.getD j 0) % (l.getD k 0) = 0)
def suF (l : List Int) (k j : Nat) : Bool := decide (j ≠ k) && decide ((l.getD k 0) + (l.getD j 0) ∈ l)
noncomputable def coNet (l : List Int) : List Int := if Nums l then netBy (coF l) l.length else []
noncomputable def diNet (l : List Int) : List Int := if Nums l then netBy (diF l) l.length else []
noncomputable def suNet (l : List Int) : List Int := if Nums l then netBy (suF l) l.length else []

theorem ne_sym (j k : Nat) : decide (j ≠ k) = decide (k ≠ j) := decide_eq_decide.2 ⟨fun h c => h c.symm, fun h c => h c.symm⟩
theorem coF_own (l : List Int) (k : Nat) : coF l k k = false := by simp [coF]
theorem diF_own (l : List Int) (k : Nat) : diF l k k = false := by simp [diF]
theorem suF_own (l : List Int) (k : Nat) : suF l k k = false := by simp [suF]
theorem coF_sym (l : List Int) (k j : Nat) : coF l k j = coF l j k := by unfold coF; rw [ne_sym, decide_eq_decide.2 (show Nat.gcd ((l.getD k 0)).toNat ((l.getD j 0)).toNat = 1 ↔ Nat.gcd ((l.getD j 0)).toNat ((l.getD k 0)).toNat = 1 by rw [Nat.gcd_comm])]
theorem diF_sym (l : List Int) (k j : Nat) : diF l k j = diF l j k := by unfold diF; rw [ne_sym, decide_eq_decide.2 (Or.comm (a := (l.getD k 0) % (l.getD j 0) = 0))]
theorem suF_sym (l : List Int) (k j : Nat) : suF l k j = suF l j k := by unfold suF; rw [ne_sym, Int.add_comm]

theorem co_net {l : List Int} (h : Nums l) : coNet l = netBy (coF l) l.length ∧ NetOk (coNet l) ∧ (coNet l).length = l.length := by
  have e : coNet l = netBy (coF l) l.length := if_pos h
  rw [e]; exact ⟨rfl, netBy_ok h.pos h.six (fun k _ => coF_own l k) (fun k j _ _ => coF_sym l k j), netBy_len _ _⟩
theorem di_net {l : List Int} (h : Nums l) : diNet l = netBy (diF l) l.length ∧ NetOk (diNet l) ∧ (diNet l).length = l.length := by
  have e : diNet l = netBy (diF l) l.length := if_pos h
  rw [e]; exact ⟨rfl, netBy_ok h.pos h.six (fun k _ => diF_own l k) (fun k j _ _ => diF_sym l k j), netBy_len _ _⟩
theorem su_net {l : List Int} (h : Nums l) : suNet l = netBy (suF l) l.length ∧ NetOk (suNet l) ∧ (suNet l).length = l.length := by
  have e : suNet l = netBy (suF l) l.length := if_pos h
  rw [e]; exact ⟨rfl, netBy_ok h.pos h.six (fun k _ => suF_own l k) (fun k j _ _ => suF_sym l k j), netBy_len _ _⟩

/-- The number 1 is a neighbour of all others. -/
theorem co_one {l : List Int} (h : Nums l) {k : Nat} (hk : k < l.length) (h1 : (l.getD k 0) = 1) : (pc ((coNet l).getD k 0).toNat : Int) = l.length - 1 := by
  rw [(co_net h).1, netBy_get _ hk, Int.toNat_natCast, setN_congr (g := fun j => decide (j ≠ k)) fun j hj => by
    show (decide (j ≠ k) && decide (Nat.gcd ((l.getD k 0)).toNat ((l.getD j 0)).toNat = 1)) = decide (j ≠ k)
    rw [decide_eq_true (show Nat.gcd ((l.getD k 0)).toNat ((l.getD j 0)).toNat = 1 by rw [h1]; exact Nat.gcd_one_left _), Bool.and_true]]
  have := pc_all_but l.length (by have := h.six; omega) k hk
  omega
/-- Neighbours by division, both greater than 1, have a common divisor. -/
theorem di_co {l : List Int} (h : Nums l) {a b : Nat} (ha : a < l.length) (hb : b < l.length) (h1 : 1 < (l.getD a 0)) (h2 : 1 < (l.getD b 0)) (hd : diF l a b = true) : coF l a b = false := by
  have hd' : b ≠ a ∧ ((l.getD a 0) % (l.getD b 0) = 0 ∨ (l.getD b 0) % (l.getD a 0) = 0) := by simpa [diF] using hd
  obtain ⟨x, hx⟩ := Int.eq_ofNat_of_zero_le (show 0 ≤ (l.getD a 0) by omega)
  obtain ⟨y, hy⟩ := Int.eq_ofNat_of_zero_le (show 0 ≤ (l.getD b 0) by omega)
  rw [hx, hy] at hd'
  unfold coF
  rw [hx, hy, Int.toNat_natCast, Int.toNat_natCast]
  have : Nat.gcd x y ≠ 1 := by
    rcases hd'.2 with c | c
    · have hdv : y ∣ x := Nat.dvd_of_mod_eq_zero (by omega)
      rw [Nat.gcd_comm, Nat.gcd_eq_left hdv]; omega
    · have hdv : x ∣ y := Nat.dvd_of_mod_eq_zero (by omega)
      rw [Nat.gcd_eq_left hdv]; omega
  rw [decide_eq_false this, Bool.and_false]
/-- Division goes on. -/
theorem di_trans {l : List Int} (h : Nums l) {a b c : Nat} (ha : a < l.length) (hb : b < l.length) (hc : c < l.length) (h1 : (l.getD a 0) < (l.getD b 0)) (h2 : (l.getD b 0) < (l.getD c 0)) (hd : diF l a b = true) (he : diF l b c = true) : diF l a c = true := by
  have hd' : b ≠ a ∧ ((l.getD a 0) % (l.getD b 0) = 0 ∨ (l.getD b 0) % (l.getD a 0) = 0) := by simpa [diF] using hd
  have he' : c ≠ b ∧ ((l.getD b 0) % (l.getD c 0) = 0 ∨ (l.getD c 0) % (l.getD b 0) = 0) := by simpa [diF] using he
  have l1 := h.low a ha
  have l2 := h.low b hb
  have l3 := h.low c hc
  have hac : c ≠ a := fun e => by subst e; omega
  have q1 : (l.getD b 0) % (l.getD a 0) = 0 := by
    rcases hd'.2 with c | c
    · rw [Int.emod_eq_of_lt (by omega) h1] at c; omega
    · exact c
  have q2 : (l.getD c 0) % (l.getD b 0) = 0 := by
    rcases he'.2 with c | c
    · rw [Int.emod_eq_of_lt (by omega) h2] at c; omega
    · exact c
  have q3 : (l.getD c 0) % (l.getD a 0) = 0 := Int.emod_eq_zero_of_dvd (Int.dvd_trans (Int.dvd_of_emod_eq_zero q1) (Int.dvd_of_emod_eq_zero q2))
  unfold diF
  rw [decide_eq_true hac, decide_eq_true (Or.inr q3)]
  rfl
/-- The greatest number has no neighbour by sums. -/
theorem su_top {l : List Int} (h : Nums l) {k : Nat} (hk : k < l.length) (ht : ∀ j, j < l.length → (l.getD j 0) ≤ (l.getD k 0)) : (suNet l).getD k 0 = 0 := by
  rw [(su_net h).1, netBy_get _ hk, setN_congr (g := fun _ => false) fun j hj => ?_]
  · have : ∀ n, setN (fun _ => false) n = 0 := fun n => by
      induction n with
      | zero => rfl
      | succ n ih => rw [setN_step, ih]; rfl
    rw [this]; rfl
  · have hn : ¬ ((l.getD k 0) + (l.getD j 0) ∈ l) := fun hm => by
      obtain ⟨i, hi, he⟩ := List.getElem_of_mem hm
      have e : (l.getD i 0) = l[i] := by show l.getD i 0 = _; rw [List.getD_eq_getElem?_getD, List.getElem?_eq_getElem hi]; rfl
      have := ht i hi
      have := h.low j hj
      omega
    show (decide (j ≠ k) && decide _) = false
    rw [decide_eq_false hn, Bool.and_false]

end Go.Abs

/- Prime rows: each tree has one, by going through all nets. Own work; no condition. -/
set_option maxRecDepth 100000
set_option linter.unusedSimpArgs false
set_option linter.unusedVariables false
namespace Go.Abs
open Go.Proofs
attribute [local irreducible] awp awpOps awpKeep KeepK awpKeepF KeepF aloop ALoop ACalls ACallq AQuiet retPost retPostA AExit.thn AExit.blk aApp aSt aStA
open Parts

/-- A prime row. -/
structure PrimeRow (net row : List Int) : Prop where
  ok : NetOk net
  len : row.length = net.length
  low : ∀ k, k < net.length → 1 ≤ (row.getD k 0) ∧ (row.getD k 0) ≤ net.length
  once : Once row
  co : ∀ b, b < net.length → ∀ a, a < b → bit ((net.getD b 0)) a = true → Nat.gcd ((row.getD a 0)).toNat ((row.getD b 0)).toNat = 1
noncomputable instance (net row : List Int) : Decidable (PrimeRow net row) := Classical.propDecidable _

noncomputable def copr (N a R x : Nat) (k : Nat) : Bool := @Nat.rec (fun _ => Bool) true (fun j ih => bif ih then (bif has (row N a) j then Nat.beq (Nat.gcd x (lab R j)) 1 else true) else false) k
/-- The first prime row from place a on; 0 if there is none, else the row with a mark above. -/
noncomputable def dfsP (n N : Nat) (f : Nat) : Nat → Nat → Nat → Nat := @Nat.rec (fun _ => Nat → Nat → Nat → Nat) (fun _ R _ => Nat.add R 1152921504606846976)
  (fun _ ih a R U => @Nat.rec (fun _ => Nat) 0 (fun x sofar => frc sofar fun found => bif Nat.beq found 0 then (bif has U x then 0 else bif copr N a R (Nat.succ x) a then
    frc (Nat.succ a) fun a1 => frc (Nat.add R (Nat.mul (Nat.succ x) (Nat.pow 256 a))) fun R1 => frc (Nat.add U (Nat.pow 2 x)) fun U1 => ih a1 R1 U1 else 0) else found) n) f
/-- Is a row prime? -/
noncomputable def okPr (n N R : Nat) : Bool :=
  upto (fun k => bif Nat.ble 1 (lab R k) then (bif Nat.ble (lab R k) n then upto (fun j => bif Nat.beq (lab R j) (lab R k) then false else bif has (row N k) j then Nat.beq (Nat.gcd (lab R j) (lab R k)) 1 else true) k else false) else false) n
noncomputable def primF (n N W : Nat) : Bool := bif Nat.beq (Nat.succ W) n then (bif Nat.beq (pm N 6 (Nat.sub (Nat.pow 2 n) 1) 0) 1 then
  frc (Nat.land (dfsP n N n 0 0 0) 1152921504606846975) fun R => okPr n N R else true) else true
theorem primF1 : chkF primF 1 0 0 0 = true := by decide +kernel
theorem primF2 : chkF primF 2 0 0 0 = true := by decide +kernel
theorem primF3 : chkF primF 3 0 0 0 = true := by decide +kernel
theorem primF4 : chkF primF 4 0 0 0 = true := by decide +kernel
theorem primF5 : chkF primF 5 0 0 0 = true := by decide +kernel
theorem primF6 : chkF primF 6 0 0 0 = true := by decide +kernel

theorem okPr_prime {net : List Int} (hN : NetOk net) {R : Nat} (h : okPr net.length (pk net) R = true) : PrimeRow net (labs R net.length) := by
  have h6 := hN.six
  have hb : ∀ b a, b < net.length → a < 6 → has (row (pk net) b) a = bit ((net.getD b 0)) a := fun b a hb ha => by
    rw [row_of hN (by omega), has_tbit]; unfold bit nrow; rfl
  have hk1 : ∀ k, k < net.length → 1 ≤ lab R k ∧ lab R k ≤ net.length ∧ ∀ j, j < k → lab R j ≠ lab R k ∧ (has (row (pk net) k) j = true → Nat.gcd (lab R j) (lab R k) = 1) := fun k hk => by
    obtain ⟨g1, g2⟩ := bif_and (upto_all h k hk)
    obtain ⟨g3, g4⟩ := bif_and (show (bif Nat.ble (lab R k) net.length then upto _ k else false) = true from g2)
    refine ⟨Nat.le_of_ble_eq_true g1, Nat.le_of_ble_eq_true g3, fun j hj => ?_⟩
    have g5 := upto_all g4 j hj
    cases e : Nat.beq (lab R j) (lab R k) with
    | true => rw [e] at g5; cases g5
    | false =>
      rw [e] at g5
      refine ⟨fun c => by rw [c] at e; simp at e, fun hh => ?_⟩
      rw [hh] at g5
      exact Nat.eq_of_beq_eq_true g5
  refine ⟨hN, labs_len _ _, fun k hk => ?_, fun k hk j hj e => ?_, fun b hb1 a hab hbit => ?_⟩
  · obtain ⟨q1, q2, _⟩ := hk1 k hk
    rw [labs_get hk]; omega
  · rw [labs_len] at hk
    obtain ⟨_, _, q3⟩ := hk1 k hk
    rw [labs_get hk, labs_get (by omega)] at e
    exact (q3 j hj).1 (by omega)
  · obtain ⟨_, _, q3⟩ := hk1 b hb1
    rw [labs_get hb1, labs_get (by omega), Int.toNat_natCast, Int.toNat_natCast]
    exact (q3 a hab).2 ((hb b a hb1 (by omega)).trans hbit)

/-- Each tree has a prime row. -/
theorem tree_prime {net : List Int} (h : treeOk net = true) : ∃ row, PrimeRow net row := by
  obtain ⟨hN, h1, h2⟩ := of_decide_eq_true h
  have h6 := hN.six
  have hp := hN.pos
  have hF := all_of primF1 primF2 primF3 primF4 primF5 primF6 hN
  rw [partMany, if_pos hN] at h1
  rw [wiresOf, if_pos hN] at h2
  unfold primF at hF
  rw [show Nat.beq (Nat.succ (wires net).length) net.length = true by rw [show Nat.succ (wires net).length = net.length by omega]; simp] at hF
  have e1 : pm (pk net) 6 (2 ^ net.length - 1) 0 = 1 := by omega
  have e2 : Nat.sub (Nat.pow 2 net.length) 1 = 2 ^ net.length - 1 := rfl
  rw [e2, e1] at hF
  simp only [frc_eq, cond_true, show Nat.beq 1 1 = true from rfl] at hF
  exact ⟨_, okPr_prime hN hF⟩

end Go.Abs

/- The greatest number of a list is alone by sums; the first prime row. Own work; no condition. -/
set_option maxRecDepth 100000
set_option linter.unusedSimpArgs false
set_option linter.unusedVariables false
namespace Go.Abs
open Go.Proofs
attribute [local irreducible] awp awpOps awpKeep KeepK awpKeepF KeepF aloop ALoop ACalls ACallq AQuiet retPost retPostA AExit.thn AExit.blk aApp aSt aStA
open Parts

theorem part_one {net : List Int} (hN : NetOk net) (h1 : net.length = 1) : partMany net = 1 := by
  have h := (cover_use hN).1
  have hc := (cover_range hN).2
  have hp : 1 ≤ partMany net := by
    have hf := fact_use (all_fact hN)
    have hpart : partMany net = (pm (pk net) 6 (2 ^ net.length - 1) 0 : Nat) := if_pos hN
    have := hf.2.2.1
    omega
  omega
theorem su_part {l : List Int} (h : Nums l) {k : Nat} (hk : k < l.length) (ht : ∀ j, j < l.length → (l.getD j 0) ≤ (l.getD k 0)) : l.length = 1 ↔ partMany (suNet l) = 1 := by
  obtain ⟨_, hN, hl⟩ := su_net h
  constructor
  · intro h1; exact part_one hN (by omega)
  · intro h1
    have hz := su_top h hk ht
    have hno : ∀ j, bit (((suNet l).getD k 0)) j = false := fun j => by rw [show ((suNet l).getD k 0) = 0 from hz]; exact bit_nat 0 j ▸ by simp
    have hc : ∀ x y, x < (suNet l).length → y < (suNet l).length → bit (((suNet l).getD x 0)) y = true → decide (x = k) = decide (y = k) := fun x y hx hy hxy => by
      by_cases c1 : x = k
      · rw [c1, hno] at hxy; cases hxy
      · by_cases c2 : y = k
        · rw [hN.sym hx hy, c2, hno] at hxy; cases hxy
        · rw [decide_eq_false c1, decide_eq_false c2]
    have h1l := h.pos
    by_cases c : l.length = 1
    · exact c
    · have hx : (if k = 0 then 1 else 0) < l.length := by split <;> omega
      have := one_part hN hc h1 (x := k) (y := if k = 0 then 1 else 0) (by rw [hl]; exact hk) (by rw [hl]; exact hx)
      rw [decide_eq_true rfl] at this
      have := of_decide_eq_true this.symm
      split at this <;> omega

/-! ### Prime rows by orders -/

theorem PrimeRow.of_order {net row : List Int} (h : PrimeRow net row) : ∃ x, OrdOk net x ∧ moved net x 1 = row := by
  have h6 := h.ok.six
  have hO : OrdOk net (row.map fun z => z - 1) := ⟨⟨h.ok, by rw [List.length_map]; exact h.len, fun k hk => by
    rw [List.length_map, h.len] at hk
    rw [map_get _ (by rw [h.len]; exact hk)]
    have := h.low k hk
    omega⟩, once_map _ (fun a b e => by omega) h.once⟩
  refine ⟨_, hO, ?_⟩
  have e : ((row.map fun z => z - 1).map fun z => z + 1) = row := by
    rw [List.map_map]
    have : ((fun z : Int => z + 1) ∘ fun z => z - 1) = id := by funext z; show z - 1 + 1 = z; omega
    rw [this, List.map_id]
  have hW : Within 30 ((row.map fun z => z - 1).map fun z => z + 1) := by
    rw [e]
    intro k hk
    have := h.low k (by rw [← h.len]; exact hk)
    omega
  rw [moved, if_pos ⟨hO.rowOk, by decide, hW⟩, e]

/-- The first prime row of the orders from 1 on. -/
noncomputable def primeAt (net : List Int) (k : Nat) : List Int := moved net ((ords net.length).getD k []) 1
noncomputable def primeTo (net : List Int) : Nat → Option (List Int)
  | 0 => none
  | k + 1 => match primeTo net k with
    | some r => some r
    | none => if PrimeRow net (primeAt net k) then some (primeAt net k) else none
theorem primeTo_step (net : List Int) (k : Nat) : primeTo net (k + 1) = match primeTo net k with
    | some r => some r
    | none => if PrimeRow net (primeAt net k) then some (primeAt net k) else none := rfl
noncomputable def primeFirst (net : List Int) : Option (List Int) := if NetOk net then primeTo net (ords net.length).length else none
theorem primeTo_is {net : List Int} : ∀ {k : Nat} {r : List Int}, primeTo net k = some r → PrimeRow net r
  | 0, _, h => by cases h
  | k + 1, r, h => by
    rw [primeTo_step] at h
    cases e : primeTo net k with
    | some r' => rw [e] at h; cases h; exact primeTo_is e
    | none =>
      rw [e] at h
      by_cases c : PrimeRow net (primeAt net k)
      · rw [if_pos c] at h; cases h; exact c
      · rw [if_neg c] at h; cases h
theorem primeTo_none {net : List Int} : ∀ {k : Nat}, primeTo net k = none → ∀ i, i < k → ¬ PrimeRow net (primeAt net i)
  | 0, _, i, hi => absurd hi (Nat.not_lt_zero i)
  | k + 1, h, i, hi => by
    rw [primeTo_step] at h
    cases e : primeTo net k with
    | some r' => rw [e] at h; cases h
    | none =>
      rw [e] at h
      by_cases c : PrimeRow net (primeAt net k)
      · rw [if_pos c] at h; cases h
      · rcases Nat.lt_succ_iff_lt_or_eq.1 hi with hlt | rfl
        · exact primeTo_none e i hlt
        · exact c
theorem prime_is {net r : List Int} (h : primeFirst net = some r) : PrimeRow net r := by
  by_cases hN : NetOk net
  · rw [primeFirst, if_pos hN] at h; exact primeTo_is h
  · rw [primeFirst, if_neg hN] at h; cases h
theorem prime_some {net row : List Int} (h : PrimeRow net row) : ∃ r, primeFirst net = some r := by
  obtain ⟨x, hx, he⟩ := h.of_order
  obtain ⟨i, hi, hxi⟩ := ords_index h.ok hx
  rw [primeFirst, if_pos h.ok]
  cases e : primeTo net (ords net.length).length with
  | some r => exact ⟨r, rfl⟩
  | none => exact absurd h (by have := primeTo_none e i hi; rwa [primeAt, hxi, he] at this)
theorem prime_tree {net : List Int} (h : treeOk net = true) : ∃ r, primeFirst net = some r := by
  obtain ⟨row, hr⟩ := tree_prime h
  exact prime_some hr

end Go.Abs
