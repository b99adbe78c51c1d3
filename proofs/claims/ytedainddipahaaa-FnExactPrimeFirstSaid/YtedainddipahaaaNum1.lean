/- Nets that numbers make. Own work; no condition. -/
import Derived.Test.YtedainddipahaaaSpecH1
import Derived.Test.YtedainddipahaaaOrd3
import Derived.Test.YtedainddipahaaaSets
set_option maxRecDepth 100000
set_option linter.unusedSimpArgs false
set_option linter.unusedVariables false
namespace Go.Abs
open Go.Proofs
attribute [local irreducible] awp awpOps awpKeep KeepK awpKeepF KeepF aloop ALoop ACalls ACallq AQuiet retPost retPostA AExit.thn AExit.blk aApp aSt aStA

/-! ### Lists of numbers -/

structure Nums (l : List Int) : Prop where
  pos : 1 ≤ l.length
  six : l.length ≤ 6
  low : ∀ k, k < l.length → 1 ≤ (l.getD k 0) ∧ (l.getD k 0) ≤ 30
  once : Once l
noncomputable instance (l : List Int) : Decidable (Nums l) := Classical.propDecidable _

def coF (l : List Int) (k j : Nat) : Bool := decide (j ≠ k) && decide (Nat.gcd ((l.getD k 0)).toNat ((l.getD j 0)).toNat = 1)
def diF (l : List Int) (k j : Nat) : Bool := decide (j ≠ k) && decide ((l.getD k 0) % (l.getD j 0) = 0 ∨ (l.getD j 0) % (l.getD k 0) = 0)
def suF (l : List Int) (k j : Nat) : Bool := decide (j ≠ k) && decide ((l.getD k 0) + (l.getD j 0) ∈ l)
noncomputable def coNet (l : List Int) : List Int := if Nums l then netBy (coF l) l.length else []
noncomputable def diNet (l : List Int) : List Int := if Nums l then netBy (diF l) l.length else []
noncomputable def suNet (l : List Int) : List Int := if Nums l then netBy (suF l) l.length else []

theorem ne_sym (j k : Nat) : decide (j ≠ k) = decide (k ≠ j) := decide_eq_decide.2 ⟨fun h c => h c.symm, fun h c => h c.symm⟩
theorem coF_own (l : List Int) (k : Nat) : coF l k k = false := by simp [coF]
theorem diF_own (l : List Int) (k : Nat) : diF l k k = false := by simp [diF]
theorem suF_own (l : List Int) (k : Nat) : suF l k k = false := by simp [suF]
theorem coF_sym (l : List Int) (k j : Nat) : coF l k j = coF l j k := by unfold coF; rw [ne_sym, decide_eq_decide.2 (show Nat.gcd ((l.getD k 0)).toNat ((l.getD j 0)).toNat = 1 ↔ Nat.gcd ((l.getD j 0)).toNat ((l.getD k 0)).toNat = 1 by rw [Nat.gcd_comm])]
theorem diF_sym (l : List Int) (k j : Nat) : diF l k j = diF l j k := by unfold diF; rw [ne_sym, decide_eq_decide.2 (Or.comm (a := (l.getD k 0) % (l.getD j 0) = 0))]
theorem suF_sym (l : List Int) (k j : Nat) : suF l k j = suF l j k := by unfold suF; rw [ne_sym, Int.add_comm]

theorem co_net {l : List Int} (h : Nums l) : coNet l = netBy (coF l) l.length ∧ NetOk (coNet l) ∧ (coNet l).length = l.length := by
  have e : coNet l = netBy (coF l) l.length := if_pos h
  rw [e]; exact ⟨rfl, netBy_ok h.pos h.six (fun k _ => coF_own l k) (fun k j _ _ => coF_sym l k j), netBy_len _ _⟩
theorem di_net {l : List Int} (h : Nums l) : diNet l = netBy (diF l) l.length ∧ NetOk (diNet l) ∧ (diNet l).length = l.length := by
  have e : diNet l = netBy (diF l) l.length := if_pos h
  rw [e]; exact ⟨rfl, netBy_ok h.pos h.six (fun k _ => diF_own l k) (fun k j _ _ => diF_sym l k j), netBy_len _ _⟩
theorem su_net {l : List Int} (h : Nums l) : suNet l = netBy (suF l) l.length ∧ NetOk (suNet l) ∧ (suNet l).length = l.length := by
  have e : suNet l = netBy (suF l) l.length := if_pos h
  rw [e]; exact ⟨rfl, netBy_ok h.pos h.six (fun k _ => suF_own l k) (fun k j _ _ => suF_sym l k j), netBy_len _ _⟩

/-- The number 1 is a neighbour of all others. -/
theorem co_one {l : List Int} (h : Nums l) {k : Nat} (hk : k < l.length) (h1 : (l.getD k 0) = 1) : (pc ((coNet l).getD k 0).toNat : Int) = l.length - 1 := by
  rw [(co_net h).1, netBy_get _ hk, Int.toNat_natCast, setN_congr (g := fun j => decide (j ≠ k)) fun j hj => by
    show (decide (j ≠ k) && decide (Nat.gcd ((l.getD k 0)).toNat ((l.getD j 0)).toNat = 1)) = decide (j ≠ k)
    rw [decide_eq_true (show Nat.gcd ((l.getD k 0)).toNat ((l.getD j 0)).toNat = 1 by rw [h1]; exact Nat.gcd_one_left _), Bool.and_true]]
  have := pc_all_but l.length (by have := h.six; omega) k hk
  omega
/-- Neighbours by division, both greater than 1, have a common divisor. -/
theorem di_co {l : List Int} (h : Nums l) {a b : Nat} (ha : a < l.length) (hb : b < l.length) (h1 : 1 < (l.getD a 0)) (h2 : 1 < (l.getD b 0)) (hd : diF l a b = true) : coF l a b = false := by
  have hd' : b ≠ a ∧ ((l.getD a 0) % (l.getD b 0) = 0 ∨ (l.getD b 0) % (l.getD a 0) = 0) := by simpa [diF] using hd
  obtain ⟨x, hx⟩ := Int.eq_ofNat_of_zero_le (show 0 ≤ (l.getD a 0) by omega)
  obtain ⟨y, hy⟩ := Int.eq_ofNat_of_zero_le (show 0 ≤ (l.getD b 0) by omega)
  rw [hx, hy] at hd'
  unfold coF
  rw [hx, hy, Int.toNat_natCast, Int.toNat_natCast]
  have : Nat.gcd x y ≠ 1 := by
    rcases hd'.2 with c | c
    · have hdv : y ∣ x := Nat.dvd_of_mod_eq_zero (by omega)
      rw [Nat.gcd_comm, Nat.gcd_eq_left hdv]; omega
    · have hdv : x ∣ y := Nat.dvd_of_mod_eq_zero (by omega)
      rw [Nat.gcd_eq_left hdv]; omega
  rw [decide_eq_false this, Bool.and_false]
/-- Division goes on. -/
theorem di_trans {l : List Int} (h : Nums l) {a b c : Nat} (ha : a < l.length) (hb : b < l.length) (hc : c < l.length) (h1 : (l.getD a 0) < (l.getD b 0)) (h2 : (l.getD b 0) < (l.getD c 0)) (hd : diF l a b = true) (he : diF l b c = true) : diF l a c = true := by
  have hd' : b ≠ a ∧ ((l.getD a 0) % (l.getD b 0) = 0 ∨ (l.getD b 0) % (l.getD a 0) = 0) := by simpa [diF] using hd
  have he' : c ≠ b ∧ ((l.getD b 0) % (l.getD c 0) = 0 ∨ (l.getD c 0) % (l.getD b 0) = 0) := by simpa [diF] using he
  have l1 := h.low a ha
  have l2 := h.low b hb
  have l3 := h.low c hc
  have hac : c ≠ a := fun e => by subst e; omega
  have q1 : (l.getD b 0) % (l.getD a 0) = 0 := by
    rcases hd'.2 with c | c
    · rw [Int.emod_eq_of_lt (by omega) h1] at c; omega
    · exact c
  have q2 : (l.getD c 0) % (l.getD b 0) = 0 := by
    rcases he'.2 with c | c
    · rw [Int.emod_eq_of_lt (by omega) h2] at c; omega
    · exact c
  have q3 : (l.getD c 0) % (l.getD a 0) = 0 := Int.emod_eq_zero_of_dvd (Int.dvd_trans (Int.dvd_of_emod_eq_zero q1) (Int.dvd_of_emod_eq_zero q2))
  unfold diF
  rw [decide_eq_true hac, decide_eq_true (Or.inr q3)]
  rfl
/-- The greatest number has no neighbour by sums. -/
theorem su_top {l : List Int} (h : Nums l) {k : Nat} (hk : k < l.length) (ht : ∀ j, j < l.length → (l.getD j 0) ≤ (l.getD k 0)) : (suNet l).getD k 0 = 0 := by
  rw [(su_net h).1, netBy_get _ hk, setN_congr (g := fun _ => false) fun j hj => ?_]
  · have : ∀ n, setN (fun _ => false) n = 0 := fun n => by
      induction n with
      | zero => rfl
      | succ n ih => rw [setN_step, ih]; rfl
    rw [this]; rfl
  · have hn : ¬ ((l.getD k 0) + (l.getD j 0) ∈ l) := fun hm => by
      obtain ⟨i, hi, he⟩ := List.getElem_of_mem hm
      have e : (l.getD i 0) = l[i] := by show l.getD i 0 = _; rw [List.getD_eq_getElem?_getD, List.getElem?_eq_getElem hi]; rfl
      have := ht i hi
      have := h.low j hj
      omega
    show (decide (j ≠ k) && decide _) = false
    rw [decide_eq_false hn, Bool.and_false]

end Go.Abs
