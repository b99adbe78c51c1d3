/- Sides, place by place: what a pass does. Own work; no condition. -/
import Derived.Test.YtmanphhghdnliaaPart5
import Derived.Test.YtmanphhghdnliaaPart4
set_option maxRecDepth 100000
set_option linter.unusedSimpArgs false
set_option linter.unusedVariables false
namespace Go.Abs
open Go.Proofs
attribute [local irreducible] awp awpOps awpKeep KeepK awpKeepF KeepF aloop ALoop ACalls ACallq AQuiet retPost retPostA AExit.thn AExit.blk aApp aSt aStA
open Parts

theorem rowp_pk {net : List Int} (h : NetOk net) {a : Nat} (ha : a < 6) : row (pk net) a = nrow net a := by
  have r := nrow_lt h
  have r0 := r 0
  have r1 := r 1
  have r2 := r 2
  have r3 := r 3
  have r4 := r 4
  have r5 := r 5
  have e : row (pk net) a = pk net / 2 ^ (8 * a) % 256 := by
    show (pk net >>> (8 * a)) &&& (2 ^ 8 - 1) = _
    rw [Nat.and_two_pow_sub_one_eq_mod, Nat.shiftRight_eq_div_pow]
  rw [e]
  unfold pk
  have hc : a = 0 ∨ a = 1 ∨ a = 2 ∨ a = 3 ∨ a = 4 ∨ a = 5 := by omega
  rcases hc with rfl | rfl | rfl | rfl | rfl | rfl <;> omega
theorem has_tb (x k : Nat) : has x k = x.testBit k := by
  unfold has
  have e : Nat.land (Nat.shiftRight x k) 1 = x / 2 ^ k % 2 := by
    show (x >>> k) &&& 1 = _
    rw [Nat.and_one_is_mod, Nat.shiftRight_eq_div_pow]
  rw [e, Nat.testBit_eq_decide_div_mod_eq]
  cases hb : Nat.beq (x / 2 ^ k % 2) 1 with
  | true => exact (decide_eq_true (Nat.eq_of_beq_eq_true hb)).symm
  | false => exact (decide_eq_false fun c => by rw [c] at hb; cases hb).symm

def listOf (n : Nat) (g : Nat → Int) : List Int := (List.range n).map g
theorem listOf_len (n : Nat) (g : Nat → Int) : (listOf n g).length = n := by simp [listOf]
theorem listOf_get {n : Nat} (g : Nat → Int) {k : Nat} (h : k < n) : (listOf n g).getD k 0 = g k := by simp [listOf, List.getD_eq_getElem?_getD, h]
theorem listOf_congr {n : Nat} {g g' : Nat → Int} (h : ∀ j, j < n → g j = g' j) : listOf n g = listOf n g' := List.map_congr_left fun j hj => h j (List.mem_range.1 hj)
theorem listOf_set {n : Nat} (g : Nat → Int) {k : Nat} (v : Int) : (listOf n g).set k v = listOf n fun j => if j = k then v else g j := by
  apply List.ext_getElem
  · simp [listOf]
  · intro i h1 h2
    rw [List.getElem_set]
    simp only [listOf, List.getElem_map, List.getElem_range]
    by_cases e : k = i
    · rw [if_pos e, if_pos e.symm]
    · rw [if_neg e, if_neg fun c => e c.symm]
theorem listOf_zero (n : Nat) : List.replicate n (0 : Int) = listOf n fun _ => 0 := by
  apply List.ext_getElem
  · simp [listOf]
  · intro i h1 h2
    simp [listOf]

def sd (a b : Bool) : Int := if a = true then 1 else if b = true then 2 else 0
def inA (S k : Nat) : Bool := (S % 64).testBit k
def inB (S k : Nat) : Bool := (S / 64).testBit k
/-- The side of a place: 1, 2, or none yet. -/
def sideAt (S k : Nat) : Int := sd (inA S k) (inB S k)
structure Ok2 (S : Nat) : Prop where
  lt : S < 4096
  dis : ∀ j, ¬ (inA S j = true ∧ inB S j = true)

theorem inA_mk {A B : Nat} (h : A < 64) (k : Nat) : inA (A + 64 * B) k = A.testBit k := by
  unfold inA; rw [show (A + 64 * B) % 64 = A by omega]
theorem inB_mk {A B : Nat} (h : A < 64) (k : Nat) : inB (A + 64 * B) k = B.testBit k := by
  unfold inB; rw [show (A + 64 * B) / 64 = B by omega]
theorem S_mk (S : Nat) : S % 64 + 64 * (S / 64) = S := by omega

theorem b63_tb : ∀ j, j < 6 → (63 : Nat).testBit j = true := by decide +kernel
theorem less_tb {x : Nat} (y : Nat) (hx : x < 64) (j : Nat) : (less x y).testBit j = (x.testBit j && !(y.testBit j)) := by
  have e : (less x y).testBit j = (x.testBit j && (y.testBit j ^^ (63 : Nat).testBit j)) := by
    show (x &&& (y ^^^ 63)).testBit j = _
    rw [Nat.testBit_and, Nat.testBit_xor]
  rw [e]
  by_cases hj : j < 6
  · rw [b63_tb j hj]; simp
  · rw [Nat.testBit_lt_two_pow (Nat.lt_of_lt_of_le hx (show 64 ≤ 2 ^ j from Nat.pow_le_pow_right (n := 2) (by decide) (by omega : 6 ≤ j)))]; simp
theorem lor_tb (x y j : Nat) : (Nat.lor x y).testBit j = (x.testBit j || y.testBit j) := Nat.testBit_or x y j

theorem prow_eq (N a S : Nat) : prow N a S = if inA S a = true then S % 64 + 64 * Nat.lor (S / 64) (less (row N a) (Nat.lor (S % 64) (S / 64))) else if inB S a = true then Nat.lor (S % 64) (less (row N a) (Nat.lor (S % 64) (S / 64))) + 64 * (S / 64) else S := by
  show (frc (Nat.mod S 64) fun A => frc (Nat.div S 64) fun B => bif has A a then Nat.add A (Nat.mul 64 (Nat.lor B (less (row N a) (Nat.lor A B)))) else bif has B a then Nat.add (Nat.lor A (less (row N a) (Nat.lor A B))) (Nat.mul 64 B) else S) = _
  rw [frc_eq, frc_eq, has_tb, has_tb]
  show (bif inA S a then _ else bif inB S a then _ else S) = _
  cases inA S a <;> cases inB S a <;> rfl

theorem sd_one (r a b : Bool) : sd a (b || (r && !(a || b))) = if r = true ∧ sd a b = 0 then 2 else sd a b := by cases r <;> cases a <;> cases b <;> decide
theorem sd_two (r a b : Bool) : sd (a || (r && !(a || b))) b = if r = true ∧ sd a b = 0 then 1 else sd a b := by cases r <;> cases a <;> cases b <;> decide

theorem prow_ok {net : List Int} (h : NetOk net) {S : Nat} (hS : Ok2 S) {a : Nat} (ha : a < 6) :
    Ok2 (prow (pk net) a S) ∧ (∀ j, inA S j = true → inA (prow (pk net) a S) j = true) ∧ ∀ j, sideAt (prow (pk net) a S) j = if 0 < sideAt S a ∧ (nrow net a).testBit j = true ∧ sideAt S j = 0 then 3 - sideAt S a else sideAt S j := by
  have hr := nrow_lt h a
  have hA : S % 64 < 64 := Nat.mod_lt _ (by decide)
  have hB : S / 64 < 64 := by have := hS.lt; omega
  rw [prow_eq, rowp_pk h ha]
  have hl := less_lt (Nat.lor (S % 64) (S / 64)) hr
  have htb := less_tb (Nat.lor (S % 64) (S / 64)) hr
  generalize less (nrow net a) (Nat.lor (S % 64) (S / 64)) = r at hl htb
  have htb' : ∀ j, r.testBit j = ((nrow net a).testBit j && !(inA S j || inB S j)) := fun j => by rw [htb, lor_tb]; rfl
  by_cases h1 : inA S a = true
  · rw [if_pos h1]
    have hx := lor_lt hB hl
    have eA : ∀ j, inA (S % 64 + 64 * Nat.lor (S / 64) r) j = inA S j := fun j => inA_mk hA j
    have eB : ∀ j, inB (S % 64 + 64 * Nat.lor (S / 64) r) j = (inB S j || ((nrow net a).testBit j && !(inA S j || inB S j))) := fun j => by rw [inB_mk hA, lor_tb, htb']; rfl
    refine ⟨⟨by omega, fun j => ?_⟩, fun j hj => by rw [eA]; exact hj, fun j => ?_⟩
    · rw [eA, eB]
      have := hS.dis j
      cases ha : inA S j <;> cases hb : inB S j <;> simp_all
    · have e0 : sideAt S a = 1 := by unfold sideAt sd; rw [if_pos h1]
      unfold sideAt at e0 ⊢
      rw [eA, eB, sd_one, e0]
      simp
  · rw [if_neg h1]
    by_cases h2 : inB S a = true
    · rw [if_pos h2]
      have hx := lor_lt hA hl
      have eA : ∀ j, inA (Nat.lor (S % 64) r + 64 * (S / 64)) j = (inA S j || ((nrow net a).testBit j && !(inA S j || inB S j))) := fun j => by rw [inA_mk hx, lor_tb, htb']; rfl
      have eB : ∀ j, inB (Nat.lor (S % 64) r + 64 * (S / 64)) j = inB S j := fun j => inB_mk hx j
      refine ⟨⟨by omega, fun j => ?_⟩, fun j hj => by rw [eA, hj]; rfl, fun j => ?_⟩
      · rw [eA, eB]
        have := hS.dis j
        cases ha : inA S j <;> cases hb : inB S j <;> simp_all
      · have e0 : sideAt S a = 2 := by unfold sideAt sd; rw [if_neg h1, if_pos h2]
        unfold sideAt at e0 ⊢
        rw [eA, eB, sd_two, e0]
        simp
    · rw [if_neg h2]
      have e0 : sideAt S a = 0 := by unfold sideAt sd; rw [if_neg h1, if_neg h2]
      refine ⟨hS, fun j hj => hj, fun j => ?_⟩
      rw [e0, if_neg fun c => Int.lt_irrefl 0 c.1]

theorem pass_zero (N S : Nat) : pass N 0 S = S := rfl
theorem pass_succ (N a S : Nat) : pass N (a + 1) S = prow N a (pass N a S) := by
  show (frc (pass N a S) fun T => prow N a T) = _
  rw [frc_eq]
theorem pass_ok {net : List Int} (h : NetOk net) {S : Nat} (hS : Ok2 S) : ∀ {a : Nat}, a ≤ 6 → Ok2 (pass (pk net) a S) ∧ ∀ j, inA S j = true → inA (pass (pk net) a S) j = true
  | 0, _ => ⟨hS, fun _ hj => hj⟩
  | a + 1, ha => by
    obtain ⟨h1, h2⟩ := pass_ok h hS (a := a) (by omega)
    obtain ⟨g1, g2, _⟩ := prow_ok h h1 (a := a) (by omega)
    rw [pass_succ]
    exact ⟨g1, fun j hj => g2 j (h2 j hj)⟩

theorem nearTo_tb (net : List Int) (s j : Nat) : ∀ k, (nearTo net s k).testBit j = true ↔ ∃ i, i < k ∧ s.testBit i = true ∧ (nrow net i).testBit j = true
  | 0 => ⟨fun h => by simp [nearTo] at h, fun ⟨i, h, _⟩ => absurd h (Nat.not_lt_zero _)⟩
  | k + 1 => by
    have ih := nearTo_tb net s j k
    rw [nearTo]
    by_cases hb : s.testBit k = true
    · rw [if_pos hb, Nat.testBit_or, Bool.or_eq_true, ih]
      constructor
      · rintro (⟨i, h1, h2, h3⟩ | h)
        · exact ⟨i, by omega, h2, h3⟩
        · exact ⟨k, Nat.lt_succ_self _, hb, h⟩
      · rintro ⟨i, h1, h2, h3⟩
        rcases Nat.lt_succ_iff_lt_or_eq.1 h1 with h | rfl
        · exact .inl ⟨i, h, h2, h3⟩
        · exact .inr h3
    · rw [if_neg hb, ih]
      constructor
      · rintro ⟨i, h1, h2, h3⟩
        exact ⟨i, by omega, h2, h3⟩
      · rintro ⟨i, h1, h2, h3⟩
        rcases Nat.lt_succ_iff_lt_or_eq.1 h1 with h | rfl
        · exact ⟨i, h, h2, h3⟩
        · exact absurd h2 hb

theorem zero_of_tb {x : Nat} (h : ∀ j, x.testBit j = false) : x = 0 := Nat.eq_of_testBit_eq fun j => by rw [h j, Nat.zero_testBit]

/-- Where no pass changes anything. -/
theorem pass_closed {net : List Int} (h : NetOk net) {S : Nat} (hS : Ok2 S) (hc : less (near (pk net) (Nat.lor (S % 64) (S / 64))) (Nat.lor (S % 64) (S / 64)) = 0) : ∀ {a : Nat}, a ≤ net.length → pass (pk net) a S = S
  | 0, _ => rfl
  | a + 1, ha => by
    have h6 := h.six
    rw [pass_succ, pass_closed h hS hc (by omega : a ≤ net.length), prow_eq, rowp_pk h (by omega)]
    have hA : S % 64 < 64 := Nat.mod_lt _ (by decide)
    have hB : S / 64 < 64 := by have := hS.lt; omega
    have hU := lor_lt hA hB
    have hin : (Nat.lor (S % 64) (S / 64)).testBit a = true → less (nrow net a) (Nat.lor (S % 64) (S / 64)) = 0 := fun hu => zero_of_tb fun j => by
      rw [less_tb _ (nrow_lt h a)]
      have hz : (less (near (pk net) (Nat.lor (S % 64) (S / 64))) (Nat.lor (S % 64) (S / 64))).testBit j = false := by rw [hc, Nat.zero_testBit]
      have hn : near (pk net) (Nat.lor (S % 64) (S / 64)) < 64 := by rw [near_pk h hU]; exact nearTo_lt h _ _
      rw [less_tb _ hn, near_pk h hU] at hz
      cases hr : (nrow net a).testBit j with
      | false => rfl
      | true =>
        rw [(nearTo_tb net _ j net.length).2 ⟨a, by omega, hu, hr⟩] at hz
        simpa using hz
    have e1 : Nat.lor (S / 64) 0 = S / 64 := Nat.or_zero _
    have e2 : Nat.lor (S % 64) 0 = S % 64 := Nat.or_zero _
    by_cases h1 : inA S a = true
    · rw [if_pos h1, hin (by rw [lor_tb]; unfold inA at h1; rw [h1]; rfl), e1, S_mk]
    · rw [if_neg h1]
      by_cases h2 : inB S a = true
      · rw [if_pos h2, hin (by rw [lor_tb]; unfold inB at h2; rw [h2, Bool.or_true]), e2, S_mk]
      · rw [if_neg h2]

theorem rep_zero (N n S : Nat) : rep N n 0 S = S := rfl
theorem rep_succ (N n f S : Nat) : rep N n (f + 1) S = if less (near N (Nat.lor (S % 64) (S / 64))) (Nat.lor (S % 64) (S / 64)) = 0 then S else rep N n f (pass N n S) := by
  show (frc (Nat.lor (Nat.mod S 64) (Nat.div S 64)) fun U => bif Nat.beq (less (near N U) U) 0 then S else frc (pass N n S) (rep N n f)) = _
  rw [frc_eq, frc_eq]
  show (bif Nat.beq (less (near N (Nat.lor (S % 64) (S / 64))) (Nat.lor (S % 64) (S / 64))) 0 then S else rep N n f (pass N n S)) = _
  cases less (near N (Nat.lor (S % 64) (S / 64))) (Nat.lor (S % 64) (S / 64)) <;> rfl
theorem rep_step {net : List Int} (h : NetOk net) {S : Nat} (hS : Ok2 S) (f : Nat) : rep (pk net) net.length (f + 1) S = rep (pk net) net.length f (pass (pk net) net.length S) := by
  rw [rep_succ]
  by_cases hc : less (near (pk net) (Nat.lor (S % 64) (S / 64))) (Nat.lor (S % 64) (S / 64)) = 0
  · rw [if_pos hc, pass_closed h hS hc (Nat.le_refl _)]
    cases f with
    | zero => rfl
    | succ f => rw [rep_succ, if_pos hc]
  · rw [if_neg hc]
theorem rep_ok {net : List Int} (h : NetOk net) : ∀ (f : Nat) {S : Nat}, Ok2 S → Ok2 (rep (pk net) net.length f S)
  | 0, S, hS => hS
  | f + 1, S, hS => by rw [rep_step h hS]; exact rep_ok h f (pass_ok h hS h.six).1

theorem lor_add : ∀ x, x < 64 → ∀ k, k < 6 → x.testBit k = false → Nat.lor x (2 ^ k) = x + 2 ^ k := by decide +kernel

theorem sds_step {net : List Int} (h : NetOk net) {k : Nat} (hk : k < 6) (hl : sds (pk net) net.length (k + 1) < 4096) : sds (pk net) net.length k < 4096 ∧ first (pk net) k ≠ 2 ∧ (Ok2 (sds (pk net) net.length k) → ∃ S1, Ok2 S1 ∧
    ((first (pk net) k = 1 ∧ ∀ j, sideAt S1 j = if j = k then 1 else sideAt (sds (pk net) net.length k) j) ∨ (first (pk net) k ≠ 1 ∧ S1 = sds (pk net) net.length k)) ∧
    (inA S1 k = true → rep (pk net) net.length net.length S1 = sds (pk net) net.length (k + 1)) ∧ (inA S1 k ≠ true → S1 = sds (pk net) net.length (k + 1))) := by
  have e : sds (pk net) net.length (k + 1) = frc (sds (pk net) net.length k) fun S => bif Nat.ble 4096 S then S else frc (first (pk net) k) fun i => bif Nat.beq i 2 then 8192 else
    bif Nat.beq i 1 then (bif has S k then 8192 else bif has S (Nat.add 6 k) then 8192 else rep (pk net) net.length net.length (Nat.add S (Nat.pow 2 k))) else (bif has S k then rep (pk net) net.length net.length S else S) := rfl
  simp only [frc_eq] at e
  generalize sds (pk net) net.length k = S at e ⊢
  generalize sds (pk net) net.length (k + 1) = T at e hl ⊢
  generalize first (pk net) k = i at e ⊢
  cases hb : Nat.ble 4096 S with
  | true =>
    rw [hb] at e
    have := Nat.le_of_ble_eq_true hb
    simp only [cond_true] at e
    omega
  | false =>
    have hS : S < 4096 := by
      rcases Nat.lt_or_ge S 4096 with h1 | h1
      · exact h1
      · rw [Nat.ble_eq_true_of_le h1] at hb; cases hb
    rw [hb] at e
    simp only [cond_false] at e
    cases h2 : Nat.beq i 2 with
    | true => rw [h2] at e; simp only [cond_true] at e; omega
    | false =>
      rw [h2] at e
      simp only [cond_false] at e
      refine ⟨hS, (fun c => by rw [c] at h2; exact Bool.noConfusion h2), fun hO => ?_⟩
      have hSk : has S k = inA S k := by
        rw [has_tb]; unfold inA
        rw [show (64 : Nat) = 2 ^ 6 from rfl, Nat.testBit_mod_two_pow]
        simp [hk]
      have hS6 : has S (Nat.add 6 k) = inB S k := by
        rw [has_tb]; unfold inB
        rw [show (64 : Nat) = 2 ^ 6 from rfl, Nat.testBit_div_two_pow]
        congr 1
        exact Nat.add_comm 6 k
      cases h1 : Nat.beq i 1 with
      | true =>
        rw [h1] at e
        simp only [cond_true] at e
        have hi := Nat.eq_of_beq_eq_true h1
        rw [hSk, hS6] at e
        cases ha : inA S k with
        | true => rw [ha] at e; simp only [cond_true] at e; omega
        | false =>
          cases hbk : inB S k with
          | true => rw [ha, hbk] at e; simp only [cond_true, cond_false] at e; omega
          | false =>
            rw [ha, hbk] at e
            simp only [cond_false] at e
            have hp := pow_lt64 hk
            have hA : S % 64 < 64 := Nat.mod_lt _ (by decide)
            have hdis : Nat.lor (S % 64) (2 ^ k) = S % 64 + 2 ^ k := lor_add (S % 64) hA k hk ha
            have hx : S % 64 + 2 ^ k < 64 := by rw [← hdis]; exact lor_lt hA hp
            have eS : Nat.add S (Nat.pow 2 k) = Nat.lor (S % 64) (2 ^ k) + 64 * (S / 64) := by
              rw [hdis]
              show S + 2 ^ k = _
              omega
            have eA : ∀ j, inA (Nat.lor (S % 64) (2 ^ k) + 64 * (S / 64)) j = (inA S j || decide (k = j)) := fun j => by rw [inA_mk (by omega), lor_tb, Nat.testBit_two_pow]; rfl
            have eB : ∀ j, inB (Nat.lor (S % 64) (2 ^ k) + 64 * (S / 64)) j = inB S j := fun j => inB_mk (by omega) j
            rw [eS] at e
            refine ⟨_, ⟨by omega, fun j => ?_⟩, .inl ⟨hi, fun j => ?_⟩, fun _ => e.symm, fun c => absurd ?_ c⟩
            · rw [eA, eB]
              have := hO.dis j
              by_cases hkj : k = j
              · subst hkj; rw [hbk]; simp
              · simp [hkj]; simpa using this
            · unfold sideAt
              rw [eA, eB]
              by_cases hkj : j = k
              · subst hkj; rw [if_pos rfl]; unfold sd; simp
              · rw [if_neg hkj, decide_eq_false fun c => hkj c.symm, Bool.or_false]
            · rw [eA]; simp
      | false =>
        rw [h1] at e
        simp only [cond_false] at e
        rw [hSk] at e
        refine ⟨S, hO, .inr ⟨(fun c => by rw [c] at h1; exact Bool.noConfusion h1), rfl⟩, fun c => ?_, fun c => ?_⟩
        · rw [c] at e; exact e.symm
        · cases ha : inA S k with
          | true => exact absurd ha c
          | false => rw [ha] at e; exact e.symm

end Go.Abs

/- Sides in the model, by a contract. Own work; no condition. -/
set_option maxRecDepth 100000
set_option linter.unusedSimpArgs false
set_option linter.unusedVariables false
namespace Go.Abs
open Go.Proofs
attribute [local irreducible] awp awpOps awpKeep KeepK awpKeepF KeepF aloop ALoop ACalls ACallq AQuiet retPost retPostA AExit.thn AExit.blk aApp aSt aStA
open Parts

abbrev SH (m : Heap) (L : List Int) : Heap := m ++ [⟨Ty.int, m.length, true, .ints .i64 L⟩]
theorem at_side {m : Heap} {n k : Nat} {g : Nat → Int} (h : k < n) : Heap.at (SH m (listOf n g)) m.length k = some (.int .i64 (g k)) := by
  rw [← listOf_get g h]
  exact at_row (get_last m _) (by simp only [Vals.len, listOf_len]; exact h)
theorem st_side {m : Heap} (hwf : m.wf) {n k : Nat} {g : Nat → Int} {v : Int} {K : Heap → Prop} (h : k < n) (hk : K (SH m (listOf n fun j => if j = k then v else g j))) : aSt (SH m (listOf n g)) m.length k (.int .i64 v) K :=
  st_last hwf (by simp only [Vals.len, listOf_len]; exact h) rfl (by rw [listOf_set]; exact hk)

/-- The sides after some places of a pass from place a. -/
def stepG (net : List Int) (P a b j : Nat) : Int := if j < b ∧ 0 < sideAt P a ∧ (nrow net a).testBit j = true ∧ sideAt P j = 0 then 3 - sideAt P a else sideAt P j
theorem stepG_own {net : List Int} {P a b : Nat} : stepG net P a b a = sideAt P a := by
  unfold stepG
  rw [if_neg fun c => by omega]
theorem stepG_now {net : List Int} {P a b : Nat} : stepG net P a b b = sideAt P b := by
  unfold stepG
  rw [if_neg fun c => absurd c.1 (Nat.lt_irrefl _)]
theorem stepG_zero {net : List Int} {P a j : Nat} : stepG net P a 0 j = sideAt P j := by
  unfold stepG
  rw [if_neg fun c => absurd c.1 (Nat.not_lt_zero _)]
theorem stepG_yes {net : List Int} {P a b : Nat} (h : 0 < sideAt P a ∧ (nrow net a).testBit b = true ∧ sideAt P b = 0) (j : Nat) : stepG net P a (b + 1) j = if j = b then 3 - sideAt P a else stepG net P a b j := by
  unfold stepG
  by_cases e : j = b
  · subst e; rw [if_pos ⟨Nat.lt_succ_self _, h⟩, if_pos rfl]
  · rw [if_neg e]
    by_cases hc : j < b ∧ 0 < sideAt P a ∧ (nrow net a).testBit j = true ∧ sideAt P j = 0
    · rw [if_pos hc, if_pos ⟨by omega, hc.2⟩]
    · rw [if_neg hc, if_neg fun c => hc ⟨by omega, c.2⟩]
theorem stepG_no {net : List Int} {P a b : Nat} (h : ¬ (0 < sideAt P a ∧ (nrow net a).testBit b = true ∧ sideAt P b = 0)) (j : Nat) : stepG net P a (b + 1) j = stepG net P a b j := by
  unfold stepG
  by_cases hc : j < b ∧ 0 < sideAt P a ∧ (nrow net a).testBit j = true ∧ sideAt P j = 0
  · rw [if_pos hc, if_pos ⟨by omega, hc.2⟩]
  · rw [if_neg hc, if_neg fun c => by
      rcases Nat.lt_succ_iff_lt_or_eq.1 c.1 with h1 | rfl
      · exact hc ⟨h1, c.2⟩
      · exact h c.2]

theorem sd_range (S k : Nat) : sideAt S k = 0 ∨ sideAt S k = 1 ∨ sideAt S k = 2 := by unfold sideAt sd; split; exact .inr (.inl rfl); split; exact .inr (.inr rfl); exact .inl rfl
theorem sd_is1 (S k : Nat) : sideAt S k = 1 ↔ inA S k = true := by unfold sideAt sd; cases inA S k <;> cases inB S k <;> simp
theorem out_step : ∀ A, A < 64 → ∀ k, k < 6 → Nat.lor (A % 2 ^ k) ((A.testBit k).toNat * 2 ^ k) = A % 2 ^ (k + 1) ∧ (A.testBit k).toNat * 2 ^ k < 64 := by decide +kernel

/-- No wire has both ends on one side. -/
def Clean (net : List Int) (S : Nat) : Prop := ∀ i, i < net.length → ∀ j, j < net.length → ¬ (bit ((net.getD i 0)) j = true ∧ sideAt S i = sideAt S j)

theorem bit_nrow (net : List Int) (i j : Nat) : bit ((net.getD i 0)) j = (nrow net i).testBit j := by unfold bit nrow; rfl

theorem proper_iff {net : List Int} (h : NetOk net) {X : Nat} (hX : X < 64) : proper (pk net) X = true ↔ ∀ i j, i < net.length → X.testBit i = true → X.testBit j = true → (nrow net i).testBit j = true → False := by
  have e : proper (pk net) X = Nat.beq (Nat.land (near (pk net) X) X) 0 := rfl
  rw [e, near_pk h hX]
  have tb : ∀ j, (Nat.land (nearTo net X net.length) X).testBit j = ((nearTo net X net.length).testBit j && X.testBit j) := fun j => Nat.testBit_and _ _ _
  constructor
  · intro hb i j hi h1 h2 h3
    have z := tb j
    rw [Nat.eq_of_beq_eq_true hb, Nat.zero_testBit, h2, (nearTo_tb net X j net.length).2 ⟨i, hi, h1, h3⟩] at z
    cases z
  · intro hh
    have z : Nat.land (nearTo net X net.length) X = 0 := zero_of_tb fun j => by
      rw [tb]
      cases h1 : (nearTo net X net.length).testBit j with
      | false => rfl
      | true =>
        obtain ⟨i, g1, g2, g3⟩ := (nearTo_tb net X j net.length).1 h1
        cases h2 : X.testBit j with
        | false => rfl
        | true => exact (hh i j g1 g2 h2 g3).elim
    rw [z]; rfl

theorem clean_iff {net : List Int} (h : NetOk net) {S : Nat} (hS : Ok2 S) (hf : Nat.lor (S % 64) (S / 64) = 2 ^ net.length - 1) : Clean net S ↔ proper (pk net) (S % 64) = true ∧ proper (pk net) (S / 64) = true := by
  have h6 := h.six
  have hA : S % 64 < 64 := Nat.mod_lt _ (by decide)
  have hB : S / 64 < 64 := by have := hS.lt; omega
  have hU : ∀ j, j < net.length → (inA S j || inB S j) = true := fun j hj => by
    have e : (Nat.lor (S % 64) (S / 64)).testBit j = (inA S j || inB S j) := lor_tb _ _ _
    rw [← e, hf, Nat.testBit_two_pow_sub_one]; exact decide_eq_true hj
  have hV : ∀ j, (inA S j || inB S j) = true → j < net.length := fun j hj => by
    have e : (Nat.lor (S % 64) (S / 64)).testBit j = (inA S j || inB S j) := lor_tb _ _ _
    rw [← e, hf, Nat.testBit_two_pow_sub_one] at hj; exact of_decide_eq_true hj
  have prop_iff := fun X hX => proper_iff h (X := X) hX
  rw [prop_iff _ hA, prop_iff _ hB]
  have sA : ∀ j, inA S j = true → sideAt S j = 1 := fun j hj => (sd_is1 S j).2 hj
  have sB : ∀ j, inB S j = true → sideAt S j = 2 := fun j hj => by
    have := hS.dis j
    unfold sideAt sd
    rw [if_neg fun c => this ⟨c, hj⟩, if_pos hj]
  constructor
  · intro hc
    refine ⟨fun i j hi h1 h2 h3 => hc i hi j (hV j (by rw [show inA S j = true from h2]; rfl)) ⟨by rw [bit_nrow]; exact h3, ?_⟩, fun i j hi h1 h2 h3 => hc i hi j (hV j (by rw [show inB S j = true from h2, Bool.or_true])) ⟨by rw [bit_nrow]; exact h3, ?_⟩⟩
    · rw [sA i h1, sA j h2]
    · rw [sB i h1, sB j h2]
  · rintro ⟨p1, p2⟩ i hi j hj ⟨hb, he⟩
    rw [bit_nrow] at hb
    cases hai : inA S i with
    | true =>
      rw [sA i hai] at he
      exact p1 i j hi hai ((sd_is1 S j).1 he.symm) hb
    | false =>
      have hbi : inB S i = true := by have := hU i hi; rw [hai] at this; exact this
      rw [sB i hbi] at he
      have haj : inA S j ≠ true := fun c => by rw [sA j c] at he; cases he
      have hbj : inB S j = true := by have := hU j hj; rw [Bool.eq_false_iff.2 haj] at this; exact this
      exact p2 i j hi hbi hbj hb

theorem sdsEnd_use {N n : Nat} (h : sdsEnd N n ≠ 2000) : sds N n n < 4096 ∧ Nat.lor (sds N n n % 64) (sds N n n / 64) = 2 ^ n - 1 ∧ sdsEnd N n = if proper N (sds N n n % 64) = true ∧ proper N (sds N n n / 64) = true then sds N n n % 64 else 777 := by
  have e : sdsEnd N n = frc (sds N n n) fun S => bif Nat.ble 4096 S then 2000 else frc (Nat.mod S 64) fun A => frc (Nat.div S 64) fun B => bif Nat.beq (Nat.lor A B) (Nat.sub (Nat.pow 2 n) 1) then (bif proper N A then (bif proper N B then A else 777) else 777) else 2000 := rfl
  simp only [frc_eq] at e
  rw [e] at h ⊢
  generalize sds N n n = S at h ⊢
  cases hb : Nat.ble 4096 S with
  | true => rw [hb] at h; exact absurd rfl h
  | false =>
    have hS : S < 4096 := by
      rcases Nat.lt_or_ge S 4096 with h1 | h1
      · exact h1
      · rw [Nat.ble_eq_true_of_le h1] at hb; cases hb
    rw [hb] at h
    simp only [cond_false] at h ⊢
    have em : Nat.mod S 64 = S % 64 := rfl
    have ed : Nat.div S 64 = S / 64 := rfl
    rw [em, ed] at h ⊢
    cases h2 : Nat.beq (Nat.lor (S % 64) (S / 64)) (Nat.sub (Nat.pow 2 n) 1) with
    | false => rw [h2] at h; exact absurd rfl h
    | true =>
      refine ⟨hS, Nat.eq_of_beq_eq_true h2, ?_⟩
      cases proper N (S % 64) <;> cases proper N (S / 64) <;> simp

end Go.Abs
