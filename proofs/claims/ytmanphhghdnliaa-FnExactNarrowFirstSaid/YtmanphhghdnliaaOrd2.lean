/- Orders: nets of one part have no empty cut; which nets have rows of width one. Own work; no condition. -/
import Derived.Test.YtmanphhghdnliaaOrd1
import Derived.Test.YtmanphhghdnliaaAlpha2
import Derived.Test.YtmanphhghdnliaaPart2
import Derived.Test.YtmanphhghdnliaaGrace4
set_option maxRecDepth 100000
set_option linter.unusedSimpArgs false
set_option linter.unusedVariables false
namespace Go.Abs
open Go.Proofs
attribute [local irreducible] awp awpOps awpKeep KeepK awpKeepF KeepF aloop ALoop ACalls ACallq AQuiet retPost retPostA AExit.thn AExit.blk aApp aSt aStA
open Parts

/-! ### One part -/

section
variable {net : List Int} {c : Nat → Bool}
theorem InCl.same (hN : NetOk net) (hc : ∀ x y, x < net.length → y < net.length → bit ((net.getD x 0)) y = true → c x = c y) {b : Bool} {x : Nat} (h64 : x < 64) (hx : InCl net c b x) : InCl net c b (Parts.near (pk net) x) := fun j hj => by
  rw [near_pk hN h64] at hj
  obtain ⟨i, h1, h2, h3⟩ := (nearTo_tb net x j net.length).1 hj
  have hj' : j < net.length := Nat.lt_of_not_le fun hle => by
    have hl : nrow net i < 2 ^ net.length := by
      have := hN.high i h1
      have h0 := hN.low i h1
      unfold nrow
      have e : ((2 : Int) ^ net.length) = ((2 ^ net.length : Nat) : Int) := by simp
      omega
    have := Nat.testBit_lt_two_pow (Nat.lt_of_lt_of_le hl (Nat.pow_le_pow_right (by decide) hle))
    rw [h3] at this
    cases this
  exact ⟨hj', by rw [← hc i j h1 hj' (by rw [bit_nrow]; exact h3)]; exact (hx i h2).2⟩
theorem pt_class (hN : NetOk net) (hc : ∀ x y, x < net.length → y < net.length → bit ((net.getD x 0)) y = true → c x = c y) {b : Bool} : ∀ (f s : Nat), s < 64 → InCl net c b s → InCl net c b (pt (pk net) f s)
  | 0, _, _, h => h
  | f + 1, s, h64, h => by
    rw [pt_succ]
    split
    · exact h
    · exact pt_class hN hc f _ (lor64 h64 (near64 hN h64)) (h.lor (h.same hN hc h64))
theorem first_least (hN : NetOk net) (hc : ∀ x y, x < net.length → y < net.length → bit ((net.getD x 0)) y = true → c x = c y) {k : Nat} (hk : k < net.length) (hl : ∀ j, j < k → c j ≠ c k) (h2 : first (pk net) k ≠ 2) : first (pk net) k = 1 := by
  have h6 := hN.six
  rw [(first_two h2).2, if_pos]
  have hI : InCl net c (c k) (pt (pk net) 6 (2 ^ k)) := pt_class hN hc 6 _ (pow_lt64 (by omega)) fun j h => by
    rw [Nat.testBit_two_pow, decide_eq_true_eq] at h
    subst h
    exact ⟨hk, rfl⟩
  refine zero_of_tb fun j => ?_
  rw [show (Nat.land (pt (pk net) 6 (2 ^ k)) (2 ^ k - 1)).testBit j = ((pt (pk net) 6 (2 ^ k)).testBit j && (2 ^ k - 1).testBit j) from Nat.testBit_and _ _ j, Nat.testBit_two_pow_sub_one]
  cases h1 : (pt (pk net) 6 (2 ^ k)).testBit j with
  | false => rfl
  | true =>
    by_cases hjk : j < k
    · exact absurd (hI j h1).2 (hl j hjk)
    · rw [decide_eq_false hjk]; rfl
theorem cnt_two {N n i j : Nat} (hc : cnt N n < 1000) (hij : i < j) (hj : j < n) (h1 : first N i = 1) (h2 : first N j = 1) : 2 ≤ cnt N n := by
  have m1 := cnt_mono hc (show i + 1 ≤ n by omega)
  have s1 := cnt_step (N := N) (k := i) (by omega)
  have m2 := cnt_mono hc (show j + 1 ≤ n by omega)
  have s2 := cnt_step (N := N) (k := j) (by omega)
  have m3 := cnt_mono (N := N) (n := j) (k := i + 1) (by omega) (by omega)
  omega
theorem first_ok {N : Nat} : ∀ {n k : Nat}, cnt N n < 1000 → k < n → first N k ≠ 2 := fun {n k} hc hk => (cnt_step (N := N) (k := k) (by have := cnt_mono hc (show k + 1 ≤ n by omega); omega)).1
/-- The least of some places. -/
theorem least_at {P : Nat → Prop} [DecidablePred P] : ∀ {k : Nat}, P k → ∃ j, j ≤ k ∧ P j ∧ ∀ i, i < j → ¬ P i := fun {k} hk => by
  induction k using Nat.strongRecOn with
  | _ k ih =>
    by_cases c : ∃ i, i < k ∧ P i
    · obtain ⟨i, hi, hp⟩ := c
      obtain ⟨j, h1, h2, h3⟩ := ih i hi hp
      exact ⟨j, by omega, h2, h3⟩
    · exact ⟨k, Nat.le_refl _, hk, fun i hi hp => c ⟨i, hi, hp⟩⟩
/-- In a net of one part all places are of one class, if neighbours are. -/
theorem one_part (hN : NetOk net) (hc : ∀ x y, x < net.length → y < net.length → bit ((net.getD x 0)) y = true → c x = c y) (h1 : partMany net = 1) {x y : Nat} (hx : x < net.length) (hy : y < net.length) : c x = c y := by
  have hf := fact_use (all_fact hN)
  rw [partMany, if_pos hN] at h1
  have hc1 : cnt (pk net) net.length = 1 := by rw [← hf.1]; omega
  refine Decidable.byContradiction fun hxy => ?_
  obtain ⟨i, i1, i2, i3⟩ := least_at (P := fun j => c j = c x) (k := x) rfl
  obtain ⟨j, j1, j2, j3⟩ := least_at (P := fun j => c j = c y) (k := y) rfl
  have f1 := first_least hN hc (k := i) (by omega) (fun k hk e => i3 k hk (by rw [e]; exact i2)) (first_ok (n := net.length) (by omega) (by omega))
  have f2 := first_least hN hc (k := j) (by omega) (fun k hk e => j3 k hk (by rw [e]; exact j2)) (first_ok (n := net.length) (by omega) (by omega))
  rcases Nat.lt_trichotomy i j with h | h | h
  · have := cnt_two (N := pk net) (n := net.length) (by omega) h (by omega) f1 f2; omega
  · subst h; exact hxy (i2.symm.trans j2)
  · have := cnt_two (N := pk net) (n := net.length) (by omega) h (by omega) f2 f1; omega
end

/-- In a net of one part no cut is empty. -/
theorem OrdOk.cutSome {net row : List Int} (h : OrdOk net row) (h1 : partMany net = 1) {n : Nat} (hn : n + 1 < net.length) : cutOf net row (n : Int) ≠ 0 := by
  intro hz
  have hz2 : ∀ i, i < (wires net).length → (perWire (cr (n : Int)) net row).getD i 0 = 0 := by
    have hnn : ∀ i, i < (wires net).length → 0 ≤ (perWire (cr (n : Int)) net row).getD i 0 := fun i hi => by
      obtain ⟨x, y, e, _⟩ := wire_at hi
      rw [perWire_get _ hi e]
      unfold cr
      split <;> decide
    have key : ∀ (f : Nat → Int) (q : Nat), (∀ i, i < q → 0 ≤ f i) → sig q f = 0 → ∀ i, i < q → f i = 0 := fun f q => by
      induction q with
      | zero => intro _ _ i hi; exact absurd hi (Nat.not_lt_zero _)
      | succ q ih =>
        intro hp hs i hi
        rw [sig_succ] at hs
        have := sig_nonneg (n := q) (f := f) fun i hi => hp i (by omega)
        have := hp q (by omega)
        rcases Nat.lt_succ_iff_lt_or_eq.1 hi with c | rfl
        · exact ih (fun i hi => hp i (by omega)) (by omega) i c
        · omega
    exact key _ _ hnn hz
  have hw : ∀ x y, x < y → y < net.length → bit ((net.getD x 0)) y = true → ((row.getD x 0) ≤ (n : Int) ↔ (row.getD y 0) ≤ (n : Int)) := fun x y hxy hy hb => by
    obtain ⟨i, hi, e⟩ := wire_index h.ok hxy hy hb
    have := hz2 i hi
    rw [perWire_get _ hi e] at this
    unfold cr at this
    split at this
    · assumption
    · cases this
  obtain ⟨a, a1, a2⟩ := h.at (i := 0) (by omega)
  obtain ⟨b, b1, b2⟩ := h.at (i := n + 1) hn
  have := one_part h.ok (c := fun k => decide ((row.getD k 0) ≤ (n : Int))) (fun x y hx hy hb => decide_eq_decide.2 (by
    rcases Nat.lt_trichotomy x y with c | rfl | c
    · exact hw x y c hy hb
    · exact Iff.rfl
    · exact (hw y x c hx (by rw [h.ok.sym hy hx]; exact hb)).symm)) h1 a1 b1
  have := decide_eq_decide.1 this
  omega

/-! ### Rows of width one -/

/-- One more than the greatest of a set; 0 if there is none. -/
noncomputable def topp (X k : Nat) : Nat := @Nat.rec (fun _ => Nat) 0 (fun k ih => bif has X k then Nat.succ k else ih) k
/-- The places of at most one neighbour. -/
noncomputable def endsO (N k : Nat) : Nat := @Nat.rec (fun _ => Nat) 0 (fun k ih => frc ih fun s => bif Nat.ble (pc (row N k)) 1 then Nat.add s (Nat.pow 2 k) else s) k
/-- Paths are walked, one after the other: each place gets the next number. -/
noncomputable def ow (N E n f : Nat) : Nat → Nat → Nat → Nat → Nat := @Nat.rec (fun _ => Nat → Nat → Nat → Nat → Nat) (fun _ _ R _ => R)
  (fun _ ih V X R t => frc (topp (bif Nat.beq X 0 then less E V else X) n) fun a1 => frc (Nat.pred a1) fun a => frc (Nat.lor V (Nat.pow 2 a)) fun V1 => frc (Nat.add R (Nat.mul t (Nat.pow 256 a))) fun R1 => frc (less (row N a) V1) fun X1 => ih V1 X1 R1 (Nat.succ t)) f
noncomputable def somes2 (P : Nat → Bool) (n : Nat) : Bool := @Nat.rec (fun _ => Bool) false (fun k ih => bif P k then true else ih) n
noncomputable def okOrd (n N R : Nat) : Bool := upto (fun k => bif Nat.ble (Nat.succ (lab R k)) n then upto (fun j => bif Nat.beq (lab R j) (lab R k) then false else bif has (row N k) j then (bif Nat.beq (Nat.succ (lab R j)) (lab R k) then true else Nat.beq (Nat.succ (lab R k)) (lab R j)) else true) k else false) n
noncomputable def linF (n N W : Nat) : Bool := bif upto (fun k => Nat.ble (pc (row N k)) 2) n then (bif Nat.beq (Nat.add W (pm N 6 (Nat.sub (Nat.pow 2 n) 1) 0)) n then frc (endsO N n) fun E => frc (ow N E n n 0 0 0 0) fun R => okOrd n N R
  else somes2 (fun C => bif Nat.beq C 0 then false else upto (fun k => bif has C k then Nat.ble 2 (pc (Nat.land (row N k) C)) else true) n) (Nat.pow 2 n)) else true
theorem linF1 : chkF linF 1 0 0 0 = true := by decide +kernel
theorem linF2 : chkF linF 2 0 0 0 = true := by decide +kernel
theorem linF3 : chkF linF 3 0 0 0 = true := by decide +kernel
theorem linF4 : chkF linF 4 0 0 0 = true := by decide +kernel
theorem linF5 : chkF linF 5 0 0 0 = true := by decide +kernel
theorem linF6 : chkF linF 6 0 0 0 = true := by decide +kernel

theorem somes2_use {P : Nat → Bool} : ∀ {n : Nat}, somes2 P n = true → ∃ k, k < n ∧ P k = true
  | 0, h => by cases h
  | n + 1, h => by
    have e : somes2 P (n + 1) = bif P n then true else somes2 P n := rfl
    rw [e] at h
    cases hp : P n with
    | true => exact ⟨n, Nat.lt_succ_self _, hp⟩
    | false =>
      rw [hp] at h
      obtain ⟨k, h1, h2⟩ := somes2_use (n := n) h
      exact ⟨k, by omega, h2⟩

/-- Which nets have an order of width at most 1. -/
theorem narrow_one {net : List Int} (hN : NetOk net) : (∃ row, OrdOk net row ∧ widthOf net row < 2) ↔ (mostNear net < 3 ∧ (qOf net : Int) + partMany net = net.length) := by
  have h6 := hN.six
  have hF := all_of linF1 linF2 linF3 linF4 linF5 linF6 hN
  have hpm : partMany net = (pm (pk net) 6 (2 ^ net.length - 1) 0 : Nat) := if_pos hN
  have hmn : mostNear net = most net net.length := if_pos hN
  have hmost : ∀ k, k ≤ net.length → ((most net k < 3) ↔ ∀ i, i < k → pc (nrow net i) ≤ 2) := fun k => by
    induction k with
    | zero => intro _; exact ⟨fun _ i hi => absurd hi (Nat.not_lt_zero _), fun _ => by show (0 : Int) < 3; decide⟩
    | succ k ih =>
      intro hk
      have ih := ih (by omega)
      have e : most net (k + 1) < 3 ↔ most net k < 3 ∧ pc (nrow net k) ≤ 2 := by
        have em : most net (k + 1) = max (most net k) (pc ((net.getD k 0)).toNat) := rfl
        rw [em]
        unfold nrow
        constructor
        · intro h; exact ⟨by omega, by omega⟩
        · intro h; omega
      rw [e, ih]
      constructor
      · rintro ⟨g1, g2⟩ i hi
        rcases Nat.lt_succ_iff_lt_or_eq.1 hi with c | rfl
        · exact g1 i c
        · exact g2
      · exact fun g => ⟨fun i hi => g i (by omega), g k (Nat.lt_succ_self _)⟩
  have hdeg : mostNear net < 3 ↔ upto (fun k => Nat.ble (pc (row (pk net) k)) 2) net.length = true := by
    rw [hmn, hmost _ (Nat.le_refl _)]
    have hu : ∀ k, k ≤ net.length → ((∀ i, i < k → pc (nrow net i) ≤ 2) ↔ upto (fun k => Nat.ble (pc (row (pk net) k)) 2) k = true) := fun k => by
      induction k with
      | zero => intro _; exact ⟨fun _ => rfl, fun _ i hi => absurd hi (Nat.not_lt_zero _)⟩
      | succ k ih =>
        intro hk
        have e : upto (fun k => Nat.ble (pc (row (pk net) k)) 2) (k + 1) = bif Nat.ble (pc (row (pk net) k)) 2 then upto (fun k => Nat.ble (pc (row (pk net) k)) 2) k else false := rfl
        rw [e, row_of hN (by omega)]
        constructor
        · intro g
          rw [Nat.ble_eq_true_of_le (g k (Nat.lt_succ_self _)), cond_true, ← ih (by omega)]
          exact fun i hi => g i (by omega)
        · intro g
          cases hb : Nat.ble (pc (nrow net k)) 2 with
          | false => rw [hb] at g; cases g
          | true =>
            rw [hb, cond_true] at g
            intro i hi
            rcases Nat.lt_succ_iff_lt_or_eq.1 hi with c | rfl
            · exact (ih (by omega)).2 g i c
            · exact Nat.le_of_ble_eq_true hb
    exact hu _ (Nat.le_refl _)
  unfold linF at hF
  constructor
  · rintro ⟨row, hO, hw⟩
    have h3 : mostNear net < 3 := by have := hO.most; omega
    refine ⟨h3, ?_⟩
    rw [hdeg.1 h3, cond_true] at hF
    cases hb : Nat.beq (Nat.add (wires net).length (pm (pk net) 6 (Nat.sub (Nat.pow 2 net.length) 1) 0)) net.length with
    | true =>
      have := Nat.eq_of_beq_eq_true hb
      rw [hpm]
      unfold qOf
      have e : Nat.add (wires net).length (pm (pk net) 6 (Nat.sub (Nat.pow 2 net.length) 1) 0) = (wires net).length + pm (pk net) 6 (2 ^ net.length - 1) 0 := rfl
      omega
    | false =>
      rw [hb, cond_false] at hF
      obtain ⟨C, hC, hP⟩ := somes2_use hF
      cases hz : Nat.beq C 0 with
      | true => rw [hz] at hP; cases hP
      | false =>
        rw [hz, cond_false] at hP
        have hC0 : C ≠ 0 := fun e => by rw [e] at hz; cases hz
        have hC : C < 2 ^ net.length := hC
        have h64 : C < 64 := Nat.lt_of_lt_of_le hC (show 2 ^ net.length ≤ 2 ^ 6 from Nat.pow_le_pow_right (by decide) h6)
        have hin : ∀ k, C.testBit k = true → k < net.length := fun k hk => Nat.lt_of_not_le fun hle => by
          have := Nat.testBit_lt_two_pow (Nat.lt_of_lt_of_le hC (Nat.pow_le_pow_right (by decide) hle))
          rw [hk] at this
          cases this
        obtain ⟨k0, _, hk0, _⟩ := least_pow C h64 hC0
        -- the place of C that stands first
        have hfirst : ∀ (v : Nat) (k : Nat), C.testBit k = true → (row.getD k 0) = (v : Int) → ∃ a, C.testBit a = true ∧ ∀ b, C.testBit b = true → (row.getD a 0) ≤ (row.getD b 0) := fun v => by
          induction v using Nat.strongRecOn with
          | _ v ih =>
            intro k hk hv
            by_cases c : ∃ b, C.testBit b = true ∧ (row.getD b 0) < (row.getD k 0)
            · obtain ⟨b, b1, b2⟩ := c
              have := (hO.low (hin b b1)).1
              obtain ⟨u, hu⟩ := Int.eq_ofNat_of_zero_le this
              exact ih u (by omega) b b1 hu
            · exact ⟨k, hk, fun b hb => by have : ¬ (row.getD b 0) < (row.getD k 0) := fun d => c ⟨b, hb, d⟩; omega⟩
        obtain ⟨v0, hv0⟩ := Int.eq_ofNat_of_zero_le (hO.low (hin k0 hk0)).1
        obtain ⟨a, a1, a2⟩ := hfirst v0 k0 hk0 hv0
        have han := hin a a1
        have hup := upto_all hP a han
        rw [has_tb, a1, cond_true, row_of hN (by omega)] at hup
        have h2 : 2 ≤ pc (Nat.land (nrow net a) C) := Nat.le_of_ble_eq_true hup
        have hl64 : Nat.land (nrow net a) C < 64 := Nat.lt_of_le_of_lt Nat.and_le_left (nrow_lt hN a)
        obtain ⟨x, y, hxy, hx, hy⟩ : ∃ x y, x < y ∧ (Nat.land (nrow net a) C).testBit x = true ∧ (Nat.land (nrow net a) C).testBit y = true := by
          have two : ∀ n, n < 64 → 2 ≤ pc n → ∃ y, y < 6 ∧ ∃ x, x < y ∧ n.testBit x = true ∧ n.testBit y = true := by decide +kernel
          obtain ⟨y, _, x, h1, h2, h3⟩ := two _ hl64 h2
          exact ⟨x, y, h1, h2, h3⟩
        rw [show (Nat.land (nrow net a) C).testBit x = ((nrow net a).testBit x && C.testBit x) from Nat.testBit_and _ _ x, Bool.and_eq_true] at hx
        rw [show (Nat.land (nrow net a) C).testBit y = ((nrow net a).testBit y && C.testBit y) from Nat.testBit_and _ _ y, Bool.and_eq_true] at hy
        have nx := hO.near han (hin x hx.2) (by rw [bit_nrow]; exact hx.1)
        have ny := hO.near han (hin y hy.2) (by rw [bit_nrow]; exact hy.1)
        have ux := a2 x hx.2
        have uy := a2 y hy.2
        have := hO.un (hin x hx.2) (hin y hy.2) (by omega)
        omega
  · rintro ⟨h3, hq⟩
    rw [hdeg.1 h3, cond_true, show Nat.beq (Nat.add (wires net).length (pm (pk net) 6 (Nat.sub (Nat.pow 2 net.length) 1) 0)) net.length = true from by
      have e : Nat.add (wires net).length (pm (pk net) 6 (Nat.sub (Nat.pow 2 net.length) 1) 0) = net.length := by
        show (wires net).length + pm (pk net) 6 (2 ^ net.length - 1) 0 = _
        rw [hpm] at hq
        unfold qOf at hq
        omega
      rw [e]; simp, cond_true, frc_eq, frc_eq] at hF
    generalize ow (pk net) (endsO (pk net) net.length) net.length net.length 0 0 0 0 = R at hF
    have hlab : ∀ k, k < net.length → lab R k < net.length ∧ ∀ j, j < k → lab R j ≠ lab R k ∧ (bit ((net.getD k 0)) j = true → lab R j + 1 = lab R k ∨ lab R k + 1 = lab R j) := fun k hk => by
      have h1 := upto_all hF k hk
      cases hb : Nat.ble (Nat.succ (lab R k)) net.length with
      | false => rw [hb] at h1; cases h1
      | true =>
        rw [hb, cond_true] at h1
        refine ⟨Nat.le_of_ble_eq_true hb, fun j hj => ?_⟩
        have h2 := upto_all h1 j hj
        cases hc : Nat.beq (lab R j) (lab R k) with
        | true => rw [hc] at h2; cases h2
        | false =>
          rw [hc, cond_false, has_tb, row_of hN (by omega), ← bit_nrow] at h2
          refine ⟨fun e => (by rw [e] at hc; simp at hc), fun hbit => ?_⟩
          rw [hbit, cond_true] at h2
          cases hd : Nat.beq (Nat.succ (lab R j)) (lab R k) with
          | true => exact .inl (Nat.eq_of_beq_eq_true hd)
          | false => rw [hd, cond_false] at h2; exact .inr (Nat.eq_of_beq_eq_true h2)
    have hll := labs_len R net.length
    have hO : OrdOk net (labs R net.length) := by
      refine ⟨⟨hN, hll, fun k hk => ?_⟩, fun k hk j hj => ?_⟩
      · rw [hll] at hk
        rw [labs_get hk]
        have := (hlab k hk).1
        omega
      · rw [hll] at hk
        rw [labs_get hk, labs_get (by omega)]
        have := ((hlab k hk).2 j hj).1
        omega
    refine ⟨_, hO, ?_⟩
    rw [widthOf, if_pos hO, maxL, hO.diffLen]
    refine Int.lt_of_le_of_lt (maxK_le (c := 1) (by decide) fun i hi => ?_) (by decide)
    obtain ⟨x, y, h1, h2, h4, e, _⟩ := hO.wire hi
    rw [e, labs_get (by omega), labs_get h2]
    have := ((hlab y h2).2 x h1).2 (by rw [hN.sym h2 (by omega)]; exact h4)
    unfold dist
    split <;> omega

end Go.Abs
