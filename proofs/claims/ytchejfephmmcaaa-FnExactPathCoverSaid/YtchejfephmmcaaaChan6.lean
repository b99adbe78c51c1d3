/- First fit along an order; one of a net and its other net is one part. Own work; no condition. -/
import Derived.Test.YtchejfephmmcaaaChan5
import Derived.Test.YtchejfephmmcaaaChanG
set_option maxRecDepth 100000
set_option linter.unusedSimpArgs false
set_option linter.unusedVariables false
namespace Go.Abs
open Go.Proofs
attribute [local irreducible] awp awpOps awpKeep KeepK awpKeepF KeepF aloop ALoop ACalls ACallq AQuiet retPost retPostA AExit.thn AExit.blk aApp aSt aStA
open Parts

/-! ### First fit -/

/-- How many numbers the other places bar at most. -/
noncomputable def wgt (net : List Int) (p k : Nat) : Int := if k = p then 0 else if bit ((net.getD p 0)) k = true then 3 else if (secN net p).testBit k = true then 1 else 0
noncomputable def bnd (net : List Int) (p : Nat) : Int := sig net.length (wgt net p)
theorem wgt_range (net : List Int) (p k : Nat) : 0 ≤ wgt net p k ∧ wgt net p k ≤ 3 := by unfold wgt; split <;> (try split) <;> (try split) <;> omega
theorem bnd_range {net : List Int} (hN : NetOk net) {p : Nat} (hp : p < net.length) : 0 ≤ bnd net p ∧ bnd net p ≤ 15 := by
  refine ⟨sig_nonneg fun k _ => (wgt_range net p k).1, ?_⟩
  have h6 := hN.six
  have h : ∀ n, n ≤ net.length → sig n (wgt net p) ≤ 3 * (n : Int) - (if p < n then 3 else 0) := fun n => by
    induction n with
    | zero => intro _; rw [sig_zero, if_neg (by omega)]; decide
    | succ n ih =>
      intro hn
      have := ih (by omega)
      have hw := wgt_range net p n
      rw [sig_succ]
      by_cases c : n = p
      · subst c
        have : wgt net n n = 0 := by unfold wgt; rw [if_pos rfl]
        rw [if_pos (by omega)]
        rw [if_neg (by omega)] at *
        omega
      · by_cases d : p < n
        · rw [if_pos (by omega)]; rw [if_pos d] at *; omega
        · rw [if_neg (by omega)]; rw [if_neg d] at *; omega
  have := h net.length (Nat.le_refl _)
  rw [if_pos hp] at this
  unfold bnd
  omega
theorem pc_sum (x : Nat) (hx : x < 64) (n : Nat) (h6 : n ≤ 6) : (sig n fun j => ((x.testBit j).toNat : Int)) ≤ pc x := by
  have e : (pc x : Int) = sig 6 fun j => ((x.testBit j).toNat : Int) := by
    rw [pc_bits x hx]
    simp only [sig]
    omega
  rw [e]
  have : ∀ m, (sig n fun j => ((x.testBit j).toNat : Int)) ≤ sig (n + m) fun j => ((x.testBit j).toNat : Int) := fun m => by
    induction m with
    | zero => exact Int.le_refl _
    | succ m ih => rw [← Nat.add_assoc, sig_succ]; omega
  have := this (6 - n)
  rwa [show n + (6 - n) = 6 by omega] at this
theorem bnd_most {net : List Int} (hN : NetOk net) {p : Nat} (hp : p < net.length) : bnd net p ≤ mostNear net * (mostNear net + 2) := by
  have h6 := hN.six
  have hm : (mxd (pk net) net.length : Int) = mostNear net := by rw [mxd_is hN _ (Nat.le_refl _), mostNear, if_pos hN]
  by_cases c : mostNear net ≤ 2
  · have hF := all_of grdF1 grdF2 grdF3 grdF4 grdF5 grdF6 hN
    obtain ⟨hF, _⟩ := bif3 hF
    rw [frc_eq, Nat.ble_eq_true_of_le (by omega), cond_true] at hF
    have h1 := upto_all hF p hp
    have h2 : 3 * pc (row (pk net) p) + pc (less (less (near (pk net) (row (pk net) p)) (2 ^ p)) (row (pk net) p)) ≤ mxd (pk net) net.length * (mxd (pk net) net.length + 2) := Nat.le_of_ble_eq_true h1
    rw [row_of hN (by omega), near_pk hN (nrow_lt hN p)] at h2
    have hle : bnd net p ≤ sig net.length fun k => 3 * (nb net p k : Int) + (((less (secN net p) (nrow net p)).testBit k).toNat : Int) := sig_le fun k hk => by
      unfold wgt nb
      rw [less_tb _ (secN_lt hN p), ← bit_nrow]
      by_cases e : k = p
      · rw [if_pos e]; omega
      · rw [if_neg e]
        cases bit ((net.getD p 0)) k <;> cases (secN net p).testBit k <;> decide
    rw [sig_add, sig_mul, ← pc_sig hN hp] at hle
    have h3 := pc_sum (less (secN net p) (nrow net p)) (less_lt _ (secN_lt hN p)) net.length h6
    have h4 : ((mxd (pk net) net.length * (mxd (pk net) net.length + 2) : Nat) : Int) = mostNear net * (mostNear net + 2) := by rw [Int.natCast_mul, Int.natCast_add, hm]; rfl
    rw [← h4]
    unfold nrow at h2
    unfold secN nrow at h3 hle
    omega
  · have := (bnd_range hN hp).2
    have h12 : 3 * (3 + 2) ≤ mostNear net * (mostNear net + 2) := Int.mul_le_mul (by omega) (by omega) (by decide) (by omega)
    omega

theorem sig_three (r : Int) (V : Nat) : (sig V fun v => if -2 < r - (v : Int) ∧ r - (v : Int) < 2 then (1 : Int) else 0) ≤ 3 := by
  have h1 : (sig V fun v => if (v : Int) = r - 1 then (1 : Int) else 0) ≤ 1 := sig_one fun i j _ _ h1 h2 => by omega
  have h2 : (sig V fun v => if (v : Int) = r then (1 : Int) else 0) ≤ 1 := sig_one fun i j _ _ h1 h2 => by omega
  have h3 : (sig V fun v => if (v : Int) = r + 1 then (1 : Int) else 0) ≤ 1 := sig_one fun i j _ _ h1 h2 => by omega
  have h4 : (sig V fun v => if -2 < r - (v : Int) ∧ r - (v : Int) < 2 then (1 : Int) else 0) ≤ sig V fun v => ((if (v : Int) = r - 1 then (1 : Int) else 0) + (if (v : Int) = r then (1 : Int) else 0)) + (if (v : Int) = r + 1 then (1 : Int) else 0) := sig_le fun v _ => by
    split <;> split <;> split <;> split <;> omega
  rw [sig_add, sig_add] at h4
  omega

/-- The least number that fits. -/
noncomputable def lfit (net row : List Int) (G p : Nat) : Nat := (firstTo (fun v => Fit net row G p (v : Int)) 17).toNat
open Classical in
theorem lfit_is {net row : List Int} {G p : Nat} (hN : NetOk net) (hp : p < net.length) : Fit net row G p (lfit net row G p : Int) ∧ (∀ v : Nat, v < lfit net row G p → ¬ Fit net row G p (v : Int)) ∧ (lfit net row G p : Int) ≤ bnd net p := by
  obtain ⟨b0, b15⟩ := bnd_range hN hp
  obtain ⟨B, hB⟩ := Int.eq_ofNat_of_zero_le b0
  have hex : ∃ v : Nat, v ≤ B ∧ Fit net row G p (v : Int) := Decidable.byContradiction fun c => by
    have hall : ∀ v, v < B + 1 → ∃ k, k < net.length ∧ k ≠ p ∧ ((bit ((net.getD p 0)) k = true ∧ (-2 < (row.getD k 0) - (v : Int) ∧ (row.getD k 0) - (v : Int) < 2)) ∨ (Com net p k ∧ (row.getD k 0) = (v : Int))) := fun v hv => Decidable.byContradiction fun d => c ⟨v, by omega, fun k hk _ hkp => ⟨fun h1 h2 => d ⟨k, hk, hkp, .inl ⟨h1, h2⟩⟩, fun h1 h2 => d ⟨k, hk, hkp, .inr ⟨h1, h2⟩⟩⟩⟩
    have h1 : ((B + 1 : Nat) : Int) ≤ sig (B + 1) fun v => sig net.length fun k => if k ≠ p ∧ ((bit ((net.getD p 0)) k = true ∧ (-2 < (row.getD k 0) - (v : Int) ∧ (row.getD k 0) - (v : Int) < 2)) ∨ (Com net p k ∧ (row.getD k 0) = (v : Int))) then (1 : Int) else 0 := by
      have : ∀ n : Nat, (sig n fun _ => (1 : Int)) = n := fun n => by
        induction n with
        | zero => rfl
        | succ n ih => rw [sig_succ, ih]; omega
      rw [← this (B + 1)]
      refine sig_le fun v hv => ?_
      obtain ⟨k, hk, h⟩ := hall v hv
      have := sig_ge (n := net.length) (j := k) (f := fun k => if k ≠ p ∧ ((bit ((net.getD p 0)) k = true ∧ (-2 < (row.getD k 0) - (v : Int) ∧ (row.getD k 0) - (v : Int) < 2)) ∨ (Com net p k ∧ (row.getD k 0) = (v : Int))) then (1 : Int) else 0) (fun k _ => by split <;> decide) hk
      rw [if_pos h] at this
      exact this
    rw [sig_swap] at h1
    have h2 : (sig net.length fun k => sig (B + 1) fun v => if k ≠ p ∧ ((bit ((net.getD p 0)) k = true ∧ (-2 < (row.getD k 0) - (v : Int) ∧ (row.getD k 0) - (v : Int) < 2)) ∨ (Com net p k ∧ (row.getD k 0) = (v : Int))) then (1 : Int) else 0) ≤ bnd net p := sig_le fun k hk => by
      unfold wgt
      by_cases e : k = p
      · rw [if_pos e, sig_congr (g := fun _ => 0) fun v _ => if_neg fun d => d.1 e, sig_none]
        exact Int.le_refl _
      · rw [if_neg e]
        by_cases hb : bit ((net.getD p 0)) k = true
        · rw [if_pos hb]
          refine Int.le_trans (sig_le (g := fun v => if -2 < (row.getD k 0) - (v : Int) ∧ (row.getD k 0) - (v : Int) < 2 then (1 : Int) else 0) fun v _ => ?_) (sig_three _ _)
          split
          · rename_i h
            rw [if_pos (by rcases h.2 with h | h <;> omega)]
            exact Int.le_refl _
          · split <;> decide
        · rw [if_neg hb]
          by_cases hc : (secN net p).testBit k = true
          · rw [if_pos hc]
            exact sig_one fun i j hij _ h1 h2 => by
              have e1 := (h1.2.resolve_left fun d => hb d.1).2
              have e2 := (h2.2.resolve_left fun d => hb d.1).2
              omega
          · rw [if_neg hc, sig_congr (g := fun _ => 0) fun v _ => if_neg fun d => d.2.elim (fun d => hb d.1) fun d => hc ((secN_tb hN).2 ⟨e, d.1⟩), sig_none]
            exact Int.le_refl _
    omega
  obtain ⟨v0, hv0, hf0⟩ := hex
  obtain ⟨v, v1, v2, v3⟩ := least_at (P := fun v => Fit net row G p (v : Int)) hf0
  have e : firstTo (fun v => Fit net row G p (v : Int)) 17 = v := firstTo_is (P := fun v => Fit net row G p (v : Int)) v2 v3 (by omega)
  have e2 : lfit net row G p = v := by unfold lfit; rw [e]; rfl
  rw [e2]
  exact ⟨v2, v3, by omega⟩

noncomputable def grdTo (net order : List Int) : Nat → List Int × Nat
  | 0 => (List.replicate net.length 0, 0)
  | k + 1 => ((grdTo net order k).1.set ((order.getD k 0)).toNat (lfit net (grdTo net order k).1 (grdTo net order k).2 ((order.getD k 0)).toNat : Int), (grdTo net order k).2 ||| 2 ^ ((order.getD k 0)).toNat)
noncomputable def greedy (net order : List Int) : List Int := if OrdOk net order then (grdTo net order net.length).1 else []
/-- What has been given so far is right. -/
theorem grd_inv {net order : List Int} (hO : OrdOk net order) : ∀ k, k ≤ net.length → (grdTo net order k).1.length = net.length ∧ (grdTo net order k).2 < 64 ∧ (∀ q, (grdTo net order k).2.testBit q = true ↔ q < net.length ∧ ∃ j, j < k ∧ (order.getD j 0) = (q : Int)) ∧ (∀ a, a < net.length → 0 ≤ (grdTo net order k).1.getD a 0 ∧ (grdTo net order k).1.getD a 0 ≤ bnd net a) ∧ ∀ a b, a < net.length → b < net.length → (grdTo net order k).2.testBit a = true → (grdTo net order k).2.testBit b = true → a ≠ b → (bit ((net.getD a 0)) b = true → 2 ≤ (grdTo net order k).1.getD a 0 - (grdTo net order k).1.getD b 0 ∨ 2 ≤ (grdTo net order k).1.getD b 0 - (grdTo net order k).1.getD a 0) ∧ (Com net a b → (grdTo net order k).1.getD a 0 ≠ (grdTo net order k).1.getD b 0)
  | 0, _ => by
    have e2 : (grdTo net order 0).2 = 0 := rfl
    rw [e2]
    refine ⟨List.length_replicate, by decide, fun q => ⟨fun c => ?_, fun ⟨_, j, c, _⟩ => absurd c (Nat.not_lt_zero _)⟩, fun a ha => ?_, fun a b _ _ c => ?_⟩
    · rw [Nat.zero_testBit] at c; cases c
    · have e : (grdTo net order 0).1.getD a 0 = 0 := zeros_get _ _
      rw [e]
      exact ⟨Int.le_refl _, (bnd_range hO.ok ha).1⟩
    · rw [Nat.zero_testBit] at c; cases c
  | k + 1, hk => by
    have hN := hO.ok
    have h6 := hN.six
    obtain ⟨i1, i2, i3, i4, i5⟩ := grd_inv hO k (by omega)
    have hlow := hO.low (k := k) (by omega)
    obtain ⟨p, hp⟩ := Int.eq_ofNat_of_zero_le hlow.1
    have e1 : (grdTo net order (k + 1)).1 = (grdTo net order k).1.set p (lfit net (grdTo net order k).1 (grdTo net order k).2 p : Int) := by
      show (grdTo net order k).1.set ((order.getD k 0)).toNat (lfit net (grdTo net order k).1 (grdTo net order k).2 ((order.getD k 0)).toNat : Int) = _
      rw [hp]; rfl
    have e2 : (grdTo net order (k + 1)).2 = (grdTo net order k).2 ||| 2 ^ p := by
      show (grdTo net order k).2 ||| 2 ^ ((order.getD k 0)).toNat = _
      rw [hp]; rfl
    have hpn : p < net.length := by omega
    obtain ⟨f1, _, f3⟩ := lfit_is (row := (grdTo net order k).1) (G := (grdTo net order k).2) hN hpn
    rw [e1, e2]
    generalize (grdTo net order k).1 = R at *
    generalize (grdTo net order k).2 = G at *
    generalize lfit net R G p = v at *
    have g := fun j => set_get (l := R) (x := p) (by omega) (v : Int) j
    have hbit : ∀ q, (G ||| 2 ^ p).testBit q = true ↔ (G.testBit q = true ∨ q = p) := fun q => by
      rw [Nat.testBit_or, Bool.or_eq_true, Nat.testBit_two_pow, decide_eq_true_eq]
      exact ⟨fun h => h.imp id Eq.symm, fun h => h.imp id Eq.symm⟩
    have hpG : G.testBit p = false := by
      cases hb : G.testBit p with
      | false => rfl
      | true =>
        obtain ⟨_, j, hj, ej⟩ := (i3 p).1 hb
        have := hO.un (a := j) (b := k) (by omega) (by omega) (by rw [ej, hp])
        omega
    refine ⟨by rw [List.length_set]; exact i1, Nat.or_lt_two_pow (n := 6) i2 (pow_lt64 (by omega)), fun q => ?_, fun a ha => ?_, fun a b ha hb hGa hGb hab => ?_⟩
    · rw [hbit, i3]
      constructor
      · rintro (⟨h1, j, h2, h3⟩ | rfl)
        · exact ⟨h1, j, by omega, h3⟩
        · exact ⟨hpn, k, by omega, hp⟩
      · rintro ⟨h1, j, h2, h3⟩
        by_cases c : j = k
        · subst c; exact .inr (by omega)
        · exact .inl ⟨h1, j, by omega, h3⟩
    · rw [g]
      split
      · rename_i c; rw [c]; exact ⟨by omega, f3⟩
      · exact i4 a ha
    · rw [g, g]
      by_cases ea : a = p
      · subst ea
        rw [if_pos rfl, if_neg fun c => hab c.symm]
        have hGb' : G.testBit b = true := ((hbit b).1 hGb).resolve_right fun c => hab c.symm
        have := f1 b hb hGb' fun c => hab c.symm
        exact ⟨fun hb' => by have := this.1 hb'; omega, fun hc => fun e => this.2 hc e.symm⟩
      · have hGa' : G.testBit a = true := ((hbit a).1 hGa).resolve_right ea
        by_cases eb : b = p
        · subst eb
          rw [if_neg ea, if_pos rfl]
          have := f1 a ha hGa' ea
          exact ⟨fun hb' => by have := this.1 (by rw [hN.sym hb ha]; exact hb'); omega, fun hc => this.2 (hc.sym hN ha hb)⟩
        · rw [if_neg ea, if_neg eb]
          exact i5 a b ha hb hGa' (((hbit b).1 hGb).resolve_right eb) hab
/-- First fit makes channels that do not go far. -/
theorem greedy_use {net order : List Int} (hO : OrdOk net order) : ChOk net (greedy net order) ∧ (greedy net order).length = net.length ∧ fewest net ≤ maxL (greedy net order) ∧ maxL (greedy net order) ≤ mostNear net * (mostNear net + 2) ∧ maxL (greedy net order) ≤ 15 := by
  have hN := hO.ok
  have h6 := hN.six
  have e : greedy net order = (grdTo net order net.length).1 := if_pos hO
  obtain ⟨i1, i2, i3, i4, i5⟩ := grd_inv hO net.length (Nat.le_refl _)
  rw [← e] at i1 i4 i5
  have hG : ∀ a, a < net.length → (grdTo net order net.length).2.testBit a = true := fun a ha => (i3 a).2 ⟨ha, hO.at ha⟩
  have hC : Ch net (greedy net order) 15 := ⟨i1, fun k hk => by have := i4 k hk; have := (bnd_range hN hk).2; omega, fun a b ha hb hab hbit => (i5 a b ha hb (hG a ha) (hG b hb) hab).1 hbit, fun a b ha hb hab hc => (i5 a b ha hb (hG a ha) (hG b hb) hab).2 hc⟩
  have hd0 : 0 ≤ mostNear net * (mostNear net + 2) := by
    have h0 : 0 ≤ mostNear net := by rw [mostNear, if_pos hN]; exact most_pos net _
    exact Int.mul_nonneg h0 (by omega)
  refine ⟨⟨hN, hC.mono (by decide)⟩, i1, (fewest_is hN).2.2 _ _ hC.below (maxK_pos _ _), maxK_le hd0 fun i hi => ?_, hC.most_le (by decide)⟩
  have := i4 i (by omega)
  have := bnd_most hN (p := i) (by omega)
  omega

end Go.Abs
