/- Spans: told by paths, by neighbours; trees. Own work; no condition. -/
import Derived.Test.YtchejfephmmcaaaChan2
import Derived.Test.YtchejfephmmcaaaChanF
set_option maxRecDepth 100000
set_option linter.unusedSimpArgs false
set_option linter.unusedVariables false
namespace Go.Abs
open Go.Proofs
attribute [local irreducible] awp awpOps awpKeep KeepK awpKeepF KeepF aloop ALoop ACalls ACallq AQuiet retPost retPostA AExit.thn AExit.blk aApp aSt aStA
open Parts

/-! ### Channels along an order -/

/-- Along a list: one more each step, two more to a neighbour. -/
def lb (net x : List Int) : Nat → Nat
  | 0 => 0
  | j + 1 => lb net x j + if adj net (x.getD j 0) (x.getD (j + 1) 0) = true then 2 else 1
theorem lb_step (net x : List Int) (j : Nat) : lb net x (j + 1) = lb net x j + if adj net (x.getD j 0) (x.getD (j + 1) 0) = true then 2 else 1 := rfl
theorem lb_add (net x : List Int) (p : Nat) : ∀ d, lb net x p + d ≤ lb net x (p + d)
  | 0 => Nat.le_refl _
  | d + 1 => by have := lb_add net x p d; rw [show p + (d + 1) = (p + d) + 1 from rfl, lb_step]; split <;> omega
theorem lb_brk {net x : List Int} (h : OrdOk net x) : ∀ j, j < net.length → lb net x j = j + brkTo (other net) x j
  | 0, _ => rfl
  | j + 1, hj => by
    have ih := lb_brk h j (by omega)
    rw [lb_step, brkTo_step, ih]
    have h1 := h.low (k := j) (by omega)
    have h2 := h.low hj
    have hne : (x.getD j 0) ≠ (x.getD (j + 1) 0) := fun c => by have := h.un (by omega) hj c; omega
    obtain ⟨a, ha⟩ := Int.eq_ofNat_of_zero_le h1.1
    obtain ⟨b, hb⟩ := Int.eq_ofNat_of_zero_le h2.1
    rw [ha] at h1 hne ⊢
    rw [hb] at h2 hne ⊢
    rw [other_adj h.ok (a := a) (b := b) (by omega) (by omega) (by omega)]
    cases adj net (a : Int) (b : Int) <;> simp <;> omega
/-- An order makes channels. -/
theorem chan_order {net x : List Int} (h : OrdOk net x) : ∃ row, Ch net row ((net.length : Int) + pathsOf (other net) x - 2) := by
  have hN := h.ok
  have hp := hN.pos
  have hpos : ∀ k : Nat, ∃ j, k < net.length → j < net.length ∧ (x.getD j 0) = (k : Int) := fun k => by
    by_cases hk : k < net.length
    · obtain ⟨j, h1, h2⟩ := h.at hk
      exact ⟨j, fun _ => ⟨h1, h2⟩⟩
    · exact ⟨0, fun c => absurd c hk⟩
  obtain ⟨pos, hpos⟩ : ∃ pos : Nat → Nat, ∀ k, k < net.length → pos k < net.length ∧ (x.getD (pos k) 0) = (k : Int) := ⟨fun k => (hpos k).choose, fun k hk => (hpos k).choose_spec hk⟩
  have g : ∀ k, k < net.length → ((List.range net.length).map fun k : Nat => (lb net x (pos k) : Int)).getD k 0 = (lb net x (pos k) : Int) := fun k hk => by simp [List.getD_eq_getElem?_getD, hk]
  have hlast : lb net x (net.length - 1) = net.length - 1 + brk (other net) x := by rw [lb_brk h _ (by omega), brk, h.len]
  have key : ∀ a b, a < net.length → b < net.length → pos a < pos b → lb net x (pos a) < lb net x (pos b) ∧ (bit ((net.getD a 0)) b = true → lb net x (pos a) + 2 ≤ lb net x (pos b)) := fun a b ha hb hab => by
    have q := lb_add net x (pos a) (pos b - pos a)
    rw [show pos a + (pos b - pos a) = pos b by omega] at q
    refine ⟨by omega, fun hbit => ?_⟩
    by_cases e : pos b = pos a + 1
    · have s := lb_step net x (pos a)
      rw [← e, (hpos a ha).2, (hpos b hb).2, adj_nat, hbit, if_pos rfl] at s
      omega
    · omega
  have hne : ∀ a b, a < net.length → b < net.length → a ≠ b → pos a ≠ pos b := fun a b ha hb hab e => by
    have h1 := (hpos a ha).2
    have h2 := (hpos b hb).2
    rw [e, h2] at h1
    omega
  refine ⟨(List.range net.length).map fun k : Nat => (lb net x (pos k) : Int), by simp, fun k hk => ?_, fun a b ha hb hab hbit => ?_, fun a b ha hb hab _ => ?_⟩
  · rw [g k hk]
    have h1 := (hpos k hk).1
    have q := lb_add net x (pos k) (net.length - 1 - pos k)
    rw [show pos k + (net.length - 1 - pos k) = net.length - 1 by omega] at q
    unfold pathsOf
    omega
  · rw [g a ha, g b hb]
    rcases Nat.lt_trichotomy (pos a) (pos b) with c | c | c
    · have := (key a b ha hb c).2 hbit; omega
    · exact absurd c (hne a b ha hb hab)
    · have := (key b a hb ha c).2 (by rw [hN.sym hb ha]; exact hbit); omega
  · rw [g a ha, g b hb]
    rcases Nat.lt_trichotomy (pos a) (pos b) with c | c | c
    · have := (key a b ha hb c).1; omega
    · exact absurd c (hne a b ha hb hab)
    · have := (key b a hb ha c).1; omega
theorem chan_cover {net : List Int} (hN : NetOk net) : ∃ row, Ch net row ((net.length : Int) + cover (other net) - 2) := by
  obtain ⟨⟨x, hx, e⟩, _⟩ := cover_is (other_net hN)
  rw [e]
  exact chan_order ((other_ord hN).1 hx)

/-! ### Neighbours -/

theorem far_few : ∀ t, t < 31 → ∀ r, r ≤ t → 1 ≤ t → (sig (t + 1) fun v => if (v : Int) ≠ (r : Int) ∧ (v : Int) ≠ (r : Int) - 1 ∧ (v : Int) ≠ (r : Int) + 1 then (1 : Int) else 0) ≤ (t : Int) - 1 := by decide +kernel
theorem near_most {net : List Int} (hN : NetOk net) : ∃ p, p < net.length ∧ mostNear net = (pc ((net.getD p 0)).toNat : Int) ∨ mostNear net = 0 := by
  have e : mostNear net = most net net.length := if_pos hN
  rw [e]
  have key : ∀ k, k ≤ net.length → (∃ p, p < net.length ∧ most net k = (pc ((net.getD p 0)).toNat : Int)) ∨ most net k = 0 := fun k => by
    induction k with
    | zero => intro _; exact .inr rfl
    | succ k ih =>
      intro hk
      have em : most net (k + 1) = max (most net k) (pc ((net.getD k 0)).toNat) := rfl
      rw [em]
      by_cases c : most net k ≤ (pc ((net.getD k 0)).toNat : Int)
      · exact .inl ⟨k, by omega, by omega⟩
      · rcases ih (by omega) with ⟨p, h1, h2⟩ | h
        · exact .inl ⟨p, h1, by omega⟩
        · have := most_pos net k; omega
  rcases key _ (Nat.le_refl _) with ⟨p, h1, h2⟩ | h
  · exact ⟨p, .inl ⟨h1, h2⟩⟩
  · exact ⟨0, .inr h⟩
/-- More channels than neighbours. -/
theorem Ch.most {net row : List Int} {t : Nat} (hN : NetOk net) (h : Ch net row (t : Int)) (ht : t < 31) (hd : 0 < mostNear net) : mostNear net + 1 ≤ t := by
  obtain ⟨p, hp | hp⟩ := near_most hN
  · obtain ⟨hp, e⟩ := hp
    rw [e] at hd ⊢
    rw [pc_sig hN hp] at hd ⊢
    have hrp := h.low p hp
    obtain ⟨r, hr⟩ := Int.eq_ofNat_of_zero_le hrp.1
    -- some neighbour
    have ht1 : 1 ≤ t := by
      refine Decidable.byContradiction fun c => ?_
      have : (sig net.length fun j => (nb net p j : Int)) = 0 := by
        rw [sig_congr (g := fun _ => 0) fun j hj => ?_, sig_none]
        unfold nb
        cases hb : bit ((net.getD p 0)) j with
        | false => rfl
        | true =>
          by_cases e2 : p = j
          · subst e2; rw [hN.own p hp] at hb; cases hb
          · have := h.near p j hp hj e2 hb; have := h.low j hj; omega
      omega
    have h1 : (sig net.length fun j => (nb net p j : Int)) ≤ sig net.length fun j => sig (t + 1) fun v => if bit ((net.getD p 0)) j = true ∧ (row.getD j 0) = (v : Int) then 1 else 0 := sig_le fun j hj => by
      unfold nb
      cases hb : bit ((net.getD p 0)) j with
      | false => exact sig_nonneg fun v _ => by split <;> decide
      | true =>
        have hl := h.low j hj
        have := sig_ge (n := t + 1) (j := ((row.getD j 0)).toNat) (f := fun v => if (true = true) ∧ (row.getD j 0) = (v : Int) then (1 : Int) else 0) (fun v _ => by split <;> decide) (by omega)
        rw [if_pos ⟨rfl, by omega⟩] at this
        exact this
    have h2 : (sig net.length fun j => sig (t + 1) fun v => if bit ((net.getD p 0)) j = true ∧ (row.getD j 0) = (v : Int) then (1 : Int) else 0) ≤ sig (t + 1) fun v => if (v : Int) ≠ (r : Int) ∧ (v : Int) ≠ (r : Int) - 1 ∧ (v : Int) ≠ (r : Int) + 1 then 1 else 0 := by
      rw [sig_swap]
      refine sig_le fun v hv => ?_
      by_cases c : (v : Int) ≠ (r : Int) ∧ (v : Int) ≠ (r : Int) - 1 ∧ (v : Int) ≠ (r : Int) + 1
      · rw [if_pos c]
        refine sig_one fun i j hij hj ⟨b1, e1⟩ ⟨b2, e2⟩ => ?_
        exact h.only hN (x := i) (y := j) (w := p) (by omega) hj hp (by omega) (by omega) (by rw [hN.sym (by omega) hp]; exact b1) (by rw [hN.sym hj hp]; exact b2)
      · have hz : ∀ j, j < net.length → (if bit ((net.getD p 0)) j = true ∧ (row.getD j 0) = (v : Int) then (1 : Int) else 0) = 0 := fun j hj => if_neg fun ⟨b1, e1⟩ => by
          by_cases e2 : p = j
          · subst e2; rw [hN.own p hp] at b1; cases b1
          · have := h.near p j hp hj e2 b1; omega
        rw [if_neg c]
        exact Int.le_of_eq ((sig_congr hz).trans (sig_none _))
    have h3 := far_few t ht r (by omega) ht1
    omega
  · omega

/-! ### First fit -/

theorem bif3 {a b : Bool} (h : (bif a then b else false) = true) : a = true ∧ b = true := by cases a <;> cases b <;> first | exact ⟨rfl, rfl⟩ | cases h
theorem mxd_is {net : List Int} (hN : NetOk net) : ∀ k, k ≤ net.length → (mxd (pk net) k : Int) = most net k
  | 0, _ => rfl
  | k + 1, hk => by
    have ih := mxd_is hN k (by omega)
    have h6 := hN.six
    have e : mxd (pk net) (k + 1) = frc (mxd (pk net) k) fun D => frc (pc (row (pk net) k)) fun a => bif Nat.ble a D then D else a := rfl
    have em : most net (k + 1) = max (most net k) (pc ((net.getD k 0)).toNat) := rfl
    rw [e, frc_eq, frc_eq, row_of hN (by omega), em, ← ih]
    unfold nrow
    cases c : Nat.ble (pc ((net.getD k 0)).toNat) (mxd (pk net) k) with
    | true => have := Nat.le_of_ble_eq_true c; rw [cond_true]; omega
    | false =>
      have : ¬ pc ((net.getD k 0)).toNat ≤ mxd (pk net) k := fun d => by rw [Nat.ble_eq_true_of_le d] at c; cases c
      rw [cond_false]
      omega
end Go.Abs
