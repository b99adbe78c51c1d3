/- The search of channels, the fewest span, first fit along an order. Own work; no condition. -/
import Derived.Test.YtchejfephmmcaaaChan4
import Derived.Test.YtchejfephmmcaaaBal1
set_option maxRecDepth 100000
set_option linter.unusedSimpArgs false
set_option linter.unusedVariables false
namespace Go.Abs
open Go.Proofs
attribute [local irreducible] awp awpOps awpKeep KeepK awpKeepF KeepF aloop ALoop ACalls ACallq AQuiet retPost retPostA AExit.thn AExit.blk aApp aSt aStA
open Parts

/-! ### The search -/

/-- The first list of some that is not empty. -/
def firstL (f : Nat → List Int) : Nat → List Int
  | 0 => []
  | n + 1 => if (firstL f n).length = 0 then f n else firstL f n
theorem firstL_step (f : Nat → List Int) (n : Nat) : firstL f (n + 1) = if (firstL f n).length = 0 then f n else firstL f n := rfl
theorem firstL_some {f : Nat → List Int} : ∀ {n v : Nat}, v < n → (f v).length ≠ 0 → (firstL f n).length ≠ 0
  | n + 1, v, h, hv => by
    rw [firstL_step]
    by_cases c : (firstL f n).length = 0
    · rw [if_pos c]
      rcases Nat.lt_succ_iff_lt_or_eq.1 h with d | rfl
      · exact absurd c (firstL_some d hv)
      · exact hv
    · rw [if_neg c]; exact c
theorem firstL_is {f : Nat → List Int} : ∀ {n : Nat}, (firstL f n).length ≠ 0 → ∃ v, v < n ∧ firstL f n = f v ∧ (f v).length ≠ 0
  | 0, h => absurd rfl h
  | n + 1, h => by
    rw [firstL_step] at h ⊢
    by_cases c : (firstL f n).length = 0
    · rw [if_pos c] at h ⊢; exact ⟨n, by omega, rfl, h⟩
    · rw [if_neg c]
      obtain ⟨v, h1, h2, h3⟩ := firstL_is c
      exact ⟨v, by omega, h2, h3⟩

noncomputable def chanFrom (net : List Int) (t : Nat) : Nat → List Int → List Int
  | 0, row => row
  | r + 1, row => firstL (fun v => if Fit net (row ++ [(v : Int)]) (2 ^ row.length - 1) row.length (v : Int) then chanFrom net t r (row ++ [(v : Int)]) else []) (t + 1)
noncomputable def chanTry (net : List Int) (t r : Nat) (row : List Int) (v : Nat) : List Int := if Fit net (row ++ [(v : Int)]) (2 ^ row.length - 1) row.length (v : Int) then chanFrom net t r (row ++ [(v : Int)]) else []
theorem chanFrom_all (net : List Int) (t r : Nat) (row : List Int) : chanFrom net t (r + 1) row = firstL (chanTry net t r row) (t + 1) := rfl

/-- Channels of the first places. -/
structure PCh (net row : List Int) (t : Int) : Prop where
  low : ∀ k, k < row.length → 0 ≤ (row.getD k 0) ∧ (row.getD k 0) ≤ t
  near : ∀ a b, a < row.length → b < row.length → a ≠ b → bit ((net.getD a 0)) b = true → 2 ≤ (row.getD a 0) - (row.getD b 0) ∨ 2 ≤ (row.getD b 0) - (row.getD a 0)
  com : ∀ a b, a < row.length → b < row.length → a ≠ b → Com net a b → (row.getD a 0) ≠ (row.getD b 0)
theorem PCh.push {net row : List Int} {t : Int} (hN : NetOk net) (h : PCh net row t) (hl : row.length < net.length) {v : Int} (hv : 0 ≤ v ∧ v ≤ t) (hf : Fit net (row ++ [v]) (2 ^ row.length - 1) row.length v) : PCh net (row ++ [v]) t := by
  have g1 : ∀ k, k < row.length → (row ++ [v]).getD k 0 = (row.getD k 0) := fun k hk => push_l _ _ hk
  have g2 : (row ++ [v]).getD row.length 0 = v := push_at _ _
  have hlen : (row ++ [v]).length = row.length + 1 := by simp
  have hF : ∀ k, k < row.length → (bit ((net.getD row.length 0)) k = true → ¬ (-2 < (row.getD k 0) - v ∧ (row.getD k 0) - v < 2)) ∧ (Com net row.length k → (row.getD k 0) ≠ v) := fun k hk => by
    have := hf k (by omega) (by rw [Nat.testBit_two_pow_sub_one, decide_eq_true hk]) (by omega)
    rw [g1 k hk] at this
    exact this
  refine ⟨fun k hk => ?_, fun a b ha hb hab hbit => ?_, fun a b ha hb hab hc => ?_⟩
  · rw [hlen] at hk
    rcases Nat.lt_succ_iff_lt_or_eq.1 hk with c | rfl
    · rw [g1 k c]; exact h.low k c
    · rw [g2]; exact hv
  · rw [hlen] at ha hb
    rcases Nat.lt_succ_iff_lt_or_eq.1 ha with c | rfl <;> rcases Nat.lt_succ_iff_lt_or_eq.1 hb with d | rfl
    · rw [g1 a c, g1 b d]; exact h.near a b c d hab hbit
    · rw [g1 a c, g2]
      have := (hF a c).1 (by rw [hN.sym hl (by omega)]; exact hbit)
      omega
    · rw [g1 b d, g2]
      have := (hF b d).1 hbit
      omega
    · exact absurd rfl hab
  · rw [hlen] at ha hb
    rcases Nat.lt_succ_iff_lt_or_eq.1 ha with c | rfl <;> rcases Nat.lt_succ_iff_lt_or_eq.1 hb with d | rfl
    · rw [g1 a c, g1 b d]; exact h.com a b c d hab hc
    · rw [g1 a c, g2]; exact (hF a c).2 (hc.sym hN (by omega) hl)
    · rw [g1 b d, g2]; exact fun e => (hF b d).2 hc e.symm
    · exact absurd rfl hab
theorem chan_in {net : List Int} (hN : NetOk net) {t : Nat} : ∀ (r : Nat) (row : List Int), row.length + r = net.length → PCh net row t → (chanFrom net t r row).length ≠ 0 → Ch net (chanFrom net t r row) t
  | 0, row, hl, hp, _ => ⟨hl, fun k hk => hp.low k (by omega), fun a b ha hb => hp.near a b (by omega) (by omega), fun a b ha hb => hp.com a b (by omega) (by omega)⟩
  | r + 1, row, hl, hp, h => by
    rw [chanFrom_all] at h ⊢
    obtain ⟨v, h1, h2, h3⟩ := firstL_is h
    rw [h2]
    unfold chanTry at h3 ⊢
    by_cases c : Fit net (row ++ [(v : Int)]) (2 ^ row.length - 1) row.length (v : Int)
    · rw [if_pos c] at h3 ⊢
      exact chan_in hN r _ (by rw [List.length_append, List.length_cons, List.length_nil]; omega) (hp.push hN (by omega) (by omega) c) h3
    · rw [if_neg c] at h3; exact absurd rfl h3
theorem chan_has {net : List Int} (hN : NetOk net) {t : Nat} {x : List Int} (hx : Ch net x (t : Int)) : ∀ (r : Nat) (row : List Int), row.length + r = net.length → x.take row.length = row → (chanFrom net t r row).length ≠ 0
  | 0, row, hl, _ => by have := hN.pos; show row.length ≠ 0; omega
  | r + 1, row, hl, ht => by
    have hxl := hx.len
    have hk : row.length < x.length := by omega
    obtain ⟨v, hv⟩ := Int.eq_ofNat_of_zero_le (hx.low row.length (by omega)).1
    have hvt := (hx.low row.length (by omega)).2
    have g1 : ∀ k, k < row.length → (row ++ [(v : Int)]).getD k 0 = (x.getD k 0) := fun k hk => by
      rw [push_l _ _ hk]
      have : (row.getD k 0) = (x.take row.length).getD k 0 := by rw [ht]
      rw [this]
      simp only [List.getD_eq_getElem?_getD, List.getElem?_take]
      rw [if_pos hk]
    have hf : Fit net (row ++ [(v : Int)]) (2 ^ row.length - 1) row.length (v : Int) := fun k hk hG hkp => by
      rw [Nat.testBit_two_pow_sub_one] at hG
      have hkr := of_decide_eq_true hG
      rw [g1 k hkr]
      constructor
      · intro hb
        have := hx.near row.length k (by omega) hk (Ne.symm hkp) hb
        omega
      · intro hc e
        exact hx.com row.length k (by omega) hk (Ne.symm hkp) hc (by rw [hv, e])
    rw [chanFrom_all]
    refine firstL_some (v := v) (by omega) ?_
    unfold chanTry
    rw [if_pos hf]
    refine chan_has hN hx r _ (by rw [List.length_append, List.length_cons, List.length_nil]; omega) ?_
    rw [List.length_append, List.length_cons, List.length_nil, List.take_succ_eq_append_getElem hk, ht]
    congr 2
    rw [← hv, List.getD_eq_getElem?_getD, List.getElem?_eq_getElem hk]
    rfl

/-! ### The fewest span -/

noncomputable def chanAt (net : List Int) (t : Nat) : List Int := chanFrom net t net.length []
theorem chanAt_iff {net : List Int} (hN : NetOk net) (t : Nat) : (chanAt net t).length ≠ 0 ↔ ∃ row, Ch net row (t : Int) := by
  constructor
  · exact fun h => ⟨_, chan_in hN net.length [] (by simp) ⟨fun k hk => absurd hk (Nat.not_lt_zero _), fun a b ha => absurd ha (Nat.not_lt_zero _), fun a b ha => absurd ha (Nat.not_lt_zero _)⟩ h⟩
  · rintro ⟨x, hx⟩; exact chan_has hN hx net.length [] (by simp) rfl
noncomputable def spanN (net : List Int) : Nat := (firstTo (fun t => (chanAt net t).length ≠ 0) 11).toNat
theorem span_is {net : List Int} (hN : NetOk net) : spanN net ≤ 10 ∧ (chanAt net (spanN net)).length ≠ 0 ∧ ∀ t, t < spanN net → (chanAt net t).length = 0 := by
  obtain ⟨row, hrow⟩ := chan_cover hN
  have hc := cover_range (other_net hN)
  rw [other_len hN] at hc
  have h6 := hN.six
  obtain ⟨t0, ht0⟩ := Int.eq_ofNat_of_zero_le (show 0 ≤ (net.length : Int) + cover (other net) - 2 by have := hN.pos; omega)
  rw [ht0] at hrow
  have h0 := (chanAt_iff hN t0).2 ⟨row, hrow⟩
  obtain ⟨k, k1, k2, k3⟩ := least_at (P := fun t => (chanAt net t).length ≠ 0) h0
  have e : firstTo (fun t => (chanAt net t).length ≠ 0) 11 = k := firstTo_is (P := fun t => (chanAt net t).length ≠ 0) k2 k3 (by omega)
  have e2 : spanN net = k := by unfold spanN; rw [e]; rfl
  rw [e2]
  exact ⟨by omega, k2, fun t ht => Decidable.not_not.1 (k3 t ht)⟩
noncomputable def chanFirst (net : List Int) : List Int := if NetOk net then chanAt net (spanN net) else []
noncomputable def fewest (net : List Int) : Int := if NetOk net then maxL (chanFirst net) else -1
theorem chanFirst_is {net : List Int} (hN : NetOk net) : Ch net (chanFirst net) (spanN net : Int) ∧ maxL (chanFirst net) = spanN net := by
  obtain ⟨s1, s2, s3⟩ := span_is hN
  have e : chanFirst net = chanAt net (spanN net) := if_pos hN
  have hC : Ch net (chanFirst net) (spanN net : Int) := by
    rw [e]
    exact chan_in hN net.length [] (by simp) ⟨fun k hk => absurd hk (Nat.not_lt_zero _), fun a b ha => absurd ha (Nat.not_lt_zero _), fun a b ha => absurd ha (Nat.not_lt_zero _)⟩ s2
  refine ⟨hC, ?_⟩
  have h1 := hC.most_le (by omega)
  have h0 := maxK_pos (chanFirst net) (chanFirst net).length
  obtain ⟨v, hv⟩ := Int.eq_ofNat_of_zero_le (show 0 ≤ maxL (chanFirst net) from h0)
  have h2 : ¬ v < spanN net := fun c => (chanAt_iff hN v).2 ⟨_, hv ▸ hC.below⟩ (s3 v c)
  omega
/-- No channels have a lesser greatest one. -/
theorem fewest_is {net : List Int} (hN : NetOk net) : fewest net = spanN net ∧ (0 ≤ fewest net ∧ fewest net ≤ 10) ∧ ∀ row t, Ch net row t → 0 ≤ t → fewest net ≤ t := by
  have e : fewest net = spanN net := by rw [fewest, if_pos hN, (chanFirst_is hN).2]
  obtain ⟨s1, s2, s3⟩ := span_is hN
  refine ⟨e, by omega, fun row t h ht => ?_⟩
  obtain ⟨v, hv⟩ := Int.eq_ofNat_of_zero_le ht
  have h2 : ¬ v < spanN net := fun c => (chanAt_iff hN v).2 ⟨_, hv ▸ h⟩ (s3 v c)
  omega
end Go.Abs
