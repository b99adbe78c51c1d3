/- Nets whose places fall into two classes with no wire inside have sides. Own work; no condition. -/
import Derived.Test.YtmanphhghdnliaaAlpha1
import Derived.Test.YtmanphhghdnliaaSide2
set_option maxRecDepth 100000
set_option linter.unusedSimpArgs false
set_option linter.unusedVariables false
namespace Go.Abs
open Go.Proofs
attribute [local irreducible] awp awpOps awpKeep KeepK awpKeepF KeepF aloop ALoop ACalls ACallq AQuiet retPost retPostA AExit.thn AExit.blk aApp aSt aStA
open Parts

theorem least_pow : ∀ x, x < 64 → x ≠ 0 → ∃ k, k < 6 ∧ x.testBit k = true ∧ least x = 2 ^ k := by
  have h : ∀ x, x < 64 → x ≠ 0 → (x.testBit 0 = true ∧ least x = 1) ∨ (x.testBit 1 = true ∧ least x = 2) ∨ (x.testBit 2 = true ∧ least x = 4) ∨ (x.testBit 3 = true ∧ least x = 8) ∨ (x.testBit 4 = true ∧ least x = 16) ∨ (x.testBit 5 = true ∧ least x = 32) := by decide +kernel
  intro x h1 h2
  rcases h x h1 h2 with ⟨q1, q2⟩ | ⟨q1, q2⟩ | ⟨q1, q2⟩ | ⟨q1, q2⟩ | ⟨q1, q2⟩ | ⟨q1, q2⟩
  · exact ⟨0, by decide, q1, q2⟩
  · exact ⟨1, by decide, q1, q2⟩
  · exact ⟨2, by decide, q1, q2⟩
  · exact ⟨3, by decide, q1, q2⟩
  · exact ⟨4, by decide, q1, q2⟩
  · exact ⟨5, by decide, q1, q2⟩
theorem lor64 {x y : Nat} (hx : x < 64) (hy : y < 64) : Nat.lor x y < 64 := Nat.or_lt_two_pow (n := 6) hx hy
theorem less64 {x : Nat} (y : Nat) (hx : x < 64) : less x y < 64 := Nat.lt_of_le_of_lt Nat.and_le_left hx

/-- Places of one class, and of none but the net's. -/
def InCl (net : List Int) (c : Nat → Bool) (b : Bool) (x : Nat) : Prop := ∀ j, x.testBit j = true → j < net.length ∧ c j = b
section
variable {net : List Int} {c : Nat → Bool}

theorem InCl.lor {b : Bool} {x y : Nat} (hx : InCl net c b x) (hy : InCl net c b y) : InCl net c b (Nat.lor x y) := fun j hj => by
  rw [lor_tb, Bool.or_eq_true] at hj
  rcases hj with h | h
  · exact hx j h
  · exact hy j h
theorem InCl.less {b : Bool} {x : Nat} (y : Nat) (h64 : x < 64) (hx : InCl net c b x) : InCl net c b (less x y) := fun j hj => by
  rw [less_tb y h64, Bool.and_eq_true] at hj
  exact hx j hj.1
theorem near64 (hN : NetOk net) {x : Nat} (hx : x < 64) : near (pk net) x < 64 := by rw [near_pk hN hx]; exact nearTo_lt hN x _
theorem InCl.near (hN : NetOk net) (hc : ∀ x y, x < net.length → y < net.length → bit ((net.getD x 0)) y = true → c x ≠ c y) {b : Bool} {x : Nat} (h64 : x < 64) (hx : InCl net c b x) : InCl net c (!b) (near (pk net) x) := fun j hj => by
  rw [near_pk hN h64] at hj
  obtain ⟨i, h1, h2, h3⟩ := (nearTo_tb net x j net.length).1 hj
  have hj' : j < net.length := Nat.lt_of_not_le fun hle => by
    have hl : nrow net i < 2 ^ net.length := by
      have := hN.high i h1
      have h0 := hN.low i h1
      unfold nrow
      have e : ((2 : Int) ^ net.length) = ((2 ^ net.length : Nat) : Int) := by simp
      omega
    have := Nat.testBit_lt_two_pow (Nat.lt_of_lt_of_le hl (Nat.pow_le_pow_right (by decide) hle))
    rw [h3] at this
    cases this
  have := hc i j h1 hj' (by rw [bit_nrow]; exact h3)
  have hi := (hx i h2).2
  refine ⟨hj', ?_⟩
  rw [hi] at this
  cases hcj : c j <;> cases b <;> simp_all
theorem InCl.apart {b : Bool} {x y : Nat} (hx : InCl net c b x) (hy : InCl net c (!b) y) : Nat.land y x = 0 := zero_of_tb fun j => by
  rw [show (Nat.land y x).testBit j = (y.testBit j && x.testBit j) from Nat.testBit_and y x j]
  cases h1 : y.testBit j with
  | false => rfl
  | true =>
    cases h2 : x.testBit j with
    | false => rfl
    | true =>
      have e1 := (hx j h2).2
      have e2 := (hy j h1).2
      rw [e1] at e2
      cases b <;> cases e2

theorem wv_class (hN : NetOk net) (hc : ∀ x y, x < net.length → y < net.length → bit ((net.getD x 0)) y = true → c x ≠ c y) {b : Bool} : ∀ (f e o w : Nat), e < 64 → o < 64 → w < 64 → InCl net c b e → InCl net c (!b) o → InCl net c b w → wv (pk net) f e o w < 4096 →
    wv (pk net) f e o w % 64 < 64 ∧ wv (pk net) f e o w / 64 < 64 ∧ InCl net c b (wv (pk net) f e o w % 64) ∧ InCl net c (!b) (wv (pk net) f e o w / 64)
  | 0, e, o, w, he, ho, hw, ce, co, cw, hR => by
    rw [wv_zero] at hR ⊢
    by_cases h0 : w = 0
    · rw [if_pos h0]
      rw [show (e + 64 * o) % 64 = e by omega, show (e + 64 * o) / 64 = o by omega]
      exact ⟨he, ho, ce, co⟩
    · rw [if_neg h0] at hR; omega
  | f + 1, e, o, w, he, ho, hw, ce, co, cw, hR => by
    rw [wv_succ] at hR ⊢
    by_cases h0 : w = 0
    · rw [if_pos h0]
      rw [show (e + 64 * o) % 64 = e by omega, show (e + 64 * o) / 64 = o by omega]
      exact ⟨he, ho, ce, co⟩
    · rw [if_neg h0] at hR ⊢
      have ca := (InCl.near hN hc hw cw).less (Nat.lor e o) (near64 hN hw)
      have la := less64 (Nat.lor e o) (near64 hN hw)
      generalize less (near (pk net) w) (Nat.lor e o) = a at *
      have cw1 := (InCl.near hN hc la ca).less (Nat.lor e (Nat.lor o a)) (near64 hN la)
      have lw1 := less64 (Nat.lor e (Nat.lor o a)) (near64 hN la)
      rw [Bool.not_not] at cw1
      generalize less (near (pk net) a) (Nat.lor e (Nat.lor o a)) = w1 at *
      exact wv_class hN hc f _ _ _ (lor64 he lw1) (lor64 ho la) lw1 (ce.lor cw1) (co.lor ca) cw1 hR

theorem sdi_class (hN : NetOk net) (hc : ∀ x y, x < net.length → y < net.length → bit ((net.getD x 0)) y = true → c x ≠ c y) : ∀ (f left d : Nat), left < 64 → (∀ j, left.testBit j = true → j < net.length) → d < 64 → sdi (pk net) f left d ≠ 777 := by
  intro f
  induction f with
  | zero =>
    intro left d hl hj hd
    by_cases h : sdi (pk net) 0 left d = 1000
    · rw [h]; decide
    · rcases sdi_step _ _ _ _ h with ⟨_, e⟩ | ⟨_, f', R, hf, _⟩
      · rw [e]; omega
      · cases hf
  | succ f ih =>
    intro left d hl hj hd
    by_cases h : sdi (pk net) (f + 1) left d = 1000
    · rw [h]; decide
    · rcases sdi_step _ _ _ _ h with ⟨_, e⟩ | ⟨h0, f', R, hf, hR, hR2, hor⟩
      · rw [e]; omega
      · obtain rfl : f' = f := by omega
        obtain ⟨k, k6, kb, ks⟩ := least_pow left hl h0
        have hkn := hj k kb
        have hsl : least left < 64 := by rw [ks]; exact pow_lt64 k6
        have hs : InCl net c (c k) (least left) := fun j h => by
          rw [ks, Nat.testBit_two_pow, decide_eq_true_eq] at h
          subst h
          exact ⟨hkn, rfl⟩
        rw [hR] at hR2
        obtain ⟨r1, r2, r3, r4⟩ := wv_class hN hc (b := c k) 5 (least left) 0 (least left) hsl (by decide) hsl hs (fun j h => by rw [Nat.zero_testBit] at h; cases h) hs hR2
        rw [← hR] at r1 r2 r3 r4
        have a1 := InCl.apart r3 (InCl.near hN hc r1 r3)
        have a2 := InCl.apart (b := !(c k)) r4 (InCl.near hN hc r2 r4)
        rcases hor with ⟨_, _, e⟩ | ⟨hbad, _⟩
        · rw [e]
          exact ih _ _ (less64 _ hl) (fun j h => hj j (by rw [less_tb _ hl, Bool.and_eq_true] at h; exact h.1)) (lor64 hd r1)
        · rcases hbad with h1 | ⟨_, h1⟩
          · exact absurd a1 h1
          · exact absurd a2 h1
end

theorem sides_of {net : List Int} (hN : NetOk net) {c : Nat → Bool} (hc : ∀ x y, x < net.length → y < net.length → bit ((net.getD x 0)) y = true → c x ≠ c y) : 0 ≤ sidesOf net := by
  have h6 := hN.six
  have hp : 0 < 2 ^ net.length := Nat.pow_pos (by decide)
  have hfull := full_lt h6
  unfold sidesOf
  rw [if_pos hN, if_neg (sdi_class hN hc 6 (2 ^ net.length - 1) 0 hfull (fun j h => Nat.lt_of_not_le fun hle => by
    have := Nat.testBit_lt_two_pow (x := 2 ^ net.length - 1) (Nat.lt_of_lt_of_le (by omega) (Nat.pow_le_pow_right (by decide) hle))
    rw [h] at this
    cases this) (by decide))]
  exact Int.natCast_nonneg _

/-- Parted nets have two sides. -/
theorem parted_sides {net row : List Int} (h : 0 ≤ partedAt net row) : 0 ≤ sidesOf net := by
  obtain ⟨hG, hP, _⟩ := partedAt_use h
  have hN := hG.ok
  have key : ∀ x y, x < y → y < net.length → bit ((net.getD x 0)) y = true → ¬ ((row.getD x 0) ≤ partedAt net row ↔ (row.getD y 0) ≤ partedAt net row) := fun x y hxy hy hb => by
    obtain ⟨i, hi, e⟩ := wire_index hN hxy hy hb
    obtain ⟨g1, g2⟩ := hP i hi
    rw [perWire_get _ hi e] at g1 g2
    omega
  have hsym : ∀ x y, x < net.length → y < net.length → bit ((net.getD x 0)) y = true → ¬ ((row.getD x 0) ≤ partedAt net row ↔ (row.getD y 0) ≤ partedAt net row) := fun x y hx hy hb => by
    rcases Nat.lt_trichotomy x y with c | rfl | c
    · exact key x y c hy hb
    · rw [hN.own x hx] at hb; cases hb
    · have := key y x c hx (by rw [hN.sym hy hx]; exact hb)
      exact fun e => this e.symm
  refine sides_of hN (c := fun k => decide (((row.getD k 0) ≤ partedAt net row) ↔ ((row.getD 0 0) ≤ partedAt net row))) (fun x y hx hy hb e => ?_)
  have h1 := hsym x y hx hy hb
  have h2 := decide_eq_decide.1 e
  by_cases a : (row.getD x 0) ≤ partedAt net row <;> by_cases b : (row.getD y 0) ≤ partedAt net row <;> by_cases c : (row.getD 0 0) ≤ partedAt net row <;> simp_all

end Go.Abs
