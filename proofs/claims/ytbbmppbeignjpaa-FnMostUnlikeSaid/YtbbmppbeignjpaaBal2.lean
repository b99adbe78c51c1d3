/- Friendly trees, half of all wires, gaps. Own work; no condition. -/
import Derived.Test.YtbbmppbeignjpaaBal1
import Derived.Test.YtbbmppbeignjpaaPart2
import Derived.Test.YtbbmppbeignjpaaAlpha2
import Derived.Test.YtbbmppbeignjpaaSide2
set_option maxRecDepth 100000
set_option linter.unusedSimpArgs false
set_option linter.unusedVariables false
namespace Go.Abs
open Go.Proofs
attribute [local irreducible] awp awpOps awpKeep KeepK awpKeepF KeepF aloop ALoop ACalls ACallq AQuiet retPost retPostA AExit.thn AExit.blk aApp aSt aStA
open Parts

/-! ### Each tree is friendly: all have been gone through -/

/-- Does P hold of some number below n? -/
noncomputable def somes (P : Nat → Bool) (n : Nat) : Bool := @Nat.rec (fun _ => Bool) false (fun k ih => bif P k then true else ih) n
theorem somes_use {P : Nat → Bool} : ∀ {n : Nat}, somes P n = true → ∃ k, k < n ∧ P k = true
  | 0, h => by cases h
  | n + 1, h => by
    have e : somes P (n + 1) = bif P n then true else somes P n := rfl
    rw [e] at h
    cases hp : P n with
    | true => exact ⟨n, Nat.lt_succ_self _, hp⟩
    | false =>
      rw [hp] at h
      obtain ⟨k, h1, h2⟩ := somes_use (n := n) h
      exact ⟨k, by omega, h2⟩
/-- Unlike neighbours of all places, of a set. -/
noncomputable def u2 (N f s k : Nat) : Nat := @Nat.rec (fun _ => Nat) 0 (fun k ih => frc ih fun S => Nat.add S (pc (Nat.land (row N k) (bif has s k then Nat.sub f s else s)))) k
noncomputable def friF (n N W : Nat) : Bool := bif Nat.beq (Nat.succ W) n then (bif Nat.beq (pm N 6 (Nat.sub (Nat.pow 2 n) 1) 0) 1 then
  somes (fun s => bif Nat.ble n (Nat.succ (Nat.mul 2 (pc s))) then bif Nat.ble (Nat.mul 2 (pc s)) (Nat.succ n) then frc (u2 N (Nat.sub (Nat.pow 2 n) 1) s n) fun U => bif Nat.ble W (Nat.succ U) then Nat.ble U (Nat.succ W) else false else false else false) (Nat.pow 2 n) else true) else true
theorem friF1 : chkF friF 1 0 0 0 = true := by decide +kernel
theorem friF2 : chkF friF 2 0 0 0 = true := by decide +kernel
theorem friF3 : chkF friF 3 0 0 0 = true := by decide +kernel
theorem friF4 : chkF friF 4 0 0 0 = true := by decide +kernel
theorem friF5 : chkF friF 5 0 0 0 = true := by decide +kernel
theorem friF6 : chkF friF 6 0 0 0 = true := by decide +kernel

theorem pc_land {net : List Int} (h : NetOk net) {k : Nat} (hk : k < net.length) (x : Nat) : (pc (Nat.land (nrow net k) x) : Int) = sig net.length fun j => (nb net k j : Int) * ((x.testBit j).toNat : Int) := by
  have hr := nrow_lt h k
  have hlt : Nat.land (nrow net k) x < 64 := Nat.lt_of_le_of_lt Nat.and_le_left hr
  rw [pc_bits _ hlt]
  have e : ∀ j, ((Nat.land (nrow net k) x).testBit j).toNat = nb net k j * (x.testBit j).toNat := fun j => by
    have : (Nat.land (nrow net k) x).testBit j = ((nrow net k).testBit j && x.testBit j) := Nat.testBit_and _ _ _
    rw [this, ← bit_nrow]
    unfold nb
    cases bit ((net.getD k 0)) j <;> cases x.testBit j <;> rfl
  rw [e, e, e, e, e, e, ← sig_ext (m := 6) h.six fun i h1 _ => by rw [nb_out h hk h1]; simp]
  simp only [sig]
  omega

theorem unlike_sum (net : List Int) (set : Int) : unlike net set = sig net.length fun k => sig net.length fun j => if k < j ∧ bit ((net.getD k 0)) j = true then (b01 set k + b01 set j) % 2 else 0 := by
  have e : unlike net set = (unlikes net set).sum := by
    rw [← psum_sum, unlike, unlTo]
    congr 1
    rw [unlikes, perWire_len]
  rw [e, unlikes, perWire, wires_sum]
  refine sig_congr fun k hk => sig_congr fun j hj => ?_
  by_cases c : k < j ∧ bit ((net.getD k 0)) j = true
  · rw [if_pos c, if_pos c]
    simp only [List.getD_cons_zero, List.getD_cons_succ, Int.toNat_natCast]
    rw [rowB_get _ hk, rowB_get _ hj]
    rfl
  · rw [if_neg c, if_neg c]

theorem u2_is {net : List Int} (h : NetOk net) {s : Nat} (hs : s < 2 ^ net.length) : (u2 (pk net) (2 ^ net.length - 1) s net.length : Int) = 2 * unlike net (s : Int) := by
  have h6 := h.six
  have step : ∀ k, k ≤ net.length → (u2 (pk net) (2 ^ net.length - 1) s k : Int) = sig k fun k => sig net.length fun j => (nb net k j : Int) * ((b01 s k + b01 s j) % 2) := fun k => by
    induction k with
    | zero => intro _; rfl
    | succ k ih =>
      intro hk
      have e : u2 (pk net) (2 ^ net.length - 1) s (k + 1) = frc (u2 (pk net) (2 ^ net.length - 1) s k) fun S => Nat.add S (pc (Nat.land (row (pk net) k) (bif has s k then Nat.sub (2 ^ net.length - 1) s else s))) := rfl
      rw [e, frc_eq, sig_succ, ← ih (by omega), row_of h (by omega), has_tb]
      show ((_ + _ : Nat) : Int) = _
      rw [Int.natCast_add, pc_land h (by omega)]
      congr 1
      refine sig_congr fun j hj => ?_
      congr 1
      have hb : ∀ i, b01 (s : Int) i = ((s.testBit i).toNat : Int) := fun i => by
        unfold b01
        rw [bit_nat]
        cases s.testBit i <;> rfl
      rw [hb, hb]
      cases hk' : s.testBit k with
      | true =>
        rw [cond_true]
        have := (other_nat net.length (by omega) s hs).2 j hj
        rw [show Nat.sub (2 ^ net.length - 1) s = 2 ^ net.length - 1 - s from rfl, this]
        cases s.testBit j <;> rfl
      | false =>
        rw [cond_false]
        cases s.testBit j <;> rfl
  rw [step _ (Nat.le_refl _), unlike_sum, sig_pairs (fun k j => (nb net k j : Int) * ((b01 s k + b01 s j) % 2)) _ fun i hi => by rw [nb_own h hi]; simp, ← sig_mul]
  refine sig_congr fun k hk => ?_
  rw [← sig_mul]
  refine sig_congr fun j hj => ?_
  by_cases c : k < j
  · rw [if_pos c, nb_sym h hj hk, Int.add_comm (b01 s j) (b01 s k)]
    unfold nb
    cases hb : bit ((net.getD k 0)) j with
    | true => rw [if_pos ⟨c, rfl⟩]; simp; omega
    | false => rw [if_neg (by simp)]; simp
  · rw [if_neg c, if_neg fun d => c d.1]; simp

theorem bif2 {a b : Bool} (h : (bif a then b else false) = true) : a = true ∧ b = true := by cases a <;> cases b <;> first | exact ⟨rfl, rfl⟩ | cases h
theorem tree_friend {net : List Int} (h : treeOk net = true) : 0 ≤ friendFirst net := by
  obtain ⟨hN, h1, h2⟩ := of_decide_eq_true h
  have h6 := hN.six
  have hp := hN.pos
  have hF := all_of friF1 friF2 friF3 friF4 friF5 friF6 hN
  rw [partMany, if_pos hN] at h1
  rw [wiresOf, if_pos hN] at h2
  unfold friF at hF
  rw [show Nat.beq (Nat.succ (wires net).length) net.length = true by rw [show Nat.succ (wires net).length = net.length by omega]; simp] at hF
  have e1 : pm (pk net) 6 (2 ^ net.length - 1) 0 = 1 := by omega
  have e2 : Nat.sub (Nat.pow 2 net.length) 1 = 2 ^ net.length - 1 := rfl
  rw [e2, e1] at hF
  simp only [frc_eq, cond_true, show Nat.beq 1 1 = true from rfl] at hF
  obtain ⟨s, hs, hP⟩ := somes_use hF
  have hs : s < 2 ^ net.length := hs
  have hU := u2_is hN hs
  generalize u2 (pk net) (2 ^ net.length - 1) s net.length = U at hP hU
  have hpw : (2 : Int) ^ net.length = ((2 ^ net.length : Nat) : Int) := by simp
  obtain ⟨c1, hP⟩ := bif2 hP
  obtain ⟨c2, hP⟩ := bif2 hP
  obtain ⟨c3, hP⟩ := bif2 hP
  have d1 : net.length ≤ 2 * pc s + 1 := Nat.le_of_ble_eq_true c1
  have d2 : 2 * pc s ≤ net.length + 1 := Nat.le_of_ble_eq_true c2
  have d3 : (wires net).length ≤ U + 1 := Nat.le_of_ble_eq_true c3
  have d4 : U ≤ (wires net).length + 1 := Nat.le_of_ble_eq_true hP
  refine friendFirst_of (set := (s : Int)) ⟨⟨⟨hN, by omega, by omega⟩, ?_, ?_⟩, ?_, ?_⟩
  · rw [Int.toNat_natCast]; omega
  · rw [Int.toNat_natCast]; omega
  · unfold qOf; omega
  · unfold qOf; omega

/-! ### Half of all wires -/

theorem half_unlike : ∀ n, n < 7 → ∀ y, y < n → ∀ x, x < y → 2 * (sig (2 ^ n) fun s => (b01 (s : Int) x + b01 (s : Int) y) % 2) = ((2 ^ n : Nat) : Int) := by decide +kernel
theorem sig_const (c : Int) : ∀ n : Nat, (sig n fun _ => c) = (n : Int) * c
  | 0 => by rw [sig_zero]; simp
  | n + 1 => by rw [sig_succ, sig_const c n, Int.natCast_add, Int.add_mul]; simp
theorem max_half {net : List Int} (hN : NetOk net) : (qOf net : Int) ≤ 2 * maxTo net (2 ^ net.length) := by
  have h6 := hN.six
  have h1 : (sig (2 ^ net.length) fun s => unlike net (s : Int)) ≤ sig (2 ^ net.length) fun _ => maxTo net (2 ^ net.length) := sig_le fun s hs => maxTo_ge net hs
  rw [sig_const] at h1
  have h2 : 2 * (sig (2 ^ net.length) fun s => unlike net (s : Int)) = (qOf net : Int) * ((2 ^ net.length : Nat) : Int) := by
    have e : (sig (2 ^ net.length) fun s => unlike net (s : Int)) = sig (qOf net) fun i => sig (2 ^ net.length) fun s => (unlikes net (s : Int)).getD i 0 := sig_swap (fun s i => (unlikes net (s : Int)).getD i 0) _ _
    rw [e, ← sig_mul, ← sig_const]
    refine sig_congr fun i hi => ?_
    obtain ⟨x, y, ew, g1, g2, g3, _⟩ := wire_at (net := net) (i := i) hi
    rw [sig_congr (g := fun s => (b01 (s : Int) x + b01 (s : Int) y) % 2) fun s hs => by rw [unlikes, perWire_get _ hi ew, rowB_get _ g1, rowB_get _ g3]; rfl]
    exact half_unlike net.length (by omega) y g3 x g2
  generalize maxTo net (2 ^ net.length) = M at *
  generalize (sig (2 ^ net.length) fun s => unlike net (s : Int)) = S at *
  have hc : net.length = 0 ∨ net.length = 1 ∨ net.length = 2 ∨ net.length = 3 ∨ net.length = 4 ∨ net.length = 5 ∨ net.length = 6 := by omega
  rcases hc with e | e | e | e | e | e | e <;> rw [e] at h1 h2 <;> simp at h1 h2 <;> omega

theorem sig_full {f : Nat → Int} : ∀ {n : Nat}, (∀ i, i < n → f i ≤ 1) → sig n f = n → ∀ i, i < n → f i = 1
  | 0, _, _, i, h => absurd h (Nat.not_lt_zero _)
  | n + 1, h, e, i, hi => by
    have h1 := sig_le (n := n) (f := f) (g := fun _ => 1) fun i hi => h i (by omega)
    rw [sig_const] at h1
    rw [sig_succ] at e
    have h2 := h n (by omega)
    rcases Nat.lt_succ_iff_lt_or_eq.1 hi with c | rfl
    · exact sig_full (n := n) (fun i hi => h i (by omega)) (by omega) i c
    · omega
theorem sides_all {net : List Int} (h : sidesOf net ≠ -1) : NetOk net ∧ (0 < sidesOf net ∧ sidesOf net ≤ 2 ^ net.length - 1) ∧ ∀ a b, a < net.length → b < net.length → bit ((net.getD a 0)) b = true → bit (sidesOf net) a ≠ bit (sidesOf net) b := by
  by_cases hN : NetOk net
  · have h6 := hN.six
    have q := (fact_use (all_fact hN)).2.2.2.2.2.2.1
    have hp : (2 : Int) ^ net.length = ((2 ^ net.length : Nat) : Int) := by simp
    have hpos : 0 < 2 ^ net.length := Nat.pow_pos (by decide)
    rw [sidesOf, if_pos hN] at h ⊢
    generalize sdi (pk net) 6 (2 ^ net.length - 1) 0 = d at q h ⊢
    by_cases hd : d = 777
    · rw [if_pos hd] at h; exact absurd rfl h
    · rw [if_neg hd] at h ⊢
      rcases q with e | ⟨q1, q2, q3, q4⟩
      · exact absurd e hd
      · have hfl := full_lt h6
        refine ⟨hN, ⟨by omega, by omega⟩, fun a b ha hb hab => ?_⟩
        rw [bit_nrow] at hab
        rw [bit_nat, bit_nat]
        intro he
        have p1 := (proper_iff hN (X := d) (by omega)).1 q3
        have p2 := (proper_iff hN (X := less (2 ^ net.length - 1) d) (less_lt _ hfl)).1 q4
        have hin : ∀ c, c < net.length → (less (2 ^ net.length - 1) d).testBit c = !(d.testBit c) := fun c hc => by
          rw [less_tb _ hfl, Nat.testBit_two_pow_sub_one, decide_eq_true hc, Bool.true_and]
        cases hx : d.testBit a with
        | true => exact p1 a b ha hx (by rw [← he, hx]) hab
        | false => exact p2 a b ha (by rw [hin a ha, hx]; rfl) (by rw [hin b hb, ← he, hx]; rfl) hab
  · rw [sidesOf, if_neg hN] at h
    exact absurd rfl h
/-- All wires can be unlike just if there are two sides. -/
theorem max_all {net : List Int} (hN : NetOk net) : maxTo net (2 ^ net.length) = qOf net ↔ 0 ≤ sidesOf net := by
  have hp : (2 : Int) ^ net.length = ((2 ^ net.length : Nat) : Int) := by simp
  have hpos : 0 < 2 ^ net.length := Nat.pow_pos (by decide)
  constructor
  · intro h
    have hs : ∃ s : Nat, unlike net (s : Int) = qOf net := by
      rcases maxTo_or net (2 ^ net.length) with e | ⟨s, _, e⟩
      · refine ⟨0, ?_⟩
        have := unlike_none net
        rw [← h, e]
        exact this
      · exact ⟨s, by omega⟩
    obtain ⟨s, hs⟩ := hs
    have hall : ∀ i, i < (wires net).length → (unlikes net (s : Int)).getD i 0 = 1 := sig_full (fun i hi => by
      obtain ⟨x, y, e, g1, g2, g3, _⟩ := wire_at hi
      rw [unlikes, perWire_get _ hi e]
      unfold xo
      omega) hs
    have hw : ∀ x y, x < y → y < net.length → bit ((net.getD x 0)) y = true → bit (s : Int) x ≠ bit (s : Int) y := fun x y hxy hy hb e => by
      obtain ⟨i, hi, ew⟩ := wire_index hN hxy hy hb
      have := hall i hi
      rw [unlikes, perWire_get _ hi ew, rowB_get _ (by omega), rowB_get _ hy] at this
      unfold xo b01 at this
      rw [e] at this
      split at this <;> simp at this
    refine sides_of hN (c := fun k => bit (s : Int) k) fun x y hx hy hb => ?_
    rcases Nat.lt_trichotomy x y with c | rfl | c
    · exact hw x y c hy hb
    · rw [hN.own x hx] at hb; cases hb
    · exact (hw y x c hx (by rw [hN.sym hy hx]; exact hb)).symm
  · intro h
    obtain ⟨_, ⟨h0, h1⟩, hb⟩ := sides_all (net := net) (by omega)
    obtain ⟨d, hd⟩ := Int.eq_ofNat_of_zero_le h
    rw [hd] at h1 hb
    have hu : ∀ k, k ≤ (wires net).length → unlTo net (d : Int) k = k := fun k => by
      induction k with
      | zero => intro _; rfl
      | succ k ih =>
        intro hk
        obtain ⟨x, y, e, g1, g2, g3, g4⟩ := wire_at (net := net) (i := k) (by omega)
        have := hb x y g1 g3 g4
        rw [unlTo_step _ (by omega) g1 g3 e, ih (by omega)]
        unfold b01
        cases hx : bit (d : Int) x <;> cases hy : bit (d : Int) y <;> rw [hx, hy] at this <;> simp at this ⊢
    have h2 := hu _ (Nat.le_refl _)
    have h3 := maxTo_ge net (s := d) (n := 2 ^ net.length) (by omega)
    have h4 := (maxTo_range net (2 ^ net.length)).2
    have h5 : unlike net (d : Int) = qOf net := h2
    omega

/-! ### Gaps -/

theorem some_bal : ∀ n, n < 7 → ∃ s, s < 2 ^ n ∧ (n ≤ 2 * pc s + 1 ∧ 2 * pc s ≤ n + 1) := by decide +kernel
theorem gapOf_range (net : List Int) (s : Nat) : 0 ≤ gapOf net s ∧ gapOf net s ≤ qOf net ∧ (gapOf net s - qOf net) % 2 = 0 := by
  have := unlike_range net s
  unfold gapOf
  split <;> omega
theorem bal_gap {net : List Int} {s : Nat} (h : Bal net (s : Int)) : gapOf net s ∈ gaps net := by
  have hN := h.1.1
  have h1 := h.1.2
  have hp : (2 : Int) ^ net.length = ((2 ^ net.length : Nat) : Int) := by simp
  obtain ⟨g1, g2, _⟩ := gapOf_range net s
  obtain ⟨g, hg⟩ := Int.eq_ofNat_of_zero_le g1
  rw [gaps, if_pos hN, gapsTo_mem, hg]
  exact ⟨g, by omega, rfl, s, by omega, h, hg⟩
theorem gaps_some {net : List Int} (hN : NetOk net) : 0 < (gaps net).length := by
  obtain ⟨s, h1, h2, h3⟩ := some_bal net.length (by have := hN.six; omega)
  have hp : (2 : Int) ^ net.length = ((2 ^ net.length : Nat) : Int) := by simp
  exact List.length_pos_of_mem (bal_gap (s := s) ⟨⟨hN, by omega, by omega⟩, by rw [Int.toNat_natCast]; omega, by rw [Int.toNat_natCast]; omega⟩)
theorem gaps_len (net : List Int) : (gaps net).length ≤ qOf net + 1 := by
  unfold gaps
  split
  · exact gapsTo_len net _
  · simp
theorem gaps_up (net : List Int) : ∀ i, i + 1 < (gaps net).length → ((gaps net).getD i 0) < ((gaps net).getD (i + 1) 0) := by
  unfold gaps
  split
  · exact gapsTo_up net _
  · intro i h; exact absurd h (Nat.not_lt_zero _)
theorem up_least {l : List Int} (h : ∀ i, i + 1 < l.length → (l.getD i 0) < (l.getD (i + 1) 0)) : ∀ i, i < l.length → (l.getD 0 0) ≤ (l.getD i 0)
  | 0, _ => Int.le_refl _
  | i + 1, hi => by have := up_least h i (by omega); have := h i hi; omega
theorem gaps_each {net : List Int} {i : Nat} (hi : i < (gaps net).length) : ∃ s : Nat, Bal net (s : Int) ∧ ((gaps net).getD i 0) = gapOf net s := by
  have hN : NetOk net := Decidable.byContradiction fun c => by rw [gaps, if_neg c] at hi; exact absurd hi (Nat.not_lt_zero _)
  have hm : ((gaps net).getD i 0) ∈ gapsTo net (qOf net + 1) := by
    have e : gaps net = gapsTo net (qOf net + 1) := if_pos hN
    rw [← e, List.getD_eq_getElem?_getD, List.getElem?_eq_getElem hi]
    exact List.getElem_mem _
  obtain ⟨g, _, h2, s, _, h3, h4⟩ := gapsTo_mem.1 hm
  exact ⟨s, h3, by rw [h2, h4]⟩
/-- The least gap is at most 1 just if there is a friendly set. -/
theorem gaps_friend {net : List Int} (hN : NetOk net) : ((gaps net).getD 0 0) < 2 ↔ 0 ≤ friendFirst net := by
  have h0 := gaps_some hN
  constructor
  · intro h
    obtain ⟨s, h1, h2⟩ := gaps_each h0
    refine friendFirst_of (set := (s : Int)) ⟨h1, ?_⟩
    rw [h2] at h
    unfold gapOf at h
    split at h <;> omega
  · intro h
    have hF := friendFirst_use h
    obtain ⟨s, hs⟩ := Int.eq_ofNat_of_zero_le h
    rw [hs] at hF
    have hm := bal_gap hF.1
    obtain ⟨i, hi, e⟩ := mem_getI hm
    have h1 := up_least (gaps_up net) i hi
    have h2 := hF.2
    have h3 : gapOf net s < 2 := by unfold gapOf; split <;> omega
    omega

end Go.Abs
