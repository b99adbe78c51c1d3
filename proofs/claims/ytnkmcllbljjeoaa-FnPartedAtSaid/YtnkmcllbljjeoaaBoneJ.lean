/- The program's own way to the backbone and the columns of a caterpillar, as plain functions, held against the model's at each tree. Own work; no condition. -/
import Derived.Test.YtnkmcllbljjeoaaBone6
set_option maxRecDepth 100000
set_option linter.unusedSimpArgs false
set_option linter.unusedVariables false
namespace Go.Abs
open Go.Proofs
attribute [local irreducible] awp awpOps awpKeep KeepK aloop ALoop ACalls ACallq AQuiet retPost retPostA AExit.thn AExit.blk aApp aSt aStA
open Parts

/-- The least of a set, one more. -/
noncomputable def lp (X d : Nat) : Nat := @Nat.rec (fun _ => Nat) 0 (fun d ih => frc (Nat.sub 6 (Nat.succ d)) fun k => bif has X k then Nat.succ k else ih) d
/-- The set of the backbone. -/
noncomputable def bset (N n : Nat) : Nat := frc (inn N n) fun I => bif Nat.beq I 0 then 1 else I
/-- The places of a set with at most one neighbour in it, of the first k. -/
noncomputable def ends (N S k : Nat) : Nat := @Nat.rec (fun _ => Nat) 0 (fun k ih => frc ih fun e => bif (bif has S k then Nat.ble (pc (Nat.land (row N k) S)) 1 else false) then Nat.add e (Nat.pow 2 k) else e) k
noncomputable def jn (N f : Nat) : Nat → Nat → Nat → Nat := @Nat.rec (fun _ => Nat → Nat → Nat → Nat) (fun at1 _ P => bif Nat.beq at1 0 then P else 15)
  (fun _ ih at1 left P => bif Nat.beq at1 0 then P else frc (Nat.pred at1) fun a => frc (less left (Nat.pow 2 a)) fun l1 => frc (lp (Nat.land (row N a) l1) 6) fun a1 => frc (psh P a) fun P1 => ih a1 l1 P1) f
noncomputable def joneP (N n : Nat) : Nat := frc (bset N n) fun S => frc (lp (ends N S n) 6) fun s => jn N 7 s S 0
/-- The places of a set put at T's end. -/
noncomputable def putS (X T j : Nat) : Nat := @Nat.rec (fun _ => Nat) T (fun j ih => frc ih fun T1 => bif has X j then psh T1 j else T1) j
noncomputable def jcols (N P S k : Nat) : Nat := @Nat.rec (fun _ => Nat) 0 (fun k ih => frc ih fun C => frc (pa P k) fun c => frc (less (row N c) S) fun X => bif Nat.beq (Nat.mod k 2) 0 then Nat.add (psh (Nat.mod C big) c) (Nat.mul big (putS X (Nat.div C big) 6)) else Nat.add (putS X (Nat.mod C big) 6) (Nat.mul big (psh (Nat.div C big) c))) k
noncomputable def colF (n N W : Nat) : Bool := bif Nat.beq (Nat.succ W) n then (bif Nat.beq (pm N 6 (Nat.sub (Nat.pow 2 n) 1) 0) 1 then
  (frc (boneP N n) fun P => frc (bset N n) fun S => bif Nat.beq (joneP N n) P then
    bif upto (fun k => frc (jcols N P S k) fun C => bif Nat.ble (Nat.mod (Nat.mod C big) 16) 6 then Nat.ble (Nat.mod (Nat.div C big) 16) 6 else false) (Nat.succ (Nat.mod P 16)) then Nat.beq (jcols N P S (Nat.mod P 16)) (colsP N n) else false else false) else true) else true

theorem colF1 : chkF colF 1 0 0 0 = true := by decide +kernel
theorem colF2 : chkF colF 2 0 0 0 = true := by decide +kernel
theorem colF3 : chkF colF 3 0 0 0 = true := by decide +kernel
theorem colF4 : chkF colF 4 0 0 0 = true := by decide +kernel
theorem colF5 : chkF colF 5 0 0 0 = true := by decide +kernel
theorem colF6 : chkF colF 6 0 0 0 = true := by decide +kernel

noncomputable def jS (net : List Int) : Nat := bset (pk net) net.length
noncomputable def jC (net : List Int) (k : Nat) : Nat := jcols (pk net) (boneOf net) (jS net) k
noncomputable def jA (net : List Int) (k : Nat) : Nat := jC net k % big
noncomputable def jB (net : List Int) (k : Nat) : Nat := jC net k / big

structure ColIs (net : List Int) : Prop where
  bone : joneP (pk net) net.length = boneOf net
  lens : ∀ k, k ≤ boneOf net % 16 → jA net k % 16 ≤ 6 ∧ jB net k % 16 ≤ 6
  last : jC net (boneOf net % 16) = colsP (pk net) net.length

theorem col_is {net : List Int} (h : treeOk net = true) : ColIs net := by
  obtain ⟨hN, h1, h2⟩ := of_decide_eq_true h
  have h6 := hN.six
  have hp := hN.pos
  have hF := all_of colF1 colF2 colF3 colF4 colF5 colF6 hN
  rw [partMany, if_pos hN] at h1
  rw [wiresOf, if_pos hN] at h2
  unfold colF at hF
  rw [show Nat.beq (Nat.succ (wires net).length) net.length = true by rw [show Nat.succ (wires net).length = net.length by omega]; simp] at hF
  have e1 : pm (pk net) 6 (2 ^ net.length - 1) 0 = 1 := by omega
  have e2 : Nat.sub (Nat.pow 2 net.length) 1 = 2 ^ net.length - 1 := rfl
  rw [e2, e1] at hF
  simp only [frc_eq, cond_true, show Nat.beq 1 1 = true from rfl] at hF
  obtain ⟨g1, hF⟩ := bif_and hF
  obtain ⟨g2, g3⟩ := bif_and hF
  exact ⟨Nat.eq_of_beq_eq_true g1, fun k hk => by
    have g := upto_all g2 k (Nat.lt_succ_of_le hk)
    obtain ⟨q3, q4⟩ := bif_and (show (bif Nat.ble (jA net k % 16) 6 then Nat.ble (jB net k % 16) 6 else false) = true from g)
    exact ⟨Nat.le_of_ble_eq_true q3, Nat.le_of_ble_eq_true q4⟩, Nat.eq_of_beq_eq_true g3⟩

theorem bset_is (net : List Int) : jS net = if inn (pk net) net.length = 0 then 1 else inn (pk net) net.length := by
  have e : jS net = frc (inn (pk net) net.length) fun I => bif Nat.beq I 0 then 1 else I := rfl
  rw [e, frc_eq]
  cases hb : Nat.beq (inn (pk net) net.length) 0 with
  | true => rw [if_pos (Nat.eq_of_beq_eq_true hb)]; rfl
  | false => rw [if_neg fun c => (by rw [c] at hb; cases hb)]; rfl
theorem jS_lt {net : List Int} (h : NetOk net) : jS net < 64 := by
  have := inn64 h (Nat.le_refl net.length)
  rw [bset_is]
  split <;> omega

theorem ends_succ (N S k : Nat) : ends N S (k + 1) = if S.testBit k = true ∧ pc (Nat.land (row N k) S) ≤ 1 then ends N S k + 2 ^ k else ends N S k := by
  have e : ends N S (k + 1) = frc (ends N S k) fun e => bif (bif has S k then Nat.ble (pc (Nat.land (row N k) S)) 1 else false) then Nat.add e (Nat.pow 2 k) else e := rfl
  rw [e, frc_eq, has_tbit]
  cases hI : S.testBit k with
  | false => rw [if_neg fun c => by cases c.1]; rfl
  | true =>
    cases hb : Nat.ble (pc (Nat.land (row N k) S)) 1 with
    | true => rw [if_pos ⟨rfl, Nat.le_of_ble_eq_true hb⟩]; rfl
    | false => rw [if_neg fun c => (by rw [Nat.ble_eq_true_of_le c.2] at hb; cases hb)]; rfl
theorem ends_lt (N S : Nat) : ∀ k, ends N S k < 2 ^ k
  | 0 => Nat.one_pos
  | k + 1 => by
    have ih := ends_lt N S k
    rw [ends_succ, Nat.pow_succ]
    split <;> omega

theorem jn_none (N f left P : Nat) : jn N f 0 left P = P := by cases f <;> rfl
theorem jn_out (N a left P : Nat) : jn N 0 (a + 1) left P = 15 := rfl
theorem jn_next (N f a left P : Nat) : jn N (f + 1) (a + 1) left P = jn N f (lp (Nat.land (row N a) (less left (2 ^ a))) 6) (less left (2 ^ a)) (psh P a) := by
  have e : jn N (f + 1) (a + 1) left P = frc (Nat.pred (a + 1)) fun a => frc (less left (Nat.pow 2 a)) fun l1 => frc (lp (Nat.land (row N a) l1) 6) fun a1 => frc (psh P a) fun P1 => jn N f a1 l1 P1 := rfl
  simp only [frc_eq] at e
  exact e
theorem jone_is {net : List Int} (h : ColIs net) : jn (pk net) 7 (lp (ends (pk net) (jS net) net.length) 6) (jS net) 0 = boneOf net := by
  have e : joneP (pk net) net.length = frc (bset (pk net) net.length) fun S => frc (lp (ends (pk net) S net.length) 6) fun s => jn (pk net) 7 s S 0 := rfl
  simp only [frc_eq] at e
  rw [← h.bone, e]
  rfl

/-- The places of a set, of the first j. -/
def pl (X j : Nat) : List Int := @Nat.rec (fun _ => List Int) [] (fun j ih => if X.testBit j = true then ih ++ [(j : Int)] else ih) j
theorem pl_succ (X j : Nat) : pl X (j + 1) = if X.testBit j = true then pl X j ++ [(j : Int)] else pl X j := rfl
theorem pl_len (X : Nat) : ∀ j, (pl X j).length ≤ j
  | 0 => Nat.le_refl _
  | j + 1 => by
    have ih := pl_len X j
    rw [pl_succ]
    split
    · rw [List.length_append, List.length_cons, List.length_nil]; omega
    · omega
theorem lp_rec (X d : Nat) : lp X (d + 1) = if X.testBit (6 - (d + 1)) = true then 6 - (d + 1) + 1 else lp X d := by
  have e : lp X (d + 1) = frc (Nat.sub 6 (Nat.succ d)) fun k => bif has X k then Nat.succ k else lp X d := rfl
  rw [e, frc_eq, has_tbit]
  have e2 : Nat.sub 6 (Nat.succ d) = 6 - (d + 1) := rfl
  rw [e2]
  cases X.testBit (6 - (d + 1)) with
  | true => rfl
  | false => rfl
def lpb (X : Nat) : Nat := if X.testBit 0 = true then 1 else if X.testBit 1 = true then 2 else if X.testBit 2 = true then 3 else if X.testBit 3 = true then 4 else if X.testBit 4 = true then 5 else if X.testBit 5 = true then 6 else 0
theorem lp_lpb (X : Nat) : lp X 6 = lpb X := by
  rw [lp_rec, lp_rec, lp_rec, lp_rec, lp_rec, lp_rec]
  rfl
def app1 (l : List Int) (b : Bool) (j : Nat) : List Int := if b = true then l ++ [(j : Int)] else l
def plb (b0 b1 b2 b3 b4 b5 : Bool) : List Int := app1 (app1 (app1 (app1 (app1 (app1 [] b0 0) b1 1) b2 2) b3 3) b4 4) b5 5
def lpc (b0 b1 b2 b3 b4 b5 : Bool) : Nat := if b0 = true then 1 else if b1 = true then 2 else if b2 = true then 3 else if b3 = true then 4 else if b4 = true then 5 else if b5 = true then 6 else 0
theorem plb_lpc (b0 b1 b2 b3 b4 b5 : Bool) : ((plb b0 b1 b2 b3 b4 b5).length = 0 → lpc b0 b1 b2 b3 b4 b5 = 0) ∧ ((plb b0 b1 b2 b3 b4 b5).length ≠ 0 → (plb b0 b1 b2 b3 b4 b5).getD 0 0 = (lpc b0 b1 b2 b3 b4 b5 : Int) - 1) := by
  cases b0 <;> cases b1 <;> cases b2 <;> cases b3 <;> cases b4 <;> cases b5 <;> exact ⟨by decide, by decide⟩
theorem pl_plb (X : Nat) : pl X 6 = plb (X.testBit 0) (X.testBit 1) (X.testBit 2) (X.testBit 3) (X.testBit 4) (X.testBit 5) := rfl
theorem lp_lpc (X : Nat) : lp X 6 = lpc (X.testBit 0) (X.testBit 1) (X.testBit 2) (X.testBit 3) (X.testBit 4) (X.testBit 5) := by
  rw [lp_lpb]; rfl
theorem bit_below {X n j : Nat} (h : X < 2 ^ n) (hb : X.testBit j = true) : j < n := by
  rcases Nat.lt_or_ge j n with h1 | h1
  · exact h1
  · rw [Nat.testBit_lt_two_pow (Nat.lt_of_lt_of_le h (Nat.pow_le_pow_right (by decide) h1))] at hb; cases hb
theorem lp_le {X n : Nat} (h : X < 2 ^ n) : lp X 6 ≤ n := by
  rw [lp_lpb]
  unfold lpb
  split
  · exact bit_below h ‹_›
  · split
    · exact bit_below h ‹_›
    · split
      · exact bit_below h ‹_›
      · split
        · exact bit_below h ‹_›
        · split
          · exact bit_below h ‹_›
          · split
            · exact bit_below h ‹_›
            · exact Nat.zero_le _
theorem lp_none {X : Nat} (h0 : (pl X 6).length = 0) : lp X 6 = 0 := by rw [lp_lpc]; rw [pl_plb] at h0; exact (plb_lpc _ _ _ _ _ _).1 h0
theorem lp_some {X : Nat} (h0 : (pl X 6).length ≠ 0) : (pl X 6).getD 0 0 = (lp X 6 : Int) - 1 := by rw [lp_lpc]; rw [pl_plb] at h0 ⊢; exact (plb_lpc _ _ _ _ _ _).2 h0

theorem putS_succ (X T j : Nat) : putS X T (j + 1) = if X.testBit j = true then psh (putS X T j) j else putS X T j := by
  have e : putS X T (j + 1) = frc (putS X T j) fun T1 => bif has X j then psh T1 j else T1 := rfl
  rw [e, frc_eq, has_tbit]
  cases X.testBit j with
  | true => rfl
  | false => rfl
theorem putS_list {X T : Nat} (hT : PIs T) : ∀ j, T % 16 + j ≤ 14 → PIs (putS X T j) ∧ plist (putS X T j) = plist T ++ pl X j ∧ putS X T j % 16 = T % 16 + (pl X j).length
  | 0, _ => ⟨hT, (List.append_nil _).symm, rfl⟩
  | j + 1, h => by
    obtain ⟨h1, h2, h3⟩ := putS_list (X := X) hT j (by omega)
    have hl := pl_len X j
    rw [putS_succ, pl_succ]
    split
    · obtain ⟨q1, q2⟩ := psh_is (a := j) h1 (by omega) (by omega)
      refine ⟨q1, ?_, ?_⟩
      · rw [q2, h2, List.append_assoc]
      · rw [(psh_parts (P := putS X T j) (a := j) (by omega)).2, h3, List.length_append]; rfl
    · exact ⟨h1, h2, h3⟩

/-- The legs of the place k of the backbone. -/
noncomputable def jX (net : List Int) (k : Nat) : List Int := pl (less (nrow net (pa (boneOf net) k)) (jS net)) 6

theorem jcols_succ {net : List Int} (hC : CatIs net) {k : Nat} (hk : k < boneOf net % 16) :
    jC net (k + 1) = if k % 2 = 0 then psh (jA net k) (pa (boneOf net) k) + big * putS (less (nrow net (pa (boneOf net) k)) (jS net)) (jB net k) 6 else putS (less (nrow net (pa (boneOf net) k)) (jS net)) (jA net k) 6 + big * psh (jB net k) (pa (boneOf net) k) := by
  have e : jC net (k + 1) = frc (jC net k) fun C => frc (pa (boneOf net) k) fun c => frc (less (row (pk net) c) (jS net)) fun X => bif Nat.beq (Nat.mod k 2) 0 then Nat.add (psh (Nat.mod C big) c) (Nat.mul big (putS X (Nat.div C big) 6)) else Nat.add (putS X (Nat.mod C big) 6) (Nat.mul big (psh (Nat.div C big) c)) := rfl
  simp only [frc_eq] at e
  have hlt := hC.boneLt k hk
  have h6 := hC.ok.six
  have m1 : Nat.mod (jC net k) big = jA net k := rfl
  have m2 : Nat.div (jC net k) big = jB net k := rfl
  rw [row_of hC.ok (by omega), m1, m2] at e
  generalize psh (jA net k) (pa (boneOf net) k) = u1 at e ⊢
  generalize psh (jB net k) (pa (boneOf net) k) = u2 at e ⊢
  generalize putS (less (nrow net (pa (boneOf net) k)) (jS net)) (jA net k) 6 = u3 at e ⊢
  generalize putS (less (nrow net (pa (boneOf net) k)) (jS net)) (jB net k) 6 = u4 at e ⊢
  by_cases h0 : k % 2 = 0
  · rw [if_pos h0, e, show Nat.beq (Nat.mod k 2) 0 = true by rw [show Nat.mod k 2 = 0 from h0]; rfl, cond_true, Nat.add_eq, Nat.mul_eq]
  · rw [if_neg h0, e, show Nat.beq (Nat.mod k 2) 0 = false by cases h : Nat.beq (Nat.mod k 2) 0 with | false => rfl | true => exact absurd (Nat.eq_of_beq_eq_true h) h0, cond_false, Nat.add_eq, Nat.mul_eq]

theorem j_zero (net : List Int) : jA net 0 = 0 ∧ jB net 0 = 0 := ⟨Nat.zero_mod big, Nat.zero_div big⟩
theorem jcols_step {net : List Int} (hC : CatIs net) (hJ : ColIs net) : ∀ k, k ≤ boneOf net % 16 → PIs (jA net k) ∧ PIs (jB net k) ∧
    (k < boneOf net % 16 → (k % 2 = 0 → plist (jA net (k + 1)) = plist (jA net k) ++ [(pa (boneOf net) k : Int)] ∧ plist (jB net (k + 1)) = plist (jB net k) ++ jX net k) ∧
      (k % 2 ≠ 0 → plist (jA net (k + 1)) = plist (jA net k) ++ jX net k ∧ plist (jB net (k + 1)) = plist (jB net k) ++ [(pa (boneOf net) k : Int)])) := by
  have h6 := hC.ok.six
  have hbp : 0 < big := by decide
  have stp : ∀ k, k < boneOf net % 16 → PIs (jA net k) → PIs (jB net k) → (PIs (jA net (k + 1)) ∧ PIs (jB net (k + 1))) ∧
      (k % 2 = 0 → plist (jA net (k + 1)) = plist (jA net k) ++ [(pa (boneOf net) k : Int)] ∧ plist (jB net (k + 1)) = plist (jB net k) ++ jX net k) ∧
      (k % 2 ≠ 0 → plist (jA net (k + 1)) = plist (jA net k) ++ jX net k ∧ plist (jB net (k + 1)) = plist (jB net k) ++ [(pa (boneOf net) k : Int)]) := fun k hk hA hB => by
    have hlen := hJ.lens k (by omega)
    have hlt := hC.boneLt k hk
    have e := jcols_succ hC hk
    have e1 : jA net (k + 1) = jC net (k + 1) % big := rfl
    have e2 : jB net (k + 1) = jC net (k + 1) / big := rfl
    by_cases h0 : k % 2 = 0
    · rw [if_pos h0] at e
      obtain ⟨q1, q2⟩ := psh_is (a := pa (boneOf net) k) hA (by omega) (by omega)
      have hl := pis_lt q1 (by rw [(psh_parts (P := jA net k) (by omega)).2]; omega)
      obtain ⟨r1, r2, _⟩ := putS_list (X := less (nrow net (pa (boneOf net) k)) (jS net)) hB 6 (by omega)
      have e3 : jA net (k + 1) = psh (jA net k) (pa (boneOf net) k) := by rw [e1, e, Nat.add_mul_mod_self_left, Nat.mod_eq_of_lt hl]
      have e4 : jB net (k + 1) = putS (less (nrow net (pa (boneOf net) k)) (jS net)) (jB net k) 6 := by rw [e2, e, Nat.add_mul_div_left _ _ hbp, Nat.div_eq_of_lt hl, Nat.zero_add]
      exact ⟨⟨by rw [e3]; exact q1, by rw [e4]; exact r1⟩, fun _ => ⟨by rw [e3]; exact q2, by rw [e4]; exact r2⟩, fun c => absurd h0 c⟩
    · rw [if_neg h0] at e
      obtain ⟨q1, q2⟩ := psh_is (a := pa (boneOf net) k) hB (by omega) (by omega)
      obtain ⟨r1, r2, r3⟩ := putS_list (X := less (nrow net (pa (boneOf net) k)) (jS net)) hA 6 (by omega)
      have hpl := pl_len (less (nrow net (pa (boneOf net) k)) (jS net)) 6
      have hl := pis_lt r1 (by omega)
      have e3 : jA net (k + 1) = putS (less (nrow net (pa (boneOf net) k)) (jS net)) (jA net k) 6 := by rw [e1, e, Nat.add_mul_mod_self_left, Nat.mod_eq_of_lt hl]
      have e4 : jB net (k + 1) = psh (jB net k) (pa (boneOf net) k) := by rw [e2, e, Nat.add_mul_div_left _ _ hbp, Nat.div_eq_of_lt hl, Nat.zero_add]
      exact ⟨⟨by rw [e3]; exact r1, by rw [e4]; exact q1⟩, fun c => absurd c h0, fun _ => ⟨by rw [e3]; exact r2, by rw [e4]; exact q2⟩⟩
  have hp : ∀ k, k ≤ boneOf net % 16 → PIs (jA net k) ∧ PIs (jB net k) := fun k => by
    induction k with
    | zero => rw [(j_zero net).1, (j_zero net).2]; exact fun _ => ⟨⟨by decide⟩, ⟨by decide⟩⟩
    | succ k ih =>
      intro hk
      obtain ⟨hA, hB⟩ := ih (by omega)
      exact (stp k (by omega) hA hB).1
  exact fun k hk => ⟨(hp k hk).1, (hp k hk).2, fun hlt => (stp k hlt (hp k hk).1 (hp k hk).2).2⟩

theorem jA_zero (net : List Int) : plist (jA net 0) = [] ∧ plist (jB net 0) = [] := by rw [(j_zero net).1, (j_zero net).2]; exact ⟨rfl, rfl⟩
theorem jA_last {net : List Int} (hJ : ColIs net) : jA net (boneOf net % 16) = colA net ∧ jB net (boneOf net % 16) = colB net := by
  have h := hJ.last
  exact ⟨by show jC net _ % big = _; rw [h]; rfl, by show jC net _ / big = _; rw [h]; rfl⟩

end Go.Abs
