/- Channels and paths of the other net. Own work; no condition. -/
import Derived.Test.YtchejfephmmcaaaChan1
set_option maxRecDepth 100000
set_option linter.unusedSimpArgs false
set_option linter.unusedVariables false
namespace Go.Abs
open Go.Proofs
attribute [local irreducible] awp awpOps awpKeep KeepK awpKeepF KeepF aloop ALoop ACalls ACallq AQuiet retPost retPostA AExit.thn AExit.blk aApp aSt aStA

/-! ### The other net -/

def other (net : List Int) : List Int := if NetOk net then (List.range net.length).map fun k : Nat => 2 ^ net.length - 1 - (net.getD k 0) - 2 ^ k else []
theorem other_bit : ∀ n, n < 7 → ∀ s, s < 2 ^ n → ∀ k, k < n → s.testBit k = false → s + 2 ^ k < 2 ^ n ∧ ∀ j, j < n → (2 ^ n - 1 - s - 2 ^ k).testBit j = (decide (j ≠ k) && !(s.testBit j)) := by decide +kernel
theorem other_get {net : List Int} (hN : NetOk net) {k : Nat} (hk : k < net.length) : (other net).length = net.length ∧ (0 ≤ (other net).getD k 0 ∧ (other net).getD k 0 < 2 ^ net.length) ∧ ∀ j, j < net.length → bit ((other net).getD k 0) j = (decide (j ≠ k) && !(bit ((net.getD k 0)) j)) := by
  have e : other net = (List.range net.length).map fun k : Nat => 2 ^ net.length - 1 - (net.getD k 0) - 2 ^ k := if_pos hN
  have eg : (other net).getD k 0 = 2 ^ net.length - 1 - (net.getD k 0) - 2 ^ k := by rw [e]; simp [List.getD_eq_getElem?_getD, hk]
  obtain ⟨s, hs⟩ := Int.eq_ofNat_of_zero_le (hN.low k hk)
  have hh := hN.high k hk
  have ho := hN.own k hk
  rw [eg, hs] at *
  have hp : (2 : Int) ^ net.length = ((2 ^ net.length : Nat) : Int) := by simp
  have hpk : (2 : Int) ^ k = ((2 ^ k : Nat) : Int) := by simp
  rw [hp] at hh ⊢
  rw [hpk]
  rw [bit_nat] at ho
  obtain ⟨q1, q2⟩ := other_bit net.length (by have := hN.six; omega) s (by omega) k hk ho
  have q3 : (s : Int) + ((2 ^ k : Nat) : Int) < ((2 ^ net.length : Nat) : Int) := by rw [← Int.natCast_add]; exact Int.ofNat_lt.2 q1
  have q4 : 0 ≤ ((2 ^ k : Nat) : Int) := Int.natCast_nonneg _
  refine ⟨by rw [e]; simp, by generalize ((2 ^ k : Nat) : Int) = B at *; generalize ((2 ^ net.length : Nat) : Int) = A at *; omega, fun j hj => ?_⟩
  rw [show (((2 ^ net.length : Nat) : Int) - 1 - (s : Int) - ((2 ^ k : Nat) : Int)) = ((2 ^ net.length - 1 - s - 2 ^ k : Nat) : Int) by omega, bit_nat, bit_nat, q2 j hj]
theorem other_len {net : List Int} (hN : NetOk net) : (other net).length = net.length := (other_get hN (k := 0) hN.pos).1
theorem other_net {net : List Int} (hN : NetOk net) : NetOk (other net) := by
  have hl := other_len hN
  refine ⟨by rw [hl]; exact hN.pos, by rw [hl]; exact hN.six, fun k hk => ?_, fun k hk => ?_, fun k hk => ?_, fun k hk j hj => ?_⟩
  · rw [hl] at hk; exact (other_get hN hk).2.1.1
  · rw [hl] at hk ⊢; exact (other_get hN hk).2.1.2
  · rw [hl] at hk; rw [(other_get hN hk).2.2 k hk]; simp
  · rw [hl] at hk
    rw [(other_get hN hk).2.2 j (by omega), (other_get hN (show j < net.length by omega)).2.2 k hk, hN.sym hk (by omega)]
    have : decide (j ≠ k) = decide (k ≠ j) := decide_eq_decide.2 ⟨fun h c => h c.symm, fun h c => h c.symm⟩
    rw [this]
theorem other_ord {net x : List Int} (hN : NetOk net) : OrdOk (other net) x ↔ OrdOk net x := by
  have hl := other_len hN
  constructor
  · rintro ⟨⟨_, h1, h2⟩, h3⟩; rw [hl] at h1 h2; exact ⟨⟨hN, h1, h2⟩, h3⟩
  · rintro ⟨⟨_, h1, h2⟩, h3⟩; exact ⟨⟨other_net hN, by rw [hl]; exact h1, by rw [hl]; exact h2⟩, h3⟩
theorem other_adj {net : List Int} (hN : NetOk net) {a b : Nat} (ha : a < net.length) (hb : b < net.length) (hab : a ≠ b) : adj (other net) (a : Int) (b : Int) = !(adj net (a : Int) (b : Int)) := by
  rw [adj_nat, adj_nat, (other_get hN ha).2.2 b hb, decide_eq_true (Ne.symm hab), Bool.true_and]

/-! ### Neighbours side by side -/

def gbl (net : List Int) : List Int → Nat
  | a :: b :: l => (if adj net a b = true then 1 else 0) + gbl net (b :: l)
  | _ => 0
theorem gbl_cons (net : List Int) (a b : Int) (l : List Int) : gbl net (a :: b :: l) = (if adj net a b = true then 1 else 0) + gbl net (b :: l) := rfl
theorem gbl_append (net : List Int) (b : Int) (Q : List Int) : ∀ P : List Int, gbl net (P ++ b :: Q) = gbl net P + (match P.getLast? with | none => 0 | some a => if adj net a b = true then 1 else 0) + gbl net (b :: Q)
  | [] => by simp [gbl]
  | [a] => by show gbl net (a :: b :: Q) = _; rw [gbl_cons]; simp [gbl]
  | a :: c :: P => by
    have ih := gbl_append net b Q (c :: P)
    show gbl net (a :: c :: (P ++ b :: Q)) = _
    rw [gbl_cons, show c :: (P ++ b :: Q) = (c :: P) ++ b :: Q from rfl, ih, gbl_cons, List.getLast?_cons_cons]
    omega
theorem gbl_none {net : List Int} : ∀ {C : List Int}, (∀ a ∈ C, ∀ b ∈ C, adj net a b = false) → gbl net C = 0
  | [], _ => rfl
  | [_], _ => rfl
  | a :: b :: l, h => by
    rw [gbl_cons, h a (by simp) b (by simp), gbl_none (C := b :: l) fun x hx y hy => h x (by simp [List.mem_cons.1 hx]) y (by simp [List.mem_cons.1 hy])]
    rfl

theorem brkTo_cons (net : List Int) (a : Int) (l : List Int) : ∀ k, brkTo net (a :: l) (k + 1) = (if adj net a (l.getD 0 0) = true then 0 else 1) + brkTo net l k
  | 0 => by rw [brkTo_step]; simp [brkTo]
  | k + 1 => by
    rw [brkTo_step, brkTo_cons net a l k, brkTo_step]
    simp only [List.getD_cons_succ]
    omega
theorem brk_other {net : List Int} (hN : NetOk net) : ∀ {P : List Int}, P.Nodup → (∀ z ∈ P, 0 ≤ z ∧ z < net.length) → brk (other net) P = gbl net P
  | [], _, _ => rfl
  | [_], _, _ => rfl
  | a :: b :: l, hn, hm => by
    have ih := brk_other hN (P := b :: l) (List.nodup_cons.1 hn).2 fun z hz => hm z (List.mem_cons_of_mem _ hz)
    have hab : a ≠ b := fun c => (List.nodup_cons.1 hn).1 (by rw [c]; simp)
    have ha := hm a (by simp)
    have hb := hm b (by simp)
    obtain ⟨a', rfl⟩ := Int.eq_ofNat_of_zero_le ha.1
    obtain ⟨b', rfl⟩ := Int.eq_ofNat_of_zero_le hb.1
    unfold brk at ih ⊢
    rw [show ((a' : Int) :: (b' : Int) :: l).length - 1 = ((b' : Int) :: l).length - 1 + 1 by simp, brkTo_cons, ih, gbl_cons]
    congr 1
    show (if adj (other net) (a' : Int) (b' : Int) = true then 0 else 1) = _
    rw [other_adj hN (by omega) (by omega) (by omega)]
    cases adj net (a' : Int) (b' : Int) <;> rfl

/-! ### Places in the order of their channels -/

open Classical in
/-- How many channels below T are those of a bad place. -/
noncomputable def hc (net g : List Int) (T : Nat) : Int := sig T fun v => if ∃ w, Bad net g w ∧ (g.getD w 0) = (v : Int) then 1 else 0
open Classical in
theorem hc_step (net g : List Int) (T : Nat) : hc net g (T + 1) = hc net g T + if ∃ w, Bad net g w ∧ (g.getD w 0) = (T : Int) then 1 else 0 := by unfold hc; rw [sig_succ]

theorem path_to {net g : List Int} {t : Int} (hN : NetOk net) (h : Ch net g t) : ∀ T : Nat, ∃ P : List Int, P.Nodup ∧ (∀ z, z ∈ P ↔ (0 ≤ z ∧ z < net.length) ∧ g.getD z.toNat 0 < (T : Int)) ∧ (gbl net P : Int) ≤ hc net g T ∧ ∀ a, P.getLast? = some a → ∀ z ∈ P, g.getD z.toNat 0 ≤ g.getD a.toNat 0
  | 0 => ⟨[], List.nodup_nil, fun z => ⟨fun c => (by cases c), fun ⟨c1, c2⟩ => by have := (h.low z.toNat (by omega)).1; omega⟩, Int.le_refl _, fun a c => by cases c⟩
  | T + 1 => by
    obtain ⟨P, p1, p2, p3, p4⟩ := path_to hN h T
    have low := fun k hk => h.low k hk
    have hC : ∀ z, z ∈ (upN net.length).filter (fun z => decide (g.getD z.toNat 0 = (T : Int))) ↔ (0 ≤ z ∧ z < net.length) ∧ g.getD z.toNat 0 = (T : Int) := fun z => by rw [List.mem_filter, upN_mem, decide_eq_true_eq]
    have hCn : ((upN net.length).filter fun z => decide (g.getD z.toNat 0 = (T : Int))).Nodup := (once_iff_nodup.1 (upN_once _)).filter _
    generalize (upN net.length).filter (fun z => decide (g.getD z.toNat 0 = (T : Int))) = C at hC hCn
    have hCC : ∀ a ∈ C, ∀ b ∈ C, adj net a b = false := fun a ha b hb => by
      obtain ⟨⟨a1, a2⟩, a3⟩ := (hC a).1 ha
      obtain ⟨⟨b1, b2⟩, b3⟩ := (hC b).1 hb
      cases hx : adj net a b with
      | false => rfl
      | true =>
        unfold adj at hx
        by_cases e : a.toNat = b.toNat
        · rw [e, hN.own _ (by omega)] at hx; cases hx
        · have := h.near _ _ (by omega) (by omega) e hx; omega
    have h0 := hc_step net g T
    have hpos : hc net g T ≤ hc net g (T + 1) := by rw [h0]; split <;> omega
    -- behind P an order of C
    have fin : ∀ b Q, (b :: Q).Perm C → (gbl net (P ++ b :: Q) : Int) ≤ hc net g (T + 1) → ∃ P : List Int, P.Nodup ∧ (∀ z, z ∈ P ↔ (0 ≤ z ∧ z < net.length) ∧ g.getD z.toNat 0 < ((T + 1 : Nat) : Int)) ∧ (gbl net P : Int) ≤ hc net g (T + 1) ∧ ∀ a, P.getLast? = some a → ∀ z ∈ P, g.getD z.toNat 0 ≤ g.getD a.toNat 0 := fun b Q hperm hle => by
      refine ⟨P ++ b :: Q, ?_, fun z => ?_, hle, fun a ha z hz => ?_⟩
      · refine List.nodup_append.2 ⟨p1, hperm.nodup_iff.2 hCn, fun u hu v hv e => ?_⟩
        subst e
        have h1 := (p2 u).1 hu
        have h2 := (hC u).1 (hperm.mem_iff.1 hv)
        omega
      · rw [List.mem_append, p2, hperm.mem_iff, hC]
        constructor
        · rintro (⟨c1, c2⟩ | ⟨c1, c2⟩)
          · exact ⟨c1, by omega⟩
          · exact ⟨c1, by omega⟩
        · rintro ⟨c1, c2⟩
          by_cases c : g.getD z.toNat 0 = (T : Int)
          · exact .inr ⟨c1, c⟩
          · exact .inl ⟨c1, by omega⟩
      · have ha' : a ∈ b :: Q := by
          rw [List.getLast?_append, List.getLast?_eq_some_getLast (List.cons_ne_nil b Q), Option.some_or] at ha
          cases ha
          exact List.getLast_mem _
        have h1 := (hC a).1 (hperm.mem_iff.1 ha')
        rcases List.mem_append.1 hz with c | c
        · have := (p2 z).1 c; omega
        · have := (hC z).1 (hperm.mem_iff.1 c); omega
    have gb0 : ∀ b Q, (b :: Q).Perm C → gbl net (b :: Q) = 0 := fun b Q hperm => gbl_none fun x hx y hy => hCC x (hperm.mem_iff.1 hx) y (hperm.mem_iff.1 hy)
    cases hc0 : C with
    | nil =>
      subst hc0
      refine ⟨P, p1, fun z => ?_, by omega, p4⟩
      rw [p2]
      constructor
      · rintro ⟨c1, c2⟩; exact ⟨c1, by omega⟩
      · rintro ⟨c1, c2⟩
        have : ¬ g.getD z.toNat 0 = (T : Int) := fun c => by have := (hC z).2 ⟨c1, c⟩; cases this
        exact ⟨c1, by omega⟩
    | cons b0 C' =>
      have hself : (b0 :: C').Perm C := by rw [hc0]
      cases hlast : P.getLast? with
      | none =>
        have : P = [] := List.getLast?_eq_none_iff.1 hlast
        subst this
        refine fin b0 C' hself ?_
        rw [gbl_append, gb0 b0 C' hself]
        simp [gbl] at p3 ⊢
        omega
      | some a =>
        have haP : a ∈ P := List.mem_of_getLast? hlast
        have hap := (p2 a).1 haP
        by_cases hx : ∃ b ∈ C, adj net a b = false
        · obtain ⟨b, hb, hab⟩ := hx
          have hperm : (b :: C.erase b).Perm C := (List.perm_cons_erase hb).symm
          refine fin b _ hperm ?_
          rw [gbl_append, gb0 _ _ hperm, hlast]
          simp only [hab]
          simp
          omega
        · have hall : ∀ b ∈ C, adj net a b = true := fun b hb => by
            cases hy : adj net a b with
            | true => rfl
            | false => exact absurd ⟨b, hb, hy⟩ hx
          have hb0 : b0 ∈ C := by rw [hc0]; simp
          obtain ⟨⟨u1, u2⟩, u3⟩ := (hC b0).1 hb0
          have hone : ∀ b ∈ C, b = b0 := fun b hb => Decidable.byContradiction fun hne => by
            obtain ⟨⟨v1, v2⟩, v3⟩ := (hC b).1 hb
            have q1 := hall b hb
            have q2 := hall b0 hb0
            unfold adj at q1 q2
            exact h.only hN (x := b.toNat) (y := b0.toNat) (w := a.toNat) (by omega) (by omega) (by omega) (by omega) (by omega) (by rw [hN.sym (by omega) (by omega)]; exact q1) (by rw [hN.sym (by omega) (by omega)]; exact q2)
          have hn0 := h.near a.toNat b0.toNat (by omega) (by omega) (by intro c; have := hall b0 hb0; unfold adj at this; rw [c, hN.own _ (by omega)] at this; cases this) (hall b0 hb0)
          have hbad : Bad net g b0.toNat := by
            have ga := (h.low a.toNat (by omega)).1
            refine ⟨by omega, by omega, fun k hk c => ?_, fun k hk hkb c => ?_⟩
            · have hkP : (k : Int) ∈ P := (p2 _).2 ⟨by omega, by rw [Int.toNat_natCast]; omega⟩
              have := p4 a hlast _ hkP
              rw [Int.toNat_natCast] at this
              omega
            · have := hone (k : Int) ((hC _).2 ⟨by omega, by rw [Int.toNat_natCast]; omega⟩)
              omega
          refine fin b0 C' hself ?_
          rw [gbl_append, gb0 _ _ hself, hlast, h0, if_pos ⟨b0.toNat, hbad, u3⟩]
          simp only [hall b0 hb0]
          simp
          omega

open Classical in
noncomputable def us (net g : List Int) (T : Nat) : Int := sig T fun v => if ∃ k, k < net.length ∧ (g.getD k 0) = (v : Int) then 1 else 0
open Classical in
/-- Of different numbers there are few bad places. -/
theorem hc_once {net g : List Int} {t : Nat} (h : Ch net g (t : Int)) (ho : Once g) : hc net g (t + 1) ≤ (t : Int) + 1 - net.length := by
  have hl := h.len
  -- bad places have holes below them
  have h1 : ∀ T : Nat, hc net g (T + 1) ≤ sig T fun v => if ∃ k, k < net.length ∧ (g.getD k 0) = (v : Int) then 0 else 1 := fun T => by
    induction T with
    | zero =>
      rw [hc_step, if_neg fun ⟨w, hw, e⟩ => by have := hw.2.1; omega]
      exact Int.le_refl _
    | succ T ih =>
      rw [hc_step, sig_succ]
      by_cases c : ∃ w, Bad net g w ∧ (g.getD w 0) = ((T + 1 : Nat) : Int)
      · obtain ⟨w, hw, e⟩ := c
        rw [if_pos ⟨w, hw, e⟩, if_neg fun ⟨k, hk, ek⟩ => hw.2.2.1 k hk (by omega)]
        omega
      · rw [if_neg c]
        split <;> omega
  have h2 : ∀ T : Nat, (sig T fun v => if ∃ k, k < net.length ∧ (g.getD k 0) = (v : Int) then (0 : Int) else 1) + us net g T = T := fun T => by
    induction T with
    | zero => rfl
    | succ T ih =>
      unfold us at *
      rw [sig_succ, sig_succ]
      split <;> omega
  have h3 : (net.length : Int) ≤ us net g (t + 1) := by
    have e1 : (net.length : Int) ≤ sig net.length fun k => sig (t + 1) fun v => if (g.getD k 0) = (v : Int) then 1 else 0 := by
      have : (net.length : Int) = sig net.length fun _ => 1 := by
        have : ∀ n : Nat, (sig n fun _ => (1 : Int)) = n := fun n => by
          induction n with
          | zero => rfl
          | succ n ih => rw [sig_succ, ih]; omega
        rw [this]
      rw [this]
      refine sig_le fun k hk => ?_
      have hg := h.low k hk
      have := sig_ge (n := t + 1) (j := ((g.getD k 0)).toNat) (f := fun v => if (g.getD k 0) = (v : Int) then (1 : Int) else 0) (fun i _ => by split <;> decide) (by omega)
      rw [if_pos (by omega)] at this
      exact this
    refine Int.le_trans e1 ?_
    rw [sig_swap]
    refine sig_le fun v hv => ?_
    by_cases c : ∃ k, k < net.length ∧ (g.getD k 0) = (v : Int)
    · rw [if_pos c]
      exact sig_one fun i j hij hj e e' => ho j (by omega) i hij (by omega)
    · rw [if_neg c, sig_congr (g := fun _ => 0) fun k hk => if_neg fun d => c ⟨k, hk, d⟩, sig_none]
      exact Int.le_refl _
  have h4 := h1 (t + 1)
  have h5 := h2 (t + 1)
  have h6 : hc net g (t + 1) ≤ hc net g (t + 1 + 1) := by rw [hc_step net g (t + 1)]; split <;> omega
  omega

/-- Channels of at most t make paths of the other net. -/
theorem cover_chan {net row : List Int} {t : Nat} (hN : NetOk net) (h : Ch net row (t : Int)) : cover (other net) ≤ 1 ∨ cover (other net) ≤ (t : Int) + 2 - net.length := by
  obtain ⟨g, hg, hor⟩ := Ch.best hN (twice row).toNat row h (by have := twice_nonneg row; omega)
  obtain ⟨P, p1, p2, p3, _⟩ := path_to hN hg (t + 1)
  have hO : OrdOk net P := ord_of_list hN p1 fun z => by
    rw [p2]
    constructor
    · exact fun c => c.1
    · intro c; have := (hg.low z.toNat (by omega)).2; exact ⟨c, by omega⟩
  have hc1 := (cover_is (other_net hN)).2 P ((other_ord hN).2 hO)
  have hb : brk (other net) P = gbl net P := brk_other hN p1 fun z hz => ((p2 z).1 hz).1
  unfold pathsOf at hc1
  rw [hb] at hc1
  rcases hor with ho | hb
  · have := hc_once hg ho; exact .inr (by omega)
  · refine .inl ?_
    have : hc net g (t + 1) = 0 := by
      unfold hc
      rw [sig_congr (g := fun _ => 0) fun v _ => if_neg fun ⟨w, hw, _⟩ => hb w hw, sig_none]
    omega

end Go.Abs
