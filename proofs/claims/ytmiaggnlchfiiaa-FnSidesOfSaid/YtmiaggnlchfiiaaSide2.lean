/- Sides in the model, by a contract. Own work; no condition. -/
import Derived.Test.YtmiaggnlchfiiaaSide1
set_option maxRecDepth 100000
set_option linter.unusedSimpArgs false
set_option linter.unusedVariables false
namespace Go.Abs
open Go.Proofs
attribute [local irreducible] awp awpOps aloop ALoop ACalls ACallq AQuiet retPost AExit.thn AExit.blk aApp aSt
open Parts

abbrev SH (m : Heap) (L : List Int) : Heap := m ++ [⟨Ty.int, m.length, true, .ints .i64 L⟩]
theorem at_side {m : Heap} {n k : Nat} {g : Nat → Int} (h : k < n) : Heap.at (SH m (listOf n g)) m.length k = some (.int .i64 (g k)) := by
  rw [← listOf_get g h]
  exact at_row (get_last m _) (by simp only [Vals.len, listOf_len]; exact h)
theorem st_side {m : Heap} (hwf : m.wf) {n k : Nat} {g : Nat → Int} {v : Int} {K : Heap → Prop} (h : k < n) (hk : K (SH m (listOf n fun j => if j = k then v else g j))) : aSt (SH m (listOf n g)) m.length k (.int .i64 v) K :=
  st_last hwf (by simp only [Vals.len, listOf_len]; exact h) rfl (by rw [listOf_set]; exact hk)

/-- The sides after some places of a pass from place a. -/
def stepG (net : List Int) (P a b j : Nat) : Int := if j < b ∧ 0 < sideAt P a ∧ (nrow net a).testBit j = true ∧ sideAt P j = 0 then 3 - sideAt P a else sideAt P j
theorem stepG_own {net : List Int} {P a b : Nat} : stepG net P a b a = sideAt P a := by
  unfold stepG
  rw [if_neg fun c => by omega]
theorem stepG_now {net : List Int} {P a b : Nat} : stepG net P a b b = sideAt P b := by
  unfold stepG
  rw [if_neg fun c => absurd c.1 (Nat.lt_irrefl _)]
theorem stepG_zero {net : List Int} {P a j : Nat} : stepG net P a 0 j = sideAt P j := by
  unfold stepG
  rw [if_neg fun c => absurd c.1 (Nat.not_lt_zero _)]
theorem stepG_yes {net : List Int} {P a b : Nat} (h : 0 < sideAt P a ∧ (nrow net a).testBit b = true ∧ sideAt P b = 0) (j : Nat) : stepG net P a (b + 1) j = if j = b then 3 - sideAt P a else stepG net P a b j := by
  unfold stepG
  by_cases e : j = b
  · subst e; rw [if_pos ⟨Nat.lt_succ_self _, h⟩, if_pos rfl]
  · rw [if_neg e]
    by_cases hc : j < b ∧ 0 < sideAt P a ∧ (nrow net a).testBit j = true ∧ sideAt P j = 0
    · rw [if_pos hc, if_pos ⟨by omega, hc.2⟩]
    · rw [if_neg hc, if_neg fun c => hc ⟨by omega, c.2⟩]
theorem stepG_no {net : List Int} {P a b : Nat} (h : ¬ (0 < sideAt P a ∧ (nrow net a).testBit b = true ∧ sideAt P b = 0)) (j : Nat) : stepG net P a (b + 1) j = stepG net P a b j := by
  unfold stepG
  by_cases hc : j < b ∧ 0 < sideAt P a ∧ (nrow net a).testBit j = true ∧ sideAt P j = 0
  · rw [if_pos hc, if_pos ⟨by omega, hc.2⟩]
  · rw [if_neg hc, if_neg fun c => by
      rcases Nat.lt_succ_iff_lt_or_eq.1 c.1 with h1 | rfl
      · exact hc ⟨h1, c.2⟩
      · exact h c.2]

theorem sd_range (S k : Nat) : sideAt S k = 0 ∨ sideAt S k = 1 ∨ sideAt S k = 2 := by unfold sideAt sd; split; exact .inr (.inl rfl); split; exact .inr (.inr rfl); exact .inl rfl
theorem sd_is1 (S k : Nat) : sideAt S k = 1 ↔ inA S k = true := by unfold sideAt sd; cases inA S k <;> cases inB S k <;> simp
theorem out_step : ∀ A, A < 64 → ∀ k, k < 6 → Nat.lor (A % 2 ^ k) ((A.testBit k).toNat * 2 ^ k) = A % 2 ^ (k + 1) ∧ (A.testBit k).toNat * 2 ^ k < 64 := by decide +kernel

/-- No wire has both ends on one side. -/
def Clean (net : List Int) (S : Nat) : Prop := ∀ i, i < net.length → ∀ j, j < net.length → ¬ (bit ((net.getD i 0)) j = true ∧ sideAt S i = sideAt S j)

theorem bit_nrow (net : List Int) (i j : Nat) : bit ((net.getD i 0)) j = (nrow net i).testBit j := by unfold bit nrow; rfl

theorem proper_iff {net : List Int} (h : NetOk net) {X : Nat} (hX : X < 64) : proper (pk net) X = true ↔ ∀ i j, i < net.length → X.testBit i = true → X.testBit j = true → (nrow net i).testBit j = true → False := by
  have e : proper (pk net) X = Nat.beq (Nat.land (near (pk net) X) X) 0 := rfl
  rw [e, near_pk h hX]
  have tb : ∀ j, (Nat.land (nearTo net X net.length) X).testBit j = ((nearTo net X net.length).testBit j && X.testBit j) := fun j => Nat.testBit_and _ _ _
  constructor
  · intro hb i j hi h1 h2 h3
    have z := tb j
    rw [Nat.eq_of_beq_eq_true hb, Nat.zero_testBit, h2, (nearTo_tb net X j net.length).2 ⟨i, hi, h1, h3⟩] at z
    cases z
  · intro hh
    have z : Nat.land (nearTo net X net.length) X = 0 := zero_of_tb fun j => by
      rw [tb]
      cases h1 : (nearTo net X net.length).testBit j with
      | false => rfl
      | true =>
        obtain ⟨i, g1, g2, g3⟩ := (nearTo_tb net X j net.length).1 h1
        cases h2 : X.testBit j with
        | false => rfl
        | true => exact (hh i j g1 g2 h2 g3).elim
    rw [z]; rfl

theorem clean_iff {net : List Int} (h : NetOk net) {S : Nat} (hS : Ok2 S) (hf : Nat.lor (S % 64) (S / 64) = 2 ^ net.length - 1) : Clean net S ↔ proper (pk net) (S % 64) = true ∧ proper (pk net) (S / 64) = true := by
  have h6 := h.six
  have hA : S % 64 < 64 := Nat.mod_lt _ (by decide)
  have hB : S / 64 < 64 := by have := hS.lt; omega
  have hU : ∀ j, j < net.length → (inA S j || inB S j) = true := fun j hj => by
    have e : (Nat.lor (S % 64) (S / 64)).testBit j = (inA S j || inB S j) := lor_tb _ _ _
    rw [← e, hf, Nat.testBit_two_pow_sub_one]; exact decide_eq_true hj
  have hV : ∀ j, (inA S j || inB S j) = true → j < net.length := fun j hj => by
    have e : (Nat.lor (S % 64) (S / 64)).testBit j = (inA S j || inB S j) := lor_tb _ _ _
    rw [← e, hf, Nat.testBit_two_pow_sub_one] at hj; exact of_decide_eq_true hj
  have prop_iff := fun X hX => proper_iff h (X := X) hX
  rw [prop_iff _ hA, prop_iff _ hB]
  have sA : ∀ j, inA S j = true → sideAt S j = 1 := fun j hj => (sd_is1 S j).2 hj
  have sB : ∀ j, inB S j = true → sideAt S j = 2 := fun j hj => by
    have := hS.dis j
    unfold sideAt sd
    rw [if_neg fun c => this ⟨c, hj⟩, if_pos hj]
  constructor
  · intro hc
    refine ⟨fun i j hi h1 h2 h3 => hc i hi j (hV j (by rw [show inA S j = true from h2]; rfl)) ⟨by rw [bit_nrow]; exact h3, ?_⟩, fun i j hi h1 h2 h3 => hc i hi j (hV j (by rw [show inB S j = true from h2, Bool.or_true])) ⟨by rw [bit_nrow]; exact h3, ?_⟩⟩
    · rw [sA i h1, sA j h2]
    · rw [sB i h1, sB j h2]
  · rintro ⟨p1, p2⟩ i hi j hj ⟨hb, he⟩
    rw [bit_nrow] at hb
    cases hai : inA S i with
    | true =>
      rw [sA i hai] at he
      exact p1 i j hi hai ((sd_is1 S j).1 he.symm) hb
    | false =>
      have hbi : inB S i = true := by have := hU i hi; rw [hai] at this; exact this
      rw [sB i hbi] at he
      have haj : inA S j ≠ true := fun c => by rw [sA j c] at he; cases he
      have hbj : inB S j = true := by have := hU j hj; rw [Bool.eq_false_iff.2 haj] at this; exact this
      exact p2 i j hi hbi hbj hb

theorem sdsEnd_use {N n : Nat} (h : sdsEnd N n ≠ 2000) : sds N n n < 4096 ∧ Nat.lor (sds N n n % 64) (sds N n n / 64) = 2 ^ n - 1 ∧ sdsEnd N n = if proper N (sds N n n % 64) = true ∧ proper N (sds N n n / 64) = true then sds N n n % 64 else 777 := by
  have e : sdsEnd N n = frc (sds N n n) fun S => bif Nat.ble 4096 S then 2000 else frc (Nat.mod S 64) fun A => frc (Nat.div S 64) fun B => bif Nat.beq (Nat.lor A B) (Nat.sub (Nat.pow 2 n) 1) then (bif proper N A then (bif proper N B then A else 777) else 777) else 2000 := rfl
  simp only [frc_eq] at e
  rw [e] at h ⊢
  generalize sds N n n = S at h ⊢
  cases hb : Nat.ble 4096 S with
  | true => rw [hb] at h; exact absurd rfl h
  | false =>
    have hS : S < 4096 := by
      rcases Nat.lt_or_ge S 4096 with h1 | h1
      · exact h1
      · rw [Nat.ble_eq_true_of_le h1] at hb; cases hb
    rw [hb] at h
    simp only [cond_false] at h ⊢
    have em : Nat.mod S 64 = S % 64 := rfl
    have ed : Nat.div S 64 = S / 64 := rfl
    rw [em, ed] at h ⊢
    cases h2 : Nat.beq (Nat.lor (S % 64) (S / 64)) (Nat.sub (Nat.pow 2 n) 1) with
    | false => rw [h2] at h; exact absurd rfl h
    | true =>
      refine ⟨hS, Nat.eq_of_beq_eq_true h2, ?_⟩
      cases proper N (S % 64) <;> cases proper N (S / 64) <;> simp

set_option maxHeartbeats 16000000 in
theorem spec_SidesOf (s : SV) (net : List Int) (m : Heap) (hs : IsInts .i64 m s net) : AQuiet Try.prog F.spec_SidesOf [.one (.sl s)] m (.one (.int .i64 (sidesOf net))) := by
  have hsn := spec_NetOk s net m hs
  by_cases hN : NetOk net
  · refine AQuiet.wf fun hwf => ?_
    obtain ⟨ref, off, len⟩ := s
    obtain rfl : len = net.length := hs.1
    have h6 := hN.six
    have h1 := hN.pos
    have q := fact_use (all_fact hN)
    have q6 := q.2.2.2.2.2.1
    have q7 := q.2.2.2.2.2.2.1
    have hcn : cnt (pk net) net.length < 1000 := by have := q.1; have := q.2.2.1; omega
    clear q
    rw [sidesOf, if_pos hN]
    rw [q6] at q7 ⊢
    obtain ⟨z1, z2, z3⟩ := sdsEnd_use (N := pk net) (n := net.length) (by
      intro c
      rw [c] at q7
      rcases q7 with e | ⟨_, e, _⟩
      · cases e
      · have := full_lt h6; omega)
    clear q6 q7
    rw [z3]
    clear z3
    generalize hS : sds (pk net) net.length net.length = S at z1 z2 ⊢
    -- all stages are sound
    have stage : ∀ k, k ≤ net.length → sds (pk net) net.length k < 4096 := fun k => by
      have key : ∀ d, d ≤ net.length → sds (pk net) net.length (net.length - d) < 4096 := fun d => by
        induction d with
        | zero => intro _; rw [Nat.sub_zero, hS]; exact z1
        | succ d ih =>
          intro hd
          have h2 := ih (by omega)
          rw [show net.length - d = net.length - (d + 1) + 1 by omega] at h2
          exact (sds_step hN (by omega) h2).1
      intro hk
      have := key (net.length - k) (by omega)
      rw [show net.length - (net.length - k) = k by omega] at this
      exact this
    have stageOk : ∀ k, k ≤ net.length → Ok2 (sds (pk net) net.length k) := fun k => by
      induction k with
      | zero => intro _; exact ⟨by show 0 < 4096; decide, fun j => by show ¬ (inA 0 j = true ∧ inB 0 j = true); unfold inA; rw [show 0 % 64 = 0 from rfl, Nat.zero_testBit]; simp⟩
      | succ k ih =>
        intro hk
        obtain ⟨_, _, g⟩ := sds_step hN (k := k) (by omega) (stage (k + 1) hk)
        obtain ⟨S1, g1, _, g3, g4⟩ := g (ih (by omega))
        by_cases hc : inA S1 k = true
        · rw [← g3 hc]; exact rep_ok hN _ g1
        · rw [← g4 hc]; exact g1
    have hfirst : ∀ k, k < net.length → first (pk net) k ≠ 2 := fun k hk => (sds_step hN (by omega) (stage (k + 1) hk)).2.1
    have hSO : Ok2 S := by rw [← hS]; exact stageOk _ (Nat.le_refl _)
    have hcl := clean_iff hN hSO z2
    have hpb := pow_bounds (p := net.length) (by omega)
    refine aqn T.spec_SidesOf (by rfl) ?_
    have hbase : ∀ L, IsInts .i64 (SH m L) ⟨ref, off, net.length⟩ net := fun L => hs.pre (prefix_push _ _)
    repeat' (first | refine awp_seq ?_ | refine awp_block ?_ | refine thn_n ?_ | refine thn_e ?_ | refine thn_r ?_ | refine blk_n ?_ | refine blk_r ?_ | refine blk_here ?_ | refine blk_on rfl ?_ | refine awp_skip ?_ | refine awp_exit ?_ | refine awp_ret ?_ | refine ret_one rfl ?_ | refine ret_many rfl ?_ | refine end_one rfl ?_ | (first | refine awp_if rfl (fun hif => ?_) (fun hif => ?_) | refine awp_nif rfl (fun hif => ?_) (fun hif => ?_) | refine awp_not rfl (fun hif => ?_) (fun hif => ?_) | refine awp_cond rfl (fun hif => ?_) (fun hif => ?_)) <;> try (first | contradiction | (exfalso; omega)) | (refine hK _ _ ?_; clear hK K) | refine AQuiet.call (hsn.yes hN) trivial ?_ | (refine And.intro (by first | omega | assumption | (constructor <;> omega)) ?_) | (refine And.intro (fun hif => ?_) (fun hif => ?_) <;> try (first | contradiction | (exfalso; omega))) | ((first | refine awp_reg fun K hK => ?_ | refine ops_go ?_ | refine kont_go ?_ | refine kv_go ?_ | refine ku_go ?_); simp only [↓awpOps, ↓aop, ↓aopQ, ↓abin, ↓aun, ↓onSome_some, ↓Kont_at, ↓KM_at, ↓KV_at, ↓KU_at, refId_row, Int.one_mul, Frame.ev, Frame.evs, Frame.evOr, Frame.put, Frame.keep, get_nil, get_cons, argFrame, resOf, fillA, Vals.len, Vals.get, Vals.set, Vals.app, Vals.sub, Vals.take, Vals.ofList, Vals.toInts, Vals.toBools, Vals.toSls, Vals.toStrs, Vals.zeros, Nat.reduceBEq, Nat.reduceAdd, Nat.reduceEqDiff, cond_true, cond_false, if_true, if_false, Option.map_some, Option.map_none, List.length_cons, List.length_nil, List.replicate, List.set_cons_zero, List.set_cons_succ, Nat.reduceLT, true_and, and_true, forall_const, true_implies, Bool.not_true, Bool.not_false, Bool.true_eq_false, Bool.false_eq_true, false_implies, decide_eq_true_eq, decide_eq_false_iff_not, Int.not_lt, Int.not_le, Int.toNat_natCast, inR, Nat.zero_add, Int.toNat_zero, reduceCtorEq, IntKind.bits, List.nil_append, List.cons_append, Nat.add_zero, implies_true, ite_self, Nat.zero_lt_succ, Nat.lt_add_one, Int.zero_sub, Nat.sub_zero, Int.ofNat_toNat, List.map_cons, List.map_nil, Bool.true_eq, Bool.not_eq_eq_eq_not]) | refine And.intro ?_ (fun hif => (hif trivial).elim) | (intro hif; try (first | contradiction | (exfalso; omega))))
    rw [listOf_zero]
    refine awp_loop ?_
    refine ALoop.by [0, 3, 4] (fun k : Nat => [(0, .one (.sl ⟨ref, off, net.length⟩)), (3, .one (.sl ⟨.row m.length, 0, net.length⟩)), (4, .one (.int .i64 k))]) (fun k => SH m (listOf net.length (sideAt (sds (pk net) net.length k)))) (fun k => k ≤ net.length) (fun k => net.length - k) 0 rfl (by
      have : (fun _ : Nat => (0 : Int)) = sideAt (sds (pk net) net.length 0) := by
        funext j
        show 0 = sideAt 0 j
        unfold sideAt inA inB
        rw [show 0 % 64 = 0 from rfl, show 0 / 64 = 0 from rfl, Nat.zero_testBit]; rfl
      rw [this]) (Nat.zero_le _) ?_
    rintro k hk K1 hK1
    by_cases hkn : k < net.length
    · have hpk := pow_bounds (p := k) (by omega)
      obtain ⟨_, e1, g⟩ := sds_step hN (k := k) (by omega) (stage (k + 1) hkn)
      obtain ⟨S1, o1, g2, g3, g4⟩ := g (stageOk k hk)
      obtain ⟨e3, e4⟩ := first_two e1
      have e5 := first_int hN hkn e1
      have hpart := fun L => spec_l1Part _ net k _ (SH m L) (hbase L) hN hkn rfl e3
      generalize pt (pk net) 6 (2 ^ k) = C at e5 hpart
      clear e3 e4 g
      generalize hS0 : sds (pk net) net.length k = S0 at g2
      generalize hT : sds (pk net) net.length (k + 1) = T0 at g3 g4
      have hS1 : ∀ j, sideAt S1 j = if first (pk net) k = 1 ∧ j = k then 1 else sideAt S0 j := fun j => by
        rcases g2 with ⟨c, d⟩ | ⟨c, rfl⟩
        · rw [d]
          by_cases hj : j = k
          · rw [if_pos hj, if_pos ⟨c, hj⟩]
          · rw [if_neg hj, if_neg fun x => hj x.2]
        · rw [if_neg fun x => c x.1]
      clear g2
      have hat0 := at_side (m := m) (n := net.length) (k := k) (g := sideAt S1) hkn
      by_cases hf : first (pk net) k = 1
      · rw [decide_eq_true hf] at e5
        have e6 := of_decide_eq_true e5
        have e7 : (listOf net.length fun j => if j = k then 1 else sideAt S0 j) = listOf net.length (sideAt S1) := listOf_congr fun j _ => by
          rw [hS1]
          by_cases hj : j = k
          · rw [if_pos hj, if_pos ⟨hf, hj⟩]
          · rw [if_neg hj, if_neg fun x => hj x.2]
        clear hf e5 hS1
        repeat' (first | refine awp_seq ?_ | refine awp_block ?_ | refine thn_n ?_ | refine thn_e ?_ | refine thn_r ?_ | refine blk_n ?_ | refine blk_r ?_ | refine blk_here ?_ | refine blk_on rfl ?_ | refine awp_skip ?_ | refine awp_exit ?_ | refine awp_ret ?_ | refine ret_one rfl ?_ | refine ret_many rfl ?_ | refine end_one rfl ?_ | (first | refine awp_if rfl (fun hif => ?_) (fun hif => ?_) | refine awp_nif rfl (fun hif => ?_) (fun hif => ?_) | refine awp_not rfl (fun hif => ?_) (fun hif => ?_) | refine awp_cond rfl (fun hif => ?_) (fun hif => ?_)) <;> try (first | contradiction | (exfalso; omega)) | (refine hK _ _ ?_; clear hK K) | refine AQuiet.callq (hpart _) trivial ?_ | refine st_side hwf hkn ?_ | (refine And.intro (by first | omega | assumption | (constructor <;> omega)) ?_) | (refine And.intro (fun hif => ?_) (fun hif => ?_) <;> try (first | contradiction | (exfalso; omega))) | ((first | refine awp_reg fun K hK => ?_ | refine ops_go ?_ | refine kont_go ?_ | refine kv_go ?_ | refine ku_go ?_); simp only [↓awpOps, ↓aop, ↓aopQ, ↓abin, ↓aun, ↓onSome_some, ↓Kont_at, ↓KM_at, ↓KV_at, ↓KU_at, refId_row, Int.one_mul, Frame.ev, Frame.evs, Frame.evOr, Frame.put, Frame.keep, get_nil, get_cons, argFrame, resOf, fillA, Vals.len, Vals.get, Vals.set, Vals.app, Vals.sub, Vals.take, Vals.ofList, Vals.toInts, Vals.toBools, Vals.toSls, Vals.toStrs, Vals.zeros, Nat.reduceBEq, Nat.reduceAdd, Nat.reduceEqDiff, cond_true, cond_false, if_true, if_false, Option.map_some, Option.map_none, List.length_cons, List.length_nil, List.replicate, List.set_cons_zero, List.set_cons_succ, Nat.reduceLT, true_and, and_true, forall_const, true_implies, Bool.not_true, Bool.not_false, Bool.true_eq_false, Bool.false_eq_true, false_implies, decide_eq_true_eq, decide_eq_false_iff_not, Int.not_lt, Int.not_le, Int.toNat_natCast, inR, Nat.zero_add, Int.toNat_zero, reduceCtorEq, IntKind.bits, List.nil_append, List.cons_append, Nat.add_zero, implies_true, ite_self, Nat.zero_lt_succ, Nat.lt_add_one, Int.zero_sub, Nat.sub_zero, Int.ofNat_toNat, List.map_cons, List.map_nil, Bool.true_eq, Bool.not_eq_eq_eq_not]) | refine And.intro ?_ (fun hif => (hif trivial).elim) | (intro hif; try (first | contradiction | (exfalso; omega))))
        rw [e7]
        refine awp_loop ?_
        refine ALoop.by [0, 3, 4, 5] (fun a : Nat × Nat => [(0, .one (.sl ⟨ref, off, net.length⟩)), (3, .one (.sl ⟨.row m.length, 0, net.length⟩)), (4, .one (.int .i64 k)), (5, .one (.int .i64 a.1))]) (fun a => SH m (listOf net.length (sideAt a.2))) (fun a => a.1 ≤ net.length ∧ Ok2 a.2 ∧ (inA a.2 k = true → rep (pk net) net.length (net.length - a.1) a.2 = T0) ∧ (inA a.2 k ≠ true → a.2 = T0)) (fun a => net.length - a.1) (0, S1) rfl rfl ⟨Nat.zero_le _, o1, fun h => g3 h, g4⟩ ?_
        rintro ⟨r, P0⟩ ⟨hr, hO, hA, hNA⟩ K2 hK2
        simp only at hr hO hA hNA
        have hatk := at_side (m := m) (n := net.length) (k := k) (g := sideAt P0) hkn
        have h1k := sd_is1 P0 k
        clear e6 e7
        by_cases hrn : r < net.length
        · by_cases hin : inA P0 k = true
          · have hk1 := h1k.2 hin
            rw [hk1] at hatk
            have hAr := hA hin
            clear hA hNA h1k
            repeat' (first | refine awp_seq ?_ | refine awp_block ?_ | refine thn_n ?_ | refine thn_e ?_ | refine thn_r ?_ | refine blk_n ?_ | refine blk_r ?_ | refine blk_here ?_ | refine blk_on rfl ?_ | refine awp_skip ?_ | refine awp_exit ?_ | refine awp_ret ?_ | refine ret_one rfl ?_ | refine ret_many rfl ?_ | refine end_one rfl ?_ | (first | refine awp_if rfl (fun hif => ?_) (fun hif => ?_) | refine awp_nif rfl (fun hif => ?_) (fun hif => ?_) | refine awp_not rfl (fun hif => ?_) (fun hif => ?_) | refine awp_cond rfl (fun hif => ?_) (fun hif => ?_)) <;> try (first | contradiction | (exfalso; omega)) | (refine hK _ _ ?_; clear hK K) | refine onSome_of hatk ?_ | (refine And.intro (by first | omega | assumption | (constructor <;> omega)) ?_) | (refine And.intro (fun hif => ?_) (fun hif => ?_) <;> try (first | contradiction | (exfalso; omega))) | ((first | refine awp_reg fun K hK => ?_ | refine ops_go ?_ | refine kont_go ?_ | refine kv_go ?_ | refine ku_go ?_); simp only [↓awpOps, ↓aop, ↓aopQ, ↓abin, ↓aun, ↓onSome_some, ↓Kont_at, ↓KM_at, ↓KV_at, ↓KU_at, refId_row, Int.one_mul, Frame.ev, Frame.evs, Frame.evOr, Frame.put, Frame.keep, get_nil, get_cons, argFrame, resOf, fillA, Vals.len, Vals.get, Vals.set, Vals.app, Vals.sub, Vals.take, Vals.ofList, Vals.toInts, Vals.toBools, Vals.toSls, Vals.toStrs, Vals.zeros, Nat.reduceBEq, Nat.reduceAdd, Nat.reduceEqDiff, cond_true, cond_false, if_true, if_false, Option.map_some, Option.map_none, List.length_cons, List.length_nil, List.replicate, List.set_cons_zero, List.set_cons_succ, Nat.reduceLT, true_and, and_true, forall_const, true_implies, Bool.not_true, Bool.not_false, Bool.true_eq_false, Bool.false_eq_true, false_implies, decide_eq_true_eq, decide_eq_false_iff_not, Int.not_lt, Int.not_le, Int.toNat_natCast, inR, Nat.zero_add, Int.toNat_zero, reduceCtorEq, IntKind.bits, List.nil_append, List.cons_append, Nat.add_zero, implies_true, ite_self, Nat.zero_lt_succ, Nat.lt_add_one, Int.zero_sub, Nat.sub_zero, Int.ofNat_toNat, List.map_cons, List.map_nil, Bool.true_eq, Bool.not_eq_eq_eq_not]) | refine And.intro ?_ (fun hif => (hif trivial).elim) | (intro hif; try (first | contradiction | (exfalso; omega))))
            refine awp_loop ?_
            refine ALoop.by [0, 3, 4, 5, 6] (fun a : Nat => [(0, .one (.sl ⟨ref, off, net.length⟩)), (3, .one (.sl ⟨.row m.length, 0, net.length⟩)), (4, .one (.int .i64 k)), (5, .one (.int .i64 r)), (6, .one (.int .i64 a))]) (fun a => SH m (listOf net.length (sideAt (pass (pk net) a P0)))) (fun a => a ≤ net.length) (fun a => net.length - a) 0 rfl rfl (Nat.zero_le _) ?_
            rintro a ha K3 hK3
            by_cases han : a < net.length
            · obtain ⟨oP, _⟩ := pass_ok hN hO (a := a) (by omega)
              have hrow := (prow_ok hN oP (a := a) (by omega)).2.2
              have hps := pass_succ (pk net) a P0
              have hnx : ∀ P, pass (pk net) a P0 = P → (∀ j, sideAt (prow (pk net) a P) j = if 0 < sideAt P a ∧ (nrow net a).testBit j = true ∧ sideAt P j = 0 then 3 - sideAt P a else sideAt P j) → listOf net.length (stepG net P a net.length) = listOf net.length (sideAt (pass (pk net) (a + 1) P0)) := fun P e hr => listOf_congr fun j hj => by
                rw [hps, e, hr]
                unfold stepG
                by_cases hc : 0 < sideAt P a ∧ (nrow net a).testBit j = true ∧ sideAt P j = 0
                · rw [if_pos hc, if_pos ⟨hj, hc⟩]
                · rw [if_neg hc, if_neg fun c => hc c.2]
              have hnx := hnx _ rfl hrow
              clear hps hrow oP hAr
              generalize pass (pk net) a P0 = P at hnx ⊢
              repeat' (first | refine awp_seq ?_ | refine awp_block ?_ | refine thn_n ?_ | refine thn_e ?_ | refine thn_r ?_ | refine blk_n ?_ | refine blk_r ?_ | refine blk_here ?_ | refine blk_on rfl ?_ | refine awp_skip ?_ | refine awp_exit ?_ | refine awp_ret ?_ | refine ret_one rfl ?_ | refine ret_many rfl ?_ | refine end_one rfl ?_ | (first | refine awp_if rfl (fun hif => ?_) (fun hif => ?_) | refine awp_nif rfl (fun hif => ?_) (fun hif => ?_) | refine awp_not rfl (fun hif => ?_) (fun hif => ?_) | refine awp_cond rfl (fun hif => ?_) (fun hif => ?_)) <;> try (first | contradiction | (exfalso; omega)) | (refine hK _ _ ?_; clear hK K) | (refine And.intro (by first | omega | assumption | (constructor <;> omega)) ?_) | (refine And.intro (fun hif => ?_) (fun hif => ?_) <;> try (first | contradiction | (exfalso; omega))) | ((first | refine awp_reg fun K hK => ?_ | refine ops_go ?_ | refine kont_go ?_ | refine kv_go ?_ | refine ku_go ?_); simp only [↓awpOps, ↓aop, ↓aopQ, ↓abin, ↓aun, ↓onSome_some, ↓Kont_at, ↓KM_at, ↓KV_at, ↓KU_at, refId_row, Int.one_mul, Frame.ev, Frame.evs, Frame.evOr, Frame.put, Frame.keep, get_nil, get_cons, argFrame, resOf, fillA, Vals.len, Vals.get, Vals.set, Vals.app, Vals.sub, Vals.take, Vals.ofList, Vals.toInts, Vals.toBools, Vals.toSls, Vals.toStrs, Vals.zeros, Nat.reduceBEq, Nat.reduceAdd, Nat.reduceEqDiff, cond_true, cond_false, if_true, if_false, Option.map_some, Option.map_none, List.length_cons, List.length_nil, List.replicate, List.set_cons_zero, List.set_cons_succ, Nat.reduceLT, true_and, and_true, forall_const, true_implies, Bool.not_true, Bool.not_false, Bool.true_eq_false, Bool.false_eq_true, false_implies, decide_eq_true_eq, decide_eq_false_iff_not, Int.not_lt, Int.not_le, Int.toNat_natCast, inR, Nat.zero_add, Int.toNat_zero, reduceCtorEq, IntKind.bits, List.nil_append, List.cons_append, Nat.add_zero, implies_true, ite_self, Nat.zero_lt_succ, Nat.lt_add_one, Int.zero_sub, Nat.sub_zero, Int.ofNat_toNat, List.map_cons, List.map_nil, Bool.true_eq, Bool.not_eq_eq_eq_not]) | refine And.intro ?_ (fun hif => (hif trivial).elim) | (intro hif; try (first | contradiction | (exfalso; omega))))
              refine awp_loop ?_
              refine ALoop.by [0, 3, 4, 5, 6, 7] (fun b : Nat => [(0, .one (.sl ⟨ref, off, net.length⟩)), (3, .one (.sl ⟨.row m.length, 0, net.length⟩)), (4, .one (.int .i64 k)), (5, .one (.int .i64 r)), (6, .one (.int .i64 a)), (7, .one (.int .i64 b))]) (fun b => SH m (listOf net.length (stepG net P a b))) (fun b => b ≤ net.length) (fun b => net.length - b) 0 rfl (by rw [show stepG net P a 0 = sideAt P from funext fun j => stepG_zero]) (Nat.zero_le _) ?_
              rintro b hb K4 hK4
              by_cases hbn : b < net.length
              · have hsa := at_side (m := m) (n := net.length) (k := a) (g := stepG net P a b) han
                rw [stepG_own] at hsa
                have hsb := at_side (m := m) (n := net.length) (k := b) (g := stepG net P a b) hbn
                rw [stepG_now] at hsb
                have hna := (hbase (listOf net.length (stepG net P a b))).2 a han
                have hsh := shr_bit (j := b) (hN.low a han)
                rw [bit_nrow] at hsh
                have hd : 0 ≤ (net.getD a 0) / 2 ^ b := Int.ediv_nonneg (hN.low a han) (Int.le_of_lt (Int.pow_pos (by decide)))
                have hra := sd_range P a
                cases htb : (nrow net a).testBit b with
                | true =>
                  rw [htb, if_pos rfl] at hsh
                  by_cases hc : 0 < sideAt P a ∧ sideAt P b = 0
                  · have hyes := funext (stepG_yes (net := net) (P := P) (a := a) (b := b) ⟨hc.1, htb, hc.2⟩)
                    obtain ⟨hc1, hc2⟩ := hc
                    clear hnx
                    repeat' (first | refine awp_seq ?_ | refine awp_block ?_ | refine thn_n ?_ | refine thn_e ?_ | refine thn_r ?_ | refine blk_n ?_ | refine blk_r ?_ | refine blk_here ?_ | refine blk_on rfl ?_ | refine awp_skip ?_ | refine awp_exit ?_ | refine awp_ret ?_ | refine ret_one rfl ?_ | refine ret_many rfl ?_ | refine end_one rfl ?_ | (first | refine awp_if rfl (fun hif => ?_) (fun hif => ?_) | refine awp_nif rfl (fun hif => ?_) (fun hif => ?_) | refine awp_not rfl (fun hif => ?_) (fun hif => ?_) | refine awp_cond rfl (fun hif => ?_) (fun hif => ?_)) <;> try (first | contradiction | (exfalso; omega)) | (refine hK _ _ ?_; clear hK K) | refine onSome_of hsa ?_ | refine onSome_of hsb ?_ | refine onSome_of hna ?_ | refine st_side hwf hbn ?_ | (refine And.intro (by first | omega | assumption | (constructor <;> omega)) ?_) | (refine And.intro (fun hif => ?_) (fun hif => ?_) <;> try (first | contradiction | (exfalso; omega))) | ((first | refine awp_reg fun K hK => ?_ | refine ops_go ?_ | refine kont_go ?_ | refine kv_go ?_ | refine ku_go ?_); simp only [↓awpOps, ↓aop, ↓aopQ, ↓abin, ↓aun, ↓onSome_some, ↓Kont_at, ↓KM_at, ↓KV_at, ↓KU_at, refId_row, Int.one_mul, Frame.ev, Frame.evs, Frame.evOr, Frame.put, Frame.keep, get_nil, get_cons, argFrame, resOf, fillA, Vals.len, Vals.get, Vals.set, Vals.app, Vals.sub, Vals.take, Vals.ofList, Vals.toInts, Vals.toBools, Vals.toSls, Vals.toStrs, Vals.zeros, Nat.reduceBEq, Nat.reduceAdd, Nat.reduceEqDiff, cond_true, cond_false, if_true, if_false, Option.map_some, Option.map_none, List.length_cons, List.length_nil, List.replicate, List.set_cons_zero, List.set_cons_succ, Nat.reduceLT, true_and, and_true, forall_const, true_implies, Bool.not_true, Bool.not_false, Bool.true_eq_false, Bool.false_eq_true, false_implies, decide_eq_true_eq, decide_eq_false_iff_not, Int.not_lt, Int.not_le, Int.toNat_natCast, inR, Nat.zero_add, Int.toNat_zero, reduceCtorEq, IntKind.bits, List.nil_append, List.cons_append, Nat.add_zero, implies_true, ite_self, Nat.zero_lt_succ, Nat.lt_add_one, Int.zero_sub, Nat.sub_zero, Int.ofNat_toNat, List.map_cons, List.map_nil, Bool.true_eq, Bool.not_eq_eq_eq_not]) | refine And.intro ?_ (fun hif => (hif trivial).elim) | (intro hif; try (first | contradiction | (exfalso; omega))))
                    all_goals exact hK4 (b + 1) _ _ rfl (by rw [hyes]) (by omega) (by omega)
                  · have hno := funext (stepG_no (net := net) (P := P) (a := a) (b := b) fun c => hc ⟨c.1, c.2.2⟩)
                    clear hnx
                    repeat' (first | refine awp_seq ?_ | refine awp_block ?_ | refine thn_n ?_ | refine thn_e ?_ | refine thn_r ?_ | refine blk_n ?_ | refine blk_r ?_ | refine blk_here ?_ | refine blk_on rfl ?_ | refine awp_skip ?_ | refine awp_exit ?_ | refine awp_ret ?_ | refine ret_one rfl ?_ | refine ret_many rfl ?_ | refine end_one rfl ?_ | (first | refine awp_if rfl (fun hif => ?_) (fun hif => ?_) | refine awp_nif rfl (fun hif => ?_) (fun hif => ?_) | refine awp_not rfl (fun hif => ?_) (fun hif => ?_) | refine awp_cond rfl (fun hif => ?_) (fun hif => ?_)) <;> try (first | contradiction | (exfalso; omega)) | (refine hK _ _ ?_; clear hK K) | refine onSome_of hsa ?_ | refine onSome_of hsb ?_ | refine onSome_of hna ?_ | (refine And.intro (by first | omega | assumption | (constructor <;> omega)) ?_) | (refine And.intro (fun hif => ?_) (fun hif => ?_) <;> try (first | contradiction | (exfalso; omega))) | ((first | refine awp_reg fun K hK => ?_ | refine ops_go ?_ | refine kont_go ?_ | refine kv_go ?_ | refine ku_go ?_); simp only [↓awpOps, ↓aop, ↓aopQ, ↓abin, ↓aun, ↓onSome_some, ↓Kont_at, ↓KM_at, ↓KV_at, ↓KU_at, refId_row, Int.one_mul, Frame.ev, Frame.evs, Frame.evOr, Frame.put, Frame.keep, get_nil, get_cons, argFrame, resOf, fillA, Vals.len, Vals.get, Vals.set, Vals.app, Vals.sub, Vals.take, Vals.ofList, Vals.toInts, Vals.toBools, Vals.toSls, Vals.toStrs, Vals.zeros, Nat.reduceBEq, Nat.reduceAdd, Nat.reduceEqDiff, cond_true, cond_false, if_true, if_false, Option.map_some, Option.map_none, List.length_cons, List.length_nil, List.replicate, List.set_cons_zero, List.set_cons_succ, Nat.reduceLT, true_and, and_true, forall_const, true_implies, Bool.not_true, Bool.not_false, Bool.true_eq_false, Bool.false_eq_true, false_implies, decide_eq_true_eq, decide_eq_false_iff_not, Int.not_lt, Int.not_le, Int.toNat_natCast, inR, Nat.zero_add, Int.toNat_zero, reduceCtorEq, IntKind.bits, List.nil_append, List.cons_append, Nat.add_zero, implies_true, ite_self, Nat.zero_lt_succ, Nat.lt_add_one, Int.zero_sub, Nat.sub_zero, Int.ofNat_toNat, List.map_cons, List.map_nil, Bool.true_eq, Bool.not_eq_eq_eq_not]) | refine And.intro ?_ (fun hif => (hif trivial).elim) | (intro hif; try (first | contradiction | (exfalso; omega))))
                    all_goals exact hK4 (b + 1) _ _ rfl (by rw [hno]) (by omega) (by omega)
                | false =>
                  rw [htb, if_neg (by simp)] at hsh
                  have hno := funext (stepG_no (net := net) (P := P) (a := a) (b := b) fun c => by rw [htb] at c; exact Bool.noConfusion c.2.1)
                  clear hnx
                  repeat' (first | refine awp_seq ?_ | refine awp_block ?_ | refine thn_n ?_ | refine thn_e ?_ | refine thn_r ?_ | refine blk_n ?_ | refine blk_r ?_ | refine blk_here ?_ | refine blk_on rfl ?_ | refine awp_skip ?_ | refine awp_exit ?_ | refine awp_ret ?_ | refine ret_one rfl ?_ | refine ret_many rfl ?_ | refine end_one rfl ?_ | (first | refine awp_if rfl (fun hif => ?_) (fun hif => ?_) | refine awp_nif rfl (fun hif => ?_) (fun hif => ?_) | refine awp_not rfl (fun hif => ?_) (fun hif => ?_) | refine awp_cond rfl (fun hif => ?_) (fun hif => ?_)) <;> try (first | contradiction | (exfalso; omega)) | (refine hK _ _ ?_; clear hK K) | refine onSome_of hsa ?_ | refine onSome_of hsb ?_ | refine onSome_of hna ?_ | (refine And.intro (by first | omega | assumption | (constructor <;> omega)) ?_) | (refine And.intro (fun hif => ?_) (fun hif => ?_) <;> try (first | contradiction | (exfalso; omega))) | ((first | refine awp_reg fun K hK => ?_ | refine ops_go ?_ | refine kont_go ?_ | refine kv_go ?_ | refine ku_go ?_); simp only [↓awpOps, ↓aop, ↓aopQ, ↓abin, ↓aun, ↓onSome_some, ↓Kont_at, ↓KM_at, ↓KV_at, ↓KU_at, refId_row, Int.one_mul, Frame.ev, Frame.evs, Frame.evOr, Frame.put, Frame.keep, get_nil, get_cons, argFrame, resOf, fillA, Vals.len, Vals.get, Vals.set, Vals.app, Vals.sub, Vals.take, Vals.ofList, Vals.toInts, Vals.toBools, Vals.toSls, Vals.toStrs, Vals.zeros, Nat.reduceBEq, Nat.reduceAdd, Nat.reduceEqDiff, cond_true, cond_false, if_true, if_false, Option.map_some, Option.map_none, List.length_cons, List.length_nil, List.replicate, List.set_cons_zero, List.set_cons_succ, Nat.reduceLT, true_and, and_true, forall_const, true_implies, Bool.not_true, Bool.not_false, Bool.true_eq_false, Bool.false_eq_true, false_implies, decide_eq_true_eq, decide_eq_false_iff_not, Int.not_lt, Int.not_le, Int.toNat_natCast, inR, Nat.zero_add, Int.toNat_zero, reduceCtorEq, IntKind.bits, List.nil_append, List.cons_append, Nat.add_zero, implies_true, ite_self, Nat.zero_lt_succ, Nat.lt_add_one, Int.zero_sub, Nat.sub_zero, Int.ofNat_toNat, List.map_cons, List.map_nil, Bool.true_eq, Bool.not_eq_eq_eq_not]) | refine And.intro ?_ (fun hif => (hif trivial).elim) | (intro hif; try (first | contradiction | (exfalso; omega))))
                  all_goals exact hK4 (b + 1) _ _ rfl (by rw [hno]) (by omega) (by omega)
              · obtain rfl : b = net.length := by omega
                rw [hnx]
                repeat' (first | refine awp_seq ?_ | refine awp_block ?_ | refine thn_n ?_ | refine thn_e ?_ | refine thn_r ?_ | refine blk_n ?_ | refine blk_r ?_ | refine blk_here ?_ | refine blk_on rfl ?_ | refine awp_skip ?_ | refine awp_exit ?_ | refine awp_ret ?_ | refine ret_one rfl ?_ | refine ret_many rfl ?_ | refine end_one rfl ?_ | (first | refine awp_if rfl (fun hif => ?_) (fun hif => ?_) | refine awp_nif rfl (fun hif => ?_) (fun hif => ?_) | refine awp_not rfl (fun hif => ?_) (fun hif => ?_) | refine awp_cond rfl (fun hif => ?_) (fun hif => ?_)) <;> try (first | contradiction | (exfalso; omega)) | (refine hK _ _ ?_; clear hK K) | (refine And.intro (by first | omega | assumption | (constructor <;> omega)) ?_) | (refine And.intro (fun hif => ?_) (fun hif => ?_) <;> try (first | contradiction | (exfalso; omega))) | ((first | refine awp_reg fun K hK => ?_ | refine ops_go ?_ | refine kont_go ?_ | refine kv_go ?_ | refine ku_go ?_); simp only [↓awpOps, ↓aop, ↓aopQ, ↓abin, ↓aun, ↓onSome_some, ↓Kont_at, ↓KM_at, ↓KV_at, ↓KU_at, refId_row, Int.one_mul, Frame.ev, Frame.evs, Frame.evOr, Frame.put, Frame.keep, get_nil, get_cons, argFrame, resOf, fillA, Vals.len, Vals.get, Vals.set, Vals.app, Vals.sub, Vals.take, Vals.ofList, Vals.toInts, Vals.toBools, Vals.toSls, Vals.toStrs, Vals.zeros, Nat.reduceBEq, Nat.reduceAdd, Nat.reduceEqDiff, cond_true, cond_false, if_true, if_false, Option.map_some, Option.map_none, List.length_cons, List.length_nil, List.replicate, List.set_cons_zero, List.set_cons_succ, Nat.reduceLT, true_and, and_true, forall_const, true_implies, Bool.not_true, Bool.not_false, Bool.true_eq_false, Bool.false_eq_true, false_implies, decide_eq_true_eq, decide_eq_false_iff_not, Int.not_lt, Int.not_le, Int.toNat_natCast, inR, Nat.zero_add, Int.toNat_zero, reduceCtorEq, IntKind.bits, List.nil_append, List.cons_append, Nat.add_zero, implies_true, ite_self, Nat.zero_lt_succ, Nat.lt_add_one, Int.zero_sub, Nat.sub_zero, Int.ofNat_toNat, List.map_cons, List.map_nil, Bool.true_eq, Bool.not_eq_eq_eq_not]) | refine And.intro ?_ (fun hif => (hif trivial).elim) | (intro hif; try (first | contradiction | (exfalso; omega))))
                all_goals exact hK3 (a + 1) _ _ rfl rfl (by omega) (by omega)
            · obtain rfl : a = net.length := by omega
              obtain ⟨p1, p2⟩ := pass_ok hN hO h6
              have hst := rep_step hN hO (net.length - (r + 1))
              rw [show net.length - (r + 1) + 1 = net.length - r by omega, hAr] at hst
              have hst2 : ∀ _ : Unit, rep (pk net) net.length (net.length - (r + 1)) (pass (pk net) net.length P0) = T0 := fun _ => hst.symm
              clear hst hAr
              repeat' (first | refine awp_seq ?_ | refine awp_block ?_ | refine thn_n ?_ | refine thn_e ?_ | refine thn_r ?_ | refine blk_n ?_ | refine blk_r ?_ | refine blk_here ?_ | refine blk_on rfl ?_ | refine awp_skip ?_ | refine awp_exit ?_ | refine awp_ret ?_ | refine ret_one rfl ?_ | refine ret_many rfl ?_ | refine end_one rfl ?_ | (first | refine awp_if rfl (fun hif => ?_) (fun hif => ?_) | refine awp_nif rfl (fun hif => ?_) (fun hif => ?_) | refine awp_not rfl (fun hif => ?_) (fun hif => ?_) | refine awp_cond rfl (fun hif => ?_) (fun hif => ?_)) <;> try (first | contradiction | (exfalso; omega)) | (refine hK _ _ ?_; clear hK K) | (refine And.intro (by first | omega | assumption | (constructor <;> omega)) ?_) | (refine And.intro (fun hif => ?_) (fun hif => ?_) <;> try (first | contradiction | (exfalso; omega))) | ((first | refine awp_reg fun K hK => ?_ | refine ops_go ?_ | refine kont_go ?_ | refine kv_go ?_ | refine ku_go ?_); simp only [↓awpOps, ↓aop, ↓aopQ, ↓abin, ↓aun, ↓onSome_some, ↓Kont_at, ↓KM_at, ↓KV_at, ↓KU_at, refId_row, Int.one_mul, Frame.ev, Frame.evs, Frame.evOr, Frame.put, Frame.keep, get_nil, get_cons, argFrame, resOf, fillA, Vals.len, Vals.get, Vals.set, Vals.app, Vals.sub, Vals.take, Vals.ofList, Vals.toInts, Vals.toBools, Vals.toSls, Vals.toStrs, Vals.zeros, Nat.reduceBEq, Nat.reduceAdd, Nat.reduceEqDiff, cond_true, cond_false, if_true, if_false, Option.map_some, Option.map_none, List.length_cons, List.length_nil, List.replicate, List.set_cons_zero, List.set_cons_succ, Nat.reduceLT, true_and, and_true, forall_const, true_implies, Bool.not_true, Bool.not_false, Bool.true_eq_false, Bool.false_eq_true, false_implies, decide_eq_true_eq, decide_eq_false_iff_not, Int.not_lt, Int.not_le, Int.toNat_natCast, inR, Nat.zero_add, Int.toNat_zero, reduceCtorEq, IntKind.bits, List.nil_append, List.cons_append, Nat.add_zero, implies_true, ite_self, Nat.zero_lt_succ, Nat.lt_add_one, Int.zero_sub, Nat.sub_zero, Int.ofNat_toNat, List.map_cons, List.map_nil, Bool.true_eq, Bool.not_eq_eq_eq_not]) | refine And.intro ?_ (fun hif => (hif trivial).elim) | (intro hif; try (first | contradiction | (exfalso; omega))))
              all_goals exact hK2 (r + 1, _) _ _ rfl rfl ⟨by simp only; omega, p1, fun _ => hst2 (), fun c => absurd (p2 k hin) c⟩ (by simp only; omega)
          · have hne : sideAt P0 k ≠ 1 := fun c => hin (h1k.1 c)
            have hPT := hNA hin
            clear hA hNA h1k
            subst hPT
            repeat' (first | refine awp_seq ?_ | refine awp_block ?_ | refine thn_n ?_ | refine thn_e ?_ | refine thn_r ?_ | refine blk_n ?_ | refine blk_r ?_ | refine blk_here ?_ | refine blk_on rfl ?_ | refine awp_skip ?_ | refine awp_exit ?_ | refine awp_ret ?_ | refine ret_one rfl ?_ | refine ret_many rfl ?_ | refine end_one rfl ?_ | (first | refine awp_if rfl (fun hif => ?_) (fun hif => ?_) | refine awp_nif rfl (fun hif => ?_) (fun hif => ?_) | refine awp_not rfl (fun hif => ?_) (fun hif => ?_) | refine awp_cond rfl (fun hif => ?_) (fun hif => ?_)) <;> try (first | contradiction | (exfalso; omega)) | (refine hK _ _ ?_; clear hK K) | refine onSome_of hatk ?_ | (refine And.intro (by first | omega | assumption | (constructor <;> omega)) ?_) | (refine And.intro (fun hif => ?_) (fun hif => ?_) <;> try (first | contradiction | (exfalso; omega))) | ((first | refine awp_reg fun K hK => ?_ | refine ops_go ?_ | refine kont_go ?_ | refine kv_go ?_ | refine ku_go ?_); simp only [↓awpOps, ↓aop, ↓aopQ, ↓abin, ↓aun, ↓onSome_some, ↓Kont_at, ↓KM_at, ↓KV_at, ↓KU_at, refId_row, Int.one_mul, Frame.ev, Frame.evs, Frame.evOr, Frame.put, Frame.keep, get_nil, get_cons, argFrame, resOf, fillA, Vals.len, Vals.get, Vals.set, Vals.app, Vals.sub, Vals.take, Vals.ofList, Vals.toInts, Vals.toBools, Vals.toSls, Vals.toStrs, Vals.zeros, Nat.reduceBEq, Nat.reduceAdd, Nat.reduceEqDiff, cond_true, cond_false, if_true, if_false, Option.map_some, Option.map_none, List.length_cons, List.length_nil, List.replicate, List.set_cons_zero, List.set_cons_succ, Nat.reduceLT, true_and, and_true, forall_const, true_implies, Bool.not_true, Bool.not_false, Bool.true_eq_false, Bool.false_eq_true, false_implies, decide_eq_true_eq, decide_eq_false_iff_not, Int.not_lt, Int.not_le, Int.toNat_natCast, inR, Nat.zero_add, Int.toNat_zero, reduceCtorEq, IntKind.bits, List.nil_append, List.cons_append, Nat.add_zero, implies_true, ite_self, Nat.zero_lt_succ, Nat.lt_add_one, Int.zero_sub, Nat.sub_zero, Int.ofNat_toNat, List.map_cons, List.map_nil, Bool.true_eq, Bool.not_eq_eq_eq_not]) | refine And.intro ?_ (fun hif => (hif trivial).elim) | (intro hif; try (first | contradiction | (exfalso; omega))))
            all_goals exact hK1 (k + 1) _ _ rfl (by rw [hT]) (by omega) (by omega)
        · have hPT : P0 = T0 := by
            by_cases hin : inA P0 k = true
            · have := hA hin
              rw [show net.length - r = 0 by omega, rep_zero] at this
              exact this
            · exact hNA hin
          clear hA hNA h1k
          subst hPT
          repeat' (first | refine awp_seq ?_ | refine awp_block ?_ | refine thn_n ?_ | refine thn_e ?_ | refine thn_r ?_ | refine blk_n ?_ | refine blk_r ?_ | refine blk_here ?_ | refine blk_on rfl ?_ | refine awp_skip ?_ | refine awp_exit ?_ | refine awp_ret ?_ | refine ret_one rfl ?_ | refine ret_many rfl ?_ | refine end_one rfl ?_ | (first | refine awp_if rfl (fun hif => ?_) (fun hif => ?_) | refine awp_nif rfl (fun hif => ?_) (fun hif => ?_) | refine awp_not rfl (fun hif => ?_) (fun hif => ?_) | refine awp_cond rfl (fun hif => ?_) (fun hif => ?_)) <;> try (first | contradiction | (exfalso; omega)) | (refine hK _ _ ?_; clear hK K) | (refine And.intro (by first | omega | assumption | (constructor <;> omega)) ?_) | (refine And.intro (fun hif => ?_) (fun hif => ?_) <;> try (first | contradiction | (exfalso; omega))) | ((first | refine awp_reg fun K hK => ?_ | refine ops_go ?_ | refine kont_go ?_ | refine kv_go ?_ | refine ku_go ?_); simp only [↓awpOps, ↓aop, ↓aopQ, ↓abin, ↓aun, ↓onSome_some, ↓Kont_at, ↓KM_at, ↓KV_at, ↓KU_at, refId_row, Int.one_mul, Frame.ev, Frame.evs, Frame.evOr, Frame.put, Frame.keep, get_nil, get_cons, argFrame, resOf, fillA, Vals.len, Vals.get, Vals.set, Vals.app, Vals.sub, Vals.take, Vals.ofList, Vals.toInts, Vals.toBools, Vals.toSls, Vals.toStrs, Vals.zeros, Nat.reduceBEq, Nat.reduceAdd, Nat.reduceEqDiff, cond_true, cond_false, if_true, if_false, Option.map_some, Option.map_none, List.length_cons, List.length_nil, List.replicate, List.set_cons_zero, List.set_cons_succ, Nat.reduceLT, true_and, and_true, forall_const, true_implies, Bool.not_true, Bool.not_false, Bool.true_eq_false, Bool.false_eq_true, false_implies, decide_eq_true_eq, decide_eq_false_iff_not, Int.not_lt, Int.not_le, Int.toNat_natCast, inR, Nat.zero_add, Int.toNat_zero, reduceCtorEq, IntKind.bits, List.nil_append, List.cons_append, Nat.add_zero, implies_true, ite_self, Nat.zero_lt_succ, Nat.lt_add_one, Int.zero_sub, Nat.sub_zero, Int.ofNat_toNat, List.map_cons, List.map_nil, Bool.true_eq, Bool.not_eq_eq_eq_not]) | refine And.intro ?_ (fun hif => (hif trivial).elim) | (intro hif; try (first | contradiction | (exfalso; omega))))
          all_goals exact hK1 (k + 1) _ _ rfl (by rw [hT]) (by omega) (by omega)
      · rw [decide_eq_false hf] at e5
        have e6 := of_decide_eq_false e5
        have e7 : listOf net.length (sideAt S0) = listOf net.length (sideAt S1) := listOf_congr fun j _ => by
          rw [hS1, if_neg fun x => hf x.1]
        clear hf e5 hS1
        repeat' (first | refine awp_seq ?_ | refine awp_block ?_ | refine thn_n ?_ | refine thn_e ?_ | refine thn_r ?_ | refine blk_n ?_ | refine blk_r ?_ | refine blk_here ?_ | refine blk_on rfl ?_ | refine awp_skip ?_ | refine awp_exit ?_ | refine awp_ret ?_ | refine ret_one rfl ?_ | refine ret_many rfl ?_ | refine end_one rfl ?_ | (first | refine awp_if rfl (fun hif => ?_) (fun hif => ?_) | refine awp_nif rfl (fun hif => ?_) (fun hif => ?_) | refine awp_not rfl (fun hif => ?_) (fun hif => ?_) | refine awp_cond rfl (fun hif => ?_) (fun hif => ?_)) <;> try (first | contradiction | (exfalso; omega)) | (refine hK _ _ ?_; clear hK K) | refine AQuiet.callq (hpart _) trivial ?_ | (refine And.intro (by first | omega | assumption | (constructor <;> omega)) ?_) | (refine And.intro (fun hif => ?_) (fun hif => ?_) <;> try (first | contradiction | (exfalso; omega))) | ((first | refine awp_reg fun K hK => ?_ | refine ops_go ?_ | refine kont_go ?_ | refine kv_go ?_ | refine ku_go ?_); simp only [↓awpOps, ↓aop, ↓aopQ, ↓abin, ↓aun, ↓onSome_some, ↓Kont_at, ↓KM_at, ↓KV_at, ↓KU_at, refId_row, Int.one_mul, Frame.ev, Frame.evs, Frame.evOr, Frame.put, Frame.keep, get_nil, get_cons, argFrame, resOf, fillA, Vals.len, Vals.get, Vals.set, Vals.app, Vals.sub, Vals.take, Vals.ofList, Vals.toInts, Vals.toBools, Vals.toSls, Vals.toStrs, Vals.zeros, Nat.reduceBEq, Nat.reduceAdd, Nat.reduceEqDiff, cond_true, cond_false, if_true, if_false, Option.map_some, Option.map_none, List.length_cons, List.length_nil, List.replicate, List.set_cons_zero, List.set_cons_succ, Nat.reduceLT, true_and, and_true, forall_const, true_implies, Bool.not_true, Bool.not_false, Bool.true_eq_false, Bool.false_eq_true, false_implies, decide_eq_true_eq, decide_eq_false_iff_not, Int.not_lt, Int.not_le, Int.toNat_natCast, inR, Nat.zero_add, Int.toNat_zero, reduceCtorEq, IntKind.bits, List.nil_append, List.cons_append, Nat.add_zero, implies_true, ite_self, Nat.zero_lt_succ, Nat.lt_add_one, Int.zero_sub, Nat.sub_zero, Int.ofNat_toNat, List.map_cons, List.map_nil, Bool.true_eq, Bool.not_eq_eq_eq_not]) | refine And.intro ?_ (fun hif => (hif trivial).elim) | (intro hif; try (first | contradiction | (exfalso; omega))))
        rw [e7]
        refine awp_loop ?_
        refine ALoop.by [0, 3, 4, 5] (fun a : Nat × Nat => [(0, .one (.sl ⟨ref, off, net.length⟩)), (3, .one (.sl ⟨.row m.length, 0, net.length⟩)), (4, .one (.int .i64 k)), (5, .one (.int .i64 a.1))]) (fun a => SH m (listOf net.length (sideAt a.2))) (fun a => a.1 ≤ net.length ∧ Ok2 a.2 ∧ (inA a.2 k = true → rep (pk net) net.length (net.length - a.1) a.2 = T0) ∧ (inA a.2 k ≠ true → a.2 = T0)) (fun a => net.length - a.1) (0, S1) rfl rfl ⟨Nat.zero_le _, o1, fun h => g3 h, g4⟩ ?_
        rintro ⟨r, P0⟩ ⟨hr, hO, hA, hNA⟩ K2 hK2
        simp only at hr hO hA hNA
        have hatk := at_side (m := m) (n := net.length) (k := k) (g := sideAt P0) hkn
        have h1k := sd_is1 P0 k
        clear e6 e7
        by_cases hrn : r < net.length
        · by_cases hin : inA P0 k = true
          · have hk1 := h1k.2 hin
            rw [hk1] at hatk
            have hAr := hA hin
            clear hA hNA h1k
            repeat' (first | refine awp_seq ?_ | refine awp_block ?_ | refine thn_n ?_ | refine thn_e ?_ | refine thn_r ?_ | refine blk_n ?_ | refine blk_r ?_ | refine blk_here ?_ | refine blk_on rfl ?_ | refine awp_skip ?_ | refine awp_exit ?_ | refine awp_ret ?_ | refine ret_one rfl ?_ | refine ret_many rfl ?_ | refine end_one rfl ?_ | (first | refine awp_if rfl (fun hif => ?_) (fun hif => ?_) | refine awp_nif rfl (fun hif => ?_) (fun hif => ?_) | refine awp_not rfl (fun hif => ?_) (fun hif => ?_) | refine awp_cond rfl (fun hif => ?_) (fun hif => ?_)) <;> try (first | contradiction | (exfalso; omega)) | (refine hK _ _ ?_; clear hK K) | refine onSome_of hatk ?_ | (refine And.intro (by first | omega | assumption | (constructor <;> omega)) ?_) | (refine And.intro (fun hif => ?_) (fun hif => ?_) <;> try (first | contradiction | (exfalso; omega))) | ((first | refine awp_reg fun K hK => ?_ | refine ops_go ?_ | refine kont_go ?_ | refine kv_go ?_ | refine ku_go ?_); simp only [↓awpOps, ↓aop, ↓aopQ, ↓abin, ↓aun, ↓onSome_some, ↓Kont_at, ↓KM_at, ↓KV_at, ↓KU_at, refId_row, Int.one_mul, Frame.ev, Frame.evs, Frame.evOr, Frame.put, Frame.keep, get_nil, get_cons, argFrame, resOf, fillA, Vals.len, Vals.get, Vals.set, Vals.app, Vals.sub, Vals.take, Vals.ofList, Vals.toInts, Vals.toBools, Vals.toSls, Vals.toStrs, Vals.zeros, Nat.reduceBEq, Nat.reduceAdd, Nat.reduceEqDiff, cond_true, cond_false, if_true, if_false, Option.map_some, Option.map_none, List.length_cons, List.length_nil, List.replicate, List.set_cons_zero, List.set_cons_succ, Nat.reduceLT, true_and, and_true, forall_const, true_implies, Bool.not_true, Bool.not_false, Bool.true_eq_false, Bool.false_eq_true, false_implies, decide_eq_true_eq, decide_eq_false_iff_not, Int.not_lt, Int.not_le, Int.toNat_natCast, inR, Nat.zero_add, Int.toNat_zero, reduceCtorEq, IntKind.bits, List.nil_append, List.cons_append, Nat.add_zero, implies_true, ite_self, Nat.zero_lt_succ, Nat.lt_add_one, Int.zero_sub, Nat.sub_zero, Int.ofNat_toNat, List.map_cons, List.map_nil, Bool.true_eq, Bool.not_eq_eq_eq_not]) | refine And.intro ?_ (fun hif => (hif trivial).elim) | (intro hif; try (first | contradiction | (exfalso; omega))))
            refine awp_loop ?_
            refine ALoop.by [0, 3, 4, 5, 6] (fun a : Nat => [(0, .one (.sl ⟨ref, off, net.length⟩)), (3, .one (.sl ⟨.row m.length, 0, net.length⟩)), (4, .one (.int .i64 k)), (5, .one (.int .i64 r)), (6, .one (.int .i64 a))]) (fun a => SH m (listOf net.length (sideAt (pass (pk net) a P0)))) (fun a => a ≤ net.length) (fun a => net.length - a) 0 rfl rfl (Nat.zero_le _) ?_
            rintro a ha K3 hK3
            by_cases han : a < net.length
            · obtain ⟨oP, _⟩ := pass_ok hN hO (a := a) (by omega)
              have hrow := (prow_ok hN oP (a := a) (by omega)).2.2
              have hps := pass_succ (pk net) a P0
              have hnx : ∀ P, pass (pk net) a P0 = P → (∀ j, sideAt (prow (pk net) a P) j = if 0 < sideAt P a ∧ (nrow net a).testBit j = true ∧ sideAt P j = 0 then 3 - sideAt P a else sideAt P j) → listOf net.length (stepG net P a net.length) = listOf net.length (sideAt (pass (pk net) (a + 1) P0)) := fun P e hr => listOf_congr fun j hj => by
                rw [hps, e, hr]
                unfold stepG
                by_cases hc : 0 < sideAt P a ∧ (nrow net a).testBit j = true ∧ sideAt P j = 0
                · rw [if_pos hc, if_pos ⟨hj, hc⟩]
                · rw [if_neg hc, if_neg fun c => hc c.2]
              have hnx := hnx _ rfl hrow
              clear hps hrow oP hAr
              generalize pass (pk net) a P0 = P at hnx ⊢
              repeat' (first | refine awp_seq ?_ | refine awp_block ?_ | refine thn_n ?_ | refine thn_e ?_ | refine thn_r ?_ | refine blk_n ?_ | refine blk_r ?_ | refine blk_here ?_ | refine blk_on rfl ?_ | refine awp_skip ?_ | refine awp_exit ?_ | refine awp_ret ?_ | refine ret_one rfl ?_ | refine ret_many rfl ?_ | refine end_one rfl ?_ | (first | refine awp_if rfl (fun hif => ?_) (fun hif => ?_) | refine awp_nif rfl (fun hif => ?_) (fun hif => ?_) | refine awp_not rfl (fun hif => ?_) (fun hif => ?_) | refine awp_cond rfl (fun hif => ?_) (fun hif => ?_)) <;> try (first | contradiction | (exfalso; omega)) | (refine hK _ _ ?_; clear hK K) | (refine And.intro (by first | omega | assumption | (constructor <;> omega)) ?_) | (refine And.intro (fun hif => ?_) (fun hif => ?_) <;> try (first | contradiction | (exfalso; omega))) | ((first | refine awp_reg fun K hK => ?_ | refine ops_go ?_ | refine kont_go ?_ | refine kv_go ?_ | refine ku_go ?_); simp only [↓awpOps, ↓aop, ↓aopQ, ↓abin, ↓aun, ↓onSome_some, ↓Kont_at, ↓KM_at, ↓KV_at, ↓KU_at, refId_row, Int.one_mul, Frame.ev, Frame.evs, Frame.evOr, Frame.put, Frame.keep, get_nil, get_cons, argFrame, resOf, fillA, Vals.len, Vals.get, Vals.set, Vals.app, Vals.sub, Vals.take, Vals.ofList, Vals.toInts, Vals.toBools, Vals.toSls, Vals.toStrs, Vals.zeros, Nat.reduceBEq, Nat.reduceAdd, Nat.reduceEqDiff, cond_true, cond_false, if_true, if_false, Option.map_some, Option.map_none, List.length_cons, List.length_nil, List.replicate, List.set_cons_zero, List.set_cons_succ, Nat.reduceLT, true_and, and_true, forall_const, true_implies, Bool.not_true, Bool.not_false, Bool.true_eq_false, Bool.false_eq_true, false_implies, decide_eq_true_eq, decide_eq_false_iff_not, Int.not_lt, Int.not_le, Int.toNat_natCast, inR, Nat.zero_add, Int.toNat_zero, reduceCtorEq, IntKind.bits, List.nil_append, List.cons_append, Nat.add_zero, implies_true, ite_self, Nat.zero_lt_succ, Nat.lt_add_one, Int.zero_sub, Nat.sub_zero, Int.ofNat_toNat, List.map_cons, List.map_nil, Bool.true_eq, Bool.not_eq_eq_eq_not]) | refine And.intro ?_ (fun hif => (hif trivial).elim) | (intro hif; try (first | contradiction | (exfalso; omega))))
              refine awp_loop ?_
              refine ALoop.by [0, 3, 4, 5, 6, 7] (fun b : Nat => [(0, .one (.sl ⟨ref, off, net.length⟩)), (3, .one (.sl ⟨.row m.length, 0, net.length⟩)), (4, .one (.int .i64 k)), (5, .one (.int .i64 r)), (6, .one (.int .i64 a)), (7, .one (.int .i64 b))]) (fun b => SH m (listOf net.length (stepG net P a b))) (fun b => b ≤ net.length) (fun b => net.length - b) 0 rfl (by rw [show stepG net P a 0 = sideAt P from funext fun j => stepG_zero]) (Nat.zero_le _) ?_
              rintro b hb K4 hK4
              by_cases hbn : b < net.length
              · have hsa := at_side (m := m) (n := net.length) (k := a) (g := stepG net P a b) han
                rw [stepG_own] at hsa
                have hsb := at_side (m := m) (n := net.length) (k := b) (g := stepG net P a b) hbn
                rw [stepG_now] at hsb
                have hna := (hbase (listOf net.length (stepG net P a b))).2 a han
                have hsh := shr_bit (j := b) (hN.low a han)
                rw [bit_nrow] at hsh
                have hd : 0 ≤ (net.getD a 0) / 2 ^ b := Int.ediv_nonneg (hN.low a han) (Int.le_of_lt (Int.pow_pos (by decide)))
                have hra := sd_range P a
                cases htb : (nrow net a).testBit b with
                | true =>
                  rw [htb, if_pos rfl] at hsh
                  by_cases hc : 0 < sideAt P a ∧ sideAt P b = 0
                  · have hyes := funext (stepG_yes (net := net) (P := P) (a := a) (b := b) ⟨hc.1, htb, hc.2⟩)
                    obtain ⟨hc1, hc2⟩ := hc
                    clear hnx
                    repeat' (first | refine awp_seq ?_ | refine awp_block ?_ | refine thn_n ?_ | refine thn_e ?_ | refine thn_r ?_ | refine blk_n ?_ | refine blk_r ?_ | refine blk_here ?_ | refine blk_on rfl ?_ | refine awp_skip ?_ | refine awp_exit ?_ | refine awp_ret ?_ | refine ret_one rfl ?_ | refine ret_many rfl ?_ | refine end_one rfl ?_ | (first | refine awp_if rfl (fun hif => ?_) (fun hif => ?_) | refine awp_nif rfl (fun hif => ?_) (fun hif => ?_) | refine awp_not rfl (fun hif => ?_) (fun hif => ?_) | refine awp_cond rfl (fun hif => ?_) (fun hif => ?_)) <;> try (first | contradiction | (exfalso; omega)) | (refine hK _ _ ?_; clear hK K) | refine onSome_of hsa ?_ | refine onSome_of hsb ?_ | refine onSome_of hna ?_ | refine st_side hwf hbn ?_ | (refine And.intro (by first | omega | assumption | (constructor <;> omega)) ?_) | (refine And.intro (fun hif => ?_) (fun hif => ?_) <;> try (first | contradiction | (exfalso; omega))) | ((first | refine awp_reg fun K hK => ?_ | refine ops_go ?_ | refine kont_go ?_ | refine kv_go ?_ | refine ku_go ?_); simp only [↓awpOps, ↓aop, ↓aopQ, ↓abin, ↓aun, ↓onSome_some, ↓Kont_at, ↓KM_at, ↓KV_at, ↓KU_at, refId_row, Int.one_mul, Frame.ev, Frame.evs, Frame.evOr, Frame.put, Frame.keep, get_nil, get_cons, argFrame, resOf, fillA, Vals.len, Vals.get, Vals.set, Vals.app, Vals.sub, Vals.take, Vals.ofList, Vals.toInts, Vals.toBools, Vals.toSls, Vals.toStrs, Vals.zeros, Nat.reduceBEq, Nat.reduceAdd, Nat.reduceEqDiff, cond_true, cond_false, if_true, if_false, Option.map_some, Option.map_none, List.length_cons, List.length_nil, List.replicate, List.set_cons_zero, List.set_cons_succ, Nat.reduceLT, true_and, and_true, forall_const, true_implies, Bool.not_true, Bool.not_false, Bool.true_eq_false, Bool.false_eq_true, false_implies, decide_eq_true_eq, decide_eq_false_iff_not, Int.not_lt, Int.not_le, Int.toNat_natCast, inR, Nat.zero_add, Int.toNat_zero, reduceCtorEq, IntKind.bits, List.nil_append, List.cons_append, Nat.add_zero, implies_true, ite_self, Nat.zero_lt_succ, Nat.lt_add_one, Int.zero_sub, Nat.sub_zero, Int.ofNat_toNat, List.map_cons, List.map_nil, Bool.true_eq, Bool.not_eq_eq_eq_not]) | refine And.intro ?_ (fun hif => (hif trivial).elim) | (intro hif; try (first | contradiction | (exfalso; omega))))
                    all_goals exact hK4 (b + 1) _ _ rfl (by rw [hyes]) (by omega) (by omega)
                  · have hno := funext (stepG_no (net := net) (P := P) (a := a) (b := b) fun c => hc ⟨c.1, c.2.2⟩)
                    clear hnx
                    repeat' (first | refine awp_seq ?_ | refine awp_block ?_ | refine thn_n ?_ | refine thn_e ?_ | refine thn_r ?_ | refine blk_n ?_ | refine blk_r ?_ | refine blk_here ?_ | refine blk_on rfl ?_ | refine awp_skip ?_ | refine awp_exit ?_ | refine awp_ret ?_ | refine ret_one rfl ?_ | refine ret_many rfl ?_ | refine end_one rfl ?_ | (first | refine awp_if rfl (fun hif => ?_) (fun hif => ?_) | refine awp_nif rfl (fun hif => ?_) (fun hif => ?_) | refine awp_not rfl (fun hif => ?_) (fun hif => ?_) | refine awp_cond rfl (fun hif => ?_) (fun hif => ?_)) <;> try (first | contradiction | (exfalso; omega)) | (refine hK _ _ ?_; clear hK K) | refine onSome_of hsa ?_ | refine onSome_of hsb ?_ | refine onSome_of hna ?_ | (refine And.intro (by first | omega | assumption | (constructor <;> omega)) ?_) | (refine And.intro (fun hif => ?_) (fun hif => ?_) <;> try (first | contradiction | (exfalso; omega))) | ((first | refine awp_reg fun K hK => ?_ | refine ops_go ?_ | refine kont_go ?_ | refine kv_go ?_ | refine ku_go ?_); simp only [↓awpOps, ↓aop, ↓aopQ, ↓abin, ↓aun, ↓onSome_some, ↓Kont_at, ↓KM_at, ↓KV_at, ↓KU_at, refId_row, Int.one_mul, Frame.ev, Frame.evs, Frame.evOr, Frame.put, Frame.keep, get_nil, get_cons, argFrame, resOf, fillA, Vals.len, Vals.get, Vals.set, Vals.app, Vals.sub, Vals.take, Vals.ofList, Vals.toInts, Vals.toBools, Vals.toSls, Vals.toStrs, Vals.zeros, Nat.reduceBEq, Nat.reduceAdd, Nat.reduceEqDiff, cond_true, cond_false, if_true, if_false, Option.map_some, Option.map_none, List.length_cons, List.length_nil, List.replicate, List.set_cons_zero, List.set_cons_succ, Nat.reduceLT, true_and, and_true, forall_const, true_implies, Bool.not_true, Bool.not_false, Bool.true_eq_false, Bool.false_eq_true, false_implies, decide_eq_true_eq, decide_eq_false_iff_not, Int.not_lt, Int.not_le, Int.toNat_natCast, inR, Nat.zero_add, Int.toNat_zero, reduceCtorEq, IntKind.bits, List.nil_append, List.cons_append, Nat.add_zero, implies_true, ite_self, Nat.zero_lt_succ, Nat.lt_add_one, Int.zero_sub, Nat.sub_zero, Int.ofNat_toNat, List.map_cons, List.map_nil, Bool.true_eq, Bool.not_eq_eq_eq_not]) | refine And.intro ?_ (fun hif => (hif trivial).elim) | (intro hif; try (first | contradiction | (exfalso; omega))))
                    all_goals exact hK4 (b + 1) _ _ rfl (by rw [hno]) (by omega) (by omega)
                | false =>
                  rw [htb, if_neg (by simp)] at hsh
                  have hno := funext (stepG_no (net := net) (P := P) (a := a) (b := b) fun c => by rw [htb] at c; exact Bool.noConfusion c.2.1)
                  clear hnx
                  repeat' (first | refine awp_seq ?_ | refine awp_block ?_ | refine thn_n ?_ | refine thn_e ?_ | refine thn_r ?_ | refine blk_n ?_ | refine blk_r ?_ | refine blk_here ?_ | refine blk_on rfl ?_ | refine awp_skip ?_ | refine awp_exit ?_ | refine awp_ret ?_ | refine ret_one rfl ?_ | refine ret_many rfl ?_ | refine end_one rfl ?_ | (first | refine awp_if rfl (fun hif => ?_) (fun hif => ?_) | refine awp_nif rfl (fun hif => ?_) (fun hif => ?_) | refine awp_not rfl (fun hif => ?_) (fun hif => ?_) | refine awp_cond rfl (fun hif => ?_) (fun hif => ?_)) <;> try (first | contradiction | (exfalso; omega)) | (refine hK _ _ ?_; clear hK K) | refine onSome_of hsa ?_ | refine onSome_of hsb ?_ | refine onSome_of hna ?_ | (refine And.intro (by first | omega | assumption | (constructor <;> omega)) ?_) | (refine And.intro (fun hif => ?_) (fun hif => ?_) <;> try (first | contradiction | (exfalso; omega))) | ((first | refine awp_reg fun K hK => ?_ | refine ops_go ?_ | refine kont_go ?_ | refine kv_go ?_ | refine ku_go ?_); simp only [↓awpOps, ↓aop, ↓aopQ, ↓abin, ↓aun, ↓onSome_some, ↓Kont_at, ↓KM_at, ↓KV_at, ↓KU_at, refId_row, Int.one_mul, Frame.ev, Frame.evs, Frame.evOr, Frame.put, Frame.keep, get_nil, get_cons, argFrame, resOf, fillA, Vals.len, Vals.get, Vals.set, Vals.app, Vals.sub, Vals.take, Vals.ofList, Vals.toInts, Vals.toBools, Vals.toSls, Vals.toStrs, Vals.zeros, Nat.reduceBEq, Nat.reduceAdd, Nat.reduceEqDiff, cond_true, cond_false, if_true, if_false, Option.map_some, Option.map_none, List.length_cons, List.length_nil, List.replicate, List.set_cons_zero, List.set_cons_succ, Nat.reduceLT, true_and, and_true, forall_const, true_implies, Bool.not_true, Bool.not_false, Bool.true_eq_false, Bool.false_eq_true, false_implies, decide_eq_true_eq, decide_eq_false_iff_not, Int.not_lt, Int.not_le, Int.toNat_natCast, inR, Nat.zero_add, Int.toNat_zero, reduceCtorEq, IntKind.bits, List.nil_append, List.cons_append, Nat.add_zero, implies_true, ite_self, Nat.zero_lt_succ, Nat.lt_add_one, Int.zero_sub, Nat.sub_zero, Int.ofNat_toNat, List.map_cons, List.map_nil, Bool.true_eq, Bool.not_eq_eq_eq_not]) | refine And.intro ?_ (fun hif => (hif trivial).elim) | (intro hif; try (first | contradiction | (exfalso; omega))))
                  all_goals exact hK4 (b + 1) _ _ rfl (by rw [hno]) (by omega) (by omega)
              · obtain rfl : b = net.length := by omega
                rw [hnx]
                repeat' (first | refine awp_seq ?_ | refine awp_block ?_ | refine thn_n ?_ | refine thn_e ?_ | refine thn_r ?_ | refine blk_n ?_ | refine blk_r ?_ | refine blk_here ?_ | refine blk_on rfl ?_ | refine awp_skip ?_ | refine awp_exit ?_ | refine awp_ret ?_ | refine ret_one rfl ?_ | refine ret_many rfl ?_ | refine end_one rfl ?_ | (first | refine awp_if rfl (fun hif => ?_) (fun hif => ?_) | refine awp_nif rfl (fun hif => ?_) (fun hif => ?_) | refine awp_not rfl (fun hif => ?_) (fun hif => ?_) | refine awp_cond rfl (fun hif => ?_) (fun hif => ?_)) <;> try (first | contradiction | (exfalso; omega)) | (refine hK _ _ ?_; clear hK K) | (refine And.intro (by first | omega | assumption | (constructor <;> omega)) ?_) | (refine And.intro (fun hif => ?_) (fun hif => ?_) <;> try (first | contradiction | (exfalso; omega))) | ((first | refine awp_reg fun K hK => ?_ | refine ops_go ?_ | refine kont_go ?_ | refine kv_go ?_ | refine ku_go ?_); simp only [↓awpOps, ↓aop, ↓aopQ, ↓abin, ↓aun, ↓onSome_some, ↓Kont_at, ↓KM_at, ↓KV_at, ↓KU_at, refId_row, Int.one_mul, Frame.ev, Frame.evs, Frame.evOr, Frame.put, Frame.keep, get_nil, get_cons, argFrame, resOf, fillA, Vals.len, Vals.get, Vals.set, Vals.app, Vals.sub, Vals.take, Vals.ofList, Vals.toInts, Vals.toBools, Vals.toSls, Vals.toStrs, Vals.zeros, Nat.reduceBEq, Nat.reduceAdd, Nat.reduceEqDiff, cond_true, cond_false, if_true, if_false, Option.map_some, Option.map_none, List.length_cons, List.length_nil, List.replicate, List.set_cons_zero, List.set_cons_succ, Nat.reduceLT, true_and, and_true, forall_const, true_implies, Bool.not_true, Bool.not_false, Bool.true_eq_false, Bool.false_eq_true, false_implies, decide_eq_true_eq, decide_eq_false_iff_not, Int.not_lt, Int.not_le, Int.toNat_natCast, inR, Nat.zero_add, Int.toNat_zero, reduceCtorEq, IntKind.bits, List.nil_append, List.cons_append, Nat.add_zero, implies_true, ite_self, Nat.zero_lt_succ, Nat.lt_add_one, Int.zero_sub, Nat.sub_zero, Int.ofNat_toNat, List.map_cons, List.map_nil, Bool.true_eq, Bool.not_eq_eq_eq_not]) | refine And.intro ?_ (fun hif => (hif trivial).elim) | (intro hif; try (first | contradiction | (exfalso; omega))))
                all_goals exact hK3 (a + 1) _ _ rfl rfl (by omega) (by omega)
            · obtain rfl : a = net.length := by omega
              obtain ⟨p1, p2⟩ := pass_ok hN hO h6
              have hst := rep_step hN hO (net.length - (r + 1))
              rw [show net.length - (r + 1) + 1 = net.length - r by omega, hAr] at hst
              have hst2 : ∀ _ : Unit, rep (pk net) net.length (net.length - (r + 1)) (pass (pk net) net.length P0) = T0 := fun _ => hst.symm
              clear hst hAr
              repeat' (first | refine awp_seq ?_ | refine awp_block ?_ | refine thn_n ?_ | refine thn_e ?_ | refine thn_r ?_ | refine blk_n ?_ | refine blk_r ?_ | refine blk_here ?_ | refine blk_on rfl ?_ | refine awp_skip ?_ | refine awp_exit ?_ | refine awp_ret ?_ | refine ret_one rfl ?_ | refine ret_many rfl ?_ | refine end_one rfl ?_ | (first | refine awp_if rfl (fun hif => ?_) (fun hif => ?_) | refine awp_nif rfl (fun hif => ?_) (fun hif => ?_) | refine awp_not rfl (fun hif => ?_) (fun hif => ?_) | refine awp_cond rfl (fun hif => ?_) (fun hif => ?_)) <;> try (first | contradiction | (exfalso; omega)) | (refine hK _ _ ?_; clear hK K) | (refine And.intro (by first | omega | assumption | (constructor <;> omega)) ?_) | (refine And.intro (fun hif => ?_) (fun hif => ?_) <;> try (first | contradiction | (exfalso; omega))) | ((first | refine awp_reg fun K hK => ?_ | refine ops_go ?_ | refine kont_go ?_ | refine kv_go ?_ | refine ku_go ?_); simp only [↓awpOps, ↓aop, ↓aopQ, ↓abin, ↓aun, ↓onSome_some, ↓Kont_at, ↓KM_at, ↓KV_at, ↓KU_at, refId_row, Int.one_mul, Frame.ev, Frame.evs, Frame.evOr, Frame.put, Frame.keep, get_nil, get_cons, argFrame, resOf, fillA, Vals.len, Vals.get, Vals.set, Vals.app, Vals.sub, Vals.take, Vals.ofList, Vals.toInts, Vals.toBools, Vals.toSls, Vals.toStrs, Vals.zeros, Nat.reduceBEq, Nat.reduceAdd, Nat.reduceEqDiff, cond_true, cond_false, if_true, if_false, Option.map_some, Option.map_none, List.length_cons, List.length_nil, List.replicate, List.set_cons_zero, List.set_cons_succ, Nat.reduceLT, true_and, and_true, forall_const, true_implies, Bool.not_true, Bool.not_false, Bool.true_eq_false, Bool.false_eq_true, false_implies, decide_eq_true_eq, decide_eq_false_iff_not, Int.not_lt, Int.not_le, Int.toNat_natCast, inR, Nat.zero_add, Int.toNat_zero, reduceCtorEq, IntKind.bits, List.nil_append, List.cons_append, Nat.add_zero, implies_true, ite_self, Nat.zero_lt_succ, Nat.lt_add_one, Int.zero_sub, Nat.sub_zero, Int.ofNat_toNat, List.map_cons, List.map_nil, Bool.true_eq, Bool.not_eq_eq_eq_not]) | refine And.intro ?_ (fun hif => (hif trivial).elim) | (intro hif; try (first | contradiction | (exfalso; omega))))
              all_goals exact hK2 (r + 1, _) _ _ rfl rfl ⟨by simp only; omega, p1, fun _ => hst2 (), fun c => absurd (p2 k hin) c⟩ (by simp only; omega)
          · have hne : sideAt P0 k ≠ 1 := fun c => hin (h1k.1 c)
            have hPT := hNA hin
            clear hA hNA h1k
            subst hPT
            repeat' (first | refine awp_seq ?_ | refine awp_block ?_ | refine thn_n ?_ | refine thn_e ?_ | refine thn_r ?_ | refine blk_n ?_ | refine blk_r ?_ | refine blk_here ?_ | refine blk_on rfl ?_ | refine awp_skip ?_ | refine awp_exit ?_ | refine awp_ret ?_ | refine ret_one rfl ?_ | refine ret_many rfl ?_ | refine end_one rfl ?_ | (first | refine awp_if rfl (fun hif => ?_) (fun hif => ?_) | refine awp_nif rfl (fun hif => ?_) (fun hif => ?_) | refine awp_not rfl (fun hif => ?_) (fun hif => ?_) | refine awp_cond rfl (fun hif => ?_) (fun hif => ?_)) <;> try (first | contradiction | (exfalso; omega)) | (refine hK _ _ ?_; clear hK K) | refine onSome_of hatk ?_ | (refine And.intro (by first | omega | assumption | (constructor <;> omega)) ?_) | (refine And.intro (fun hif => ?_) (fun hif => ?_) <;> try (first | contradiction | (exfalso; omega))) | ((first | refine awp_reg fun K hK => ?_ | refine ops_go ?_ | refine kont_go ?_ | refine kv_go ?_ | refine ku_go ?_); simp only [↓awpOps, ↓aop, ↓aopQ, ↓abin, ↓aun, ↓onSome_some, ↓Kont_at, ↓KM_at, ↓KV_at, ↓KU_at, refId_row, Int.one_mul, Frame.ev, Frame.evs, Frame.evOr, Frame.put, Frame.keep, get_nil, get_cons, argFrame, resOf, fillA, Vals.len, Vals.get, Vals.set, Vals.app, Vals.sub, Vals.take, Vals.ofList, Vals.toInts, Vals.toBools, Vals.toSls, Vals.toStrs, Vals.zeros, Nat.reduceBEq, Nat.reduceAdd, Nat.reduceEqDiff, cond_true, cond_false, if_true, if_false, Option.map_some, Option.map_none, List.length_cons, List.length_nil, List.replicate, List.set_cons_zero, List.set_cons_succ, Nat.reduceLT, true_and, and_true, forall_const, true_implies, Bool.not_true, Bool.not_false, Bool.true_eq_false, Bool.false_eq_true, false_implies, decide_eq_true_eq, decide_eq_false_iff_not, Int.not_lt, Int.not_le, Int.toNat_natCast, inR, Nat.zero_add, Int.toNat_zero, reduceCtorEq, IntKind.bits, List.nil_append, List.cons_append, Nat.add_zero, implies_true, ite_self, Nat.zero_lt_succ, Nat.lt_add_one, Int.zero_sub, Nat.sub_zero, Int.ofNat_toNat, List.map_cons, List.map_nil, Bool.true_eq, Bool.not_eq_eq_eq_not]) | refine And.intro ?_ (fun hif => (hif trivial).elim) | (intro hif; try (first | contradiction | (exfalso; omega))))
            all_goals exact hK1 (k + 1) _ _ rfl (by rw [hT]) (by omega) (by omega)
        · have hPT : P0 = T0 := by
            by_cases hin : inA P0 k = true
            · have := hA hin
              rw [show net.length - r = 0 by omega, rep_zero] at this
              exact this
            · exact hNA hin
          clear hA hNA h1k
          subst hPT
          repeat' (first | refine awp_seq ?_ | refine awp_block ?_ | refine thn_n ?_ | refine thn_e ?_ | refine thn_r ?_ | refine blk_n ?_ | refine blk_r ?_ | refine blk_here ?_ | refine blk_on rfl ?_ | refine awp_skip ?_ | refine awp_exit ?_ | refine awp_ret ?_ | refine ret_one rfl ?_ | refine ret_many rfl ?_ | refine end_one rfl ?_ | (first | refine awp_if rfl (fun hif => ?_) (fun hif => ?_) | refine awp_nif rfl (fun hif => ?_) (fun hif => ?_) | refine awp_not rfl (fun hif => ?_) (fun hif => ?_) | refine awp_cond rfl (fun hif => ?_) (fun hif => ?_)) <;> try (first | contradiction | (exfalso; omega)) | (refine hK _ _ ?_; clear hK K) | (refine And.intro (by first | omega | assumption | (constructor <;> omega)) ?_) | (refine And.intro (fun hif => ?_) (fun hif => ?_) <;> try (first | contradiction | (exfalso; omega))) | ((first | refine awp_reg fun K hK => ?_ | refine ops_go ?_ | refine kont_go ?_ | refine kv_go ?_ | refine ku_go ?_); simp only [↓awpOps, ↓aop, ↓aopQ, ↓abin, ↓aun, ↓onSome_some, ↓Kont_at, ↓KM_at, ↓KV_at, ↓KU_at, refId_row, Int.one_mul, Frame.ev, Frame.evs, Frame.evOr, Frame.put, Frame.keep, get_nil, get_cons, argFrame, resOf, fillA, Vals.len, Vals.get, Vals.set, Vals.app, Vals.sub, Vals.take, Vals.ofList, Vals.toInts, Vals.toBools, Vals.toSls, Vals.toStrs, Vals.zeros, Nat.reduceBEq, Nat.reduceAdd, Nat.reduceEqDiff, cond_true, cond_false, if_true, if_false, Option.map_some, Option.map_none, List.length_cons, List.length_nil, List.replicate, List.set_cons_zero, List.set_cons_succ, Nat.reduceLT, true_and, and_true, forall_const, true_implies, Bool.not_true, Bool.not_false, Bool.true_eq_false, Bool.false_eq_true, false_implies, decide_eq_true_eq, decide_eq_false_iff_not, Int.not_lt, Int.not_le, Int.toNat_natCast, inR, Nat.zero_add, Int.toNat_zero, reduceCtorEq, IntKind.bits, List.nil_append, List.cons_append, Nat.add_zero, implies_true, ite_self, Nat.zero_lt_succ, Nat.lt_add_one, Int.zero_sub, Nat.sub_zero, Int.ofNat_toNat, List.map_cons, List.map_nil, Bool.true_eq, Bool.not_eq_eq_eq_not]) | refine And.intro ?_ (fun hif => (hif trivial).elim) | (intro hif; try (first | contradiction | (exfalso; omega))))
          all_goals exact hK1 (k + 1) _ _ rfl (by rw [hT]) (by omega) (by omega)
    · obtain rfl : k = net.length := by omega
      rw [hS]
      clear stage stageOk hfirst hcn
      have h64 : S % 64 < 64 := Nat.mod_lt _ (by decide)
      repeat' (first | refine awp_seq ?_ | refine awp_block ?_ | refine thn_n ?_ | refine thn_e ?_ | refine thn_r ?_ | refine blk_n ?_ | refine blk_r ?_ | refine blk_here ?_ | refine blk_on rfl ?_ | refine awp_skip ?_ | refine awp_exit ?_ | refine awp_ret ?_ | refine ret_one rfl ?_ | refine ret_many rfl ?_ | refine end_one rfl ?_ | (first | refine awp_if rfl (fun hif => ?_) (fun hif => ?_) | refine awp_nif rfl (fun hif => ?_) (fun hif => ?_) | refine awp_not rfl (fun hif => ?_) (fun hif => ?_) | refine awp_cond rfl (fun hif => ?_) (fun hif => ?_)) <;> try (first | contradiction | (exfalso; omega)) | (refine hK _ _ ?_; clear hK K) | (refine And.intro (by first | omega | assumption | (constructor <;> omega)) ?_) | (refine And.intro (fun hif => ?_) (fun hif => ?_) <;> try (first | contradiction | (exfalso; omega))) | ((first | refine awp_reg fun K hK => ?_ | refine ops_go ?_ | refine kont_go ?_ | refine kv_go ?_ | refine ku_go ?_); simp only [↓awpOps, ↓aop, ↓aopQ, ↓abin, ↓aun, ↓onSome_some, ↓Kont_at, ↓KM_at, ↓KV_at, ↓KU_at, refId_row, Int.one_mul, Frame.ev, Frame.evs, Frame.evOr, Frame.put, Frame.keep, get_nil, get_cons, argFrame, resOf, fillA, Vals.len, Vals.get, Vals.set, Vals.app, Vals.sub, Vals.take, Vals.ofList, Vals.toInts, Vals.toBools, Vals.toSls, Vals.toStrs, Vals.zeros, Nat.reduceBEq, Nat.reduceAdd, Nat.reduceEqDiff, cond_true, cond_false, if_true, if_false, Option.map_some, Option.map_none, List.length_cons, List.length_nil, List.replicate, List.set_cons_zero, List.set_cons_succ, Nat.reduceLT, true_and, and_true, forall_const, true_implies, Bool.not_true, Bool.not_false, Bool.true_eq_false, Bool.false_eq_true, false_implies, decide_eq_true_eq, decide_eq_false_iff_not, Int.not_lt, Int.not_le, Int.toNat_natCast, inR, Nat.zero_add, Int.toNat_zero, reduceCtorEq, IntKind.bits, List.nil_append, List.cons_append, Nat.add_zero, implies_true, ite_self, Nat.zero_lt_succ, Nat.lt_add_one, Int.zero_sub, Nat.sub_zero, Int.ofNat_toNat, List.map_cons, List.map_nil, Bool.true_eq, Bool.not_eq_eq_eq_not]) | refine And.intro ?_ (fun hif => (hif trivial).elim) | (intro hif; try (first | contradiction | (exfalso; omega))))
      refine awp_loop ?_
      refine ALoop.by [0, 3, 8, 9] (fun k : Nat => [(0, .one (.sl ⟨ref, off, net.length⟩)), (3, .one (.sl ⟨.row m.length, 0, net.length⟩)), (8, .one (.int .i64 ((S % 64 % 2 ^ k : Nat) : Int))), (9, .one (.int .i64 k))]) (fun k => SH m (listOf net.length (sideAt S))) (fun k => k ≤ net.length ∧ ∀ i, i < k → ∀ j, j < net.length → ¬ (bit ((net.getD i 0)) j = true ∧ sideAt S i = sideAt S j)) (fun k => net.length - k) 0 (by simp [Frame.keep, Frame.get, Nat.mod_one]) rfl ⟨Nat.zero_le _, fun i hi => absurd hi (Nat.not_lt_zero _)⟩ ?_
      rintro k ⟨hk2, hok⟩ K2 hK2
      by_cases hkn2 : k < net.length
      · have hbk := hbase (listOf net.length (sideAt S))
        have hnk := hbk.2 k hkn2
        have hsk := at_side (m := m) (n := net.length) (k := k) (g := sideAt S) hkn2
        have hpk := pow_bounds (p := k) (by omega)
        repeat' (first | refine awp_seq ?_ | refine awp_block ?_ | refine thn_n ?_ | refine thn_e ?_ | refine thn_r ?_ | refine blk_n ?_ | refine blk_r ?_ | refine blk_here ?_ | refine blk_on rfl ?_ | refine awp_skip ?_ | refine awp_exit ?_ | refine awp_ret ?_ | refine ret_one rfl ?_ | refine ret_many rfl ?_ | refine end_one rfl ?_ | (first | refine awp_if rfl (fun hif => ?_) (fun hif => ?_) | refine awp_nif rfl (fun hif => ?_) (fun hif => ?_) | refine awp_not rfl (fun hif => ?_) (fun hif => ?_) | refine awp_cond rfl (fun hif => ?_) (fun hif => ?_)) <;> try (first | contradiction | (exfalso; omega)) | (refine hK _ _ ?_; clear hK K) | (refine And.intro (by first | omega | assumption | (constructor <;> omega)) ?_) | (refine And.intro (fun hif => ?_) (fun hif => ?_) <;> try (first | contradiction | (exfalso; omega))) | ((first | refine awp_reg fun K hK => ?_ | refine ops_go ?_ | refine kont_go ?_ | refine kv_go ?_ | refine ku_go ?_); simp only [↓awpOps, ↓aop, ↓aopQ, ↓abin, ↓aun, ↓onSome_some, ↓Kont_at, ↓KM_at, ↓KV_at, ↓KU_at, refId_row, Int.one_mul, Frame.ev, Frame.evs, Frame.evOr, Frame.put, Frame.keep, get_nil, get_cons, argFrame, resOf, fillA, Vals.len, Vals.get, Vals.set, Vals.app, Vals.sub, Vals.take, Vals.ofList, Vals.toInts, Vals.toBools, Vals.toSls, Vals.toStrs, Vals.zeros, Nat.reduceBEq, Nat.reduceAdd, Nat.reduceEqDiff, cond_true, cond_false, if_true, if_false, Option.map_some, Option.map_none, List.length_cons, List.length_nil, List.replicate, List.set_cons_zero, List.set_cons_succ, Nat.reduceLT, true_and, and_true, forall_const, true_implies, Bool.not_true, Bool.not_false, Bool.true_eq_false, Bool.false_eq_true, false_implies, decide_eq_true_eq, decide_eq_false_iff_not, Int.not_lt, Int.not_le, Int.toNat_natCast, inR, Nat.zero_add, Int.toNat_zero, reduceCtorEq, IntKind.bits, List.nil_append, List.cons_append, Nat.add_zero, implies_true, ite_self, Nat.zero_lt_succ, Nat.lt_add_one, Int.zero_sub, Nat.sub_zero, Int.ofNat_toNat, List.map_cons, List.map_nil, Bool.true_eq, Bool.not_eq_eq_eq_not]) | refine And.intro ?_ (fun hif => (hif trivial).elim) | (intro hif; try (first | contradiction | (exfalso; omega))))
        refine awp_loop ?_
        refine ALoop.by [0, 3, 8, 9, 10] (fun j : Nat => [(0, .one (.sl ⟨ref, off, net.length⟩)), (3, .one (.sl ⟨.row m.length, 0, net.length⟩)), (8, .one (.int .i64 ((S % 64 % 2 ^ k : Nat) : Int))), (9, .one (.int .i64 k)), (10, .one (.int .i64 j))]) (fun _ => SH m (listOf net.length (sideAt S))) (fun j => j ≤ net.length ∧ ∀ i, i < j → ¬ (bit ((net.getD k 0)) i = true ∧ sideAt S k = sideAt S i)) (fun j => net.length - j) 0 rfl rfl ⟨Nat.zero_le _, fun i hi => absurd hi (Nat.not_lt_zero _)⟩ ?_
        rintro j ⟨hj, hjok⟩ K3 hK3
        by_cases hjn : j < net.length
        · have hsj := at_side (m := m) (n := net.length) (k := j) (g := sideAt S) hjn
          have hsh := shr_bit (j := j) (hN.low k hkn2)
          have hd : 0 ≤ (net.getD k 0) / 2 ^ j := Int.ediv_nonneg (hN.low k hkn2) (Int.le_of_lt (Int.pow_pos (by decide)))
          have hnext : ¬ (bit ((net.getD k 0)) j = true ∧ sideAt S k = sideAt S j) → ∀ i, i < j + 1 → ¬ (bit ((net.getD k 0)) i = true ∧ sideAt S k = sideAt S i) := fun hh i hi => by
            rcases Nat.lt_succ_iff_lt_or_eq.1 hi with h | rfl
            · exact hjok i h
            · exact hh
          cases hbj : bit ((net.getD k 0)) j with
          | true =>
            rw [hbj, if_pos rfl] at hsh
            by_cases he : sideAt S k = sideAt S j
            · have hno : ¬ (proper (pk net) (S % 64) = true ∧ proper (pk net) (S / 64) = true) := fun c => (hcl.2 c) k hkn2 j hjn ⟨hbj, he⟩
              rw [if_neg hno]
              clear hno hcl hnext hjok hok
              repeat' (first | refine awp_seq ?_ | refine awp_block ?_ | refine thn_n ?_ | refine thn_e ?_ | refine thn_r ?_ | refine blk_n ?_ | refine blk_r ?_ | refine blk_here ?_ | refine blk_on rfl ?_ | refine awp_skip ?_ | refine awp_exit ?_ | refine awp_ret ?_ | refine ret_one rfl ?_ | refine ret_many rfl ?_ | refine end_one rfl ?_ | (first | refine awp_if rfl (fun hif => ?_) (fun hif => ?_) | refine awp_nif rfl (fun hif => ?_) (fun hif => ?_) | refine awp_not rfl (fun hif => ?_) (fun hif => ?_) | refine awp_cond rfl (fun hif => ?_) (fun hif => ?_)) <;> try (first | contradiction | (exfalso; omega)) | (refine hK _ _ ?_; clear hK K) | refine onSome_of hnk ?_ | refine onSome_of hsk ?_ | refine onSome_of hsj ?_ | (refine And.intro (by first | omega | assumption | (constructor <;> omega)) ?_) | (refine And.intro (fun hif => ?_) (fun hif => ?_) <;> try (first | contradiction | (exfalso; omega))) | ((first | refine awp_reg fun K hK => ?_ | refine ops_go ?_ | refine kont_go ?_ | refine kv_go ?_ | refine ku_go ?_); simp only [↓awpOps, ↓aop, ↓aopQ, ↓abin, ↓aun, ↓onSome_some, ↓Kont_at, ↓KM_at, ↓KV_at, ↓KU_at, refId_row, Int.one_mul, Frame.ev, Frame.evs, Frame.evOr, Frame.put, Frame.keep, get_nil, get_cons, argFrame, resOf, fillA, Vals.len, Vals.get, Vals.set, Vals.app, Vals.sub, Vals.take, Vals.ofList, Vals.toInts, Vals.toBools, Vals.toSls, Vals.toStrs, Vals.zeros, Nat.reduceBEq, Nat.reduceAdd, Nat.reduceEqDiff, cond_true, cond_false, if_true, if_false, Option.map_some, Option.map_none, List.length_cons, List.length_nil, List.replicate, List.set_cons_zero, List.set_cons_succ, Nat.reduceLT, true_and, and_true, forall_const, true_implies, Bool.not_true, Bool.not_false, Bool.true_eq_false, Bool.false_eq_true, false_implies, decide_eq_true_eq, decide_eq_false_iff_not, Int.not_lt, Int.not_le, Int.toNat_natCast, inR, Nat.zero_add, Int.toNat_zero, reduceCtorEq, IntKind.bits, List.nil_append, List.cons_append, Nat.add_zero, implies_true, ite_self, Nat.zero_lt_succ, Nat.lt_add_one, Int.zero_sub, Nat.sub_zero, Int.ofNat_toNat, List.map_cons, List.map_nil, Bool.true_eq, Bool.not_eq_eq_eq_not]) | refine And.intro ?_ (fun hif => (hif trivial).elim) | (intro hif; try (first | contradiction | (exfalso; omega))))
              all_goals first | exact ⟨rfl, prefix_push _ _⟩ | exact prefix_push _ _ | skip
            · have hnx := hnext fun c => he c.2
              clear hnext hcl
              repeat' (first | refine awp_seq ?_ | refine awp_block ?_ | refine thn_n ?_ | refine thn_e ?_ | refine thn_r ?_ | refine blk_n ?_ | refine blk_r ?_ | refine blk_here ?_ | refine blk_on rfl ?_ | refine awp_skip ?_ | refine awp_exit ?_ | refine awp_ret ?_ | refine ret_one rfl ?_ | refine ret_many rfl ?_ | refine end_one rfl ?_ | (first | refine awp_if rfl (fun hif => ?_) (fun hif => ?_) | refine awp_nif rfl (fun hif => ?_) (fun hif => ?_) | refine awp_not rfl (fun hif => ?_) (fun hif => ?_) | refine awp_cond rfl (fun hif => ?_) (fun hif => ?_)) <;> try (first | contradiction | (exfalso; omega)) | (refine hK _ _ ?_; clear hK K) | refine onSome_of hnk ?_ | refine onSome_of hsk ?_ | refine onSome_of hsj ?_ | (refine And.intro (by first | omega | assumption | (constructor <;> omega)) ?_) | (refine And.intro (fun hif => ?_) (fun hif => ?_) <;> try (first | contradiction | (exfalso; omega))) | ((first | refine awp_reg fun K hK => ?_ | refine ops_go ?_ | refine kont_go ?_ | refine kv_go ?_ | refine ku_go ?_); simp only [↓awpOps, ↓aop, ↓aopQ, ↓abin, ↓aun, ↓onSome_some, ↓Kont_at, ↓KM_at, ↓KV_at, ↓KU_at, refId_row, Int.one_mul, Frame.ev, Frame.evs, Frame.evOr, Frame.put, Frame.keep, get_nil, get_cons, argFrame, resOf, fillA, Vals.len, Vals.get, Vals.set, Vals.app, Vals.sub, Vals.take, Vals.ofList, Vals.toInts, Vals.toBools, Vals.toSls, Vals.toStrs, Vals.zeros, Nat.reduceBEq, Nat.reduceAdd, Nat.reduceEqDiff, cond_true, cond_false, if_true, if_false, Option.map_some, Option.map_none, List.length_cons, List.length_nil, List.replicate, List.set_cons_zero, List.set_cons_succ, Nat.reduceLT, true_and, and_true, forall_const, true_implies, Bool.not_true, Bool.not_false, Bool.true_eq_false, Bool.false_eq_true, false_implies, decide_eq_true_eq, decide_eq_false_iff_not, Int.not_lt, Int.not_le, Int.toNat_natCast, inR, Nat.zero_add, Int.toNat_zero, reduceCtorEq, IntKind.bits, List.nil_append, List.cons_append, Nat.add_zero, implies_true, ite_self, Nat.zero_lt_succ, Nat.lt_add_one, Int.zero_sub, Nat.sub_zero, Int.ofNat_toNat, List.map_cons, List.map_nil, Bool.true_eq, Bool.not_eq_eq_eq_not]) | refine And.intro ?_ (fun hif => (hif trivial).elim) | (intro hif; try (first | contradiction | (exfalso; omega))))
              all_goals exact hK3 (j + 1) _ _ rfl rfl ⟨by omega, hnx⟩ (by omega)
          | false =>
            rw [hbj, if_neg (by simp)] at hsh
            have hnx := hnext fun c => by rw [hbj] at c; exact Bool.noConfusion c.1
            clear hnext hcl
            repeat' (first | refine awp_seq ?_ | refine awp_block ?_ | refine thn_n ?_ | refine thn_e ?_ | refine thn_r ?_ | refine blk_n ?_ | refine blk_r ?_ | refine blk_here ?_ | refine blk_on rfl ?_ | refine awp_skip ?_ | refine awp_exit ?_ | refine awp_ret ?_ | refine ret_one rfl ?_ | refine ret_many rfl ?_ | refine end_one rfl ?_ | (first | refine awp_if rfl (fun hif => ?_) (fun hif => ?_) | refine awp_nif rfl (fun hif => ?_) (fun hif => ?_) | refine awp_not rfl (fun hif => ?_) (fun hif => ?_) | refine awp_cond rfl (fun hif => ?_) (fun hif => ?_)) <;> try (first | contradiction | (exfalso; omega)) | (refine hK _ _ ?_; clear hK K) | refine onSome_of hnk ?_ | refine onSome_of hsk ?_ | refine onSome_of hsj ?_ | (refine And.intro (by first | omega | assumption | (constructor <;> omega)) ?_) | (refine And.intro (fun hif => ?_) (fun hif => ?_) <;> try (first | contradiction | (exfalso; omega))) | ((first | refine awp_reg fun K hK => ?_ | refine ops_go ?_ | refine kont_go ?_ | refine kv_go ?_ | refine ku_go ?_); simp only [↓awpOps, ↓aop, ↓aopQ, ↓abin, ↓aun, ↓onSome_some, ↓Kont_at, ↓KM_at, ↓KV_at, ↓KU_at, refId_row, Int.one_mul, Frame.ev, Frame.evs, Frame.evOr, Frame.put, Frame.keep, get_nil, get_cons, argFrame, resOf, fillA, Vals.len, Vals.get, Vals.set, Vals.app, Vals.sub, Vals.take, Vals.ofList, Vals.toInts, Vals.toBools, Vals.toSls, Vals.toStrs, Vals.zeros, Nat.reduceBEq, Nat.reduceAdd, Nat.reduceEqDiff, cond_true, cond_false, if_true, if_false, Option.map_some, Option.map_none, List.length_cons, List.length_nil, List.replicate, List.set_cons_zero, List.set_cons_succ, Nat.reduceLT, true_and, and_true, forall_const, true_implies, Bool.not_true, Bool.not_false, Bool.true_eq_false, Bool.false_eq_true, false_implies, decide_eq_true_eq, decide_eq_false_iff_not, Int.not_lt, Int.not_le, Int.toNat_natCast, inR, Nat.zero_add, Int.toNat_zero, reduceCtorEq, IntKind.bits, List.nil_append, List.cons_append, Nat.add_zero, implies_true, ite_self, Nat.zero_lt_succ, Nat.lt_add_one, Int.zero_sub, Nat.sub_zero, Int.ofNat_toNat, List.map_cons, List.map_nil, Bool.true_eq, Bool.not_eq_eq_eq_not]) | refine And.intro ?_ (fun hif => (hif trivial).elim) | (intro hif; try (first | contradiction | (exfalso; omega))))
            all_goals exact hK3 (j + 1) _ _ rfl rfl ⟨by omega, hnx⟩ (by omega)
        · obtain rfl : j = net.length := by omega
          obtain ⟨u1, u2⟩ := out_step (S % 64) h64 k (by omega)
          have hm2 : sideAt S k % 2 = (((S % 64).testBit k).toNat : Int) := by
            have := sd_is1 S k
            unfold inA at this
            rcases sd_range S k with e | e | e
            · rw [e] at this ⊢; cases hb : (S % 64).testBit k with | true => exact absurd (this.2 hb) (by decide) | false => rfl
            · rw [e] at this ⊢; rw [this.1 rfl]; rfl
            · rw [e] at this ⊢; cases hb : (S % 64).testBit k with | true => exact absurd (this.2 hb) (by decide) | false => rfl
          have hs0 : 0 ≤ sideAt S k := by rcases sd_range S k with e | e | e <;> omega
          have hv : sideAt S k % 2 * 2 ^ k = ((((S % 64).testBit k).toNat * 2 ^ k : Nat) : Int) := by rw [hm2, pow_nat, Int.natCast_mul]
          have hlt : S % 64 % 2 ^ k < 64 := Nat.lt_of_le_of_lt (Nat.mod_le _ _) h64
          have hor : borInt .i64 ((S % 64 % 2 ^ k : Nat) : Int) (sideAt S k % 2 * 2 ^ k) = ((S % 64 % 2 ^ (k + 1) : Nat) : Int) := by rw [hv, bor_lor hlt u2, u1]
          have hvr : 0 ≤ sideAt S k % 2 * 2 ^ k ∧ sideAt S k % 2 * 2 ^ k < 64 := by rw [hv]; omega
          clear hv hm2 u1 u2 hcl
          repeat' (first | refine awp_seq ?_ | refine awp_block ?_ | refine thn_n ?_ | refine thn_e ?_ | refine thn_r ?_ | refine blk_n ?_ | refine blk_r ?_ | refine blk_here ?_ | refine blk_on rfl ?_ | refine awp_skip ?_ | refine awp_exit ?_ | refine awp_ret ?_ | refine ret_one rfl ?_ | refine ret_many rfl ?_ | refine end_one rfl ?_ | (first | refine awp_if rfl (fun hif => ?_) (fun hif => ?_) | refine awp_nif rfl (fun hif => ?_) (fun hif => ?_) | refine awp_not rfl (fun hif => ?_) (fun hif => ?_) | refine awp_cond rfl (fun hif => ?_) (fun hif => ?_)) <;> try (first | contradiction | (exfalso; omega)) | (refine hK _ _ ?_; clear hK K) | refine onSome_of hsk ?_ | rw [hor] | (refine And.intro (by first | omega | assumption | (constructor <;> omega)) ?_) | (refine And.intro (fun hif => ?_) (fun hif => ?_) <;> try (first | contradiction | (exfalso; omega))) | ((first | refine awp_reg fun K hK => ?_ | refine ops_go ?_ | refine kont_go ?_ | refine kv_go ?_ | refine ku_go ?_); simp only [↓awpOps, ↓aop, ↓aopQ, ↓abin, ↓aun, ↓onSome_some, ↓Kont_at, ↓KM_at, ↓KV_at, ↓KU_at, refId_row, Int.one_mul, Frame.ev, Frame.evs, Frame.evOr, Frame.put, Frame.keep, get_nil, get_cons, argFrame, resOf, fillA, Vals.len, Vals.get, Vals.set, Vals.app, Vals.sub, Vals.take, Vals.ofList, Vals.toInts, Vals.toBools, Vals.toSls, Vals.toStrs, Vals.zeros, Nat.reduceBEq, Nat.reduceAdd, Nat.reduceEqDiff, cond_true, cond_false, if_true, if_false, Option.map_some, Option.map_none, List.length_cons, List.length_nil, List.replicate, List.set_cons_zero, List.set_cons_succ, Nat.reduceLT, true_and, and_true, forall_const, true_implies, Bool.not_true, Bool.not_false, Bool.true_eq_false, Bool.false_eq_true, false_implies, decide_eq_true_eq, decide_eq_false_iff_not, Int.not_lt, Int.not_le, Int.toNat_natCast, inR, Nat.zero_add, Int.toNat_zero, reduceCtorEq, IntKind.bits, List.nil_append, List.cons_append, Nat.add_zero, implies_true, ite_self, Nat.zero_lt_succ, Nat.lt_add_one, Int.zero_sub, Nat.sub_zero, Int.ofNat_toNat, List.map_cons, List.map_nil, Bool.true_eq, Bool.not_eq_eq_eq_not]) | refine And.intro ?_ (fun hif => (hif trivial).elim) | (intro hif; try (first | contradiction | (exfalso; omega))))
          all_goals exact hK2 (k + 1) _ _ rfl rfl ⟨by omega, fun i hi j hj => by
            rcases Nat.lt_succ_iff_lt_or_eq.1 hi with h | rfl
            · exact hok i h j hj
            · exact hjok j hj⟩ (by omega)
      · obtain rfl : k = net.length := by omega
        rw [if_pos (hcl.1 fun i hi j hj => hok i hi j hj)]
        have hAl : S % 64 % 2 ^ net.length = S % 64 := by
          apply Nat.mod_eq_of_lt
          have e : Nat.lor (S % 64) (S / 64) < 2 ^ net.length := by rw [z2]; have := Nat.two_pow_pos net.length; omega
          exact Nat.lt_of_le_of_lt (Nat.left_le_or (n := S % 64) (m := S / 64)) e
        rw [hAl]
        have hne : ¬ ((S % 64 : Nat) = 777) := by omega
        rw [if_neg hne]
        clear hcl hok
        repeat' (first | refine awp_seq ?_ | refine awp_block ?_ | refine thn_n ?_ | refine thn_e ?_ | refine thn_r ?_ | refine blk_n ?_ | refine blk_r ?_ | refine blk_here ?_ | refine blk_on rfl ?_ | refine awp_skip ?_ | refine awp_exit ?_ | refine awp_ret ?_ | refine ret_one rfl ?_ | refine ret_many rfl ?_ | refine end_one rfl ?_ | (first | refine awp_if rfl (fun hif => ?_) (fun hif => ?_) | refine awp_nif rfl (fun hif => ?_) (fun hif => ?_) | refine awp_not rfl (fun hif => ?_) (fun hif => ?_) | refine awp_cond rfl (fun hif => ?_) (fun hif => ?_)) <;> try (first | contradiction | (exfalso; omega)) | (refine hK _ _ ?_; clear hK K) | (refine And.intro (by first | omega | assumption | (constructor <;> omega)) ?_) | (refine And.intro (fun hif => ?_) (fun hif => ?_) <;> try (first | contradiction | (exfalso; omega))) | ((first | refine awp_reg fun K hK => ?_ | refine ops_go ?_ | refine kont_go ?_ | refine kv_go ?_ | refine ku_go ?_); simp only [↓awpOps, ↓aop, ↓aopQ, ↓abin, ↓aun, ↓onSome_some, ↓Kont_at, ↓KM_at, ↓KV_at, ↓KU_at, refId_row, Int.one_mul, Frame.ev, Frame.evs, Frame.evOr, Frame.put, Frame.keep, get_nil, get_cons, argFrame, resOf, fillA, Vals.len, Vals.get, Vals.set, Vals.app, Vals.sub, Vals.take, Vals.ofList, Vals.toInts, Vals.toBools, Vals.toSls, Vals.toStrs, Vals.zeros, Nat.reduceBEq, Nat.reduceAdd, Nat.reduceEqDiff, cond_true, cond_false, if_true, if_false, Option.map_some, Option.map_none, List.length_cons, List.length_nil, List.replicate, List.set_cons_zero, List.set_cons_succ, Nat.reduceLT, true_and, and_true, forall_const, true_implies, Bool.not_true, Bool.not_false, Bool.true_eq_false, Bool.false_eq_true, false_implies, decide_eq_true_eq, decide_eq_false_iff_not, Int.not_lt, Int.not_le, Int.toNat_natCast, inR, Nat.zero_add, Int.toNat_zero, reduceCtorEq, IntKind.bits, List.nil_append, List.cons_append, Nat.add_zero, implies_true, ite_self, Nat.zero_lt_succ, Nat.lt_add_one, Int.zero_sub, Nat.sub_zero, Int.ofNat_toNat, List.map_cons, List.map_nil, Bool.true_eq, Bool.not_eq_eq_eq_not]) | refine And.intro ?_ (fun hif => (hif trivial).elim) | (intro hif; try (first | contradiction | (exfalso; omega))))
        all_goals first | exact ⟨rfl, prefix_push _ _⟩ | exact prefix_push _ _ | skip
  · rw [sidesOf, if_neg hN]
    refine aqn T.spec_SidesOf (by rfl) ?_
    repeat' (first | refine awp_seq ?_ | refine awp_block ?_ | refine thn_n ?_ | refine thn_e ?_ | refine thn_r ?_ | refine blk_n ?_ | refine blk_r ?_ | refine blk_here ?_ | refine blk_on rfl ?_ | refine awp_skip ?_ | refine awp_exit ?_ | refine awp_ret ?_ | refine ret_one rfl ?_ | refine ret_many rfl ?_ | refine end_one rfl ?_ | (first | refine awp_if rfl (fun hif => ?_) (fun hif => ?_) | refine awp_nif rfl (fun hif => ?_) (fun hif => ?_) | refine awp_not rfl (fun hif => ?_) (fun hif => ?_) | refine awp_cond rfl (fun hif => ?_) (fun hif => ?_)) <;> try (first | contradiction | (exfalso; omega)) | (refine hK _ _ ?_; clear hK K) | refine AQuiet.call (hsn.no hN) trivial ?_ | (refine And.intro (by first | omega | assumption | (constructor <;> omega)) ?_) | (refine And.intro (fun hif => ?_) (fun hif => ?_) <;> try (first | contradiction | (exfalso; omega))) | ((first | refine awp_reg fun K hK => ?_ | refine ops_go ?_ | refine kont_go ?_ | refine kv_go ?_ | refine ku_go ?_); simp only [↓awpOps, ↓aop, ↓aopQ, ↓abin, ↓aun, ↓onSome_some, ↓Kont_at, ↓KM_at, ↓KV_at, ↓KU_at, refId_row, Int.one_mul, Frame.ev, Frame.evs, Frame.evOr, Frame.put, Frame.keep, get_nil, get_cons, argFrame, resOf, fillA, Vals.len, Vals.get, Vals.set, Vals.app, Vals.sub, Vals.take, Vals.ofList, Vals.toInts, Vals.toBools, Vals.toSls, Vals.toStrs, Vals.zeros, Nat.reduceBEq, Nat.reduceAdd, Nat.reduceEqDiff, cond_true, cond_false, if_true, if_false, Option.map_some, Option.map_none, List.length_cons, List.length_nil, List.replicate, List.set_cons_zero, List.set_cons_succ, Nat.reduceLT, true_and, and_true, forall_const, true_implies, Bool.not_true, Bool.not_false, Bool.true_eq_false, Bool.false_eq_true, false_implies, decide_eq_true_eq, decide_eq_false_iff_not, Int.not_lt, Int.not_le, Int.toNat_natCast, inR, Nat.zero_add, Int.toNat_zero, reduceCtorEq, IntKind.bits, List.nil_append, List.cons_append, Nat.add_zero, implies_true, ite_self, Nat.zero_lt_succ, Nat.lt_add_one, Int.zero_sub, Nat.sub_zero, Int.ofNat_toNat, List.map_cons, List.map_nil, Bool.true_eq, Bool.not_eq_eq_eq_not]) | refine And.intro ?_ (fun hif => (hif trivial).elim) | (intro hif; try (first | contradiction | (exfalso; omega))))
    (first | exact List.prefix_rfl | exact ⟨rfl, List.prefix_rfl⟩ | exact ⟨by simp, List.prefix_rfl⟩)

end Go.Abs
