/- The model's harmonious rows, by contracts. Own work; no condition. -/
import Derived.Test.YtljggfghllchnaaSpecH2
import Derived.Test.YtljggfghllchnaaHarm2
set_option maxRecDepth 100000
set_option linter.unusedSimpArgs false
set_option linter.unusedVariables false
namespace Go.Abs
open Go.Proofs
attribute [local irreducible] awp awpOps awpKeep KeepK awpKeepF KeepF aloop ALoop ACalls ACallq AQuiet retPost retPostA AExit.thn AExit.blk aApp aSt aStA

noncomputable def stepH (net : List Int) (q rem : Nat) (row : List Int) (came n : Nat) : List (List Int) := if (runH net q row (n : Int) came (decide (twice (row ++ [(n : Int)]) ≤ mayT net)) row.length).2 = true then searchH net q rem (row ++ [(n : Int)]) (runH net q row (n : Int) came (decide (twice (row ++ [(n : Int)]) ≤ mayT net)) row.length).1 else []
noncomputable def searchToH (net : List Int) (q rem : Nat) (row : List Int) (came n : Nat) : List (List Int) := (List.range n).flatMap fun n : Nat => stepH net q rem row came n
theorem searchToH_succ (net : List Int) (q rem : Nat) (row : List Int) (came n : Nat) : searchToH net q rem row came (n + 1) = searchToH net q rem row came n ++ stepH net q rem row came n := by
  unfold searchToH
  rw [List.range_succ, List.flatMap_append]
  simp
theorem searchH_to (net : List Int) (q rem : Nat) (row : List Int) (came : Nat) : searchH net q (rem + 1) row came = searchToH net q rem row came q := rfl
theorem searchH_len (net : List Int) {q : Nat} (hq : q ≤ 15) : ∀ (rem : Nat) (row : List Int) (came : Nat), (searchH net q rem row came).length ≤ 16 ^ rem
  | 0, _, _ => by
    rw [searchH]
    split <;> simp
  | rem + 1, row, came => by
    rw [searchH_to]
    have h1 := flat_len (f := fun n : Nat => stepH net q rem row came n) (B := 16 ^ rem) (fun n => by
      unfold stepH
      split
      · exact searchH_len net hq rem _ _
      · simp) (List.range q)
    rw [List.length_range] at h1
    refine Nat.le_trans h1 ?_
    rw [Nat.pow_succ, Nat.mul_comm]
    exact Nat.mul_le_mul_left _ (by omega)
theorem searchToH_len (net : List Int) {q : Nat} (hq : q ≤ 15) (rem : Nat) (row : List Int) (came n : Nat) : (searchToH net q rem row came n).length ≤ n * 16 ^ rem := by
  have h1 := flat_len (f := fun n : Nat => stepH net q rem row came n) (B := 16 ^ rem) (fun n => by
    unfold stepH
    split
    · exact searchH_len net hq rem _ _
    · simp) (List.range n)
  rw [List.length_range] at h1
  exact h1

theorem runH_lt (net : List Int) {q : Nat} (hq : 0 < q) (h15 : q ≤ 15) (row : List Int) (n : Int) {came : Nat} (hc : came < 32768) (ok : Bool) : ∀ k, (runH net q row n came ok k).1 < 32768
  | 0 => hc
  | k + 1 => by
    have ih := runH_lt net hq h15 row n hc ok k
    rw [runH]
    split
    · have h1 := rs_lt hq ((row.getD k 0)) n
      have h2 : 2 ^ rs q ((row.getD k 0)) n < 2 ^ 15 := Nat.pow_lt_pow_right (by decide) (by omega)
      exact Nat.or_lt_two_pow (n := 15) ih h2
    · exact ih

set_option maxHeartbeats 8000000 in
theorem spec_l7Rows {net : List Int} (hN : NetOk net) (hq : 0 < qOf net) : ∀ (rem : Nat) (row : List Int) (came : Nat) (s t : SV) (m : Heap) (n0 : Nat), m.wf → IsInts .i64 m s net → Obj Ty.int n0 m.length m t (.ints .i64 row) → n0 ≤ m.length → row.length + rem = net.length → (∀ i, i < row.length → 0 ≤ (row.getD i 0) ∧ (row.getD i 0) ≤ 15) → came < 32768 →
    ACalls Try.prog F.spec_l7Rows [.one (.sl s), .one (.sl t), .one (.int .i64 came)] m fun x m' => ∃ s', x = .one (.sl s') ∧ Grow 0 0 m m' ∧ LHeld n0 m'.length m' s' (searchH net (qOf net) rem row came) := by
  intro rem
  have h6 := hN.six
  have hq15 := qOf_le hN
  induction rem with
  | zero =>
    intro row came s t m n0 hwf hs ht hn0 hl hrow hc
    have cH := spec_HarmonyOk s t net row m hs ht.isInts
    obtain ⟨ref, off, len⟩ := s
    obtain rfl : len = net.length := hs.1
    have htl := ht.len
    obtain ⟨ref', off', len'⟩ := t
    obtain rfl : len' = row.length := htl
    refine afn T.spec_l7Rows (by rfl) ?_
    by_cases hH : Harm net row
    · have cH := cH.yes hH
      have hg := Grow.push hwf Ty.Sl_int true (.sls [⟨ref', off', row.length⟩])
      have e : searchH net (qOf net) 0 row came = [row] := by rw [searchH, if_pos (decide_eq_true hH)]
      rw [e]
      repeat' (first | refine xA ?_ | refine xB ?_ | refine xC ?_ | refine xD ?_ | refine xE ?_ | refine xF ?_ | refine xG ?_ | refine xH ?_ | refine xI rfl ?_ | refine xJ ?_ | refine xK ?_ | refine xL ?_ | refine xM rfl ?_ | refine xN rfl ?_ | refine xO rfl ?_ | (first | refine xP rfl (fun hif => ?_) (fun hif => ?_) | refine xQ rfl (fun hif => ?_) (fun hif => ?_) | refine xR rfl (fun hif => ?_) (fun hif => ?_) | refine xS rfl (fun hif => ?_) (fun hif => ?_)) <;> try (first | contradiction | (exfalso; omega)) | (refine hK _ _ ?_; clear hK K) | refine AQuiet.call cH trivial ?_ | (refine And.intro (by first | omega | assumption | (constructor <;> omega)) ?_) | (refine And.intro (fun hif => ?_) (fun hif => ?_) <;> try (first | contradiction | (exfalso; omega))) | ((first | refine xT fun K hK => ?_ | refine xU fun K hK => ?_ | refine yB (fun K hK => ?_) (fun K hK => ?_) | refine xV ?_ | refine yA ?_ | refine xW ?_ | refine xX ?_ | refine xY ?_ | refine xZ ?_) <;> simp only [↓awpOps, ↓awpKeep, ↓awpKeepF, ↓aop, ↓aopQ, ↓abin, ↓aun, ↓onSome_some, ↓Kont_at, ↓KM_at, ↓KV_at, ↓KU_at, refId_row, Frame.ev, Frame.evs, Frame.evOr, Frame.put, Frame.keep, get_nil, get_cons, argFrame, resOf, fillA, Vals.len, Vals.get, Vals.set, Vals.app, Vals.sub, Vals.take, Vals.ofAgg_cons, Vals.ofList, Vals.toInts, Vals.toBools, Vals.toSls, Vals.toStrs, Vals.zeros, Nat.reduceBEq, Nat.reduceAdd, Nat.reduceEqDiff, cond_true, cond_false, Option.map_some, Option.map_none, List.length_cons, List.length_nil, List.replicate, List.set_cons_zero, List.set_cons_succ, Nat.reduceLT, Bool.not_true, Bool.not_false, Int.toNat_natCast, inR, Nat.zero_add, Int.toNat_zero, reduceCtorEq, IntKind.bits, List.nil_append, List.cons_append, Nat.add_zero, Nat.sub_zero, noughts_len, List.map_cons, List.map_nil, zp, zu]) | refine And.intro ?_ (fun hif => (hif trivial).elim) | (intro hif; try (first | contradiction | (exfalso; omega))))
      all_goals
        refine ⟨_, rfl, hg, hg.wf, [⟨ref', off', row.length⟩], obj_new _ _ rfl hn0 (by simp), rfl, fun i hi => ?_⟩
        have hi0 : i = 0 := by simpa using hi
        subst hi0
        exact (ht.grow0 hg).mono (Nat.le_refl _) (by simp)
    · have cH := cH.no hH
      have e : searchH net (qOf net) 0 row came = [] := by rw [searchH, if_neg (by rw [decide_eq_false hH]; exact Bool.noConfusion)]
      rw [e]
      repeat' (first | refine xA ?_ | refine xB ?_ | refine xC ?_ | refine xD ?_ | refine xE ?_ | refine xF ?_ | refine xG ?_ | refine xH ?_ | refine xI rfl ?_ | refine xJ ?_ | refine xK ?_ | refine xL ?_ | refine xM rfl ?_ | refine xN rfl ?_ | refine xO rfl ?_ | (first | refine xP rfl (fun hif => ?_) (fun hif => ?_) | refine xQ rfl (fun hif => ?_) (fun hif => ?_) | refine xR rfl (fun hif => ?_) (fun hif => ?_) | refine xS rfl (fun hif => ?_) (fun hif => ?_)) <;> try (first | contradiction | (exfalso; omega)) | (refine hK _ _ ?_; clear hK K) | refine AQuiet.call cH trivial ?_ | (refine And.intro (by first | omega | assumption | (constructor <;> omega)) ?_) | (refine And.intro (fun hif => ?_) (fun hif => ?_) <;> try (first | contradiction | (exfalso; omega))) | ((first | refine xT fun K hK => ?_ | refine xU fun K hK => ?_ | refine yB (fun K hK => ?_) (fun K hK => ?_) | refine xV ?_ | refine yA ?_ | refine xW ?_ | refine xX ?_ | refine xY ?_ | refine xZ ?_) <;> simp only [↓awpOps, ↓awpKeep, ↓awpKeepF, ↓aop, ↓aopQ, ↓abin, ↓aun, ↓onSome_some, ↓Kont_at, ↓KM_at, ↓KV_at, ↓KU_at, refId_row, Frame.ev, Frame.evs, Frame.evOr, Frame.put, Frame.keep, get_nil, get_cons, argFrame, resOf, fillA, Vals.len, Vals.get, Vals.set, Vals.app, Vals.sub, Vals.take, Vals.ofAgg_cons, Vals.ofList, Vals.toInts, Vals.toBools, Vals.toSls, Vals.toStrs, Vals.zeros, Nat.reduceBEq, Nat.reduceAdd, Nat.reduceEqDiff, cond_true, cond_false, Option.map_some, Option.map_none, List.length_cons, List.length_nil, List.replicate, List.set_cons_zero, List.set_cons_succ, Nat.reduceLT, Bool.not_true, Bool.not_false, Int.toNat_natCast, inR, Nat.zero_add, Int.toNat_zero, reduceCtorEq, IntKind.bits, List.nil_append, List.cons_append, Nat.add_zero, Nat.sub_zero, noughts_len, List.map_cons, List.map_nil, zp, zu]) | refine And.intro ?_ (fun hif => (hif trivial).elim) | (intro hif; try (first | contradiction | (exfalso; omega))))
      all_goals exact ⟨_, rfl, Grow.push hwf _ _ _, (lhacc_new hwf).held hn0⟩
  | succ rem ih =>
    intro row came s t m n0 hwf hs ht hn0 hl hrow hc
    have hsnet := hs
    obtain ⟨ref, off, len⟩ := s
    obtain rfl : len = net.length := hs.1
    have htl := ht.len
    obtain ⟨ref', off', len'⟩ := t
    obtain rfl : len' = row.length := htl
    have hp16 := pow16 (rem := rem) (by omega)
    refine afn T.spec_l7Rows (by rfl) ?_
    repeat' (first | refine xA ?_ | refine xB ?_ | refine xC ?_ | refine xD ?_ | refine xE ?_ | refine xF ?_ | refine xG ?_ | refine xH ?_ | refine xI rfl ?_ | refine xJ ?_ | refine xK ?_ | refine xL ?_ | refine xM rfl ?_ | refine xN rfl ?_ | refine xO rfl ?_ | (first | refine xP rfl (fun hif => ?_) (fun hif => ?_) | refine xQ rfl (fun hif => ?_) (fun hif => ?_) | refine xR rfl (fun hif => ?_) (fun hif => ?_) | refine xS rfl (fun hif => ?_) (fun hif => ?_)) <;> try (first | contradiction | (exfalso; omega)) | (refine hK _ _ ?_; clear hK K) | (refine spec_l1Wires_g hs hN fun s1 m1 hg1 hL => ?_; obtain ⟨sref, soff, slen⟩ := s1; obtain rfl : slen = qOf net := hL.len) | (refine And.intro (by first | omega | assumption | (constructor <;> omega)) ?_) | (refine And.intro (fun hif => ?_) (fun hif => ?_) <;> try (first | contradiction | (exfalso; omega))) | ((first | refine xT fun K hK => ?_ | refine xU fun K hK => ?_ | refine yB (fun K hK => ?_) (fun K hK => ?_) | refine xV ?_ | refine yA ?_ | refine xW ?_ | refine xX ?_ | refine xY ?_ | refine xZ ?_) <;> simp only [↓awpOps, ↓awpKeep, ↓awpKeepF, ↓aop, ↓aopQ, ↓abin, ↓aun, ↓onSome_some, ↓Kont_at, ↓KM_at, ↓KV_at, ↓KU_at, refId_row, Frame.ev, Frame.evs, Frame.evOr, Frame.put, Frame.keep, get_nil, get_cons, argFrame, resOf, fillA, Vals.len, Vals.get, Vals.set, Vals.app, Vals.sub, Vals.take, Vals.ofAgg_cons, Vals.ofList, Vals.toInts, Vals.toBools, Vals.toSls, Vals.toStrs, Vals.zeros, Nat.reduceBEq, Nat.reduceAdd, Nat.reduceEqDiff, cond_true, cond_false, Option.map_some, Option.map_none, List.length_cons, List.length_nil, List.replicate, List.set_cons_zero, List.set_cons_succ, Nat.reduceLT, Bool.not_true, Bool.not_false, Int.toNat_natCast, inR, Nat.zero_add, Int.toNat_zero, reduceCtorEq, IntKind.bits, List.nil_append, List.cons_append, Nat.add_zero, Nat.sub_zero, noughts_len, List.map_cons, List.map_nil, zp, zu]) | refine And.intro ?_ (fun hif => (hif trivial).elim) | (intro hif; try (first | contradiction | (exfalso; omega))))
    have hg0 := Grow.push hg1.wf Ty.Sl_int true (.sls [])
    have hle1 := hg1.le
    have hp1 := hg1.pre0
    refine awp_loop ?_
    refine ALoop.by [0, 1, 2, 7, 8, 9] (fun a : Nat × SV × Heap => [(0, .one (.sl ⟨ref, off, net.length⟩)), (1, .one (.sl ⟨ref', off', row.length⟩)), (2, .one (.int .i64 came)), (7, .one (.int .i64 (qOf net))), (8, .one (.sl a.2.1)), (9, .one (.int .i64 a.1))]) (fun a => a.2.2) (fun a => a.1 ≤ qOf net ∧ m1 <+: a.2.2 ∧ Grow m1.length (m1.length + 1) m1 a.2.2 ∧ LHAcc m1.length a.2.2 a.2.1 (searchToH net (qOf net) rem row came a.1)) (fun a => qOf net - a.1) (0, _, _) rfl rfl ⟨Nat.zero_le _, prefix_push _ _, hg0.any _ _, lhacc_new hg1.wf⟩ ?_
    rintro ⟨n, so, mo⟩ ⟨hn, hpo, hgo, hao⟩ K1 hK1
    simp only at hn hpo hgo hao
    by_cases hlt : n < qOf net
    · have hso := hs.pre (hp1.trans hpo)
      have hto := (ht.grow0 hg1).grow hgo (.inl hle1)
      have hsucc := searchToH_succ net (qOf net) rem row came n
      have hle := hpo.length_le
      have hlo := hao.lt
      have he1 := Grow.push hgo.wf Ty.int true (.ints .i64 [])
      have hA1 := acc_new hgo.wf Ty.int (.ints .i64 []) (n := 0) rfl
      repeat' (first | refine xA ?_ | refine xB ?_ | refine xC ?_ | refine xD ?_ | refine xE ?_ | refine xF ?_ | refine xG ?_ | refine xH ?_ | refine xI rfl ?_ | refine xJ ?_ | refine xK ?_ | refine xL ?_ | refine xM rfl ?_ | refine xN rfl ?_ | refine xO rfl ?_ | (first | refine xP rfl (fun hif => ?_) (fun hif => ?_) | refine xQ rfl (fun hif => ?_) (fun hif => ?_) | refine xR rfl (fun hif => ?_) (fun hif => ?_) | refine xS rfl (fun hif => ?_) (fun hif => ?_)) <;> try (first | contradiction | (exfalso; omega)) | (refine hK _ _ ?_; clear hK K) | refine app_obj he1.wf hA1 (fun c => by cases c) (hto.grow0 he1) (by simp only [Vals.len, List.length_nil]; omega) (by simp [Vals.app]; rfl) fun s3 m3 hp3 hg3 hA3 hne3 => ?_ | (refine And.intro (by first | omega | assumption | (constructor <;> omega)) ?_) | (refine And.intro (fun hif => ?_) (fun hif => ?_) <;> try (first | contradiction | (exfalso; omega))) | ((first | refine xT fun K hK => ?_ | refine xU fun K hK => ?_ | refine yB (fun K hK => ?_) (fun K hK => ?_) | refine xV ?_ | refine yA ?_ | refine xW ?_ | refine xX ?_ | refine xY ?_ | refine xZ ?_) <;> simp only [↓awpOps, ↓awpKeep, ↓awpKeepF, ↓aop, ↓aopQ, ↓abin, ↓aun, ↓onSome_some, ↓Kont_at, ↓KM_at, ↓KV_at, ↓KU_at, refId_row, Frame.ev, Frame.evs, Frame.evOr, Frame.put, Frame.keep, get_nil, get_cons, argFrame, resOf, fillA, Vals.len, Vals.get, Vals.set, Vals.app, Vals.sub, Vals.take, Vals.ofAgg_cons, Vals.ofList, Vals.toInts, Vals.toBools, Vals.toSls, Vals.toStrs, Vals.zeros, Nat.reduceBEq, Nat.reduceAdd, Nat.reduceEqDiff, cond_true, cond_false, Option.map_some, Option.map_none, List.length_cons, List.length_nil, List.replicate, List.set_cons_zero, List.set_cons_succ, Nat.reduceLT, Bool.not_true, Bool.not_false, Int.toNat_natCast, inR, Nat.zero_add, Int.toNat_zero, reduceCtorEq, IntKind.bits, List.nil_append, List.cons_append, Nat.add_zero, Nat.sub_zero, noughts_len, List.map_cons, List.map_nil, zp, zu]) | refine And.intro ?_ (fun hif => (hif trivial).elim) | (intro hif; try (first | contradiction | (exfalso; omega))))
      have hb3 := Grow.push hg3.wf Ty.int true (.ints .i64 [(n : Int)])
      have hp3' := hp3.length_le
      rw [List.length_append, List.length_cons, List.length_nil] at hp3'
      have hA3' := hA3.grow0 hb3 (by omega)
      have hO3 : Obj Ty.int 0 (m3.length + 1) (m3 ++ [⟨Ty.int, m3.length, true, .ints .i64 [(n : Int)]⟩]) ⟨.row m3.length, 0, 1⟩ (.ints .i64 [(n : Int)]) := obj_new _ _ rfl (Nat.zero_le _) (Nat.lt_succ_self _)
      have hstep : stepH net (qOf net) rem row came n = if (runH net (qOf net) row (n : Int) came (decide (twice (row ++ [(n : Int)]) ≤ mayT net)) row.length).2 = true then searchH net (qOf net) rem (row ++ [(n : Int)]) (runH net (qOf net) row (n : Int) came (decide (twice (row ++ [(n : Int)]) ≤ mayT net)) row.length).1 else [] := rfl
      obtain ⟨P, hP⟩ : ∃ P : Nat → Nat × Bool, P = runH net (qOf net) row (n : Int) came (decide (twice (row ++ [(n : Int)]) ≤ mayT net)) := ⟨_, rfl⟩
      have hP0 : P 0 = (came, decide (twice (row ++ [(n : Int)]) ≤ mayT net)) := by rw [hP]; rfl
      have hPs : ∀ k, P (k + 1) = if bit ((net.getD row.length 0)) k = true then ((P k).1 ||| 2 ^ rs (qOf net) ((row.getD k 0)) n, (P k).2 && !((P k).1.testBit (rs (qOf net) ((row.getD k 0)) n))) else P k := fun k => by rw [hP, runH]
      have hPl : ∀ k, (P k).1 < 32768 := fun k => by rw [hP]; exact runH_lt net hq hq15 row n hc _ k
      rw [← hP] at hstep
      clear hP
      repeat' (first | refine xA ?_ | refine xB ?_ | refine xC ?_ | refine xD ?_ | refine xE ?_ | refine xF ?_ | refine xG ?_ | refine xH ?_ | refine xI rfl ?_ | refine xJ ?_ | refine xK ?_ | refine xL ?_ | refine xM rfl ?_ | refine xN rfl ?_ | refine xO rfl ?_ | (first | refine xP rfl (fun hif => ?_) (fun hif => ?_) | refine xQ rfl (fun hif => ?_) (fun hif => ?_) | refine xR rfl (fun hif => ?_) (fun hif => ?_) | refine xS rfl (fun hif => ?_) (fun hif => ?_)) <;> try (first | contradiction | (exfalso; omega)) | (refine hK _ _ ?_; clear hK K) | (refine app_obj hb3.wf hA3' hne3 hO3 (by simp only [Vals.len, List.length_cons, List.length_nil]; omega) (by simp [Vals.app]; rfl) fun s4 m4 hp4 hg4 hA4 hne4 => ?_; have hG4 : Grow 0 0 mo m4 := grow00 ((prefix_push _ _).trans (hp3.trans ((prefix_push _ _).trans hp4))) ((he1.any mo.length m4.length).trans ((hg3.mono (Nat.le_refl _) (by have := hp4.length_le; simp at this; omega)).trans ((hb3.any mo.length m4.length).trans (hg4.mono (Nat.le_refl _) (by have := hp4.length_le; simp at this; omega))))); have cT := spec_l7Twice _ (row ++ [(n : Int)]) m4 (hA4.obj (Nat.le_refl _) (Nat.lt_succ_self _)).isInts (by rw [List.length_append, List.length_cons, List.length_nil]; omega); have cM := spec_l7May _ net m4 (hso.pre hG4.pre0)) | refine AQuiet.call cT trivial ?_ | refine AQuiet.call cM trivial ?_ | (refine And.intro (by first | omega | assumption | (constructor <;> omega)) ?_) | (refine And.intro (fun hif => ?_) (fun hif => ?_) <;> try (first | contradiction | (exfalso; omega))) | ((first | refine xT fun K hK => ?_ | refine xU fun K hK => ?_ | refine yB (fun K hK => ?_) (fun K hK => ?_) | refine xV ?_ | refine yA ?_ | refine xW ?_ | refine xX ?_ | refine xY ?_ | refine xZ ?_) <;> simp only [↓awpOps, ↓awpKeep, ↓awpKeepF, ↓aop, ↓aopQ, ↓abin, ↓aun, ↓onSome_some, ↓Kont_at, ↓KM_at, ↓KV_at, ↓KU_at, refId_row, Frame.ev, Frame.evs, Frame.evOr, Frame.put, Frame.keep, get_nil, get_cons, argFrame, resOf, fillA, Vals.len, Vals.get, Vals.set, Vals.app, Vals.sub, Vals.take, Vals.ofAgg_cons, Vals.ofList, Vals.toInts, Vals.toBools, Vals.toSls, Vals.toStrs, Vals.zeros, Nat.reduceBEq, Nat.reduceAdd, Nat.reduceEqDiff, cond_true, cond_false, Option.map_some, Option.map_none, List.length_cons, List.length_nil, List.replicate, List.set_cons_zero, List.set_cons_succ, Nat.reduceLT, Bool.not_true, Bool.not_false, Int.toNat_natCast, inR, Nat.zero_add, Int.toNat_zero, reduceCtorEq, IntKind.bits, List.nil_append, List.cons_append, Nat.add_zero, Nat.sub_zero, noughts_len, List.map_cons, List.map_nil, zp, zu]) | refine And.intro ?_ (fun hif => (hif trivial).elim) | (intro hif; try (first | contradiction | (exfalso; omega))))
      have hp4' := hp4.length_le
      rw [List.length_append, List.length_cons, List.length_nil] at hp4'
      have hso4 := hso.pre hG4.pre0
      have hto4 := (hto.grow0 hG4).isInts
      refine awp_loop ?_
      refine ALoop.by [0, 1, 2, 7, 8, 9, 10, 11, 12, 13] (fun k : Nat => [(0, .one (.sl ⟨ref, off, net.length⟩)), (1, .one (.sl ⟨ref', off', row.length⟩)), (2, .one (.int .i64 came)), (7, .one (.int .i64 (qOf net))), (8, .one (.sl so)), (9, .one (.int .i64 n)), (10, .one (.sl s4)), (11, .one (.int .i64 ((P k).1 : Int))), (12, .one (.bool (P k).2)), (13, .one (.int .i64 k))]) (fun _ => m4) (fun k => k ≤ row.length) (fun k => row.length - k) 0 (by rw [hP0]; rfl) rfl (Nat.zero_le _) ?_
      rintro k hk K2 hK2
      by_cases hkl : k < row.length
      · have hnx := hso4.2 row.length (by omega)
        have hrx := hto4.2 k hkl
        have hsx := hN.small (show row.length < net.length by omega)
        have hsh : (net.getD row.length 0) / 2 ^ k % 2 = if bit ((net.getD row.length 0)) k then 1 else 0 := shr_bit hsx.1
        have hnn : 0 ≤ (net.getD row.length 0) / 2 ^ k := Int.ediv_nonneg hsx.1 (by have := (pow_bounds (p := k) (by omega)).1; omega)
        have hpk := pow_bounds (p := k) (by omega)
        have hst := hPs k
        have hlw := hPl k
        cases hb : bit ((net.getD row.length 0)) k with
        | false =>
          rw [hb, if_neg (by exact Bool.noConfusion)] at hsh hst
          repeat' (first | refine xA ?_ | refine xB ?_ | refine xC ?_ | refine xD ?_ | refine xE ?_ | refine xF ?_ | refine xG ?_ | refine xH ?_ | refine xI rfl ?_ | refine xJ ?_ | refine xK ?_ | refine xL ?_ | refine xM rfl ?_ | refine xN rfl ?_ | refine xO rfl ?_ | (first | refine xP rfl (fun hif => ?_) (fun hif => ?_) | refine xQ rfl (fun hif => ?_) (fun hif => ?_) | refine xR rfl (fun hif => ?_) (fun hif => ?_) | refine xS rfl (fun hif => ?_) (fun hif => ?_)) <;> try (first | contradiction | (exfalso; omega)) | (refine hK _ _ ?_; clear hK K) | refine onSome_of hnx ?_ | (refine And.intro (by first | omega | assumption | (constructor <;> omega)) ?_) | (refine And.intro (fun hif => ?_) (fun hif => ?_) <;> try (first | contradiction | (exfalso; omega))) | ((first | refine xT fun K hK => ?_ | refine xU fun K hK => ?_ | refine yB (fun K hK => ?_) (fun K hK => ?_) | refine xV ?_ | refine yA ?_ | refine xW ?_ | refine xX ?_ | refine xY ?_ | refine xZ ?_) <;> simp only [↓awpOps, ↓awpKeep, ↓awpKeepF, ↓aop, ↓aopQ, ↓abin, ↓aun, ↓onSome_some, ↓Kont_at, ↓KM_at, ↓KV_at, ↓KU_at, refId_row, Frame.ev, Frame.evs, Frame.evOr, Frame.put, Frame.keep, get_nil, get_cons, argFrame, resOf, fillA, Vals.len, Vals.get, Vals.set, Vals.app, Vals.sub, Vals.take, Vals.ofAgg_cons, Vals.ofList, Vals.toInts, Vals.toBools, Vals.toSls, Vals.toStrs, Vals.zeros, Nat.reduceBEq, Nat.reduceAdd, Nat.reduceEqDiff, cond_true, cond_false, Option.map_some, Option.map_none, List.length_cons, List.length_nil, List.replicate, List.set_cons_zero, List.set_cons_succ, Nat.reduceLT, Bool.not_true, Bool.not_false, Int.toNat_natCast, inR, Nat.zero_add, Int.toNat_zero, reduceCtorEq, IntKind.bits, List.nil_append, List.cons_append, Nat.add_zero, Nat.sub_zero, noughts_len, List.map_cons, List.map_nil, zp, zu]) | refine And.intro ?_ (fun hif => (hif trivial).elim) | (intro hif; try (first | contradiction | (exfalso; omega))))
          all_goals exact hK2 (k + 1) _ _ (by rw [hst]; rfl) rfl (by omega) (by omega)
        | true =>
          rw [hb, if_pos rfl] at hsh hst
          have hrs := rs_nat hq ((row.getD k 0)) n
          have hrl := rs_lt hq ((row.getD k 0)) n
          have hrsd : rs (qOf net) ((row.getD k 0)) n = (((row.getD k 0) + (n : Int)) % (qOf net : Int)).toNat := rfl
          have hd := hrow k hkl
          have hsh2 : ((P k).1 : Int) / 2 ^ (((row.getD k 0) + (n : Int)) % (qOf net : Int)).toNat % 2 = if bit ((P k).1 : Int) (((row.getD k 0) + (n : Int)) % (qOf net : Int)).toNat then 1 else 0 := shr_bit (by omega)
          rw [bit_nat] at hsh2
          have hpb := pow_bounds (p := (((row.getD k 0) + (n : Int)) % (qOf net : Int)).toNat) (by omega)
          have hnn2 : 0 ≤ ((P k).1 : Int) / 2 ^ (((row.getD k 0) + (n : Int)) % (qOf net : Int)).toNat := Int.ediv_nonneg (by omega) (by omega)
          have hbor : borInt .i64 ((P k).1 : Int) ((2 : Int) ^ (((row.getD k 0) + (n : Int)) % (qOf net : Int)).toNat) = (((P k).1 ||| 2 ^ (((row.getD k 0) + (n : Int)) % (qOf net : Int)).toNat : Nat) : Int) := by
            have hpw : ((2 : Int) ^ (((row.getD k 0) + (n : Int)) % (qOf net : Int)).toNat) = ((2 ^ (((row.getD k 0) + (n : Int)) % (qOf net : Int)).toNat : Nat) : Int) := by simp
            rw [hpw] at hpb ⊢
            exact bor_nat _ _ (by omega) (by omega)
          rw [hrsd] at hst hrs hrl
          have h1 : ((P (k + 1)).1 : Int) = borInt .i64 ((P k).1 : Int) ((2 : Int) ^ (((row.getD k 0) + (n : Int)) % (qOf net : Int)).toNat) := by rw [hst, hbor]
          cases ho : (P k).2 with
          | false =>
            have h2 : (P (k + 1)).2 = false := by rw [hst]; simp only [ho, Bool.false_and]
            repeat' (first | refine xA ?_ | refine xB ?_ | refine xC ?_ | refine xD ?_ | refine xE ?_ | refine xF ?_ | refine xG ?_ | refine xH ?_ | refine xI rfl ?_ | refine xJ ?_ | refine xK ?_ | refine xL ?_ | refine xM rfl ?_ | refine xN rfl ?_ | refine xO rfl ?_ | (first | refine xP rfl (fun hif => ?_) (fun hif => ?_) | refine xQ rfl (fun hif => ?_) (fun hif => ?_) | refine xR rfl (fun hif => ?_) (fun hif => ?_) | refine xS rfl (fun hif => ?_) (fun hif => ?_)) <;> try (first | contradiction | (exfalso; omega)) | (refine hK _ _ ?_; clear hK K) | refine onSome_of hnx ?_ | refine onSome_of hrx ?_ | (refine And.intro (by first | omega | assumption | (constructor <;> omega)) ?_) | (refine And.intro (fun hif => ?_) (fun hif => ?_) <;> try (first | contradiction | (exfalso; omega))) | ((first | refine xT fun K hK => ?_ | refine xU fun K hK => ?_ | refine yB (fun K hK => ?_) (fun K hK => ?_) | refine xV ?_ | refine yA ?_ | refine xW ?_ | refine xX ?_ | refine xY ?_ | refine xZ ?_) <;> simp only [↓awpOps, ↓awpKeep, ↓awpKeepF, ↓aop, ↓aopQ, ↓abin, ↓aun, ↓onSome_some, ↓Kont_at, ↓KM_at, ↓KV_at, ↓KU_at, refId_row, Frame.ev, Frame.evs, Frame.evOr, Frame.put, Frame.keep, get_nil, get_cons, argFrame, resOf, fillA, Vals.len, Vals.get, Vals.set, Vals.app, Vals.sub, Vals.take, Vals.ofAgg_cons, Vals.ofList, Vals.toInts, Vals.toBools, Vals.toSls, Vals.toStrs, Vals.zeros, Nat.reduceBEq, Nat.reduceAdd, Nat.reduceEqDiff, cond_true, cond_false, Option.map_some, Option.map_none, List.length_cons, List.length_nil, List.replicate, List.set_cons_zero, List.set_cons_succ, Nat.reduceLT, Bool.not_true, Bool.not_false, Int.toNat_natCast, inR, Nat.zero_add, Int.toNat_zero, reduceCtorEq, IntKind.bits, List.nil_append, List.cons_append, Nat.add_zero, Nat.sub_zero, noughts_len, List.map_cons, List.map_nil, zp, zu]) | refine And.intro ?_ (fun hif => (hif trivial).elim) | (intro hif; try (first | contradiction | (exfalso; omega))))
            all_goals exact hK2 (k + 1) _ _ (by rw [h1, h2]; rfl) rfl (by omega) (by omega)
          | true =>
            cases htb : (P k).1.testBit (((row.getD k 0) + (n : Int)) % (qOf net : Int)).toNat with
            | true =>
              have h2 : (P (k + 1)).2 = false := by rw [hst]; simp only [ho, htb, Bool.not_true, Bool.and_false]
              rw [htb, if_pos rfl] at hsh2
              have h3 : (P (k + 1)).2 = decide (((P k).1 : Int) / 2 ^ (((row.getD k 0) + (n : Int)) % (qOf net : Int)).toNat % 2 = 0) := by rw [h2, hsh2]; rfl
              repeat' (first | refine xA ?_ | refine xB ?_ | refine xC ?_ | refine xD ?_ | refine xE ?_ | refine xF ?_ | refine xG ?_ | refine xH ?_ | refine xI rfl ?_ | refine xJ ?_ | refine xK ?_ | refine xL ?_ | refine xM rfl ?_ | refine xN rfl ?_ | refine xO rfl ?_ | (first | refine xP rfl (fun hif => ?_) (fun hif => ?_) | refine xQ rfl (fun hif => ?_) (fun hif => ?_) | refine xR rfl (fun hif => ?_) (fun hif => ?_) | refine xS rfl (fun hif => ?_) (fun hif => ?_)) <;> try (first | contradiction | (exfalso; omega)) | (refine hK _ _ ?_; clear hK K) | refine onSome_of hnx ?_ | refine onSome_of hrx ?_ | (refine And.intro (by first | omega | assumption | (constructor <;> omega)) ?_) | (refine And.intro (fun hif => ?_) (fun hif => ?_) <;> try (first | contradiction | (exfalso; omega))) | ((first | refine xT fun K hK => ?_ | refine xU fun K hK => ?_ | refine yB (fun K hK => ?_) (fun K hK => ?_) | refine xV ?_ | refine yA ?_ | refine xW ?_ | refine xX ?_ | refine xY ?_ | refine xZ ?_) <;> simp only [↓awpOps, ↓awpKeep, ↓awpKeepF, ↓aop, ↓aopQ, ↓abin, ↓aun, ↓onSome_some, ↓Kont_at, ↓KM_at, ↓KV_at, ↓KU_at, refId_row, Frame.ev, Frame.evs, Frame.evOr, Frame.put, Frame.keep, get_nil, get_cons, argFrame, resOf, fillA, Vals.len, Vals.get, Vals.set, Vals.app, Vals.sub, Vals.take, Vals.ofAgg_cons, Vals.ofList, Vals.toInts, Vals.toBools, Vals.toSls, Vals.toStrs, Vals.zeros, Nat.reduceBEq, Nat.reduceAdd, Nat.reduceEqDiff, cond_true, cond_false, Option.map_some, Option.map_none, List.length_cons, List.length_nil, List.replicate, List.set_cons_zero, List.set_cons_succ, Nat.reduceLT, Bool.not_true, Bool.not_false, Int.toNat_natCast, inR, Nat.zero_add, Int.toNat_zero, reduceCtorEq, IntKind.bits, List.nil_append, List.cons_append, Nat.add_zero, Nat.sub_zero, noughts_len, List.map_cons, List.map_nil, zp, zu]) | refine And.intro ?_ (fun hif => (hif trivial).elim) | (intro hif; try (first | contradiction | (exfalso; omega))))
              all_goals exact hK2 (k + 1) _ _ (by rw [h1, h3]; rfl) rfl (by omega) (by omega)
            | false =>
              have h2 : (P (k + 1)).2 = true := by rw [hst]; simp only [ho, htb, Bool.not_false, Bool.and_true]
              rw [htb, if_neg (by exact Bool.noConfusion)] at hsh2
              have h3 : (P (k + 1)).2 = decide (((P k).1 : Int) / 2 ^ (((row.getD k 0) + (n : Int)) % (qOf net : Int)).toNat % 2 = 0) := by rw [h2, hsh2]; rfl
              repeat' (first | refine xA ?_ | refine xB ?_ | refine xC ?_ | refine xD ?_ | refine xE ?_ | refine xF ?_ | refine xG ?_ | refine xH ?_ | refine xI rfl ?_ | refine xJ ?_ | refine xK ?_ | refine xL ?_ | refine xM rfl ?_ | refine xN rfl ?_ | refine xO rfl ?_ | (first | refine xP rfl (fun hif => ?_) (fun hif => ?_) | refine xQ rfl (fun hif => ?_) (fun hif => ?_) | refine xR rfl (fun hif => ?_) (fun hif => ?_) | refine xS rfl (fun hif => ?_) (fun hif => ?_)) <;> try (first | contradiction | (exfalso; omega)) | (refine hK _ _ ?_; clear hK K) | refine onSome_of hnx ?_ | refine onSome_of hrx ?_ | (refine And.intro (by first | omega | assumption | (constructor <;> omega)) ?_) | (refine And.intro (fun hif => ?_) (fun hif => ?_) <;> try (first | contradiction | (exfalso; omega))) | ((first | refine xT fun K hK => ?_ | refine xU fun K hK => ?_ | refine yB (fun K hK => ?_) (fun K hK => ?_) | refine xV ?_ | refine yA ?_ | refine xW ?_ | refine xX ?_ | refine xY ?_ | refine xZ ?_) <;> simp only [↓awpOps, ↓awpKeep, ↓awpKeepF, ↓aop, ↓aopQ, ↓abin, ↓aun, ↓onSome_some, ↓Kont_at, ↓KM_at, ↓KV_at, ↓KU_at, refId_row, Frame.ev, Frame.evs, Frame.evOr, Frame.put, Frame.keep, get_nil, get_cons, argFrame, resOf, fillA, Vals.len, Vals.get, Vals.set, Vals.app, Vals.sub, Vals.take, Vals.ofAgg_cons, Vals.ofList, Vals.toInts, Vals.toBools, Vals.toSls, Vals.toStrs, Vals.zeros, Nat.reduceBEq, Nat.reduceAdd, Nat.reduceEqDiff, cond_true, cond_false, Option.map_some, Option.map_none, List.length_cons, List.length_nil, List.replicate, List.set_cons_zero, List.set_cons_succ, Nat.reduceLT, Bool.not_true, Bool.not_false, Int.toNat_natCast, inR, Nat.zero_add, Int.toNat_zero, reduceCtorEq, IntKind.bits, List.nil_append, List.cons_append, Nat.add_zero, Nat.sub_zero, noughts_len, List.map_cons, List.map_nil, zp, zu]) | refine And.intro ?_ (fun hif => (hif trivial).elim) | (intro hif; try (first | contradiction | (exfalso; omega))))
              all_goals exact hK2 (k + 1) _ _ (by rw [h1, h3]; rfl) rfl (by omega) (by omega)
      · obtain rfl : k = row.length := by omega
        have hnext : ∀ mm, m1 <+: mo → Grow 0 0 mo mm → m1 <+: mm := fun mm h g => h.trans g.pre0
        cases hok : (P row.length).2 with
        | false =>
          rw [hok, if_neg (by exact Bool.noConfusion)] at hstep
          rw [hstep, List.append_nil] at hsucc
          repeat' (first | refine xA ?_ | refine xB ?_ | refine xC ?_ | refine xD ?_ | refine xE ?_ | refine xF ?_ | refine xG ?_ | refine xH ?_ | refine xI rfl ?_ | refine xJ ?_ | refine xK ?_ | refine xL ?_ | refine xM rfl ?_ | refine xN rfl ?_ | refine xO rfl ?_ | (first | refine xP rfl (fun hif => ?_) (fun hif => ?_) | refine xQ rfl (fun hif => ?_) (fun hif => ?_) | refine xR rfl (fun hif => ?_) (fun hif => ?_) | refine xS rfl (fun hif => ?_) (fun hif => ?_)) <;> try (first | contradiction | (exfalso; omega)) | (refine hK _ _ ?_; clear hK K) | (refine And.intro (by first | omega | assumption | (constructor <;> omega)) ?_) | (refine And.intro (fun hif => ?_) (fun hif => ?_) <;> try (first | contradiction | (exfalso; omega))) | ((first | refine xT fun K hK => ?_ | refine xU fun K hK => ?_ | refine yB (fun K hK => ?_) (fun K hK => ?_) | refine xV ?_ | refine yA ?_ | refine xW ?_ | refine xX ?_ | refine xY ?_ | refine xZ ?_) <;> simp only [↓awpOps, ↓awpKeep, ↓awpKeepF, ↓aop, ↓aopQ, ↓abin, ↓aun, ↓onSome_some, ↓Kont_at, ↓KM_at, ↓KV_at, ↓KU_at, refId_row, Frame.ev, Frame.evs, Frame.evOr, Frame.put, Frame.keep, get_nil, get_cons, argFrame, resOf, fillA, Vals.len, Vals.get, Vals.set, Vals.app, Vals.sub, Vals.take, Vals.ofAgg_cons, Vals.ofList, Vals.toInts, Vals.toBools, Vals.toSls, Vals.toStrs, Vals.zeros, Nat.reduceBEq, Nat.reduceAdd, Nat.reduceEqDiff, cond_true, cond_false, Option.map_some, Option.map_none, List.length_cons, List.length_nil, List.replicate, List.set_cons_zero, List.set_cons_succ, Nat.reduceLT, Bool.not_true, Bool.not_false, Int.toNat_natCast, inR, Nat.zero_add, Int.toNat_zero, reduceCtorEq, IntKind.bits, List.nil_append, List.cons_append, Nat.add_zero, Nat.sub_zero, noughts_len, List.map_cons, List.map_nil, zp, zu]) | refine And.intro ?_ (fun hif => (hif trivial).elim) | (intro hif; try (first | contradiction | (exfalso; omega))))
          all_goals exact hK1 (n + 1, so, m4) _ _ rfl rfl ⟨by simp only; omega, hpo.trans hG4.pre0, hgo.trans (hG4.any _ _), by simp only; rw [hsucc]; exact hao.grow0 hG4⟩ (by simp only; omega)
        | true =>
          rw [hok, if_pos rfl] at hstep
          rw [hstep] at hsucc
          have hsl := searchH_len net hq15 rem (row ++ [(n : Int)]) (P row.length).1
          have hstl := searchToH_len net hq15 rem row came n
          have hst2 : n * 16 ^ rem ≤ 16 * 16777216 := Nat.mul_le_mul (by omega) hp16
          have hrow' : ∀ i, i < (row ++ [(n : Int)]).length → 0 ≤ ((row ++ [(n : Int)]).getD i 0) ∧ ((row ++ [(n : Int)]).getD i 0) ≤ 15 := fun i hi => by
            rw [List.length_append, List.length_cons, List.length_nil] at hi
            rcases Nat.lt_succ_iff_lt_or_eq.1 hi with e | rfl
            · rw [push_l _ _ e]; exact hrow i e
            · rw [push_at]; omega
          have hih := ih (row ++ [(n : Int)]) (P row.length).1 ⟨ref, off, net.length⟩ s4 m4 (m1.length + 1) hG4.wf hso4 (hA4.obj (by omega) (by omega)) (by omega) (by rw [List.length_append, List.length_cons, List.length_nil]; omega) hrow' (hPl _)
          generalize searchH net (qOf net) rem (row ++ [(n : Int)]) (P row.length).1 = R5 at *
          repeat' (first | refine xA ?_ | refine xB ?_ | refine xC ?_ | refine xD ?_ | refine xE ?_ | refine xF ?_ | refine xG ?_ | refine xH ?_ | refine xI rfl ?_ | refine xJ ?_ | refine xK ?_ | refine xL ?_ | refine xM rfl ?_ | refine xN rfl ?_ | refine xO rfl ?_ | (first | refine xP rfl (fun hif => ?_) (fun hif => ?_) | refine xQ rfl (fun hif => ?_) (fun hif => ?_) | refine xR rfl (fun hif => ?_) (fun hif => ?_) | refine xS rfl (fun hif => ?_) (fun hif => ?_)) <;> try (first | contradiction | (exfalso; omega)) | (refine hK _ _ ?_; clear hK K) | (refine ACalls.mono hih ?_; rintro x m5 ⟨s5, rfl, hg5, hh5⟩; have hao5 := (hao.grow0 hG4).grow0 hg5) | refine app_held hao5 hh5 (by omega) fun s6 m6 hp6 hg6 hA6 => ?_ | (refine And.intro (by first | omega | assumption | (constructor <;> omega)) ?_) | (refine And.intro (fun hif => ?_) (fun hif => ?_) <;> try (first | contradiction | (exfalso; omega))) | ((first | refine xT fun K hK => ?_ | refine xU fun K hK => ?_ | refine yB (fun K hK => ?_) (fun K hK => ?_) | refine xV ?_ | refine yA ?_ | refine xW ?_ | refine xX ?_ | refine xY ?_ | refine xZ ?_) <;> simp only [↓awpOps, ↓awpKeep, ↓awpKeepF, ↓aop, ↓aopQ, ↓abin, ↓aun, ↓onSome_some, ↓Kont_at, ↓KM_at, ↓KV_at, ↓KU_at, refId_row, Frame.ev, Frame.evs, Frame.evOr, Frame.put, Frame.keep, get_nil, get_cons, argFrame, resOf, fillA, Vals.len, Vals.get, Vals.set, Vals.app, Vals.sub, Vals.take, Vals.ofAgg_cons, Vals.ofList, Vals.toInts, Vals.toBools, Vals.toSls, Vals.toStrs, Vals.zeros, Nat.reduceBEq, Nat.reduceAdd, Nat.reduceEqDiff, cond_true, cond_false, Option.map_some, Option.map_none, List.length_cons, List.length_nil, List.replicate, List.set_cons_zero, List.set_cons_succ, Nat.reduceLT, Bool.not_true, Bool.not_false, Int.toNat_natCast, inR, Nat.zero_add, Int.toNat_zero, reduceCtorEq, IntKind.bits, List.nil_append, List.cons_append, Nat.add_zero, Nat.sub_zero, noughts_len, List.map_cons, List.map_nil, zp, zu]) | refine And.intro ?_ (fun hif => (hif trivial).elim) | (intro hif; try (first | contradiction | (exfalso; omega))))
          all_goals exact hK1 (n + 1, s6, m6) _ _ rfl rfl ⟨by simp only; omega, hpo.trans (hG4.pre0.trans (hg5.pre0.trans hp6)), hgo.trans ((hG4.any _ _).trans ((hg5.any _ _).trans hg6)), by simp only; rw [hsucc]; exact hA6⟩ (by simp only; omega)
    · obtain rfl : n = qOf net := by omega
      repeat' (first | refine xA ?_ | refine xB ?_ | refine xC ?_ | refine xD ?_ | refine xE ?_ | refine xF ?_ | refine xG ?_ | refine xH ?_ | refine xI rfl ?_ | refine xJ ?_ | refine xK ?_ | refine xL ?_ | refine xM rfl ?_ | refine xN rfl ?_ | refine xO rfl ?_ | (first | refine xP rfl (fun hif => ?_) (fun hif => ?_) | refine xQ rfl (fun hif => ?_) (fun hif => ?_) | refine xR rfl (fun hif => ?_) (fun hif => ?_) | refine xS rfl (fun hif => ?_) (fun hif => ?_)) <;> try (first | contradiction | (exfalso; omega)) | (refine hK _ _ ?_; clear hK K) | (refine And.intro (by first | omega | assumption | (constructor <;> omega)) ?_) | (refine And.intro (fun hif => ?_) (fun hif => ?_) <;> try (first | contradiction | (exfalso; omega))) | ((first | refine xT fun K hK => ?_ | refine xU fun K hK => ?_ | refine yB (fun K hK => ?_) (fun K hK => ?_) | refine xV ?_ | refine yA ?_ | refine xW ?_ | refine xX ?_ | refine xY ?_ | refine xZ ?_) <;> simp only [↓awpOps, ↓awpKeep, ↓awpKeepF, ↓aop, ↓aopQ, ↓abin, ↓aun, ↓onSome_some, ↓Kont_at, ↓KM_at, ↓KV_at, ↓KU_at, refId_row, Frame.ev, Frame.evs, Frame.evOr, Frame.put, Frame.keep, get_nil, get_cons, argFrame, resOf, fillA, Vals.len, Vals.get, Vals.set, Vals.app, Vals.sub, Vals.take, Vals.ofAgg_cons, Vals.ofList, Vals.toInts, Vals.toBools, Vals.toSls, Vals.toStrs, Vals.zeros, Nat.reduceBEq, Nat.reduceAdd, Nat.reduceEqDiff, cond_true, cond_false, Option.map_some, Option.map_none, List.length_cons, List.length_nil, List.replicate, List.set_cons_zero, List.set_cons_succ, Nat.reduceLT, Bool.not_true, Bool.not_false, Int.toNat_natCast, inR, Nat.zero_add, Int.toNat_zero, reduceCtorEq, IntKind.bits, List.nil_append, List.cons_append, Nat.add_zero, Nat.sub_zero, noughts_len, List.map_cons, List.map_nil, zp, zu]) | refine And.intro ?_ (fun hif => (hif trivial).elim) | (intro hif; try (first | contradiction | (exfalso; omega))))
      rw [searchH_to]
      exact ⟨_, rfl, hg1.trans (grow00 hpo (hgo.mono (Nat.le_refl _) (by have := hao.lt; omega))), hao.held (by omega)⟩

theorem harmRows_len (net : List Int) : (harmRows net).length ≤ 16777216 := by
  by_cases hN : NetOk net
  · by_cases hq : 0 < qOf net
    · rw [harmRows_search hN hq]
      exact Nat.le_trans (searchH_len net (qOf_le hN) _ _ _) (pow16 hN.six)
    · rw [harmRows, if_neg fun h => hq h.2]; simp
  · rw [harmRows, if_neg fun h => hN h.1]; simp
noncomputable def harmMany (net : List Int) : Int := if NetOk net then ((harmRows net).length : Int) else -1

end Go.Abs
