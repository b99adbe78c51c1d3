/- Sides in the program. Own work; no condition. -/
import Derived.Test.YtbbmppbeignjpaaPart4
set_option maxRecDepth 100000
set_option linter.unusedSimpArgs false
set_option linter.unusedVariables false
namespace Go.Abs
open Go.Proofs
attribute [local irreducible] awp awpOps awpKeep KeepK awpKeepF KeepF aloop ALoop ACalls ACallq AQuiet retPost retPostA AExit.thn AExit.blk aApp aSt aStA
open Parts

theorem sdi_step (N f left d : Nat) (h : sdi N f left d ≠ 1000) : (left = 0 ∧ sdi N f left d = d) ∨ (left ≠ 0 ∧ ∃ f' R, f = f' + 1 ∧ R = wv N 5 (least left) 0 (least left) ∧ R < 4096 ∧
    ((Nat.land (near N (R % 64)) (R % 64) = 0 ∧ Nat.land (near N (R / 64)) (R / 64) = 0 ∧ sdi N f left d = sdi N f' (less left (Nat.lor (R % 64) (R / 64))) (Nat.lor d (R % 64))) ∨
     ((Nat.land (near N (R % 64)) (R % 64) ≠ 0 ∨ Nat.land (near N (R % 64)) (R % 64) = 0 ∧ Nat.land (near N (R / 64)) (R / 64) ≠ 0) ∧ sdi N f left d = 777))) := by
  cases f with
  | zero =>
    have e : sdi N 0 left d = bif Nat.beq left 0 then d else 1000 := rfl
    rw [e] at h ⊢
    cases left with
    | zero => exact .inl ⟨rfl, rfl⟩
    | succ l => exact absurd rfl h
  | succ f =>
    have e : sdi N (f + 1) left d = bif Nat.beq left 0 then d else frc (least left) fun s => frc (wv N 5 s 0 s) fun R => bif Nat.ble 4096 R then 1000 else
      frc (Nat.mod R 64) fun e => frc (Nat.div R 64) fun o => bif Nat.beq (Nat.land (near N e) e) 0 then (bif Nat.beq (Nat.land (near N o) o) 0 then frc (less left (Nat.lor e o)) fun left1 => sdi N f left1 (Nat.lor d e) else 777) else 777 := rfl
    simp only [frc_eq] at e
    rw [e] at h ⊢
    cases left with
    | zero => exact .inl ⟨rfl, rfl⟩
    | succ l =>
      refine .inr ⟨Nat.succ_ne_zero l, f, _, rfl, rfl, ?_⟩
      rw [show Nat.beq (l + 1) 0 = false from rfl] at h ⊢
      simp only [cond_false] at h ⊢
      generalize wv N 5 (least (l + 1)) 0 (least (l + 1)) = R at h ⊢
      have em : Nat.mod R 64 = R % 64 := rfl
      have ed : Nat.div R 64 = R / 64 := rfl
      rw [em, ed] at h ⊢
      cases hb : Nat.ble 4096 R with
      | true => rw [hb] at h; exact absurd rfl h
      | false =>
        refine ⟨?_, ?_⟩
        · rcases Nat.lt_or_ge R 4096 with h1 | h1
          · exact h1
          · rw [Nat.ble_eq_true_of_le h1] at hb; cases hb
        · simp only [cond_false]
          cases h1 : Nat.beq (Nat.land (near N (R % 64)) (R % 64)) 0 with
          | false => exact .inr ⟨.inl fun c => (by rw [c] at h1; exact Bool.noConfusion h1), rfl⟩
          | true =>
            cases h2 : Nat.beq (Nat.land (near N (R / 64)) (R / 64)) 0 with
            | false => exact .inr ⟨.inr ⟨Nat.eq_of_beq_eq_true h1, fun c => (by rw [c] at h2; exact Bool.noConfusion h2)⟩, rfl⟩
            | true => exact .inl ⟨Nat.eq_of_beq_eq_true h1, Nat.eq_of_beq_eq_true h2, rfl⟩

/-- One side of a net; -1 if there is none. -/
noncomputable def sidesOf (net : List Int) : Int := if NetOk net then (if sdi (pk net) 6 (2 ^ net.length - 1) 0 = 777 then -1 else (sdi (pk net) 6 (2 ^ net.length - 1) 0 : Nat)) else -1

theorem land_int_zero {x y : Nat} (h : x < 64) (h' : y < 64) : (bandInt .i64 (x : Int) (y : Int) ≠ 0) ↔ Nat.land x y ≠ 0 := by
  rw [band_land h h']
  omega

theorem impl_SidesOf (s : SV) (net : List Int) (m : Heap) (hs : IsInts .i64 m s net) : AQuiet Try.prog F.impl_SidesOf [.one (.sl s)] m (.one (.int .i64 (sidesOf net))) := by
  by_cases hN : NetOk net
  · obtain ⟨ref, off, len⟩ := s
    obtain rfl : len = net.length := hs.1
    have h6 := hN.six
    have q7 := (fact_use (all_fact hN)).2.2.2.2.2.2.1
    rw [sidesOf, if_pos hN]
    have hfl := full_lt h6
    have hfi := full_int h6
    have hD0 : sdi (pk net) 6 (2 ^ net.length - 1) 0 = 777 ∨ sdi (pk net) 6 (2 ^ net.length - 1) 0 < 64 := by
      rcases q7 with e | ⟨_, e, _⟩
      · exact .inl e
      · exact .inr (by omega)
    clear q7
    generalize hD : sdi (pk net) 6 (2 ^ net.length - 1) 0 = D at hD0
    have hap := impl_allPlaces net.length (by omega)
    rw [hfi] at hap
    generalize hF : 2 ^ net.length - 1 = full at hfl hD hap
    refine aqn T.impl_SidesOf (by rfl) ?_
    repeat' (first | refine xA ?_ | refine xB ?_ | refine xC ?_ | refine xD ?_ | refine xE ?_ | refine xF ?_ | refine xG ?_ | refine xH ?_ | refine xI rfl ?_ | refine xJ ?_ | refine xK ?_ | refine xL ?_ | refine xM rfl ?_ | refine xN rfl ?_ | refine xO rfl ?_ | (first | refine xP rfl (fun hif => ?_) (fun hif => ?_) | refine xQ rfl (fun hif => ?_) (fun hif => ?_) | refine xR rfl (fun hif => ?_) (fun hif => ?_) | refine xS rfl (fun hif => ?_) (fun hif => ?_)) <;> try (first | contradiction | (exfalso; omega)) | (refine hK _ _ ?_; clear hK K) | refine AQuiet.call (impl_NetOk_b true hs (decide_eq_true hN)) trivial ?_ | refine AQuiet.call (hap _) trivial ?_ | (refine And.intro (by first | omega | assumption | (constructor <;> omega)) ?_) | (refine And.intro (fun hif => ?_) (fun hif => ?_) <;> try (first | contradiction | (exfalso; omega))) | ((first | refine xT fun K hK => ?_ | refine xU fun K hK => ?_ | refine yB (fun K hK => ?_) (fun K hK => ?_) | refine xV ?_ | refine yA ?_ | refine xW ?_ | refine xX ?_ | refine xY ?_ | refine xZ ?_) <;> simp only [↓awpOps, ↓awpKeep, ↓awpKeepF, ↓aop, ↓aopQ, ↓abin, ↓aun, ↓onSome_some, ↓Kont_at, ↓KM_at, ↓KV_at, ↓KU_at, refId_row, Frame.ev, Frame.evs, Frame.evOr, Frame.put, Frame.keep, get_nil, get_cons, argFrame, resOf, fillA, Vals.len, Vals.get, Vals.set, Vals.app, Vals.sub, Vals.take, Vals.ofAgg_cons, Vals.ofList, Vals.toInts, Vals.toBools, Vals.toSls, Vals.toStrs, Vals.zeros, Nat.reduceBEq, Nat.reduceAdd, Nat.reduceEqDiff, cond_true, cond_false, Option.map_some, Option.map_none, List.length_cons, List.length_nil, List.replicate, List.set_cons_zero, List.set_cons_succ, Nat.reduceLT, Bool.not_true, Bool.not_false, Int.toNat_natCast, inR, Nat.zero_add, Int.toNat_zero, reduceCtorEq, IntKind.bits, List.nil_append, List.cons_append, Nat.add_zero, Nat.sub_zero, noughts_len, List.map_cons, List.map_nil, zp, zu]) | refine And.intro ?_ (fun hif => (hif trivial).elim) | (intro hif; try (first | contradiction | (exfalso; omega))))
    refine awp_loop ?_
    refine ALoop.by [0, 3, 4] (fun a : Nat × Nat × Nat × Heap => [(0, .one (.sl ⟨ref, off, net.length⟩)), (3, .one (.int .i64 a.1)), (4, .one (.int .i64 a.2.1))]) (fun a => a.2.2.2) (fun a => a.1 < 64 ∧ a.2.1 < 64 ∧ sdi (pk net) a.2.2.1 a.2.1 a.1 = D ∧ m <+: a.2.2.2) (fun a => a.2.2.1) (0, full, 6, m) rfl rfl ⟨by show 0 < 64; decide, hfl, hD, List.prefix_rfl⟩ ?_
    rintro ⟨d, left, f, m1⟩ ⟨hd, hl, hp, hm⟩ K1 hK1
    simp only at hd hl hp hm
    clear hD hap
    rcases sdi_step (pk net) f left d (by omega) with ⟨h0, e⟩ | ⟨h0, f', R, rfl, hRR, hR, hc⟩
    · subst h0
      obtain rfl : D = d := by omega
      rw [if_neg (by omega)]
      repeat' (first | refine xA ?_ | refine xB ?_ | refine xC ?_ | refine xD ?_ | refine xE ?_ | refine xF ?_ | refine xG ?_ | refine xH ?_ | refine xI rfl ?_ | refine xJ ?_ | refine xK ?_ | refine xL ?_ | refine xM rfl ?_ | refine xN rfl ?_ | refine xO rfl ?_ | (first | refine xP rfl (fun hif => ?_) (fun hif => ?_) | refine xQ rfl (fun hif => ?_) (fun hif => ?_) | refine xR rfl (fun hif => ?_) (fun hif => ?_) | refine xS rfl (fun hif => ?_) (fun hif => ?_)) <;> try (first | contradiction | (exfalso; omega)) | (refine hK _ _ ?_; clear hK K) | (refine And.intro (by first | omega | assumption | (constructor <;> omega)) ?_) | (refine And.intro (fun hif => ?_) (fun hif => ?_) <;> try (first | contradiction | (exfalso; omega))) | ((first | refine xT fun K hK => ?_ | refine xU fun K hK => ?_ | refine yB (fun K hK => ?_) (fun K hK => ?_) | refine xV ?_ | refine yA ?_ | refine xW ?_ | refine xX ?_ | refine xY ?_ | refine xZ ?_) <;> simp only [↓awpOps, ↓awpKeep, ↓awpKeepF, ↓aop, ↓aopQ, ↓abin, ↓aun, ↓onSome_some, ↓Kont_at, ↓KM_at, ↓KV_at, ↓KU_at, refId_row, Frame.ev, Frame.evs, Frame.evOr, Frame.put, Frame.keep, get_nil, get_cons, argFrame, resOf, fillA, Vals.len, Vals.get, Vals.set, Vals.app, Vals.sub, Vals.take, Vals.ofAgg_cons, Vals.ofList, Vals.toInts, Vals.toBools, Vals.toSls, Vals.toStrs, Vals.zeros, Nat.reduceBEq, Nat.reduceAdd, Nat.reduceEqDiff, cond_true, cond_false, Option.map_some, Option.map_none, List.length_cons, List.length_nil, List.replicate, List.set_cons_zero, List.set_cons_succ, Nat.reduceLT, Bool.not_true, Bool.not_false, Int.toNat_natCast, inR, Nat.zero_add, Int.toNat_zero, reduceCtorEq, IntKind.bits, List.nil_append, List.cons_append, Nat.add_zero, Nat.sub_zero, noughts_len, List.map_cons, List.map_nil, zp, zu]) | refine And.intro ?_ (fun hif => (hif trivial).elim) | (intro hif; try (first | contradiction | (exfalso; omega))))
      all_goals first | exact ⟨rfl, hm⟩ | exact hm
    · have hll := (least_int left hl).2
      have hWv : ∀ _ : Unit, wv (pk net) 5 (least left) 0 (least left) = R := fun _ => hRR.symm
      clear hRR
      have r1 : R % 64 < 64 := Nat.mod_lt _ (by decide)
      have r2 : R / 64 < 64 := by omega
      have b1 := bor_lor r1 r2
      have b2 := bor_lor hd r1
      have l1 := lor_lt r1 r2
      have l3 := lor_lt hd r1
      have d1 := bandNot_less hl l1
      have l2 := less_lt (Nat.lor (R % 64) (R / 64)) hl
      have n1 : near (pk net) (R % 64) < 64 := by rw [near_pk hN r1]; exact nearTo_lt hN _ _
      have n2 : near (pk net) (R / 64) < 64 := by rw [near_pk hN r2]; exact nearTo_lt hN _ _
      have z1 := land_int_zero n1 r1
      have z2 := land_int_zero n2 r2
      have w1 := fun mm h => impl_nearSet ⟨ref, off, net.length⟩ net (R % 64) mm h hN r1
      have w2 := fun mm h => impl_nearSet ⟨ref, off, net.length⟩ net (R / 64) mm h hN r2
      generalize near (pk net) (R % 64) = Z1 at n1 z1 w1 hc
      generalize near (pk net) (R / 64) = Z2 at n2 z2 w2 hc
      rcases hc with ⟨c1, c2, e⟩ | ⟨c1, e⟩
      · rw [hp] at e
        have hSd : ∀ _ : Unit, sdi (pk net) f' (less left (Nat.lor (R % 64) (R / 64))) (Nat.lor d (R % 64)) = D := fun _ => e.symm
        clear e hp
        have y1 := Decidable.not_not.1 fun c => z1.1 c c1
        have y2 := Decidable.not_not.1 fun c => z2.1 c c2
        clear c1 c2 z1 z2
        repeat' (first | refine xA ?_ | refine xB ?_ | refine xC ?_ | refine xD ?_ | refine xE ?_ | refine xF ?_ | refine xG ?_ | refine xH ?_ | refine xI rfl ?_ | refine xJ ?_ | refine xK ?_ | refine xL ?_ | refine xM rfl ?_ | refine xN rfl ?_ | refine xO rfl ?_ | (first | refine xP rfl (fun hif => ?_) (fun hif => ?_) | refine xQ rfl (fun hif => ?_) (fun hif => ?_) | refine xR rfl (fun hif => ?_) (fun hif => ?_) | refine xS rfl (fun hif => ?_) (fun hif => ?_)) <;> try (first | contradiction | (exfalso; omega)) | (refine hK _ _ ?_; clear hK K) | refine AQuiet.call (impl_leastOf left hl _) trivial ?_ | refine impl_wavesFrom (hs.pre hm) hN hll (hWv ()) hR fun m2 hm2 hw2 => ?_ | refine AQuiet.call (w1 _ (hs.pre (hm.trans hm2))) trivial ?_ | refine AQuiet.call (w2 _ (hs.pre (hm.trans hm2))) trivial ?_ | rw [y1] | rw [y2] | rw [b1] | rw [d1] | rw [b2] | (refine And.intro (by first | omega | assumption | (constructor <;> omega)) ?_) | (refine And.intro (fun hif => ?_) (fun hif => ?_) <;> try (first | contradiction | (exfalso; omega))) | ((first | refine xT fun K hK => ?_ | refine xU fun K hK => ?_ | refine yB (fun K hK => ?_) (fun K hK => ?_) | refine xV ?_ | refine yA ?_ | refine xW ?_ | refine xX ?_ | refine xY ?_ | refine xZ ?_) <;> simp only [↓awpOps, ↓awpKeep, ↓awpKeepF, ↓aop, ↓aopQ, ↓abin, ↓aun, ↓onSome_some, ↓Kont_at, ↓KM_at, ↓KV_at, ↓KU_at, refId_row, Frame.ev, Frame.evs, Frame.evOr, Frame.put, Frame.keep, get_nil, get_cons, argFrame, resOf, fillA, Vals.len, Vals.get, Vals.set, Vals.app, Vals.sub, Vals.take, Vals.ofAgg_cons, Vals.ofList, Vals.toInts, Vals.toBools, Vals.toSls, Vals.toStrs, Vals.zeros, Nat.reduceBEq, Nat.reduceAdd, Nat.reduceEqDiff, cond_true, cond_false, Option.map_some, Option.map_none, List.length_cons, List.length_nil, List.replicate, List.set_cons_zero, List.set_cons_succ, Nat.reduceLT, Bool.not_true, Bool.not_false, Int.toNat_natCast, inR, Nat.zero_add, Int.toNat_zero, reduceCtorEq, IntKind.bits, List.nil_append, List.cons_append, Nat.add_zero, Nat.sub_zero, noughts_len, List.map_cons, List.map_nil, zp, zu]) | refine And.intro ?_ (fun hif => (hif trivial).elim) | (intro hif; try (first | contradiction | (exfalso; omega))))
        all_goals exact hK1 (Nat.lor d (R % 64), less left (Nat.lor (R % 64) (R / 64)), f', m2) _ _ rfl rfl ⟨l3, l2, hSd (), hm.trans hm2⟩ (Nat.lt_succ_self _)
      · rw [if_pos (by omega)]
        clear e hp
        rcases c1 with c1 | ⟨c1, c2⟩
        · have y1 := z1.2 c1
          clear c1 z1 z2
          repeat' (first | refine xA ?_ | refine xB ?_ | refine xC ?_ | refine xD ?_ | refine xE ?_ | refine xF ?_ | refine xG ?_ | refine xH ?_ | refine xI rfl ?_ | refine xJ ?_ | refine xK ?_ | refine xL ?_ | refine xM rfl ?_ | refine xN rfl ?_ | refine xO rfl ?_ | (first | refine xP rfl (fun hif => ?_) (fun hif => ?_) | refine xQ rfl (fun hif => ?_) (fun hif => ?_) | refine xR rfl (fun hif => ?_) (fun hif => ?_) | refine xS rfl (fun hif => ?_) (fun hif => ?_)) <;> try (first | contradiction | (exfalso; omega)) | (refine hK _ _ ?_; clear hK K) | refine AQuiet.call (impl_leastOf left hl _) trivial ?_ | refine impl_wavesFrom (hs.pre hm) hN hll (hWv ()) hR fun m2 hm2 hw2 => ?_ | refine AQuiet.call (w1 _ (hs.pre (hm.trans hm2))) trivial ?_ | refine AQuiet.call (w2 _ (hs.pre (hm.trans hm2))) trivial ?_ | (refine And.intro (by first | omega | assumption | (constructor <;> omega)) ?_) | (refine And.intro (fun hif => ?_) (fun hif => ?_) <;> try (first | contradiction | (exfalso; omega))) | ((first | refine xT fun K hK => ?_ | refine xU fun K hK => ?_ | refine yB (fun K hK => ?_) (fun K hK => ?_) | refine xV ?_ | refine yA ?_ | refine xW ?_ | refine xX ?_ | refine xY ?_ | refine xZ ?_) <;> simp only [↓awpOps, ↓awpKeep, ↓awpKeepF, ↓aop, ↓aopQ, ↓abin, ↓aun, ↓onSome_some, ↓Kont_at, ↓KM_at, ↓KV_at, ↓KU_at, refId_row, Frame.ev, Frame.evs, Frame.evOr, Frame.put, Frame.keep, get_nil, get_cons, argFrame, resOf, fillA, Vals.len, Vals.get, Vals.set, Vals.app, Vals.sub, Vals.take, Vals.ofAgg_cons, Vals.ofList, Vals.toInts, Vals.toBools, Vals.toSls, Vals.toStrs, Vals.zeros, Nat.reduceBEq, Nat.reduceAdd, Nat.reduceEqDiff, cond_true, cond_false, Option.map_some, Option.map_none, List.length_cons, List.length_nil, List.replicate, List.set_cons_zero, List.set_cons_succ, Nat.reduceLT, Bool.not_true, Bool.not_false, Int.toNat_natCast, inR, Nat.zero_add, Int.toNat_zero, reduceCtorEq, IntKind.bits, List.nil_append, List.cons_append, Nat.add_zero, Nat.sub_zero, noughts_len, List.map_cons, List.map_nil, zp, zu]) | refine And.intro ?_ (fun hif => (hif trivial).elim) | (intro hif; try (first | contradiction | (exfalso; omega))))
          all_goals first | exact ⟨rfl, hm.trans hm2⟩ | exact hm.trans hm2
        · have y1 := Decidable.not_not.1 fun c => z1.1 c c1
          have y2 := z2.2 c2
          clear c1 c2 z1 z2
          repeat' (first | refine xA ?_ | refine xB ?_ | refine xC ?_ | refine xD ?_ | refine xE ?_ | refine xF ?_ | refine xG ?_ | refine xH ?_ | refine xI rfl ?_ | refine xJ ?_ | refine xK ?_ | refine xL ?_ | refine xM rfl ?_ | refine xN rfl ?_ | refine xO rfl ?_ | (first | refine xP rfl (fun hif => ?_) (fun hif => ?_) | refine xQ rfl (fun hif => ?_) (fun hif => ?_) | refine xR rfl (fun hif => ?_) (fun hif => ?_) | refine xS rfl (fun hif => ?_) (fun hif => ?_)) <;> try (first | contradiction | (exfalso; omega)) | (refine hK _ _ ?_; clear hK K) | refine AQuiet.call (impl_leastOf left hl _) trivial ?_ | refine impl_wavesFrom (hs.pre hm) hN hll (hWv ()) hR fun m2 hm2 hw2 => ?_ | refine AQuiet.call (w1 _ (hs.pre (hm.trans hm2))) trivial ?_ | refine AQuiet.call (w2 _ (hs.pre (hm.trans hm2))) trivial ?_ | (refine And.intro (by first | omega | assumption | (constructor <;> omega)) ?_) | (refine And.intro (fun hif => ?_) (fun hif => ?_) <;> try (first | contradiction | (exfalso; omega))) | ((first | refine xT fun K hK => ?_ | refine xU fun K hK => ?_ | refine yB (fun K hK => ?_) (fun K hK => ?_) | refine xV ?_ | refine yA ?_ | refine xW ?_ | refine xX ?_ | refine xY ?_ | refine xZ ?_) <;> simp only [↓awpOps, ↓awpKeep, ↓awpKeepF, ↓aop, ↓aopQ, ↓abin, ↓aun, ↓onSome_some, ↓Kont_at, ↓KM_at, ↓KV_at, ↓KU_at, refId_row, Frame.ev, Frame.evs, Frame.evOr, Frame.put, Frame.keep, get_nil, get_cons, argFrame, resOf, fillA, Vals.len, Vals.get, Vals.set, Vals.app, Vals.sub, Vals.take, Vals.ofAgg_cons, Vals.ofList, Vals.toInts, Vals.toBools, Vals.toSls, Vals.toStrs, Vals.zeros, Nat.reduceBEq, Nat.reduceAdd, Nat.reduceEqDiff, cond_true, cond_false, Option.map_some, Option.map_none, List.length_cons, List.length_nil, List.replicate, List.set_cons_zero, List.set_cons_succ, Nat.reduceLT, Bool.not_true, Bool.not_false, Int.toNat_natCast, inR, Nat.zero_add, Int.toNat_zero, reduceCtorEq, IntKind.bits, List.nil_append, List.cons_append, Nat.add_zero, Nat.sub_zero, noughts_len, List.map_cons, List.map_nil, zp, zu]) | refine And.intro ?_ (fun hif => (hif trivial).elim) | (intro hif; try (first | contradiction | (exfalso; omega))))
          all_goals first | exact ⟨rfl, hm.trans hm2⟩ | exact hm.trans hm2
  · rw [sidesOf, if_neg hN]
    refine aqn T.impl_SidesOf (by rfl) ?_
    repeat' (first | refine xA ?_ | refine xB ?_ | refine xC ?_ | refine xD ?_ | refine xE ?_ | refine xF ?_ | refine xG ?_ | refine xH ?_ | refine xI rfl ?_ | refine xJ ?_ | refine xK ?_ | refine xL ?_ | refine xM rfl ?_ | refine xN rfl ?_ | refine xO rfl ?_ | (first | refine xP rfl (fun hif => ?_) (fun hif => ?_) | refine xQ rfl (fun hif => ?_) (fun hif => ?_) | refine xR rfl (fun hif => ?_) (fun hif => ?_) | refine xS rfl (fun hif => ?_) (fun hif => ?_)) <;> try (first | contradiction | (exfalso; omega)) | (refine hK _ _ ?_; clear hK K) | refine AQuiet.call (impl_NetOk_b false hs (decide_eq_false hN)) trivial ?_ | (refine And.intro (by first | omega | assumption | (constructor <;> omega)) ?_) | (refine And.intro (fun hif => ?_) (fun hif => ?_) <;> try (first | contradiction | (exfalso; omega))) | ((first | refine xT fun K hK => ?_ | refine xU fun K hK => ?_ | refine yB (fun K hK => ?_) (fun K hK => ?_) | refine xV ?_ | refine yA ?_ | refine xW ?_ | refine xX ?_ | refine xY ?_ | refine xZ ?_) <;> simp only [↓awpOps, ↓awpKeep, ↓awpKeepF, ↓aop, ↓aopQ, ↓abin, ↓aun, ↓onSome_some, ↓Kont_at, ↓KM_at, ↓KV_at, ↓KU_at, refId_row, Frame.ev, Frame.evs, Frame.evOr, Frame.put, Frame.keep, get_nil, get_cons, argFrame, resOf, fillA, Vals.len, Vals.get, Vals.set, Vals.app, Vals.sub, Vals.take, Vals.ofAgg_cons, Vals.ofList, Vals.toInts, Vals.toBools, Vals.toSls, Vals.toStrs, Vals.zeros, Nat.reduceBEq, Nat.reduceAdd, Nat.reduceEqDiff, cond_true, cond_false, Option.map_some, Option.map_none, List.length_cons, List.length_nil, List.replicate, List.set_cons_zero, List.set_cons_succ, Nat.reduceLT, Bool.not_true, Bool.not_false, Int.toNat_natCast, inR, Nat.zero_add, Int.toNat_zero, reduceCtorEq, IntKind.bits, List.nil_append, List.cons_append, Nat.add_zero, Nat.sub_zero, noughts_len, List.map_cons, List.map_nil, zp, zu]) | refine And.intro ?_ (fun hif => (hif trivial).elim) | (intro hif; try (first | contradiction | (exfalso; omega))))
    (first | exact List.prefix_rfl | exact ⟨rfl, List.prefix_rfl⟩ | exact ⟨by simp, List.prefix_rfl⟩)

end Go.Abs
