/- laws.FnPairCounts returns true, whatever the input. No condition. -/
import Derived.Test.YtigjlphflaiboaaDrawR1
import Derived.Test.YtigjlphflaiboaaImpl6
import Derived.Test.YtigjlphflaiboaaSpecR2
import Derived.Test.YtigjlphflaiboaaRow
import Derived.Test.YtigjlphflaiboaaIni
set_option maxRecDepth 100000
set_option linter.unusedSimpArgs false
set_option linter.unusedVariables false
namespace Go.Abs
open Go.Proofs
attribute [local irreducible] awp awpOps awpKeep KeepK aloop ALoop ACalls ACallq AQuiet retPost retPostA AExit.thn AExit.blk aApp aSt aStA

theorem farMany_succ (net row : List Int) (ring d : Int) (k : Nat) : farMany net row ring d (k + 1) = farMany net row ring d k + if ((roundDiffs net row ring).getD k 0) = d then 1 else 0 := by
  unfold farMany
  rw [sig_succ]
theorem farMany_le (net row : List Int) (ring d : Int) : ∀ k : Nat, 0 ≤ farMany net row ring d k ∧ farMany net row ring d k ≤ k
  | 0 => ⟨Int.le_refl _, Int.le_refl _⟩
  | k + 1 => by
    have ih := farMany_le net row ring d k
    rw [farMany_succ]
    split <;> omega

set_option maxHeartbeats 8000000 in
theorem laws_FnPairCounts (l : List Int) (sv : SV) (m : Heap) (hwf : m.wf) (hs : IsInts .u8 m sv l) (hw : ∀ z ∈ l, (Lit.int .u8 z).wf = true) (hl : l.length ≤ maxLen) :
    AQuiet Try.prog F.laws_FnPairCounts [.one (.sl sv)] m (.one (.bool true)) := by
  have hlen := hs.1
  have hb := byte_range hw
  by_cases hbig : 1048576 < l.length
  · refine aqn T.laws_FnPairCounts (by rfl) ?_
    repeat' (first | refine xA ?_ | refine xB ?_ | refine xC ?_ | refine xD ?_ | refine xE ?_ | refine xF ?_ | refine xG ?_ | refine xH ?_ | refine xI rfl ?_ | refine xJ ?_ | refine xK ?_ | refine xL ?_ | refine xM rfl ?_ | refine xN rfl ?_ | refine xO rfl ?_ | (first | refine xP rfl (fun hif => ?_) (fun hif => ?_) | refine xQ rfl (fun hif => ?_) (fun hif => ?_) | refine xR rfl (fun hif => ?_) (fun hif => ?_) | refine xS rfl (fun hif => ?_) (fun hif => ?_)) <;> try (first | contradiction | (exfalso; omega)) | (refine hK _ _ ?_; clear hK K) | (refine And.intro (by first | omega | assumption | (constructor <;> omega)) ?_) | (refine And.intro (fun hif => ?_) (fun hif => ?_) <;> try (first | contradiction | (exfalso; omega))) | ((first | refine xT fun K hK => ?_ | refine xU fun K hK => ?_ | refine xV ?_ | refine xW ?_ | refine xX ?_ | refine xY ?_ | refine xZ ?_); simp only [↓awpOps, ↓awpKeep, ↓aop, ↓aopQ, ↓abin, ↓aun, ↓onSome_some, ↓Kont_at, ↓KM_at, ↓KV_at, ↓KU_at, refId_row, Frame.ev, Frame.evs, Frame.evOr, Frame.put, Frame.keep, get_nil, get_cons, argFrame, resOf, fillA, Vals.len, Vals.get, Vals.set, Vals.app, Vals.sub, Vals.take, Vals.ofAgg_cons, Vals.ofList, Vals.toInts, Vals.toBools, Vals.toSls, Vals.toStrs, Vals.zeros, Nat.reduceBEq, Nat.reduceAdd, Nat.reduceEqDiff, cond_true, cond_false, Option.map_some, Option.map_none, List.length_cons, List.length_nil, List.replicate, List.set_cons_zero, List.set_cons_succ, Nat.reduceLT, Bool.not_true, Bool.not_false, Int.toNat_natCast, inR, Nat.zero_add, Int.toNat_zero, reduceCtorEq, IntKind.bits, List.nil_append, List.cons_append, Nat.add_zero, Nat.sub_zero, noughts_len, List.map_cons, List.map_nil, zp, zu]) | refine And.intro ?_ (fun hif => (hif trivial).elim) | (intro hif; try (first | contradiction | (exfalso; omega))))
    (first | exact List.prefix_rfl | exact ⟨rfl, List.prefix_rfl⟩ | exact ⟨by simp, List.prefix_rfl⟩)
  · refine aqn T.laws_FnPairCounts (by rfl) ?_
    repeat' (first | refine xA ?_ | refine xB ?_ | refine xC ?_ | refine xD ?_ | refine xE ?_ | refine xF ?_ | refine xG ?_ | refine xH ?_ | refine xI rfl ?_ | refine xJ ?_ | refine xK ?_ | refine xL ?_ | refine xM rfl ?_ | refine xN rfl ?_ | refine xO rfl ?_ | (first | refine xP rfl (fun hif => ?_) (fun hif => ?_) | refine xQ rfl (fun hif => ?_) (fun hif => ?_) | refine xR rfl (fun hif => ?_) (fun hif => ?_) | refine xS rfl (fun hif => ?_) (fun hif => ?_)) <;> try (first | contradiction | (exfalso; omega)) | (refine hK _ _ ?_; clear hK K) | refine spec_DrawPairCounts hs hb fun s1 s2 m' net row ring hp hw' hN hR h6 h6' hv => ?_ | (refine ARet.call (impl_PairCounts _ _ net row ring _ hN hR) fun t1 m1 g1 o1 => ?_; obtain ⟨tref, toff, tlen⟩ := t1; obtain rfl : tlen = (pairCounts net row ring).length := o1.isInts.1) | refine ARet.call (spec_PairCounts _ _ net row ring _ (hN.pre g1.pre0) (hR.pre g1.pre0)) fun t2 m2 g2 o2 => ?_ | refine AQuiet.call (laws_sameInts_t _ _ _ _ (o1.grow0 g2).isInts o2.isInts (pairCounts_len net row ring)) trivial ?_ | refine AQuiet.call (laws_alive _) trivial ?_ | (refine ARet.call (impl_RoundDifferences _ _ net row ring _ (hN.pre (g1.pre0.trans g2.pre0)) (hR.pre (g1.pre0.trans g2.pre0))) fun t3 m3 g3 o3 => ?_; obtain ⟨fref, foff, flen⟩ := t3; obtain rfl : flen = (roundDiffs net row ring).length := o3.isInts.1) | (refine And.intro (by first | omega | assumption | (constructor <;> omega)) ?_) | (refine And.intro (fun hif => ?_) (fun hif => ?_) <;> try (first | contradiction | (exfalso; omega))) | ((first | refine xT fun K hK => ?_ | refine xU fun K hK => ?_ | refine xV ?_ | refine xW ?_ | refine xX ?_ | refine xY ?_ | refine xZ ?_); simp only [↓awpOps, ↓awpKeep, ↓aop, ↓aopQ, ↓abin, ↓aun, ↓onSome_some, ↓Kont_at, ↓KM_at, ↓KV_at, ↓KU_at, refId_row, Frame.ev, Frame.evs, Frame.evOr, Frame.put, Frame.keep, get_nil, get_cons, argFrame, resOf, fillA, Vals.len, Vals.get, Vals.set, Vals.app, Vals.sub, Vals.take, Vals.ofAgg_cons, Vals.ofList, Vals.toInts, Vals.toBools, Vals.toSls, Vals.toStrs, Vals.zeros, Nat.reduceBEq, Nat.reduceAdd, Nat.reduceEqDiff, cond_true, cond_false, Option.map_some, Option.map_none, List.length_cons, List.length_nil, List.replicate, List.set_cons_zero, List.set_cons_succ, Nat.reduceLT, Bool.not_true, Bool.not_false, Int.toNat_natCast, inR, Nat.zero_add, Int.toNat_zero, reduceCtorEq, IntKind.bits, List.nil_append, List.cons_append, Nat.add_zero, Nat.sub_zero, noughts_len, List.map_cons, List.map_nil, zp, zu]) | refine And.intro ?_ (fun hif => (hif trivial).elim) | (intro hif; try (first | contradiction | (exfalso; omega))))
    · first | exact hp.trans (g1.pre0.trans g2.pre0) | exact ⟨rfl, hp.trans (g1.pre0.trans g2.pre0)⟩
    have hne : ¬ (pairCounts net row ring).length = 0 := by omega
    have hRing : RingOk net row ring := by
      by_cases c : RingOk net row ring
      · exact c
      · rw [pairCounts, if_neg c] at hne; exact absurd rfl hne
    have hp3 := hp.trans ((g1.pre0.trans g2.pre0).trans g3.pre0)
    have hN3 := hN.pre ((g1.pre0.trans g2.pre0).trans g3.pre0)
    have hIL := ((o1.grow0 g2).grow0 g3).isInts
    have hIF := o3.isInts
    have hsz := hRing.size
    have hW := wires_len hRing.low.ok
    have hfl : (roundDiffs net row ring).length = (wires net).length := by rw [roundDiffs, if_pos hRing, perWire_len]
    have htot := pairs_total hRing
    have hwq : wiresOf net = ((wires net).length : Int) := by rw [wiresOf, if_pos hRing.low.ok]
    have cW := impl_WiresOf _ net m3 hN3
    rw [hwq] at cW
    obtain ⟨n, rfl⟩ : ∃ n : Nat, ring = (n : Int) := ⟨ring.toNat, by omega⟩
    obtain ⟨f, hf⟩ : ∃ f : Nat → Nat → Int, f = fun a b : Nat => countP net row (n : Int) (a : Int) (b : Int) := ⟨_, rfl⟩
    have hpc : pairCounts net row (n : Int) = pairsTo f n n := by rw [pairCounts, if_pos hRing, Int.toNat_natCast, ← hf]
    have hfeq : ∀ a b : Nat, a < b → b < n → f a b = (if 2 * min ((b : Int) - a) ((n : Int) - b + a) = (n : Int) then 2 else 1) * farMany net row (n : Int) (min ((b : Int) - a) ((n : Int) - b + a)) (wires net).length := fun a b h1 h2 => by
      rw [hf]
      exact countP_eq hRing (by omega) (by omega) (by omega)
    have hlenL := pairCounts_len net row (n : Int)
    have hll : (pairsTo f n n).length ≤ 961 := Nat.le_trans (pairsTo_len f n n) (Nat.mul_le_mul (show n ≤ 31 by omega) (show n ≤ 31 by omega))
    rw [hpc] at hIL htot
    rw [hpc]
    refine awp_loop ?_
    refine ALoop.by [3, 5, 6, 7, 8, 9, 10] (fun a : Nat => [(3, .one (.sl s1)), (5, .one (.int .i64 (n : Int))), (6, .one (.sl ⟨tref, toff, (pairsTo f n n).length⟩)), (7, .one (.sl ⟨fref, foff, (roundDiffs net row (n : Int)).length⟩)), (8, .one (.int .i64 ((pairsTo f n a).length : Int))), (9, .one (.int .i64 (pairsTo f n a).sum)), (10, .one (.int .i64 a))]) (fun _ => m3) (fun a => a ≤ n ∧ (0 ≤ (pairsTo f n a).sum ∧ (pairsTo f n a).sum ≤ 72 * (pairsTo f n a).length)) (fun a => n - a) 0 rfl rfl ⟨Nat.zero_le _, by simp [pairsTo], by simp [pairsTo]⟩ ?_
    rintro a ⟨ha, hsa, hsb⟩ K1 hK1
    by_cases hal : a < n
    · have haI : (a : Int) < (n : Int) := by omega
      have hto : pairsTo f n (a + 1) = pairsTo f n a ++ pairsIn f a n := rfl
      have hap := (pairsTo_pre f n (show a ≤ n by omega)).length_le
      repeat' (first | refine xA ?_ | refine xB ?_ | refine xC ?_ | refine xD ?_ | refine xE ?_ | refine xF ?_ | refine xG ?_ | refine xH ?_ | refine xI rfl ?_ | refine xJ ?_ | refine xK ?_ | refine xL ?_ | refine xM rfl ?_ | refine xN rfl ?_ | refine xO rfl ?_ | (first | refine xP rfl (fun hif => ?_) (fun hif => ?_) | refine xQ rfl (fun hif => ?_) (fun hif => ?_) | refine xR rfl (fun hif => ?_) (fun hif => ?_) | refine xS rfl (fun hif => ?_) (fun hif => ?_)) <;> try (first | contradiction | (exfalso; omega)) | (refine hK _ _ ?_; clear hK K) | (refine And.intro (by first | omega | assumption | (constructor <;> omega)) ?_) | (refine And.intro (fun hif => ?_) (fun hif => ?_) <;> try (first | contradiction | (exfalso; omega))) | ((first | refine xT fun K hK => ?_ | refine xU fun K hK => ?_ | refine xV ?_ | refine xW ?_ | refine xX ?_ | refine xY ?_ | refine xZ ?_); simp only [↓awpOps, ↓awpKeep, ↓aop, ↓aopQ, ↓abin, ↓aun, ↓onSome_some, ↓Kont_at, ↓KM_at, ↓KV_at, ↓KU_at, refId_row, Frame.ev, Frame.evs, Frame.evOr, Frame.put, Frame.keep, get_nil, get_cons, argFrame, resOf, fillA, Vals.len, Vals.get, Vals.set, Vals.app, Vals.sub, Vals.take, Vals.ofAgg_cons, Vals.ofList, Vals.toInts, Vals.toBools, Vals.toSls, Vals.toStrs, Vals.zeros, Nat.reduceBEq, Nat.reduceAdd, Nat.reduceEqDiff, cond_true, cond_false, Option.map_some, Option.map_none, List.length_cons, List.length_nil, List.replicate, List.set_cons_zero, List.set_cons_succ, Nat.reduceLT, Bool.not_true, Bool.not_false, Int.toNat_natCast, inR, Nat.zero_add, Int.toNat_zero, reduceCtorEq, IntKind.bits, List.nil_append, List.cons_append, Nat.add_zero, Nat.sub_zero, noughts_len, List.map_cons, List.map_nil, zp, zu]) | refine And.intro ?_ (fun hif => (hif trivial).elim) | (intro hif; try (first | contradiction | (exfalso; omega))))
      refine awp_loop ?_
      refine ALoop.by [3, 5, 6, 7, 8, 9, 10, 11] (fun b : Nat => [(3, .one (.sl s1)), (5, .one (.int .i64 (n : Int))), (6, .one (.sl ⟨tref, toff, (pairsTo f n n).length⟩)), (7, .one (.sl ⟨fref, foff, (roundDiffs net row (n : Int)).length⟩)), (8, .one (.int .i64 (((pairsTo f n a).length + (pairsIn f a b).length : Nat) : Int))), (9, .one (.int .i64 ((pairsTo f n a).sum + (pairsIn f a b).sum))), (10, .one (.int .i64 a)), (11, .one (.int .i64 b))]) (fun _ => m3)
        (fun b => (a < b ∧ b ≤ n) ∧ (0 ≤ (pairsIn f a b).sum ∧ (pairsIn f a b).sum ≤ 72 * (pairsIn f a b).length)) (fun b => n - b) (a + 1) (by rw [pairsIn_nil f a (Nat.le_refl _)]; simp only [List.length_nil, List.sum_nil, Int.add_zero, Nat.add_zero]; rfl) rfl ⟨⟨Nat.lt_succ_self _, hal⟩, by rw [pairsIn_nil f a (Nat.le_refl _)]; simp⟩ ?_
      rintro b ⟨⟨hab, hbn⟩, hsc, hsd⟩ K2 hK2
      by_cases hbl : b < n
      · have hbI : (b : Int) < (n : Int) := by omega
        obtain ⟨hi1, hi2⟩ := pairs_get f hab hbl
        have hat := hIL.2 _ hi1
        rw [hi2] at hat
        have hpin : pairsIn f a (b + 1) = pairsIn f a b ++ [f a b] := by rw [pairsIn, if_pos hab]
        have hfe := hfeq a b hab hbl
        have hbd := farMany_le net row (n : Int) (min ((b : Int) - a) ((n : Int) - b + a)) (wires net).length
        have hfd : 0 ≤ f a b ∧ f a b ≤ 72 := by rw [hfe]; split <;> omega
        have hl1 : (pairsIn f a (b + 1)).length = (pairsIn f a b).length + 1 := by rw [hpin, List.length_append]; rfl
        have hs1' : (pairsIn f a (b + 1)).sum = (pairsIn f a b).sum + f a b := by rw [hpin, List.sum_append, List.sum_cons, List.sum_nil, Int.add_zero]
        have hnext : (a < b + 1 ∧ b + 1 ≤ n) ∧ (0 ≤ (pairsIn f a (b + 1)).sum ∧ (pairsIn f a (b + 1)).sum ≤ 72 * (pairsIn f a (b + 1)).length) := ⟨⟨by omega, hbl⟩, by rw [hs1']; omega, by rw [hs1', hl1]; omega⟩
        have hDn : min ((b : Int) - a) ((n : Int) - b + a) ≤ n := by omega
        have hD0 : 0 ≤ min ((b : Int) - a) ((n : Int) - b + a) := by omega
        repeat' (first | refine xA ?_ | refine xB ?_ | refine xC ?_ | refine xD ?_ | refine xE ?_ | refine xF ?_ | refine xG ?_ | refine xH ?_ | refine xI rfl ?_ | refine xJ ?_ | refine xK ?_ | refine xL ?_ | refine xM rfl ?_ | refine xN rfl ?_ | refine xO rfl ?_ | (first | refine xP rfl (fun hif => ?_) (fun hif => ?_) | refine xQ rfl (fun hif => ?_) (fun hif => ?_) | refine xR rfl (fun hif => ?_) (fun hif => ?_) | refine xS rfl (fun hif => ?_) (fun hif => ?_)) <;> try (first | contradiction | (exfalso; omega)) | (refine hK _ _ ?_; clear hK K) | (refine And.intro (by first | omega | assumption | (constructor <;> omega)) ?_) | (refine And.intro (fun hif => ?_) (fun hif => ?_) <;> try (first | contradiction | (exfalso; omega))) | ((first | refine xT fun K hK => ?_ | refine xU fun K hK => ?_ | refine xV ?_ | refine xW ?_ | refine xX ?_ | refine xY ?_ | refine xZ ?_); simp only [↓awpOps, ↓awpKeep, ↓aop, ↓aopQ, ↓abin, ↓aun, ↓onSome_some, ↓Kont_at, ↓KM_at, ↓KV_at, ↓KU_at, refId_row, Frame.ev, Frame.evs, Frame.evOr, Frame.put, Frame.keep, get_nil, get_cons, argFrame, resOf, fillA, Vals.len, Vals.get, Vals.set, Vals.app, Vals.sub, Vals.take, Vals.ofAgg_cons, Vals.ofList, Vals.toInts, Vals.toBools, Vals.toSls, Vals.toStrs, Vals.zeros, Nat.reduceBEq, Nat.reduceAdd, Nat.reduceEqDiff, cond_true, cond_false, Option.map_some, Option.map_none, List.length_cons, List.length_nil, List.replicate, List.set_cons_zero, List.set_cons_succ, Nat.reduceLT, Bool.not_true, Bool.not_false, Int.toNat_natCast, inR, Nat.zero_add, Int.toNat_zero, reduceCtorEq, IntKind.bits, List.nil_append, List.cons_append, Nat.add_zero, Nat.sub_zero, noughts_len, List.map_cons, List.map_nil, zp, zu]) | refine And.intro ?_ (fun hif => (hif trivial).elim) | (intro hif; try (first | contradiction | (exfalso; omega))))
        refine awp_loop ?_
        clear hfeq
        generalize min ((b : Int) - a) ((n : Int) - b + a) = D at *
        obtain ⟨F, hF⟩ : ∃ F : Nat → Int, F = farMany net row (n : Int) D := ⟨_, rfl⟩
        have hFs : ∀ j, F (j + 1) = F j + if (roundDiffs net row (n : Int)).getD j 0 = D then 1 else 0 := fun j => by rw [hF]; exact farMany_succ net row n D j
        have hFb : ∀ j : Nat, 0 ≤ F j ∧ F j ≤ j := fun j => by rw [hF]; exact farMany_le net row n D j
        have hF0 : F 0 = 0 := by rw [hF]; rfl
        rw [← hF] at hfe hbd
        clear hF
        refine ALoop.by [3, 5, 6, 7, 8, 9, 10, 11, 12, 13, 14] (fun j : Nat => [(3, .one (.sl s1)), (5, .one (.int .i64 (n : Int))), (6, .one (.sl ⟨tref, toff, (pairsTo f n n).length⟩)), (7, .one (.sl ⟨fref, foff, (roundDiffs net row (n : Int)).length⟩)), (8, .one (.int .i64 (((pairsTo f n a).length + (pairsIn f a b).length : Nat) : Int))), (9, .one (.int .i64 ((pairsTo f n a).sum + (pairsIn f a b).sum))), (10, .one (.int .i64 a)), (11, .one (.int .i64 b)), (12, .one (.int .i64 D)), (13, .one (.int .i64 (F j))), (14, .one (.int .i64 j))]) (fun _ => m3) (fun j => j ≤ (roundDiffs net row (n : Int)).length) (fun j => (roundDiffs net row (n : Int)).length - j) 0 (by rw [hF0]; rfl) rfl (Nat.zero_le _) ?_
        rintro j hj K3 hK3
        by_cases hjl : j < (roundDiffs net row (n : Int)).length
        · have hatF := hIF.2 j hjl
          have hfs := hFs j
          have hfb := hFb j
          generalize (roundDiffs net row (n : Int)).getD j 0 = z at hatF hfs
          by_cases hz : z = D
          · rw [if_pos hz] at hfs
            repeat' (first | refine xA ?_ | refine xB ?_ | refine xC ?_ | refine xD ?_ | refine xE ?_ | refine xF ?_ | refine xG ?_ | refine xH ?_ | refine xI rfl ?_ | refine xJ ?_ | refine xK ?_ | refine xL ?_ | refine xM rfl ?_ | refine xN rfl ?_ | refine xO rfl ?_ | (first | refine xP rfl (fun hif => ?_) (fun hif => ?_) | refine xQ rfl (fun hif => ?_) (fun hif => ?_) | refine xR rfl (fun hif => ?_) (fun hif => ?_) | refine xS rfl (fun hif => ?_) (fun hif => ?_)) <;> try (first | contradiction | (exfalso; omega)) | (refine hK _ _ ?_; clear hK K) | refine onSome_of hatF ?_ | (refine And.intro (by first | omega | assumption | (constructor <;> omega)) ?_) | (refine And.intro (fun hif => ?_) (fun hif => ?_) <;> try (first | contradiction | (exfalso; omega))) | ((first | refine xT fun K hK => ?_ | refine xU fun K hK => ?_ | refine xV ?_ | refine xW ?_ | refine xX ?_ | refine xY ?_ | refine xZ ?_); simp only [↓awpOps, ↓awpKeep, ↓aop, ↓aopQ, ↓abin, ↓aun, ↓onSome_some, ↓Kont_at, ↓KM_at, ↓KV_at, ↓KU_at, refId_row, Frame.ev, Frame.evs, Frame.evOr, Frame.put, Frame.keep, get_nil, get_cons, argFrame, resOf, fillA, Vals.len, Vals.get, Vals.set, Vals.app, Vals.sub, Vals.take, Vals.ofAgg_cons, Vals.ofList, Vals.toInts, Vals.toBools, Vals.toSls, Vals.toStrs, Vals.zeros, Nat.reduceBEq, Nat.reduceAdd, Nat.reduceEqDiff, cond_true, cond_false, Option.map_some, Option.map_none, List.length_cons, List.length_nil, List.replicate, List.set_cons_zero, List.set_cons_succ, Nat.reduceLT, Bool.not_true, Bool.not_false, Int.toNat_natCast, inR, Nat.zero_add, Int.toNat_zero, reduceCtorEq, IntKind.bits, List.nil_append, List.cons_append, Nat.add_zero, Nat.sub_zero, noughts_len, List.map_cons, List.map_nil, zp, zu]) | refine And.intro ?_ (fun hif => (hif trivial).elim) | (intro hif; try (first | contradiction | (exfalso; omega))))
            all_goals exact hK3 (j + 1) _ _ (by rw [hfs]; rfl) rfl (by omega) (by omega)
          · rw [if_neg hz, Int.add_zero] at hfs
            repeat' (first | refine xA ?_ | refine xB ?_ | refine xC ?_ | refine xD ?_ | refine xE ?_ | refine xF ?_ | refine xG ?_ | refine xH ?_ | refine xI rfl ?_ | refine xJ ?_ | refine xK ?_ | refine xL ?_ | refine xM rfl ?_ | refine xN rfl ?_ | refine xO rfl ?_ | (first | refine xP rfl (fun hif => ?_) (fun hif => ?_) | refine xQ rfl (fun hif => ?_) (fun hif => ?_) | refine xR rfl (fun hif => ?_) (fun hif => ?_) | refine xS rfl (fun hif => ?_) (fun hif => ?_)) <;> try (first | contradiction | (exfalso; omega)) | (refine hK _ _ ?_; clear hK K) | refine onSome_of hatF ?_ | (refine And.intro (by first | omega | assumption | (constructor <;> omega)) ?_) | (refine And.intro (fun hif => ?_) (fun hif => ?_) <;> try (first | contradiction | (exfalso; omega))) | ((first | refine xT fun K hK => ?_ | refine xU fun K hK => ?_ | refine xV ?_ | refine xW ?_ | refine xX ?_ | refine xY ?_ | refine xZ ?_); simp only [↓awpOps, ↓awpKeep, ↓aop, ↓aopQ, ↓abin, ↓aun, ↓onSome_some, ↓Kont_at, ↓KM_at, ↓KV_at, ↓KU_at, refId_row, Frame.ev, Frame.evs, Frame.evOr, Frame.put, Frame.keep, get_nil, get_cons, argFrame, resOf, fillA, Vals.len, Vals.get, Vals.set, Vals.app, Vals.sub, Vals.take, Vals.ofAgg_cons, Vals.ofList, Vals.toInts, Vals.toBools, Vals.toSls, Vals.toStrs, Vals.zeros, Nat.reduceBEq, Nat.reduceAdd, Nat.reduceEqDiff, cond_true, cond_false, Option.map_some, Option.map_none, List.length_cons, List.length_nil, List.replicate, List.set_cons_zero, List.set_cons_succ, Nat.reduceLT, Bool.not_true, Bool.not_false, Int.toNat_natCast, inR, Nat.zero_add, Int.toNat_zero, reduceCtorEq, IntKind.bits, List.nil_append, List.cons_append, Nat.add_zero, Nat.sub_zero, noughts_len, List.map_cons, List.map_nil, zp, zu]) | refine And.intro ?_ (fun hif => (hif trivial).elim) | (intro hif; try (first | contradiction | (exfalso; omega))))
            all_goals exact hK3 (j + 1) _ _ (by rw [hfs]; rfl) rfl (by omega) (by omega)
        · have hje : j = (wires net).length := by omega
          rw [← hje] at hfe hbd
          generalize hFj : F j = y at *
          by_cases h2 : 2 * D = (n : Int)
          · rw [if_pos h2] at hfe
            repeat' (first | refine xA ?_ | refine xB ?_ | refine xC ?_ | refine xD ?_ | refine xE ?_ | refine xF ?_ | refine xG ?_ | refine xH ?_ | refine xI rfl ?_ | refine xJ ?_ | refine xK ?_ | refine xL ?_ | refine xM rfl ?_ | refine xN rfl ?_ | refine xO rfl ?_ | (first | refine xP rfl (fun hif => ?_) (fun hif => ?_) | refine xQ rfl (fun hif => ?_) (fun hif => ?_) | refine xR rfl (fun hif => ?_) (fun hif => ?_) | refine xS rfl (fun hif => ?_) (fun hif => ?_)) <;> try (first | contradiction | (exfalso; omega)) | (refine hK _ _ ?_; clear hK K) | refine onSome_of hat ?_ | (refine And.intro (by first | omega | assumption | (constructor <;> omega)) ?_) | (refine And.intro (fun hif => ?_) (fun hif => ?_) <;> try (first | contradiction | (exfalso; omega))) | ((first | refine xT fun K hK => ?_ | refine xU fun K hK => ?_ | refine xV ?_ | refine xW ?_ | refine xX ?_ | refine xY ?_ | refine xZ ?_); simp only [↓awpOps, ↓awpKeep, ↓aop, ↓aopQ, ↓abin, ↓aun, ↓onSome_some, ↓Kont_at, ↓KM_at, ↓KV_at, ↓KU_at, refId_row, Frame.ev, Frame.evs, Frame.evOr, Frame.put, Frame.keep, get_nil, get_cons, argFrame, resOf, fillA, Vals.len, Vals.get, Vals.set, Vals.app, Vals.sub, Vals.take, Vals.ofAgg_cons, Vals.ofList, Vals.toInts, Vals.toBools, Vals.toSls, Vals.toStrs, Vals.zeros, Nat.reduceBEq, Nat.reduceAdd, Nat.reduceEqDiff, cond_true, cond_false, Option.map_some, Option.map_none, List.length_cons, List.length_nil, List.replicate, List.set_cons_zero, List.set_cons_succ, Nat.reduceLT, Bool.not_true, Bool.not_false, Int.toNat_natCast, inR, Nat.zero_add, Int.toNat_zero, reduceCtorEq, IntKind.bits, List.nil_append, List.cons_append, Nat.add_zero, Nat.sub_zero, noughts_len, List.map_cons, List.map_nil, zp, zu]) | refine And.intro ?_ (fun hif => (hif trivial).elim) | (intro hif; try (first | contradiction | (exfalso; omega))))
            all_goals exact hK2 (b + 1) _ _ (by rw [hl1, hs1', ← Int.add_assoc]; rfl) rfl hnext (by omega)
          · rw [if_neg h2] at hfe
            repeat' (first | refine xA ?_ | refine xB ?_ | refine xC ?_ | refine xD ?_ | refine xE ?_ | refine xF ?_ | refine xG ?_ | refine xH ?_ | refine xI rfl ?_ | refine xJ ?_ | refine xK ?_ | refine xL ?_ | refine xM rfl ?_ | refine xN rfl ?_ | refine xO rfl ?_ | (first | refine xP rfl (fun hif => ?_) (fun hif => ?_) | refine xQ rfl (fun hif => ?_) (fun hif => ?_) | refine xR rfl (fun hif => ?_) (fun hif => ?_) | refine xS rfl (fun hif => ?_) (fun hif => ?_)) <;> try (first | contradiction | (exfalso; omega)) | (refine hK _ _ ?_; clear hK K) | refine onSome_of hat ?_ | (refine And.intro (by first | omega | assumption | (constructor <;> omega)) ?_) | (refine And.intro (fun hif => ?_) (fun hif => ?_) <;> try (first | contradiction | (exfalso; omega))) | ((first | refine xT fun K hK => ?_ | refine xU fun K hK => ?_ | refine xV ?_ | refine xW ?_ | refine xX ?_ | refine xY ?_ | refine xZ ?_); simp only [↓awpOps, ↓awpKeep, ↓aop, ↓aopQ, ↓abin, ↓aun, ↓onSome_some, ↓Kont_at, ↓KM_at, ↓KV_at, ↓KU_at, refId_row, Frame.ev, Frame.evs, Frame.evOr, Frame.put, Frame.keep, get_nil, get_cons, argFrame, resOf, fillA, Vals.len, Vals.get, Vals.set, Vals.app, Vals.sub, Vals.take, Vals.ofAgg_cons, Vals.ofList, Vals.toInts, Vals.toBools, Vals.toSls, Vals.toStrs, Vals.zeros, Nat.reduceBEq, Nat.reduceAdd, Nat.reduceEqDiff, cond_true, cond_false, Option.map_some, Option.map_none, List.length_cons, List.length_nil, List.replicate, List.set_cons_zero, List.set_cons_succ, Nat.reduceLT, Bool.not_true, Bool.not_false, Int.toNat_natCast, inR, Nat.zero_add, Int.toNat_zero, reduceCtorEq, IntKind.bits, List.nil_append, List.cons_append, Nat.add_zero, Nat.sub_zero, noughts_len, List.map_cons, List.map_nil, zp, zu]) | refine And.intro ?_ (fun hif => (hif trivial).elim) | (intro hif; try (first | contradiction | (exfalso; omega))))
            all_goals exact hK2 (b + 1) _ _ (by rw [hl1, hs1', ← Int.add_assoc]; rfl) rfl hnext (by omega)
      · obtain rfl : b = n := by omega
        repeat' (first | refine xA ?_ | refine xB ?_ | refine xC ?_ | refine xD ?_ | refine xE ?_ | refine xF ?_ | refine xG ?_ | refine xH ?_ | refine xI rfl ?_ | refine xJ ?_ | refine xK ?_ | refine xL ?_ | refine xM rfl ?_ | refine xN rfl ?_ | refine xO rfl ?_ | (first | refine xP rfl (fun hif => ?_) (fun hif => ?_) | refine xQ rfl (fun hif => ?_) (fun hif => ?_) | refine xR rfl (fun hif => ?_) (fun hif => ?_) | refine xS rfl (fun hif => ?_) (fun hif => ?_)) <;> try (first | contradiction | (exfalso; omega)) | (refine hK _ _ ?_; clear hK K) | (refine And.intro (by first | omega | assumption | (constructor <;> omega)) ?_) | (refine And.intro (fun hif => ?_) (fun hif => ?_) <;> try (first | contradiction | (exfalso; omega))) | ((first | refine xT fun K hK => ?_ | refine xU fun K hK => ?_ | refine xV ?_ | refine xW ?_ | refine xX ?_ | refine xY ?_ | refine xZ ?_); simp only [↓awpOps, ↓awpKeep, ↓aop, ↓aopQ, ↓abin, ↓aun, ↓onSome_some, ↓Kont_at, ↓KM_at, ↓KV_at, ↓KU_at, refId_row, Frame.ev, Frame.evs, Frame.evOr, Frame.put, Frame.keep, get_nil, get_cons, argFrame, resOf, fillA, Vals.len, Vals.get, Vals.set, Vals.app, Vals.sub, Vals.take, Vals.ofAgg_cons, Vals.ofList, Vals.toInts, Vals.toBools, Vals.toSls, Vals.toStrs, Vals.zeros, Nat.reduceBEq, Nat.reduceAdd, Nat.reduceEqDiff, cond_true, cond_false, Option.map_some, Option.map_none, List.length_cons, List.length_nil, List.replicate, List.set_cons_zero, List.set_cons_succ, Nat.reduceLT, Bool.not_true, Bool.not_false, Int.toNat_natCast, inR, Nat.zero_add, Int.toNat_zero, reduceCtorEq, IntKind.bits, List.nil_append, List.cons_append, Nat.add_zero, Nat.sub_zero, noughts_len, List.map_cons, List.map_nil, zp, zu]) | refine And.intro ?_ (fun hif => (hif trivial).elim) | (intro hif; try (first | contradiction | (exfalso; omega))))
        refine hK1 (a + 1) _ _ ?_ rfl ⟨by omega, ?_, ?_⟩ (by omega)
        · rw [hto, List.length_append, List.sum_append]; rfl
        · rw [hto, List.sum_append]; omega
        · rw [hto, List.sum_append, List.length_append]; omega
    · obtain rfl : a = n := by omega
      repeat' (first | refine xA ?_ | refine xB ?_ | refine xC ?_ | refine xD ?_ | refine xE ?_ | refine xF ?_ | refine xG ?_ | refine xH ?_ | refine xI rfl ?_ | refine xJ ?_ | refine xK ?_ | refine xL ?_ | refine xM rfl ?_ | refine xN rfl ?_ | refine xO rfl ?_ | (first | refine xP rfl (fun hif => ?_) (fun hif => ?_) | refine xQ rfl (fun hif => ?_) (fun hif => ?_) | refine xR rfl (fun hif => ?_) (fun hif => ?_) | refine xS rfl (fun hif => ?_) (fun hif => ?_)) <;> try (first | contradiction | (exfalso; omega)) | (refine hK _ _ ?_; clear hK K) | refine AQuiet.call cW trivial ?_ | refine AQuiet.callq cW trivial ?_ | (refine And.intro (by first | omega | assumption | (constructor <;> omega)) ?_) | (refine And.intro (fun hif => ?_) (fun hif => ?_) <;> try (first | contradiction | (exfalso; omega))) | ((first | refine xT fun K hK => ?_ | refine xU fun K hK => ?_ | refine xV ?_ | refine xW ?_ | refine xX ?_ | refine xY ?_ | refine xZ ?_); simp only [↓awpOps, ↓awpKeep, ↓aop, ↓aopQ, ↓abin, ↓aun, ↓onSome_some, ↓Kont_at, ↓KM_at, ↓KV_at, ↓KU_at, refId_row, Frame.ev, Frame.evs, Frame.evOr, Frame.put, Frame.keep, get_nil, get_cons, argFrame, resOf, fillA, Vals.len, Vals.get, Vals.set, Vals.app, Vals.sub, Vals.take, Vals.ofAgg_cons, Vals.ofList, Vals.toInts, Vals.toBools, Vals.toSls, Vals.toStrs, Vals.zeros, Nat.reduceBEq, Nat.reduceAdd, Nat.reduceEqDiff, cond_true, cond_false, Option.map_some, Option.map_none, List.length_cons, List.length_nil, List.replicate, List.set_cons_zero, List.set_cons_succ, Nat.reduceLT, Bool.not_true, Bool.not_false, Int.toNat_natCast, inR, Nat.zero_add, Int.toNat_zero, reduceCtorEq, IntKind.bits, List.nil_append, List.cons_append, Nat.add_zero, Nat.sub_zero, noughts_len, List.map_cons, List.map_nil, zp, zu]) | refine And.intro ?_ (fun hif => (hif trivial).elim) | (intro hif; try (first | contradiction | (exfalso; omega))))
      all_goals first | exact ⟨by rw [decide_eq_true htot], hp3⟩ | exact hp3 | exact ⟨rfl, hp3⟩

end Go.Abs
namespace Go.Proofs.Ytigjlphflaiboaa.fnPairCounts
open Go.ChangeShapes Go.WideShapes Go.ChangeAt Go.RowKit
theorem own : ownKnob Try.prog.godebug = none := by kernel_rfl
theorem laid : laidOutB Try.prog = true := by kernel_rfl
set_option maxRecDepth 100000 in
theorem lifted (os : Os) (started : os.Started) (H : Type) (enc : TypeId × Value → H) :
    ReturnsInHanded {} Try.checked os 4 .any (Rows.fnPairCountsSpec.pre6 enc Try.prog Try.f4 Rows.fnPairCountsRow.domain false) (Rows.fnPairCountsSpec.post enc Try.prog Try.f4 false true false false) := by
  refine returnsInHanded_of_change (C := Try.checked) own started (by kernel_rfl) Try.func4
    (ChangeSpec.witness6 (enc := enc) (C := Try.checked) false ⟨#[], #[.slice none 0 0], []⟩ 8 (by kernel_rfl) (by kernel_rfl) (by kernel_rfl) (by kernel_rfl)) ?_
  intro W base args ds gs before hval hW _ _
  exact Go.Abs.slice_contract (t := 22) (e := 5) (tb := 4) Try.underlying22 Try.underlying5 (by kernel_rfl) Try.underlying4 laid (by kernel_rfl) (of_decide_eq_true (by kernel_rfl)) (by kernel_rfl) (by kernel_rfl) (by kernel_rfl) rfl (fun _ => rfl) Go.Abs.laws_FnPairCounts W base args ds gs before hval hW
theorem closed : joinedFacts Try.checked.prog 4 Try.f4 Rows.fnPairCountsSpec Rows.fnPairCountsRow = true := by
  unfold joinedFacts
  rw [show Try.checked.prog = Try.prog from rfl, iniMayEnter, iniLiftsFinal, iniMake]
  kernel_rfl
theorem proved : Rows.FnPairCountsSaid :=
  OpenClaim.holds_of_wide 4 Try.f4 rfl rfl rfl rfl rfl rfl rfl ⟨rfl, rfl, rfl, rfl, rfl⟩ rfl rfl rfl rfl rfl (by kernel_rfl) Try.func4 closed
    (of_decide_eq_true (by kernel_rfl)) (by unfold Func.isWrapper; first | (rw [if_pos (by decide +kernel)]; kernel_rfl) | (rw [if_neg (by decide +kernel)]; exact ⟨rfl, rfl⟩))
    (fun os started H enc _ => lifted os started H enc)
end Go.Proofs.Ytigjlphflaiboaa.fnPairCounts
