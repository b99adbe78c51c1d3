/- The program's eleventh chapter, by contracts. Own work; no condition. -/
import Derived.Test.YtedainddipahaaaSpecM1
import Derived.Test.YtedainddipahaaaImpl7
import Derived.Test.YtedainddipahaaaImpl5
set_option maxRecDepth 100000
set_option linter.unusedSimpArgs false
set_option linter.unusedVariables false
namespace Go.Abs
open Go.Proofs
attribute [local irreducible] awp awpOps awpKeep KeepK awpKeepF KeepF aloop ALoop ACalls ACallq AQuiet retPost retPostA AExit.thn AExit.blk aApp aSt aStA

/-! ### Lists of numbers -/

theorem take_getI {x : List Int} {n k : Nat} (h : k < n) : (x.take n).getD k 0 = (x.getD k 0) := by
  simp only [List.getD_eq_getElem?_getD, List.getElem?_take]
  rw [if_pos h]

theorem impl_isAmong (s : SV) (l : List Int) (n : Int) (m : Heap) (hs : IsInts .i64 m s l) (hl : l.length ≤ 1048576) : AQuiet Try.prog F.impl_isAmong [.one (.sl s), .one (.int .i64 n)] m (.one (.bool (decide (n ∈ l)))) := by
  obtain ⟨ref, off, len⟩ := s
  obtain rfl : len = l.length := hs.1
  refine aqn T.impl_isAmong (by rfl) ?_
  repeat' (first | refine xA ?_ | refine xB ?_ | refine xC ?_ | refine xD ?_ | refine xE ?_ | refine xF ?_ | refine xG ?_ | refine xH ?_ | refine xI rfl ?_ | refine xJ ?_ | refine xK ?_ | refine xL ?_ | refine xM rfl ?_ | refine xN rfl ?_ | refine xO rfl ?_ | (first | refine xP rfl (fun hif => ?_) (fun hif => ?_) | refine xQ rfl (fun hif => ?_) (fun hif => ?_) | refine xR rfl (fun hif => ?_) (fun hif => ?_) | refine xS rfl (fun hif => ?_) (fun hif => ?_)) <;> try (first | contradiction | (exfalso; omega)) | (refine hK _ _ ?_; clear hK K) | (refine And.intro (by first | omega | assumption | (constructor <;> omega)) ?_) | (refine And.intro (fun hif => ?_) (fun hif => ?_) <;> try (first | contradiction | (exfalso; omega))) | ((first | refine xT fun K hK => ?_ | refine xU fun K hK => ?_ | refine yB (fun K hK => ?_) (fun K hK => ?_) | refine xV ?_ | refine yA ?_ | refine xW ?_ | refine xX ?_ | refine xY ?_ | refine xZ ?_) <;> simp only [↓awpOps, ↓awpKeep, ↓awpKeepF, ↓aop, ↓aopQ, ↓abin, ↓aun, ↓onSome_some, ↓Kont_at, ↓KM_at, ↓KV_at, ↓KU_at, refId_row, Frame.ev, Frame.evs, Frame.evOr, Frame.put, Frame.keep, get_nil, get_cons, argFrame, resOf, fillA, Vals.len, Vals.get, Vals.set, Vals.app, Vals.sub, Vals.take, Vals.ofAgg_cons, Vals.ofList, Vals.toInts, Vals.toBools, Vals.toSls, Vals.toStrs, Vals.zeros, Nat.reduceBEq, Nat.reduceAdd, Nat.reduceEqDiff, cond_true, cond_false, Option.map_some, Option.map_none, List.length_cons, List.length_nil, List.replicate, List.set_cons_zero, List.set_cons_succ, Nat.reduceLT, Bool.not_true, Bool.not_false, Int.toNat_natCast, inR, Nat.zero_add, Int.toNat_zero, reduceCtorEq, IntKind.bits, List.nil_append, List.cons_append, Nat.add_zero, Nat.sub_zero, noughts_len, List.map_cons, List.map_nil, zp, zu]) | refine And.intro ?_ (fun hif => (hif trivial).elim) | (intro hif; try (first | contradiction | (exfalso; omega))))
  refine awp_loop ?_
  refine ALoop.by [0, 1, 5] (fun k : Nat => [(0, .one (.sl ⟨ref, off, l.length⟩)), (1, .one (.int .i64 n)), (5, .one (.int .i64 k))]) (fun _ => m) (fun k => k ≤ l.length ∧ ∀ i, i < k → (l.getD i 0) ≠ n) (fun k => l.length - k) 0 rfl rfl ⟨Nat.zero_le _, fun i hi => absurd hi (Nat.not_lt_zero _)⟩ ?_
  rintro k ⟨hk, hok⟩ K1 hK1
  repeat' (first | refine xA ?_ | refine xB ?_ | refine xC ?_ | refine xD ?_ | refine xE ?_ | refine xF ?_ | refine xG ?_ | refine xH ?_ | refine xI rfl ?_ | refine xJ ?_ | refine xK ?_ | refine xL ?_ | refine xM rfl ?_ | refine xN rfl ?_ | refine xO rfl ?_ | (first | refine xP rfl (fun hif => ?_) (fun hif => ?_) | refine xQ rfl (fun hif => ?_) (fun hif => ?_) | refine xR rfl (fun hif => ?_) (fun hif => ?_) | refine xS rfl (fun hif => ?_) (fun hif => ?_)) <;> try (first | contradiction | (exfalso; omega)) | (refine hK _ _ ?_; clear hK K) | refine onSome_of (hs.2 _ (by omega)) ?_ | (refine And.intro (by first | omega | assumption | (constructor <;> omega)) ?_) | (refine And.intro (fun hif => ?_) (fun hif => ?_) <;> try (first | contradiction | (exfalso; omega))) | ((first | refine xT fun K hK => ?_ | refine xU fun K hK => ?_ | refine yB (fun K hK => ?_) (fun K hK => ?_) | refine xV ?_ | refine yA ?_ | refine xW ?_ | refine xX ?_ | refine xY ?_ | refine xZ ?_) <;> simp only [↓awpOps, ↓awpKeep, ↓awpKeepF, ↓aop, ↓aopQ, ↓abin, ↓aun, ↓onSome_some, ↓Kont_at, ↓KM_at, ↓KV_at, ↓KU_at, refId_row, Frame.ev, Frame.evs, Frame.evOr, Frame.put, Frame.keep, get_nil, get_cons, argFrame, resOf, fillA, Vals.len, Vals.get, Vals.set, Vals.app, Vals.sub, Vals.take, Vals.ofAgg_cons, Vals.ofList, Vals.toInts, Vals.toBools, Vals.toSls, Vals.toStrs, Vals.zeros, Nat.reduceBEq, Nat.reduceAdd, Nat.reduceEqDiff, cond_true, cond_false, Option.map_some, Option.map_none, List.length_cons, List.length_nil, List.replicate, List.set_cons_zero, List.set_cons_succ, Nat.reduceLT, Bool.not_true, Bool.not_false, Int.toNat_natCast, inR, Nat.zero_add, Int.toNat_zero, reduceCtorEq, IntKind.bits, List.nil_append, List.cons_append, Nat.add_zero, Nat.sub_zero, noughts_len, List.map_cons, List.map_nil, zp, zu]) | refine And.intro ?_ (fun hif => (hif trivial).elim) | (intro hif; try (first | contradiction | (exfalso; omega))))
  · refine ⟨?_, List.prefix_rfl⟩
    congr 2
    refine (decide_eq_true ?_).symm
    have hlt : k < l.length := by omega
    rw [← hif, List.getD_eq_getElem?_getD, List.getElem?_eq_getElem hlt]
    exact List.getElem_mem hlt
  · refine hK1 (k + 1) _ _ rfl rfl ⟨by omega, fun i hi => ?_⟩ (by omega)
    rcases Nat.lt_succ_iff_lt_or_eq.1 hi with h | rfl
    · exact hok i h
    · exact hif
  · refine ⟨?_, List.prefix_rfl⟩
    congr 2
    refine (decide_eq_false fun h => ?_).symm
    obtain ⟨i, hi, he⟩ := List.getElem_of_mem h
    refine hok i (by omega) ?_
    rw [List.getD_eq_getElem?_getD, List.getElem?_eq_getElem hi]
    exact he

theorem nums_mark {l : List Int} {k n : Nat} (hk : k ≤ l.length) (hlow : ∀ i, i < k → 1 ≤ (l.getD i 0) ∧ (l.getD i 0) ≤ 30) : (nums (l.take k)).testBit n = true ↔ ∃ i, i < k ∧ (l.getD i 0) = (n : Int) := by
  rw [nums_bit]
  constructor
  · rintro ⟨i, h1, h2⟩
    rw [List.length_take] at h1
    rw [take_getI (by omega)] at h2
    have := hlow i (by omega)
    exact ⟨i, by omega, by omega⟩
  · rintro ⟨i, h1, h2⟩
    exact ⟨i, by rw [List.length_take]; omega, by rw [take_getI h1, h2]; rfl⟩
theorem nums_take {l : List Int} {k : Nat} (hk : k < l.length) {n : Nat} (hn : (l.getD k 0) = (n : Int)) : nums (l.take (k + 1)) = nums (l.take k) ||| 2 ^ n := by
  rw [← take_push l hk hn, nums, numsFrom_push, Int.toNat_natCast]
  rfl
theorem nums_some {l : List Int} {k : Nat} (hk : k ≤ l.length) (hlow : ∀ i, i < k → 1 ≤ (l.getD i 0) ∧ (l.getD i 0) ≤ 30) : nums (l.take k) < 2147483648 := nums_lt fun i hi => by
  rw [List.length_take] at hi
  rw [take_getI (by omega)]
  exact (hlow i (by omega)).2

set_option maxHeartbeats 4000000 in
theorem impl_areNumbers (s : SV) (l : List Int) (m : Heap) (hs : IsInts .i64 m s l) (hbig : l.length ≤ 1048576) : AQuiet Try.prog F.impl_areNumbers [.one (.sl s)] m (.one (.bool (decide (Nums l)))) := by
  obtain ⟨ref, off, len⟩ := s
  obtain rfl : len = l.length := hs.1
  refine aqn T.impl_areNumbers (by rfl) ?_
  by_cases c : 1 ≤ l.length ∧ l.length ≤ 6
  · have h6 := c.2
    have h1 := c.1
    repeat' (first | refine xA ?_ | refine xB ?_ | refine xC ?_ | refine xD ?_ | refine xE ?_ | refine xF ?_ | refine xG ?_ | refine xH ?_ | refine xI rfl ?_ | refine xJ ?_ | refine xK ?_ | refine xL ?_ | refine xM rfl ?_ | refine xN rfl ?_ | refine xO rfl ?_ | (first | refine xP rfl (fun hif => ?_) (fun hif => ?_) | refine xQ rfl (fun hif => ?_) (fun hif => ?_) | refine xR rfl (fun hif => ?_) (fun hif => ?_) | refine xS rfl (fun hif => ?_) (fun hif => ?_)) <;> try (first | contradiction | (exfalso; omega)) | (refine hK _ _ ?_; clear hK K) | (refine And.intro (by first | omega | assumption | (constructor <;> omega)) ?_) | (refine And.intro (fun hif => ?_) (fun hif => ?_) <;> try (first | contradiction | (exfalso; omega))) | ((first | refine xT fun K hK => ?_ | refine xU fun K hK => ?_ | refine yB (fun K hK => ?_) (fun K hK => ?_) | refine xV ?_ | refine yA ?_ | refine xW ?_ | refine xX ?_ | refine xY ?_ | refine xZ ?_) <;> simp only [↓awpOps, ↓awpKeep, ↓awpKeepF, ↓aop, ↓aopQ, ↓abin, ↓aun, ↓onSome_some, ↓Kont_at, ↓KM_at, ↓KV_at, ↓KU_at, refId_row, Frame.ev, Frame.evs, Frame.evOr, Frame.put, Frame.keep, get_nil, get_cons, argFrame, resOf, fillA, Vals.len, Vals.get, Vals.set, Vals.app, Vals.sub, Vals.take, Vals.ofAgg_cons, Vals.ofList, Vals.toInts, Vals.toBools, Vals.toSls, Vals.toStrs, Vals.zeros, Nat.reduceBEq, Nat.reduceAdd, Nat.reduceEqDiff, cond_true, cond_false, Option.map_some, Option.map_none, List.length_cons, List.length_nil, List.replicate, List.set_cons_zero, List.set_cons_succ, Nat.reduceLT, Bool.not_true, Bool.not_false, Int.toNat_natCast, inR, Nat.zero_add, Int.toNat_zero, reduceCtorEq, IntKind.bits, List.nil_append, List.cons_append, Nat.add_zero, Nat.sub_zero, noughts_len, List.map_cons, List.map_nil, zp, zu]) | refine And.intro ?_ (fun hif => (hif trivial).elim) | (intro hif; try (first | contradiction | (exfalso; omega))))
    refine awp_loop ?_
    refine ALoop.by [0, 3, 4] (fun k : Nat => [(0, .one (.sl ⟨ref, off, l.length⟩)), (3, .one (.int .i64 (nums (l.take k) : Int))), (4, .one (.int .i64 k))]) (fun _ => m) (fun k => k ≤ l.length ∧ (∀ i, i < k → 1 ≤ (l.getD i 0) ∧ (l.getD i 0) ≤ 30) ∧ ∀ i, i < k → ∀ j, j < i → (l.getD j 0) ≠ (l.getD i 0)) (fun k => l.length - k) 0 rfl rfl ⟨Nat.zero_le _, fun i hi => absurd hi (Nat.not_lt_zero _), fun i hi => absurd hi (Nat.not_lt_zero _)⟩ ?_
    rintro k ⟨hk, hlow, hun⟩ K1 hK1
    by_cases hlt : k < l.length
    · have hat := hs.2 k hlt
      by_cases e : 1 ≤ (l.getD k 0) ∧ (l.getD k 0) ≤ 30
      · obtain ⟨n, hn⟩ := Int.eq_ofNat_of_zero_le (show 0 ≤ (l.getD k 0) by omega)
        have hmk := nums_mark (n := n) hk hlow
        have hst := nums_take hlt hn
        have hnl := nums_some hk hlow
        have hlow' : ∀ i, i < k + 1 → 1 ≤ (l.getD i 0) ∧ (l.getD i 0) ≤ 30 := fun i hi => by
          rcases Nat.lt_succ_iff_lt_or_eq.1 hi with h | rfl
          · exact hlow i h
          · exact e
        rw [hn] at hat e
        have hM := impl_hasMark (nums (l.take k) : Int) n (by omega) (by omega) (by omega) m
        rw [bit_cast] at hM
        have hMo := impl_markOf n (by omega) m
        have hor : borInt .i64 (nums (l.take k) : Int) (2 ^ n) = ((nums (l.take k) ||| 2 ^ n : Nat) : Int) := by
          rw [pow_nat]
          exact bor_nat _ _ (by omega) (Nat.lt_of_le_of_lt (Nat.pow_le_pow_right (by decide) (show n ≤ 30 by omega)) (by decide))
        cases hb : (nums (l.take k)).testBit n with
        | true =>
          rw [hb] at hM
          obtain ⟨i, h1, h2⟩ := hmk.1 hb
          rw [decide_eq_false fun h : Nums l => h.once k hlt i h1 (by rw [h2, hn])]
          clear hmk hst
          generalize nums (l.take k) = x at *
          repeat' (first | refine xA ?_ | refine xB ?_ | refine xC ?_ | refine xD ?_ | refine xE ?_ | refine xF ?_ | refine xG ?_ | refine xH ?_ | refine xI rfl ?_ | refine xJ ?_ | refine xK ?_ | refine xL ?_ | refine xM rfl ?_ | refine xN rfl ?_ | refine xO rfl ?_ | (first | refine xP rfl (fun hif => ?_) (fun hif => ?_) | refine xQ rfl (fun hif => ?_) (fun hif => ?_) | refine xR rfl (fun hif => ?_) (fun hif => ?_) | refine xS rfl (fun hif => ?_) (fun hif => ?_)) <;> try (first | contradiction | (exfalso; omega)) | (refine hK _ _ ?_; clear hK K) | refine onSome_of hat ?_ | refine AQuiet.call hM trivial ?_ | refine AQuiet.callq hM trivial ?_ | (refine And.intro (by first | omega | assumption | (constructor <;> omega)) ?_) | (refine And.intro (fun hif => ?_) (fun hif => ?_) <;> try (first | contradiction | (exfalso; omega))) | ((first | refine xT fun K hK => ?_ | refine xU fun K hK => ?_ | refine yB (fun K hK => ?_) (fun K hK => ?_) | refine xV ?_ | refine yA ?_ | refine xW ?_ | refine xX ?_ | refine xY ?_ | refine xZ ?_) <;> simp only [↓awpOps, ↓awpKeep, ↓awpKeepF, ↓aop, ↓aopQ, ↓abin, ↓aun, ↓onSome_some, ↓Kont_at, ↓KM_at, ↓KV_at, ↓KU_at, refId_row, Frame.ev, Frame.evs, Frame.evOr, Frame.put, Frame.keep, get_nil, get_cons, argFrame, resOf, fillA, Vals.len, Vals.get, Vals.set, Vals.app, Vals.sub, Vals.take, Vals.ofAgg_cons, Vals.ofList, Vals.toInts, Vals.toBools, Vals.toSls, Vals.toStrs, Vals.zeros, Nat.reduceBEq, Nat.reduceAdd, Nat.reduceEqDiff, cond_true, cond_false, Option.map_some, Option.map_none, List.length_cons, List.length_nil, List.replicate, List.set_cons_zero, List.set_cons_succ, Nat.reduceLT, Bool.not_true, Bool.not_false, Int.toNat_natCast, inR, Nat.zero_add, Int.toNat_zero, reduceCtorEq, IntKind.bits, List.nil_append, List.cons_append, Nat.add_zero, Nat.sub_zero, noughts_len, List.map_cons, List.map_nil, zp, zu]) | refine And.intro ?_ (fun hif => (hif trivial).elim) | (intro hif; try (first | contradiction | (exfalso; omega))))
          all_goals (first | exact List.prefix_rfl | exact ⟨rfl, List.prefix_rfl⟩ | exact ⟨by simp, List.prefix_rfl⟩)
        | false =>
          rw [hb] at hM
          have hun' : ∀ i, i < k + 1 → ∀ j, j < i → (l.getD j 0) ≠ (l.getD i 0) := fun i hi j hj => by
            rcases Nat.lt_succ_iff_lt_or_eq.1 hi with h | rfl
            · exact hun i h j hj
            · intro e2
              rw [hmk.2 ⟨j, hj, e2.trans hn⟩] at hb
              cases hb
          rw [← hst] at hor
          clear hmk hst hb
          generalize nums (l.take k) = x at *
          repeat' (first | refine xA ?_ | refine xB ?_ | refine xC ?_ | refine xD ?_ | refine xE ?_ | refine xF ?_ | refine xG ?_ | refine xH ?_ | refine xI rfl ?_ | refine xJ ?_ | refine xK ?_ | refine xL ?_ | refine xM rfl ?_ | refine xN rfl ?_ | refine xO rfl ?_ | (first | refine xP rfl (fun hif => ?_) (fun hif => ?_) | refine xQ rfl (fun hif => ?_) (fun hif => ?_) | refine xR rfl (fun hif => ?_) (fun hif => ?_) | refine xS rfl (fun hif => ?_) (fun hif => ?_)) <;> try (first | contradiction | (exfalso; omega)) | (refine hK _ _ ?_; clear hK K) | refine onSome_of hat ?_ | refine AQuiet.call hM trivial ?_ | refine AQuiet.callq hM trivial ?_ | refine AQuiet.call hMo trivial ?_ | refine AQuiet.callq hMo trivial ?_ | rw [hor] | (refine And.intro (by first | omega | assumption | (constructor <;> omega)) ?_) | (refine And.intro (fun hif => ?_) (fun hif => ?_) <;> try (first | contradiction | (exfalso; omega))) | ((first | refine xT fun K hK => ?_ | refine xU fun K hK => ?_ | refine yB (fun K hK => ?_) (fun K hK => ?_) | refine xV ?_ | refine yA ?_ | refine xW ?_ | refine xX ?_ | refine xY ?_ | refine xZ ?_) <;> simp only [↓awpOps, ↓awpKeep, ↓awpKeepF, ↓aop, ↓aopQ, ↓abin, ↓aun, ↓onSome_some, ↓Kont_at, ↓KM_at, ↓KV_at, ↓KU_at, refId_row, Frame.ev, Frame.evs, Frame.evOr, Frame.put, Frame.keep, get_nil, get_cons, argFrame, resOf, fillA, Vals.len, Vals.get, Vals.set, Vals.app, Vals.sub, Vals.take, Vals.ofAgg_cons, Vals.ofList, Vals.toInts, Vals.toBools, Vals.toSls, Vals.toStrs, Vals.zeros, Nat.reduceBEq, Nat.reduceAdd, Nat.reduceEqDiff, cond_true, cond_false, Option.map_some, Option.map_none, List.length_cons, List.length_nil, List.replicate, List.set_cons_zero, List.set_cons_succ, Nat.reduceLT, Bool.not_true, Bool.not_false, Int.toNat_natCast, inR, Nat.zero_add, Int.toNat_zero, reduceCtorEq, IntKind.bits, List.nil_append, List.cons_append, Nat.add_zero, Nat.sub_zero, noughts_len, List.map_cons, List.map_nil, zp, zu]) | refine And.intro ?_ (fun hif => (hif trivial).elim) | (intro hif; try (first | contradiction | (exfalso; omega))))
          all_goals exact hK1 (k + 1) _ _ rfl rfl ⟨by omega, hlow', hun'⟩ (by omega)
      · rw [decide_eq_false fun h : Nums l => e (h.low k hlt)]
        repeat' (first | refine xA ?_ | refine xB ?_ | refine xC ?_ | refine xD ?_ | refine xE ?_ | refine xF ?_ | refine xG ?_ | refine xH ?_ | refine xI rfl ?_ | refine xJ ?_ | refine xK ?_ | refine xL ?_ | refine xM rfl ?_ | refine xN rfl ?_ | refine xO rfl ?_ | (first | refine xP rfl (fun hif => ?_) (fun hif => ?_) | refine xQ rfl (fun hif => ?_) (fun hif => ?_) | refine xR rfl (fun hif => ?_) (fun hif => ?_) | refine xS rfl (fun hif => ?_) (fun hif => ?_)) <;> try (first | contradiction | (exfalso; omega)) | (refine hK _ _ ?_; clear hK K) | refine onSome_of hat ?_ | (refine And.intro (by first | omega | assumption | (constructor <;> omega)) ?_) | (refine And.intro (fun hif => ?_) (fun hif => ?_) <;> try (first | contradiction | (exfalso; omega))) | ((first | refine xT fun K hK => ?_ | refine xU fun K hK => ?_ | refine yB (fun K hK => ?_) (fun K hK => ?_) | refine xV ?_ | refine yA ?_ | refine xW ?_ | refine xX ?_ | refine xY ?_ | refine xZ ?_) <;> simp only [↓awpOps, ↓awpKeep, ↓awpKeepF, ↓aop, ↓aopQ, ↓abin, ↓aun, ↓onSome_some, ↓Kont_at, ↓KM_at, ↓KV_at, ↓KU_at, refId_row, Frame.ev, Frame.evs, Frame.evOr, Frame.put, Frame.keep, get_nil, get_cons, argFrame, resOf, fillA, Vals.len, Vals.get, Vals.set, Vals.app, Vals.sub, Vals.take, Vals.ofAgg_cons, Vals.ofList, Vals.toInts, Vals.toBools, Vals.toSls, Vals.toStrs, Vals.zeros, Nat.reduceBEq, Nat.reduceAdd, Nat.reduceEqDiff, cond_true, cond_false, Option.map_some, Option.map_none, List.length_cons, List.length_nil, List.replicate, List.set_cons_zero, List.set_cons_succ, Nat.reduceLT, Bool.not_true, Bool.not_false, Int.toNat_natCast, inR, Nat.zero_add, Int.toNat_zero, reduceCtorEq, IntKind.bits, List.nil_append, List.cons_append, Nat.add_zero, Nat.sub_zero, noughts_len, List.map_cons, List.map_nil, zp, zu]) | refine And.intro ?_ (fun hif => (hif trivial).elim) | (intro hif; try (first | contradiction | (exfalso; omega))))
        all_goals (first | exact List.prefix_rfl | exact ⟨rfl, List.prefix_rfl⟩ | exact ⟨by simp, List.prefix_rfl⟩)
    · obtain rfl : k = l.length := by omega
      rw [decide_eq_true (⟨h1, h6, hlow, hun⟩ : Nums l)]
      repeat' (first | refine xA ?_ | refine xB ?_ | refine xC ?_ | refine xD ?_ | refine xE ?_ | refine xF ?_ | refine xG ?_ | refine xH ?_ | refine xI rfl ?_ | refine xJ ?_ | refine xK ?_ | refine xL ?_ | refine xM rfl ?_ | refine xN rfl ?_ | refine xO rfl ?_ | (first | refine xP rfl (fun hif => ?_) (fun hif => ?_) | refine xQ rfl (fun hif => ?_) (fun hif => ?_) | refine xR rfl (fun hif => ?_) (fun hif => ?_) | refine xS rfl (fun hif => ?_) (fun hif => ?_)) <;> try (first | contradiction | (exfalso; omega)) | (refine hK _ _ ?_; clear hK K) | (refine And.intro (by first | omega | assumption | (constructor <;> omega)) ?_) | (refine And.intro (fun hif => ?_) (fun hif => ?_) <;> try (first | contradiction | (exfalso; omega))) | ((first | refine xT fun K hK => ?_ | refine xU fun K hK => ?_ | refine yB (fun K hK => ?_) (fun K hK => ?_) | refine xV ?_ | refine yA ?_ | refine xW ?_ | refine xX ?_ | refine xY ?_ | refine xZ ?_) <;> simp only [↓awpOps, ↓awpKeep, ↓awpKeepF, ↓aop, ↓aopQ, ↓abin, ↓aun, ↓onSome_some, ↓Kont_at, ↓KM_at, ↓KV_at, ↓KU_at, refId_row, Frame.ev, Frame.evs, Frame.evOr, Frame.put, Frame.keep, get_nil, get_cons, argFrame, resOf, fillA, Vals.len, Vals.get, Vals.set, Vals.app, Vals.sub, Vals.take, Vals.ofAgg_cons, Vals.ofList, Vals.toInts, Vals.toBools, Vals.toSls, Vals.toStrs, Vals.zeros, Nat.reduceBEq, Nat.reduceAdd, Nat.reduceEqDiff, cond_true, cond_false, Option.map_some, Option.map_none, List.length_cons, List.length_nil, List.replicate, List.set_cons_zero, List.set_cons_succ, Nat.reduceLT, Bool.not_true, Bool.not_false, Int.toNat_natCast, inR, Nat.zero_add, Int.toNat_zero, reduceCtorEq, IntKind.bits, List.nil_append, List.cons_append, Nat.add_zero, Nat.sub_zero, noughts_len, List.map_cons, List.map_nil, zp, zu]) | refine And.intro ?_ (fun hif => (hif trivial).elim) | (intro hif; try (first | contradiction | (exfalso; omega))))
      all_goals (first | exact List.prefix_rfl | exact ⟨rfl, List.prefix_rfl⟩ | exact ⟨by simp, List.prefix_rfl⟩)
  · rw [decide_eq_false fun h : Nums l => c ⟨h.pos, h.six⟩]
    repeat' (first | refine xA ?_ | refine xB ?_ | refine xC ?_ | refine xD ?_ | refine xE ?_ | refine xF ?_ | refine xG ?_ | refine xH ?_ | refine xI rfl ?_ | refine xJ ?_ | refine xK ?_ | refine xL ?_ | refine xM rfl ?_ | refine xN rfl ?_ | refine xO rfl ?_ | (first | refine xP rfl (fun hif => ?_) (fun hif => ?_) | refine xQ rfl (fun hif => ?_) (fun hif => ?_) | refine xR rfl (fun hif => ?_) (fun hif => ?_) | refine xS rfl (fun hif => ?_) (fun hif => ?_)) <;> try (first | contradiction | (exfalso; omega)) | (refine hK _ _ ?_; clear hK K) | (refine And.intro (by first | omega | assumption | (constructor <;> omega)) ?_) | (refine And.intro (fun hif => ?_) (fun hif => ?_) <;> try (first | contradiction | (exfalso; omega))) | ((first | refine xT fun K hK => ?_ | refine xU fun K hK => ?_ | refine yB (fun K hK => ?_) (fun K hK => ?_) | refine xV ?_ | refine yA ?_ | refine xW ?_ | refine xX ?_ | refine xY ?_ | refine xZ ?_) <;> simp only [↓awpOps, ↓awpKeep, ↓awpKeepF, ↓aop, ↓aopQ, ↓abin, ↓aun, ↓onSome_some, ↓Kont_at, ↓KM_at, ↓KV_at, ↓KU_at, refId_row, Frame.ev, Frame.evs, Frame.evOr, Frame.put, Frame.keep, get_nil, get_cons, argFrame, resOf, fillA, Vals.len, Vals.get, Vals.set, Vals.app, Vals.sub, Vals.take, Vals.ofAgg_cons, Vals.ofList, Vals.toInts, Vals.toBools, Vals.toSls, Vals.toStrs, Vals.zeros, Nat.reduceBEq, Nat.reduceAdd, Nat.reduceEqDiff, cond_true, cond_false, Option.map_some, Option.map_none, List.length_cons, List.length_nil, List.replicate, List.set_cons_zero, List.set_cons_succ, Nat.reduceLT, Bool.not_true, Bool.not_false, Int.toNat_natCast, inR, Nat.zero_add, Int.toNat_zero, reduceCtorEq, IntKind.bits, List.nil_append, List.cons_append, Nat.add_zero, Nat.sub_zero, noughts_len, List.map_cons, List.map_nil, zp, zu]) | refine And.intro ?_ (fun hif => (hif trivial).elim) | (intro hif; try (first | contradiction | (exfalso; omega))))
    all_goals (first | exact List.prefix_rfl | exact ⟨rfl, List.prefix_rfl⟩ | exact ⟨by simp, List.prefix_rfl⟩)

/-! ### Neighbours -/

theorem gcd_min {u v : Nat} (hu : 1 ≤ u) (hv : 1 ≤ v) : ((Nat.gcd u v : Nat) : Int) = min (u : Int) (v : Int) ↔ ((u : Int) % (v : Int) = 0 ∨ (v : Int) % (u : Int) = 0) := by
  constructor
  · intro h
    rcases Nat.le_total u v with c | c
    · right
      have e : Nat.gcd u v = u := by omega
      have hd : u ∣ v := by
        have := Nat.gcd_dvd_right u v
        rwa [e] at this
      have := Nat.mod_eq_zero_of_dvd hd
      omega
    · left
      have e : Nat.gcd u v = v := by omega
      have hd : v ∣ u := by
        have := Nat.gcd_dvd_left u v
        rwa [e] at this
      have := Nat.mod_eq_zero_of_dvd hd
      omega
  · rintro (h | h)
    · have hd : v ∣ u := Nat.dvd_of_mod_eq_zero (by omega)
      have e : Nat.gcd u v = v := Nat.gcd_eq_right hd
      have := Nat.le_of_dvd hu hd
      omega
    · have hd : u ∣ v := Nat.dvd_of_mod_eq_zero (by omega)
      have e : Nat.gcd u v = u := Nat.gcd_eq_left hd
      have := Nat.le_of_dvd hv hd
      omega

theorem impl_areNear_su (s : SV) (l : List Int) (a b : Int) (m : Heap) (hs : IsInts .i64 m s l) (hl : l.length ≤ 1048576) (ha : 1 ≤ a ∧ a ≤ 30) (hb : 1 ≤ b ∧ b ≤ 30) : AQuiet Try.prog F.impl_areNear [.one (.int .i64 2), .one (.sl s), .one (.int .i64 a), .one (.int .i64 b)] m (.one (.bool (decide (a + b ∈ l)))) := by
  have c := impl_isAmong s l (a + b) m hs hl
  refine aqn T.impl_areNear (by rfl) ?_
  repeat' (first | refine xA ?_ | refine xB ?_ | refine xC ?_ | refine xD ?_ | refine xE ?_ | refine xF ?_ | refine xG ?_ | refine xH ?_ | refine xI rfl ?_ | refine xJ ?_ | refine xK ?_ | refine xL ?_ | refine xM rfl ?_ | refine xN rfl ?_ | refine xO rfl ?_ | (first | refine xP rfl (fun hif => ?_) (fun hif => ?_) | refine xQ rfl (fun hif => ?_) (fun hif => ?_) | refine xR rfl (fun hif => ?_) (fun hif => ?_) | refine xS rfl (fun hif => ?_) (fun hif => ?_)) <;> try (first | contradiction | (exfalso; omega)) | (refine hK _ _ ?_; clear hK K) | refine AQuiet.call c trivial ?_ | refine AQuiet.callq c trivial ?_ | (refine And.intro (by first | omega | assumption | (constructor <;> omega)) ?_) | (refine And.intro (fun hif => ?_) (fun hif => ?_) <;> try (first | contradiction | (exfalso; omega))) | ((first | refine xT fun K hK => ?_ | refine xU fun K hK => ?_ | refine yB (fun K hK => ?_) (fun K hK => ?_) | refine xV ?_ | refine yA ?_ | refine xW ?_ | refine xX ?_ | refine xY ?_ | refine xZ ?_) <;> simp only [↓awpOps, ↓awpKeep, ↓awpKeepF, ↓aop, ↓aopQ, ↓abin, ↓aun, ↓onSome_some, ↓Kont_at, ↓KM_at, ↓KV_at, ↓KU_at, refId_row, Frame.ev, Frame.evs, Frame.evOr, Frame.put, Frame.keep, get_nil, get_cons, argFrame, resOf, fillA, Vals.len, Vals.get, Vals.set, Vals.app, Vals.sub, Vals.take, Vals.ofAgg_cons, Vals.ofList, Vals.toInts, Vals.toBools, Vals.toSls, Vals.toStrs, Vals.zeros, Nat.reduceBEq, Nat.reduceAdd, Nat.reduceEqDiff, cond_true, cond_false, Option.map_some, Option.map_none, List.length_cons, List.length_nil, List.replicate, List.set_cons_zero, List.set_cons_succ, Nat.reduceLT, Bool.not_true, Bool.not_false, Int.toNat_natCast, inR, Nat.zero_add, Int.toNat_zero, reduceCtorEq, IntKind.bits, List.nil_append, List.cons_append, Nat.add_zero, Nat.sub_zero, noughts_len, List.map_cons, List.map_nil, zp, zu]) | refine And.intro ?_ (fun hif => (hif trivial).elim) | (intro hif; try (first | contradiction | (exfalso; omega))))
  all_goals (first | exact List.prefix_rfl | exact ⟨rfl, List.prefix_rfl⟩ | exact ⟨by simp, List.prefix_rfl⟩)
theorem impl_areNear_co (s : SV) (u v : Nat) (m : Heap) (hu : 1 ≤ u ∧ u ≤ 30) (hv : 1 ≤ v ∧ v ≤ 30) : AQuiet Try.prog F.impl_areNear [.one (.int .i64 0), .one (.sl s), .one (.int .i64 (u : Int)), .one (.int .i64 (v : Int))] m (.one (.bool (decide (Nat.gcd u v = 1)))) := by
  have cG := impl_commonDivisor u v (by omega) (by omega) m
  obtain ⟨g, hg⟩ : ∃ g, Nat.gcd u v = g := ⟨_, rfl⟩
  have e : decide (Nat.gcd u v = 1) = decide ((g : Int) = 1) := decide_eq_decide.2 (by rw [hg]; omega)
  rw [hg] at cG
  rw [e]
  refine aqn T.impl_areNear (by rfl) ?_
  repeat' (first | refine xA ?_ | refine xB ?_ | refine xC ?_ | refine xD ?_ | refine xE ?_ | refine xF ?_ | refine xG ?_ | refine xH ?_ | refine xI rfl ?_ | refine xJ ?_ | refine xK ?_ | refine xL ?_ | refine xM rfl ?_ | refine xN rfl ?_ | refine xO rfl ?_ | (first | refine xP rfl (fun hif => ?_) (fun hif => ?_) | refine xQ rfl (fun hif => ?_) (fun hif => ?_) | refine xR rfl (fun hif => ?_) (fun hif => ?_) | refine xS rfl (fun hif => ?_) (fun hif => ?_)) <;> try (first | contradiction | (exfalso; omega)) | (refine hK _ _ ?_; clear hK K) | refine AQuiet.call cG trivial ?_ | refine AQuiet.callq cG trivial ?_ | (refine And.intro (by first | omega | assumption | (constructor <;> omega)) ?_) | (refine And.intro (fun hif => ?_) (fun hif => ?_) <;> try (first | contradiction | (exfalso; omega))) | ((first | refine xT fun K hK => ?_ | refine xU fun K hK => ?_ | refine yB (fun K hK => ?_) (fun K hK => ?_) | refine xV ?_ | refine yA ?_ | refine xW ?_ | refine xX ?_ | refine xY ?_ | refine xZ ?_) <;> simp only [↓awpOps, ↓awpKeep, ↓awpKeepF, ↓aop, ↓aopQ, ↓abin, ↓aun, ↓onSome_some, ↓Kont_at, ↓KM_at, ↓KV_at, ↓KU_at, refId_row, Frame.ev, Frame.evs, Frame.evOr, Frame.put, Frame.keep, get_nil, get_cons, argFrame, resOf, fillA, Vals.len, Vals.get, Vals.set, Vals.app, Vals.sub, Vals.take, Vals.ofAgg_cons, Vals.ofList, Vals.toInts, Vals.toBools, Vals.toSls, Vals.toStrs, Vals.zeros, Nat.reduceBEq, Nat.reduceAdd, Nat.reduceEqDiff, cond_true, cond_false, Option.map_some, Option.map_none, List.length_cons, List.length_nil, List.replicate, List.set_cons_zero, List.set_cons_succ, Nat.reduceLT, Bool.not_true, Bool.not_false, Int.toNat_natCast, inR, Nat.zero_add, Int.toNat_zero, reduceCtorEq, IntKind.bits, List.nil_append, List.cons_append, Nat.add_zero, Nat.sub_zero, noughts_len, List.map_cons, List.map_nil, zp, zu]) | refine And.intro ?_ (fun hif => (hif trivial).elim) | (intro hif; try (first | contradiction | (exfalso; omega))))
  all_goals (first | exact List.prefix_rfl | exact ⟨rfl, List.prefix_rfl⟩ | exact ⟨by simp, List.prefix_rfl⟩)
theorem impl_areNear_di (s : SV) (u v : Nat) (m : Heap) (hu : 1 ≤ u ∧ u ≤ 30) (hv : 1 ≤ v ∧ v ≤ 30) : AQuiet Try.prog F.impl_areNear [.one (.int .i64 1), .one (.sl s), .one (.int .i64 (u : Int)), .one (.int .i64 (v : Int))] m (.one (.bool (decide ((u : Int) % (v : Int) = 0 ∨ (v : Int) % (u : Int) = 0)))) := by
  have cG := impl_commonDivisor u v (by omega) (by omega) m
  have cL := impl_lesserOf (u : Int) (v : Int) m
  have e := gcd_min hu.1 hv.1
  obtain ⟨g, hg⟩ : ∃ g, Nat.gcd u v = g := ⟨_, rfl⟩
  obtain ⟨z, hz⟩ : ∃ z, min (u : Int) (v : Int) = z := ⟨_, rfl⟩
  rw [hg] at cG e
  rw [hz] at cL e
  have e2 : decide ((u : Int) % (v : Int) = 0 ∨ (v : Int) % (u : Int) = 0) = decide ((g : Int) = z) := decide_eq_decide.2 e.symm
  rw [e2]
  refine aqn T.impl_areNear (by rfl) ?_
  repeat' (first | refine xA ?_ | refine xB ?_ | refine xC ?_ | refine xD ?_ | refine xE ?_ | refine xF ?_ | refine xG ?_ | refine xH ?_ | refine xI rfl ?_ | refine xJ ?_ | refine xK ?_ | refine xL ?_ | refine xM rfl ?_ | refine xN rfl ?_ | refine xO rfl ?_ | (first | refine xP rfl (fun hif => ?_) (fun hif => ?_) | refine xQ rfl (fun hif => ?_) (fun hif => ?_) | refine xR rfl (fun hif => ?_) (fun hif => ?_) | refine xS rfl (fun hif => ?_) (fun hif => ?_)) <;> try (first | contradiction | (exfalso; omega)) | (refine hK _ _ ?_; clear hK K) | refine AQuiet.call cG trivial ?_ | refine AQuiet.callq cG trivial ?_ | refine AQuiet.call cL trivial ?_ | refine AQuiet.callq cL trivial ?_ | (refine And.intro (by first | omega | assumption | (constructor <;> omega)) ?_) | (refine And.intro (fun hif => ?_) (fun hif => ?_) <;> try (first | contradiction | (exfalso; omega))) | ((first | refine xT fun K hK => ?_ | refine xU fun K hK => ?_ | refine yB (fun K hK => ?_) (fun K hK => ?_) | refine xV ?_ | refine yA ?_ | refine xW ?_ | refine xX ?_ | refine xY ?_ | refine xZ ?_) <;> simp only [↓awpOps, ↓awpKeep, ↓awpKeepF, ↓aop, ↓aopQ, ↓abin, ↓aun, ↓onSome_some, ↓Kont_at, ↓KM_at, ↓KV_at, ↓KU_at, refId_row, Frame.ev, Frame.evs, Frame.evOr, Frame.put, Frame.keep, get_nil, get_cons, argFrame, resOf, fillA, Vals.len, Vals.get, Vals.set, Vals.app, Vals.sub, Vals.take, Vals.ofAgg_cons, Vals.ofList, Vals.toInts, Vals.toBools, Vals.toSls, Vals.toStrs, Vals.zeros, Nat.reduceBEq, Nat.reduceAdd, Nat.reduceEqDiff, cond_true, cond_false, Option.map_some, Option.map_none, List.length_cons, List.length_nil, List.replicate, List.set_cons_zero, List.set_cons_succ, Nat.reduceLT, Bool.not_true, Bool.not_false, Int.toNat_natCast, inR, Nat.zero_add, Int.toNat_zero, reduceCtorEq, IntKind.bits, List.nil_append, List.cons_append, Nat.add_zero, Nat.sub_zero, noughts_len, List.map_cons, List.map_nil, zp, zu]) | refine And.intro ?_ (fun hif => (hif trivial).elim) | (intro hif; try (first | contradiction | (exfalso; omega))))
  all_goals (first | exact List.prefix_rfl | exact ⟨rfl, List.prefix_rfl⟩ | exact ⟨by simp, List.prefix_rfl⟩)

/-! ### The nets -/

set_option maxHeartbeats 8000000 in
theorem impl_netOfNumbers {l : List Int} {kind : Int} {f : Nat → Nat → Bool} (hbig : l.length ≤ 1048576) (s : SV) (m : Heap) (hs : IsInts .i64 m s l) (hown : ∀ k, f k k = false)
    (hnear : Nums l → ∀ (k j : Nat) (m' : Heap), k < l.length → j < l.length → j ≠ k → IsInts .i64 m' s l → AQuiet Try.prog F.impl_areNear [.one (.int .i64 kind), .one (.sl s), .one (.int .i64 ((l.getD k 0))), .one (.int .i64 ((l.getD j 0)))] m' (.one (.bool (f k j)))) :
    ARet Try.prog F.impl_netOfNumbers [.one (.int .i64 kind), .one (.sl s)] m Ty.int (.ints .i64 (if Nums l then netBy f l.length else [])) := by
  have cN := impl_areNumbers s l m hs hbig
  refine arn T.impl_netOfNumbers (by rfl) fun hwf => ?_
  obtain ⟨ref, off, len⟩ := s
  obtain rfl : len = l.length := hs.1
  by_cases hN : Nums l
  · rw [if_pos hN]
    rw [decide_eq_true hN] at cN
    have h6 := hN.six
    have hVl := netBy_len f l.length
    have hVk := fun k (hk : k < l.length) => netBy_get f hk
    have hnear := hnear hN
    generalize netBy f l.length = V at *
    repeat' (first | refine xA ?_ | refine xB ?_ | refine xC ?_ | refine xD ?_ | refine xE ?_ | refine xF ?_ | refine xG ?_ | refine xH ?_ | refine xI rfl ?_ | refine xJ ?_ | refine xK ?_ | refine xL ?_ | refine xM rfl ?_ | refine xN rfl ?_ | refine xO rfl ?_ | (first | refine xP rfl (fun hif => ?_) (fun hif => ?_) | refine xQ rfl (fun hif => ?_) (fun hif => ?_) | refine xR rfl (fun hif => ?_) (fun hif => ?_) | refine xS rfl (fun hif => ?_) (fun hif => ?_)) <;> try (first | contradiction | (exfalso; omega)) | (refine hK _ _ ?_; clear hK K) | refine AQuiet.call cN trivial ?_ | (refine And.intro (by first | omega | assumption | (constructor <;> omega)) ?_) | (refine And.intro (fun hif => ?_) (fun hif => ?_) <;> try (first | contradiction | (exfalso; omega))) | ((first | refine xT fun K hK => ?_ | refine xU fun K hK => ?_ | refine yB (fun K hK => ?_) (fun K hK => ?_) | refine xV ?_ | refine yA ?_ | refine xW ?_ | refine xX ?_ | refine xY ?_ | refine xZ ?_) <;> simp only [↓awpOps, ↓awpKeep, ↓awpKeepF, ↓aop, ↓aopQ, ↓abin, ↓aun, ↓onSome_some, ↓Kont_at, ↓KM_at, ↓KV_at, ↓KU_at, refId_row, Frame.ev, Frame.evs, Frame.evOr, Frame.put, Frame.keep, get_nil, get_cons, argFrame, resOf, fillA, Vals.len, Vals.get, Vals.set, Vals.app, Vals.sub, Vals.take, Vals.ofAgg_cons, Vals.ofList, Vals.toInts, Vals.toBools, Vals.toSls, Vals.toStrs, Vals.zeros, Nat.reduceBEq, Nat.reduceAdd, Nat.reduceEqDiff, cond_true, cond_false, Option.map_some, Option.map_none, List.length_cons, List.length_nil, List.replicate, List.set_cons_zero, List.set_cons_succ, Nat.reduceLT, Bool.not_true, Bool.not_false, Int.toNat_natCast, inR, Nat.zero_add, Int.toNat_zero, reduceCtorEq, IntKind.bits, List.nil_append, List.cons_append, Nat.add_zero, Nat.sub_zero, noughts_len, List.map_cons, List.map_nil, zp, zu]) | refine And.intro ?_ (fun hif => (hif trivial).elim) | (intro hif; try (first | contradiction | (exfalso; omega))))
    refine awp_loop ?_
    refine ALoop.by [0, 1, 5, 6] (fun k : Nat => [(0, .one (.int .i64 kind)), (1, .one (.sl ⟨ref, off, l.length⟩)), (5, .one (.sl ⟨.row m.length, 0, l.length⟩)), (6, .one (.int .i64 k))]) (fun k => m ++ [⟨Ty.int, m.length, true, .ints .i64 (V.take k ++ List.replicate (V.length - k) 0)⟩]) (fun k => k ≤ l.length) (fun k => l.length - k) 0 rfl (by simp [hVl]) (Nat.zero_le _) ?_
    intro k hk K1 hK1
    by_cases hlt : k < l.length
    · have hst := set_take V 0 0 (k := k) (by omega)
      rw [hVk k hlt] at hst
      have hBl : (V.take k ++ List.replicate (V.length - k) (0 : Int)).length = l.length := by simp; omega
      have hB0 : (V.take k ++ List.replicate (V.length - k) (0 : Int)).set k 0 = V.take k ++ List.replicate (V.length - k) 0 := by
        refine List.ext_getElem? fun i => ?_
        by_cases c : k = i
        · subst c
          rw [List.getElem?_set_self (by omega), List.getElem?_append_right (by rw [List.length_take]; omega), List.getElem?_replicate, if_pos (by rw [List.length_take]; omega)]
        · rw [List.getElem?_set_ne c]
      have hN1 := hK1 (k + 1)
      rw [← hst] at hN1
      clear hst
      generalize V.take k ++ List.replicate (V.length - k) (0 : Int) = B at *
      repeat' (first | refine xA ?_ | refine xB ?_ | refine xC ?_ | refine xD ?_ | refine xE ?_ | refine xF ?_ | refine xG ?_ | refine xH ?_ | refine xI rfl ?_ | refine xJ ?_ | refine xK ?_ | refine xL ?_ | refine xM rfl ?_ | refine xN rfl ?_ | refine xO rfl ?_ | (first | refine xP rfl (fun hif => ?_) (fun hif => ?_) | refine xQ rfl (fun hif => ?_) (fun hif => ?_) | refine xR rfl (fun hif => ?_) (fun hif => ?_) | refine xS rfl (fun hif => ?_) (fun hif => ?_)) <;> try (first | contradiction | (exfalso; omega)) | (refine hK _ _ ?_; clear hK K) | (refine And.intro (by first | omega | assumption | (constructor <;> omega)) ?_) | (refine And.intro (fun hif => ?_) (fun hif => ?_) <;> try (first | contradiction | (exfalso; omega))) | ((first | refine xT fun K hK => ?_ | refine xU fun K hK => ?_ | refine yB (fun K hK => ?_) (fun K hK => ?_) | refine xV ?_ | refine yA ?_ | refine xW ?_ | refine xX ?_ | refine xY ?_ | refine xZ ?_) <;> simp only [↓awpOps, ↓awpKeep, ↓awpKeepF, ↓aop, ↓aopQ, ↓abin, ↓aun, ↓onSome_some, ↓Kont_at, ↓KM_at, ↓KV_at, ↓KU_at, refId_row, Frame.ev, Frame.evs, Frame.evOr, Frame.put, Frame.keep, get_nil, get_cons, argFrame, resOf, fillA, Vals.len, Vals.get, Vals.set, Vals.app, Vals.sub, Vals.take, Vals.ofAgg_cons, Vals.ofList, Vals.toInts, Vals.toBools, Vals.toSls, Vals.toStrs, Vals.zeros, Nat.reduceBEq, Nat.reduceAdd, Nat.reduceEqDiff, cond_true, cond_false, Option.map_some, Option.map_none, List.length_cons, List.length_nil, List.replicate, List.set_cons_zero, List.set_cons_succ, Nat.reduceLT, Bool.not_true, Bool.not_false, Int.toNat_natCast, inR, Nat.zero_add, Int.toNat_zero, reduceCtorEq, IntKind.bits, List.nil_append, List.cons_append, Nat.add_zero, Nat.sub_zero, noughts_len, List.map_cons, List.map_nil, zp, zu]) | refine And.intro ?_ (fun hif => (hif trivial).elim) | (intro hif; try (first | contradiction | (exfalso; omega))))
      refine awp_loop ?_
      refine ALoop.by [0, 1, 5, 6, 7] (fun j : Nat => [(0, .one (.int .i64 kind)), (1, .one (.sl ⟨ref, off, l.length⟩)), (5, .one (.sl ⟨.row m.length, 0, l.length⟩)), (6, .one (.int .i64 k)), (7, .one (.int .i64 j))]) (fun j => m ++ [⟨Ty.int, m.length, true, .ints .i64 (B.set k (setN (f k) j : Int))⟩]) (fun j => j ≤ l.length) (fun j => l.length - j) 0 rfl (by rw [show ((setN (f k) 0 : Nat) : Int) = 0 from rfl, hB0]) (Nat.zero_le _) ?_
      intro j hj K2 hK2
      by_cases hlj : j < l.length
      · have hs1 := hs.pre (prefix_push m ⟨Ty.int, m.length, true, .ints .i64 (B.set k (setN (f k) j : Int))⟩)
        have hatk := hs1.2 k hlt
        have hatj := hs1.2 j hlj
        have hsj := setN_step (f k) j
        have hor := setN_or (f := f k) (j := j) (by omega)
        have cell : Heap.at (m ++ [⟨Ty.int, m.length, true, .ints .i64 (B.set k (setN (f k) j : Int))⟩]) m.length k = some (.int .i64 (setN (f k) j : Int)) := by
          have := at_row (get_last m ⟨Ty.int, m.length, true, .ints .i64 (B.set k (setN (f k) j : Int))⟩) (off := k) (by simp only [Vals.len, List.length_set]; omega)
          simp only [Vals.get, List.getD_eq_getElem?_getD, List.getElem?_set_self (show k < B.length by omega), Option.getD_some] at this
          exact this
        have cA := hnear k j (m ++ [⟨Ty.int, m.length, true, .ints .i64 (B.set k (setN (f k) j : Int))⟩]) hlt hlj
        have cP := impl_placeSet j (by omega) (m ++ [⟨Ty.int, m.length, true, .ints .i64 (B.set k (setN (f k) j : Int))⟩])
        by_cases hjk : j = k
        · have hjkI : (j : Int) = (k : Int) := by omega
          have hfk : f k j = false := by rw [hjk]; exact hown k
          rw [hfk, if_neg (by decide)] at hsj
          clear cA
          repeat' (first | refine xA ?_ | refine xB ?_ | refine xC ?_ | refine xD ?_ | refine xE ?_ | refine xF ?_ | refine xG ?_ | refine xH ?_ | refine xI rfl ?_ | refine xJ ?_ | refine xK ?_ | refine xL ?_ | refine xM rfl ?_ | refine xN rfl ?_ | refine xO rfl ?_ | (first | refine xP rfl (fun hif => ?_) (fun hif => ?_) | refine xQ rfl (fun hif => ?_) (fun hif => ?_) | refine xR rfl (fun hif => ?_) (fun hif => ?_) | refine xS rfl (fun hif => ?_) (fun hif => ?_)) <;> try (first | contradiction | (exfalso; omega)) | (refine hK _ _ ?_; clear hK K) | (refine And.intro (by first | omega | assumption | (constructor <;> omega)) ?_) | (refine And.intro (fun hif => ?_) (fun hif => ?_) <;> try (first | contradiction | (exfalso; omega))) | ((first | refine xT fun K hK => ?_ | refine xU fun K hK => ?_ | refine yB (fun K hK => ?_) (fun K hK => ?_) | refine xV ?_ | refine yA ?_ | refine xW ?_ | refine xX ?_ | refine xY ?_ | refine xZ ?_) <;> simp only [↓awpOps, ↓awpKeep, ↓awpKeepF, ↓aop, ↓aopQ, ↓abin, ↓aun, ↓onSome_some, ↓Kont_at, ↓KM_at, ↓KV_at, ↓KU_at, refId_row, Frame.ev, Frame.evs, Frame.evOr, Frame.put, Frame.keep, get_nil, get_cons, argFrame, resOf, fillA, Vals.len, Vals.get, Vals.set, Vals.app, Vals.sub, Vals.take, Vals.ofAgg_cons, Vals.ofList, Vals.toInts, Vals.toBools, Vals.toSls, Vals.toStrs, Vals.zeros, Nat.reduceBEq, Nat.reduceAdd, Nat.reduceEqDiff, cond_true, cond_false, Option.map_some, Option.map_none, List.length_cons, List.length_nil, List.replicate, List.set_cons_zero, List.set_cons_succ, Nat.reduceLT, Bool.not_true, Bool.not_false, Int.toNat_natCast, inR, Nat.zero_add, Int.toNat_zero, reduceCtorEq, IntKind.bits, List.nil_append, List.cons_append, Nat.add_zero, Nat.sub_zero, noughts_len, List.map_cons, List.map_nil, zp, zu]) | refine And.intro ?_ (fun hif => (hif trivial).elim) | (intro hif; try (first | contradiction | (exfalso; omega))))
          all_goals exact hK2 (j + 1) _ _ rfl (by simp only [hsj]) (by omega) (by omega)
        · have hjkI : ¬ (j : Int) = (k : Int) := by omega
          have cA := cA hjk hs1
          cases hf : f k j with
          | true =>
            rw [hf] at cA
            rw [hf, if_pos rfl] at hsj
            rw [← hsj] at hor
            repeat' (first | refine xA ?_ | refine xB ?_ | refine xC ?_ | refine xD ?_ | refine xE ?_ | refine xF ?_ | refine xG ?_ | refine xH ?_ | refine xI rfl ?_ | refine xJ ?_ | refine xK ?_ | refine xL ?_ | refine xM rfl ?_ | refine xN rfl ?_ | refine xO rfl ?_ | (first | refine xP rfl (fun hif => ?_) (fun hif => ?_) | refine xQ rfl (fun hif => ?_) (fun hif => ?_) | refine xR rfl (fun hif => ?_) (fun hif => ?_) | refine xS rfl (fun hif => ?_) (fun hif => ?_)) <;> try (first | contradiction | (exfalso; omega)) | (refine hK _ _ ?_; clear hK K) | refine onSome_of hatk ?_ | refine onSome_of hatj ?_ | refine onSome_of cell ?_ | refine AQuiet.call cA trivial ?_ | refine AQuiet.callq cA trivial ?_ | refine AQuiet.call cP trivial ?_ | refine AQuiet.callq cP trivial ?_ | rw [hor] | refine st_last hwf (by simp only [Vals.len, List.length_set]; omega) rfl ?_ | (refine And.intro (by first | omega | assumption | (constructor <;> omega)) ?_) | (refine And.intro (fun hif => ?_) (fun hif => ?_) <;> try (first | contradiction | (exfalso; omega))) | ((first | refine xT fun K hK => ?_ | refine xU fun K hK => ?_ | refine yB (fun K hK => ?_) (fun K hK => ?_) | refine xV ?_ | refine yA ?_ | refine xW ?_ | refine xX ?_ | refine xY ?_ | refine xZ ?_) <;> simp only [↓awpOps, ↓awpKeep, ↓awpKeepF, ↓aop, ↓aopQ, ↓abin, ↓aun, ↓onSome_some, ↓Kont_at, ↓KM_at, ↓KV_at, ↓KU_at, refId_row, Frame.ev, Frame.evs, Frame.evOr, Frame.put, Frame.keep, get_nil, get_cons, argFrame, resOf, fillA, Vals.len, Vals.get, Vals.set, Vals.app, Vals.sub, Vals.take, Vals.ofAgg_cons, Vals.ofList, Vals.toInts, Vals.toBools, Vals.toSls, Vals.toStrs, Vals.zeros, Nat.reduceBEq, Nat.reduceAdd, Nat.reduceEqDiff, cond_true, cond_false, Option.map_some, Option.map_none, List.length_cons, List.length_nil, List.replicate, List.set_cons_zero, List.set_cons_succ, Nat.reduceLT, Bool.not_true, Bool.not_false, Int.toNat_natCast, inR, Nat.zero_add, Int.toNat_zero, reduceCtorEq, IntKind.bits, List.nil_append, List.cons_append, Nat.add_zero, Nat.sub_zero, noughts_len, List.map_cons, List.map_nil, zp, zu]) | refine And.intro ?_ (fun hif => (hif trivial).elim) | (intro hif; try (first | contradiction | (exfalso; omega))))
            all_goals exact hK2 (j + 1) _ _ rfl (by rw [List.set_set]) (by omega) (by omega)
          | false =>
            rw [hf] at cA
            rw [hf, if_neg (by decide)] at hsj
            repeat' (first | refine xA ?_ | refine xB ?_ | refine xC ?_ | refine xD ?_ | refine xE ?_ | refine xF ?_ | refine xG ?_ | refine xH ?_ | refine xI rfl ?_ | refine xJ ?_ | refine xK ?_ | refine xL ?_ | refine xM rfl ?_ | refine xN rfl ?_ | refine xO rfl ?_ | (first | refine xP rfl (fun hif => ?_) (fun hif => ?_) | refine xQ rfl (fun hif => ?_) (fun hif => ?_) | refine xR rfl (fun hif => ?_) (fun hif => ?_) | refine xS rfl (fun hif => ?_) (fun hif => ?_)) <;> try (first | contradiction | (exfalso; omega)) | (refine hK _ _ ?_; clear hK K) | refine onSome_of hatk ?_ | refine onSome_of hatj ?_ | refine AQuiet.call cA trivial ?_ | refine AQuiet.callq cA trivial ?_ | (refine And.intro (by first | omega | assumption | (constructor <;> omega)) ?_) | (refine And.intro (fun hif => ?_) (fun hif => ?_) <;> try (first | contradiction | (exfalso; omega))) | ((first | refine xT fun K hK => ?_ | refine xU fun K hK => ?_ | refine yB (fun K hK => ?_) (fun K hK => ?_) | refine xV ?_ | refine yA ?_ | refine xW ?_ | refine xX ?_ | refine xY ?_ | refine xZ ?_) <;> simp only [↓awpOps, ↓awpKeep, ↓awpKeepF, ↓aop, ↓aopQ, ↓abin, ↓aun, ↓onSome_some, ↓Kont_at, ↓KM_at, ↓KV_at, ↓KU_at, refId_row, Frame.ev, Frame.evs, Frame.evOr, Frame.put, Frame.keep, get_nil, get_cons, argFrame, resOf, fillA, Vals.len, Vals.get, Vals.set, Vals.app, Vals.sub, Vals.take, Vals.ofAgg_cons, Vals.ofList, Vals.toInts, Vals.toBools, Vals.toSls, Vals.toStrs, Vals.zeros, Nat.reduceBEq, Nat.reduceAdd, Nat.reduceEqDiff, cond_true, cond_false, Option.map_some, Option.map_none, List.length_cons, List.length_nil, List.replicate, List.set_cons_zero, List.set_cons_succ, Nat.reduceLT, Bool.not_true, Bool.not_false, Int.toNat_natCast, inR, Nat.zero_add, Int.toNat_zero, reduceCtorEq, IntKind.bits, List.nil_append, List.cons_append, Nat.add_zero, Nat.sub_zero, noughts_len, List.map_cons, List.map_nil, zp, zu]) | refine And.intro ?_ (fun hif => (hif trivial).elim) | (intro hif; try (first | contradiction | (exfalso; omega))))
            all_goals exact hK2 (j + 1) _ _ rfl (by simp only [hsj]) (by omega) (by omega)
      · obtain rfl : j = l.length := by omega
        repeat' (first | refine xA ?_ | refine xB ?_ | refine xC ?_ | refine xD ?_ | refine xE ?_ | refine xF ?_ | refine xG ?_ | refine xH ?_ | refine xI rfl ?_ | refine xJ ?_ | refine xK ?_ | refine xL ?_ | refine xM rfl ?_ | refine xN rfl ?_ | refine xO rfl ?_ | (first | refine xP rfl (fun hif => ?_) (fun hif => ?_) | refine xQ rfl (fun hif => ?_) (fun hif => ?_) | refine xR rfl (fun hif => ?_) (fun hif => ?_) | refine xS rfl (fun hif => ?_) (fun hif => ?_)) <;> try (first | contradiction | (exfalso; omega)) | (refine hK _ _ ?_; clear hK K) | (refine And.intro (by first | omega | assumption | (constructor <;> omega)) ?_) | (refine And.intro (fun hif => ?_) (fun hif => ?_) <;> try (first | contradiction | (exfalso; omega))) | ((first | refine xT fun K hK => ?_ | refine xU fun K hK => ?_ | refine yB (fun K hK => ?_) (fun K hK => ?_) | refine xV ?_ | refine yA ?_ | refine xW ?_ | refine xX ?_ | refine xY ?_ | refine xZ ?_) <;> simp only [↓awpOps, ↓awpKeep, ↓awpKeepF, ↓aop, ↓aopQ, ↓abin, ↓aun, ↓onSome_some, ↓Kont_at, ↓KM_at, ↓KV_at, ↓KU_at, refId_row, Frame.ev, Frame.evs, Frame.evOr, Frame.put, Frame.keep, get_nil, get_cons, argFrame, resOf, fillA, Vals.len, Vals.get, Vals.set, Vals.app, Vals.sub, Vals.take, Vals.ofAgg_cons, Vals.ofList, Vals.toInts, Vals.toBools, Vals.toSls, Vals.toStrs, Vals.zeros, Nat.reduceBEq, Nat.reduceAdd, Nat.reduceEqDiff, cond_true, cond_false, Option.map_some, Option.map_none, List.length_cons, List.length_nil, List.replicate, List.set_cons_zero, List.set_cons_succ, Nat.reduceLT, Bool.not_true, Bool.not_false, Int.toNat_natCast, inR, Nat.zero_add, Int.toNat_zero, reduceCtorEq, IntKind.bits, List.nil_append, List.cons_append, Nat.add_zero, Nat.sub_zero, noughts_len, List.map_cons, List.map_nil, zp, zu]) | refine And.intro ?_ (fun hif => (hif trivial).elim) | (intro hif; try (first | contradiction | (exfalso; omega))))
        all_goals exact hN1 _ _ rfl rfl (by omega) (by omega)
    · obtain rfl : k = l.length := by omega
      have e : V.take l.length ++ List.replicate (V.length - l.length) (0 : Int) = V := by rw [← hVl, List.take_length, Nat.sub_self, List.replicate_zero, List.append_nil]
      rw [e]
      repeat' (first | refine xA ?_ | refine xB ?_ | refine xC ?_ | refine xD ?_ | refine xE ?_ | refine xF ?_ | refine xG ?_ | refine xH ?_ | refine xI rfl ?_ | refine xJ ?_ | refine xK ?_ | refine xL ?_ | refine xM rfl ?_ | refine xN rfl ?_ | refine xO rfl ?_ | (first | refine xP rfl (fun hif => ?_) (fun hif => ?_) | refine xQ rfl (fun hif => ?_) (fun hif => ?_) | refine xR rfl (fun hif => ?_) (fun hif => ?_) | refine xS rfl (fun hif => ?_) (fun hif => ?_)) <;> try (first | contradiction | (exfalso; omega)) | (refine hK _ _ ?_; clear hK K) | (refine And.intro (by first | omega | assumption | (constructor <;> omega)) ?_) | (refine And.intro (fun hif => ?_) (fun hif => ?_) <;> try (first | contradiction | (exfalso; omega))) | ((first | refine xT fun K hK => ?_ | refine xU fun K hK => ?_ | refine yB (fun K hK => ?_) (fun K hK => ?_) | refine xV ?_ | refine yA ?_ | refine xW ?_ | refine xX ?_ | refine xY ?_ | refine xZ ?_) <;> simp only [↓awpOps, ↓awpKeep, ↓awpKeepF, ↓aop, ↓aopQ, ↓abin, ↓aun, ↓onSome_some, ↓Kont_at, ↓KM_at, ↓KV_at, ↓KU_at, refId_row, Frame.ev, Frame.evs, Frame.evOr, Frame.put, Frame.keep, get_nil, get_cons, argFrame, resOf, fillA, Vals.len, Vals.get, Vals.set, Vals.app, Vals.sub, Vals.take, Vals.ofAgg_cons, Vals.ofList, Vals.toInts, Vals.toBools, Vals.toSls, Vals.toStrs, Vals.zeros, Nat.reduceBEq, Nat.reduceAdd, Nat.reduceEqDiff, cond_true, cond_false, Option.map_some, Option.map_none, List.length_cons, List.length_nil, List.replicate, List.set_cons_zero, List.set_cons_succ, Nat.reduceLT, Bool.not_true, Bool.not_false, Int.toNat_natCast, inR, Nat.zero_add, Int.toNat_zero, reduceCtorEq, IntKind.bits, List.nil_append, List.cons_append, Nat.add_zero, Nat.sub_zero, noughts_len, List.map_cons, List.map_nil, zp, zu]) | refine And.intro ?_ (fun hif => (hif trivial).elim) | (intro hif; try (first | contradiction | (exfalso; omega))))
      all_goals exact ⟨_, rfl, Grow.push hwf _ _ _, obj_new _ _ (by simp [Vals.len, hVl]) (Nat.le_refl _) (by simp)⟩
  · rw [if_neg hN]
    rw [decide_eq_false hN] at cN
    repeat' (first | refine xA ?_ | refine xB ?_ | refine xC ?_ | refine xD ?_ | refine xE ?_ | refine xF ?_ | refine xG ?_ | refine xH ?_ | refine xI rfl ?_ | refine xJ ?_ | refine xK ?_ | refine xL ?_ | refine xM rfl ?_ | refine xN rfl ?_ | refine xO rfl ?_ | (first | refine xP rfl (fun hif => ?_) (fun hif => ?_) | refine xQ rfl (fun hif => ?_) (fun hif => ?_) | refine xR rfl (fun hif => ?_) (fun hif => ?_) | refine xS rfl (fun hif => ?_) (fun hif => ?_)) <;> try (first | contradiction | (exfalso; omega)) | (refine hK _ _ ?_; clear hK K) | refine AQuiet.call cN trivial ?_ | (refine And.intro (by first | omega | assumption | (constructor <;> omega)) ?_) | (refine And.intro (fun hif => ?_) (fun hif => ?_) <;> try (first | contradiction | (exfalso; omega))) | ((first | refine xT fun K hK => ?_ | refine xU fun K hK => ?_ | refine yB (fun K hK => ?_) (fun K hK => ?_) | refine xV ?_ | refine yA ?_ | refine xW ?_ | refine xX ?_ | refine xY ?_ | refine xZ ?_) <;> simp only [↓awpOps, ↓awpKeep, ↓awpKeepF, ↓aop, ↓aopQ, ↓abin, ↓aun, ↓onSome_some, ↓Kont_at, ↓KM_at, ↓KV_at, ↓KU_at, refId_row, Frame.ev, Frame.evs, Frame.evOr, Frame.put, Frame.keep, get_nil, get_cons, argFrame, resOf, fillA, Vals.len, Vals.get, Vals.set, Vals.app, Vals.sub, Vals.take, Vals.ofAgg_cons, Vals.ofList, Vals.toInts, Vals.toBools, Vals.toSls, Vals.toStrs, Vals.zeros, Nat.reduceBEq, Nat.reduceAdd, Nat.reduceEqDiff, cond_true, cond_false, Option.map_some, Option.map_none, List.length_cons, List.length_nil, List.replicate, List.set_cons_zero, List.set_cons_succ, Nat.reduceLT, Bool.not_true, Bool.not_false, Int.toNat_natCast, inR, Nat.zero_add, Int.toNat_zero, reduceCtorEq, IntKind.bits, List.nil_append, List.cons_append, Nat.add_zero, Nat.sub_zero, noughts_len, List.map_cons, List.map_nil, zp, zu]) | refine And.intro ?_ (fun hif => (hif trivial).elim) | (intro hif; try (first | contradiction | (exfalso; omega))))
    all_goals exact ⟨_, rfl, Grow.refl hwf _ _, obj_nil _ _ _ _ _⟩

theorem impl_CoprimeNet {l : List Int} (hbig : l.length ≤ 1048576) (s : SV) (_ : List Int) (m : Heap) (hs : IsInts .i64 m s l) : ARet Try.prog F.impl_CoprimeNet [.one (.sl s)] m Ty.int (.ints .i64 (coNet l)) := by
  have c := impl_netOfNumbers (kind := 0) (f := coF l) hbig s m hs (coF_own l) fun hN k j m' hk hj hjk hs' => by
    have hk1 := hN.low k hk
    have hj1 := hN.low j hj
    obtain ⟨u, hu⟩ := Int.eq_ofNat_of_zero_le (show 0 ≤ (l.getD k 0) by omega)
    obtain ⟨v, hv⟩ := Int.eq_ofNat_of_zero_le (show 0 ≤ (l.getD j 0) by omega)
    have hcf : coF l k j = decide (Nat.gcd u v = 1) := by unfold coF; rw [decide_eq_true hjk, Bool.true_and, hu, hv, Int.toNat_natCast, Int.toNat_natCast]
    rw [hcf, hu, hv]
    exact impl_areNear_co s u v m' (by omega) (by omega)
  refine arn T.impl_CoprimeNet (by rfl) fun hwf => ?_
  repeat' (first | refine xA ?_ | refine xB ?_ | refine xC ?_ | refine xD ?_ | refine xE ?_ | refine xF ?_ | refine xG ?_ | refine xH ?_ | refine xI rfl ?_ | refine xJ ?_ | refine xK ?_ | refine xL ?_ | refine xM rfl ?_ | refine xN rfl ?_ | refine xO rfl ?_ | (first | refine xP rfl (fun hif => ?_) (fun hif => ?_) | refine xQ rfl (fun hif => ?_) (fun hif => ?_) | refine xR rfl (fun hif => ?_) (fun hif => ?_) | refine xS rfl (fun hif => ?_) (fun hif => ?_)) <;> try (first | contradiction | (exfalso; omega)) | (refine hK _ _ ?_; clear hK K) | refine ARet.call c fun s5 m5 g5 o5 => ?_ | (refine And.intro (by first | omega | assumption | (constructor <;> omega)) ?_) | (refine And.intro (fun hif => ?_) (fun hif => ?_) <;> try (first | contradiction | (exfalso; omega))) | ((first | refine xT fun K hK => ?_ | refine xU fun K hK => ?_ | refine yB (fun K hK => ?_) (fun K hK => ?_) | refine xV ?_ | refine yA ?_ | refine xW ?_ | refine xX ?_ | refine xY ?_ | refine xZ ?_) <;> simp only [↓awpOps, ↓awpKeep, ↓awpKeepF, ↓aop, ↓aopQ, ↓abin, ↓aun, ↓onSome_some, ↓Kont_at, ↓KM_at, ↓KV_at, ↓KU_at, refId_row, Frame.ev, Frame.evs, Frame.evOr, Frame.put, Frame.keep, get_nil, get_cons, argFrame, resOf, fillA, Vals.len, Vals.get, Vals.set, Vals.app, Vals.sub, Vals.take, Vals.ofAgg_cons, Vals.ofList, Vals.toInts, Vals.toBools, Vals.toSls, Vals.toStrs, Vals.zeros, Nat.reduceBEq, Nat.reduceAdd, Nat.reduceEqDiff, cond_true, cond_false, Option.map_some, Option.map_none, List.length_cons, List.length_nil, List.replicate, List.set_cons_zero, List.set_cons_succ, Nat.reduceLT, Bool.not_true, Bool.not_false, Int.toNat_natCast, inR, Nat.zero_add, Int.toNat_zero, reduceCtorEq, IntKind.bits, List.nil_append, List.cons_append, Nat.add_zero, Nat.sub_zero, noughts_len, List.map_cons, List.map_nil, zp, zu]) | refine And.intro ?_ (fun hif => (hif trivial).elim) | (intro hif; try (first | contradiction | (exfalso; omega))))
  all_goals exact ⟨_, rfl, g5, o5⟩
theorem impl_DivisorNet {l : List Int} (hbig : l.length ≤ 1048576) (s : SV) (_ : List Int) (m : Heap) (hs : IsInts .i64 m s l) : ARet Try.prog F.impl_DivisorNet [.one (.sl s)] m Ty.int (.ints .i64 (diNet l)) := by
  have c := impl_netOfNumbers (kind := 1) (f := diF l) hbig s m hs (diF_own l) fun hN k j m' hk hj hjk hs' => by
    have hk1 := hN.low k hk
    have hj1 := hN.low j hj
    obtain ⟨u, hu⟩ := Int.eq_ofNat_of_zero_le (show 0 ≤ (l.getD k 0) by omega)
    obtain ⟨v, hv⟩ := Int.eq_ofNat_of_zero_le (show 0 ≤ (l.getD j 0) by omega)
    have hcf : diF l k j = decide ((u : Int) % (v : Int) = 0 ∨ (v : Int) % (u : Int) = 0) := by unfold diF; rw [decide_eq_true hjk, Bool.true_and, hu, hv]
    rw [hcf, hu, hv]
    exact impl_areNear_di s u v m' (by omega) (by omega)
  refine arn T.impl_DivisorNet (by rfl) fun hwf => ?_
  repeat' (first | refine xA ?_ | refine xB ?_ | refine xC ?_ | refine xD ?_ | refine xE ?_ | refine xF ?_ | refine xG ?_ | refine xH ?_ | refine xI rfl ?_ | refine xJ ?_ | refine xK ?_ | refine xL ?_ | refine xM rfl ?_ | refine xN rfl ?_ | refine xO rfl ?_ | (first | refine xP rfl (fun hif => ?_) (fun hif => ?_) | refine xQ rfl (fun hif => ?_) (fun hif => ?_) | refine xR rfl (fun hif => ?_) (fun hif => ?_) | refine xS rfl (fun hif => ?_) (fun hif => ?_)) <;> try (first | contradiction | (exfalso; omega)) | (refine hK _ _ ?_; clear hK K) | refine ARet.call c fun s5 m5 g5 o5 => ?_ | (refine And.intro (by first | omega | assumption | (constructor <;> omega)) ?_) | (refine And.intro (fun hif => ?_) (fun hif => ?_) <;> try (first | contradiction | (exfalso; omega))) | ((first | refine xT fun K hK => ?_ | refine xU fun K hK => ?_ | refine yB (fun K hK => ?_) (fun K hK => ?_) | refine xV ?_ | refine yA ?_ | refine xW ?_ | refine xX ?_ | refine xY ?_ | refine xZ ?_) <;> simp only [↓awpOps, ↓awpKeep, ↓awpKeepF, ↓aop, ↓aopQ, ↓abin, ↓aun, ↓onSome_some, ↓Kont_at, ↓KM_at, ↓KV_at, ↓KU_at, refId_row, Frame.ev, Frame.evs, Frame.evOr, Frame.put, Frame.keep, get_nil, get_cons, argFrame, resOf, fillA, Vals.len, Vals.get, Vals.set, Vals.app, Vals.sub, Vals.take, Vals.ofAgg_cons, Vals.ofList, Vals.toInts, Vals.toBools, Vals.toSls, Vals.toStrs, Vals.zeros, Nat.reduceBEq, Nat.reduceAdd, Nat.reduceEqDiff, cond_true, cond_false, Option.map_some, Option.map_none, List.length_cons, List.length_nil, List.replicate, List.set_cons_zero, List.set_cons_succ, Nat.reduceLT, Bool.not_true, Bool.not_false, Int.toNat_natCast, inR, Nat.zero_add, Int.toNat_zero, reduceCtorEq, IntKind.bits, List.nil_append, List.cons_append, Nat.add_zero, Nat.sub_zero, noughts_len, List.map_cons, List.map_nil, zp, zu]) | refine And.intro ?_ (fun hif => (hif trivial).elim) | (intro hif; try (first | contradiction | (exfalso; omega))))
  all_goals exact ⟨_, rfl, g5, o5⟩
theorem impl_SumNet {l : List Int} (hbig : l.length ≤ 1048576) (s : SV) (_ : List Int) (m : Heap) (hs : IsInts .i64 m s l) : ARet Try.prog F.impl_SumNet [.one (.sl s)] m Ty.int (.ints .i64 (suNet l)) := by
  have c := impl_netOfNumbers (kind := 2) (f := suF l) hbig s m hs (suF_own l) fun hN k j m' hk hj hjk hs' => by
    have hcf : suF l k j = decide ((l.getD k 0) + (l.getD j 0) ∈ l) := by unfold suF; rw [decide_eq_true hjk, Bool.true_and]
    rw [hcf]
    exact impl_areNear_su s l _ _ m' hs' hbig (hN.low k hk) (hN.low j hj)
  refine arn T.impl_SumNet (by rfl) fun hwf => ?_
  repeat' (first | refine xA ?_ | refine xB ?_ | refine xC ?_ | refine xD ?_ | refine xE ?_ | refine xF ?_ | refine xG ?_ | refine xH ?_ | refine xI rfl ?_ | refine xJ ?_ | refine xK ?_ | refine xL ?_ | refine xM rfl ?_ | refine xN rfl ?_ | refine xO rfl ?_ | (first | refine xP rfl (fun hif => ?_) (fun hif => ?_) | refine xQ rfl (fun hif => ?_) (fun hif => ?_) | refine xR rfl (fun hif => ?_) (fun hif => ?_) | refine xS rfl (fun hif => ?_) (fun hif => ?_)) <;> try (first | contradiction | (exfalso; omega)) | (refine hK _ _ ?_; clear hK K) | refine ARet.call c fun s5 m5 g5 o5 => ?_ | (refine And.intro (by first | omega | assumption | (constructor <;> omega)) ?_) | (refine And.intro (fun hif => ?_) (fun hif => ?_) <;> try (first | contradiction | (exfalso; omega))) | ((first | refine xT fun K hK => ?_ | refine xU fun K hK => ?_ | refine yB (fun K hK => ?_) (fun K hK => ?_) | refine xV ?_ | refine yA ?_ | refine xW ?_ | refine xX ?_ | refine xY ?_ | refine xZ ?_) <;> simp only [↓awpOps, ↓awpKeep, ↓awpKeepF, ↓aop, ↓aopQ, ↓abin, ↓aun, ↓onSome_some, ↓Kont_at, ↓KM_at, ↓KV_at, ↓KU_at, refId_row, Frame.ev, Frame.evs, Frame.evOr, Frame.put, Frame.keep, get_nil, get_cons, argFrame, resOf, fillA, Vals.len, Vals.get, Vals.set, Vals.app, Vals.sub, Vals.take, Vals.ofAgg_cons, Vals.ofList, Vals.toInts, Vals.toBools, Vals.toSls, Vals.toStrs, Vals.zeros, Nat.reduceBEq, Nat.reduceAdd, Nat.reduceEqDiff, cond_true, cond_false, Option.map_some, Option.map_none, List.length_cons, List.length_nil, List.replicate, List.set_cons_zero, List.set_cons_succ, Nat.reduceLT, Bool.not_true, Bool.not_false, Int.toNat_natCast, inR, Nat.zero_add, Int.toNat_zero, reduceCtorEq, IntKind.bits, List.nil_append, List.cons_append, Nat.add_zero, Nat.sub_zero, noughts_len, List.map_cons, List.map_nil, zp, zu]) | refine And.intro ?_ (fun hif => (hif trivial).elim) | (intro hif; try (first | contradiction | (exfalso; omega))))
  all_goals exact ⟨_, rfl, g5, o5⟩

/-! ### The first prime row, gone on with place by place -/

/-- The next place of a row can have a number. -/
def FitP (net row : List Int) (v : Nat) : Prop := (∀ i, i < row.length → (row.getD i 0) ≠ (v : Int)) ∧ ∀ k, k < row.length → bit ((net.getD row.length 0)) k = true → Nat.gcd v ((row.getD k 0)).toNat = 1
noncomputable instance (net row : List Int) (v : Nat) : Decidable (FitP net row v) := Classical.propDecidable _

def firstP (f : Nat → List Int) : Nat → List Int
  | 0 => []
  | n + 1 => if (firstP f n).length = 0 then f n else firstP f n
theorem firstP_step (f : Nat → List Int) (n : Nat) : firstP f (n + 1) = if (firstP f n).length = 0 then f n else firstP f n := rfl
theorem firstP_no {f : Nat → List Int} : ∀ {n : Nat}, (∀ v, v < n → (f v).length = 0) → firstP f n = []
  | 0, _ => rfl
  | n + 1, h => by
    rw [firstP_step, firstP_no fun v hv => h v (by omega), if_pos (show ([] : List Int).length = 0 from rfl)]
    exact List.eq_nil_of_length_eq_zero (h n (Nat.lt_succ_self n))
theorem firstP_one {f : Nat → List Int} {v : Nat} (h : ∀ u, u < v → (f u).length = 0) (hv : (f v).length ≠ 0) : ∀ {n : Nat}, v < n → firstP f n = f v
  | n + 1, hn => by
    rw [firstP_step]
    rcases Nat.lt_succ_iff_lt_or_eq.1 hn with c | rfl
    · rw [firstP_one h hv c, if_neg hv]
    · rw [firstP_no h, if_pos (show ([] : List Int).length = 0 from rfl)]
theorem firstP_congr {f g : Nat → List Int} : ∀ {n : Nat}, (∀ v, v < n → f v = g v) → firstP f n = firstP g n
  | 0, _ => rfl
  | n + 1, h => by rw [firstP_step, firstP_step, firstP_congr fun v hv => h v (by omega), h n (Nat.lt_succ_self n)]
theorem firstP_shift {f : Nat → List Int} (h : f 0 = []) : ∀ n, firstP f (n + 1) = firstP (fun v => f (v + 1)) n
  | 0 => by rw [firstP_step]; exact h
  | n + 1 => by rw [firstP_step, firstP_shift h n]; rfl

noncomputable def primeFrom (net : List Int) : Nat → List Int → List Int
  | 0, row => row
  | r + 1, row => firstP (fun v => if 1 ≤ v ∧ FitP net row v then primeFrom net r (row ++ [(v : Int)]) else []) (net.length + 1)
noncomputable def primeTry (net : List Int) (r : Nat) (row : List Int) (v : Nat) : List Int := if 1 ≤ v ∧ FitP net row v then primeFrom net r (row ++ [(v : Int)]) else []
theorem primeFrom_all (net : List Int) (r : Nat) (row : List Int) : primeFrom net (r + 1) row = firstP (primeTry net r row) (net.length + 1) := rfl
theorem primeTry_none (net : List Int) (r : Nat) (row : List Int) : primeTry net r row 0 = [] := if_neg fun h => absurd h.1 (by decide)

/-- What a list's first element that has something has. -/
def firstIn (g : List Int → List Int) : List (List Int) → List Int
  | [] => []
  | x :: L => if (g x).length = 0 then firstIn g L else g x
theorem firstIn_app (g : List Int → List Int) : ∀ (L M : List (List Int)), firstIn g (L ++ M) = if (firstIn g L).length = 0 then firstIn g M else firstIn g L
  | [], M => by rw [List.nil_append, show firstIn g [] = [] from rfl, if_pos (show ([] : List Int).length = 0 from rfl)]
  | x :: L, M => by
    show (if (g x).length = 0 then firstIn g (L ++ M) else g x) = if (if (g x).length = 0 then firstIn g L else g x).length = 0 then firstIn g M else (if (g x).length = 0 then firstIn g L else g x)
    by_cases c : (g x).length = 0
    · rw [if_pos c, if_pos c]; exact firstIn_app g L M
    · rw [if_neg c, if_neg c, if_neg c]
theorem firstIn_one (g : List Int → List Int) (x : List Int) : firstIn g [x] = g x := by
  show (if (g x).length = 0 then [] else g x) = g x
  by_cases c : (g x).length = 0
  · rw [if_pos c]; exact (List.eq_nil_of_length_eq_zero c).symm
  · rw [if_neg c]
theorem firstIn_range (g : List Int → List Int) (h : Nat → List (List Int)) : ∀ n, firstIn g ((List.range n).flatMap h) = firstP (fun v => firstIn g (h v)) n
  | 0 => rfl
  | n + 1 => by
    rw [List.range_succ, List.flatMap_append, firstIn_app, firstIn_range g h n]
    simp only [List.flatMap_cons, List.flatMap_nil, List.append_nil]
    rfl
theorem firstIn_none {g : List Int → List Int} : ∀ {L : List (List Int)}, (∀ x, x ∈ L → (g x).length = 0) → firstIn g L = []
  | [], _ => rfl
  | x :: L, h => by
    show (if (g x).length = 0 then firstIn g L else g x) = []
    rw [if_pos (h x List.mem_cons_self)]
    exact firstIn_none fun y hy => h y (List.mem_cons_of_mem _ hy)

noncomputable def primeG (net x : List Int) : List Int := if PrimeRow net (moved net x 1) then moved net x 1 else []
theorem primeTo_in {net : List Int} (hN : NetOk net) : ∀ k, k ≤ (ords net.length).length → primeTo net k = if (firstIn (primeG net) ((ords net.length).take k)).length = 0 then none else some (firstIn (primeG net) ((ords net.length).take k))
  | 0, _ => rfl
  | k + 1, hk => by
    have ih := primeTo_in hN k (by omega)
    have et : (ords net.length).take (k + 1) = (ords net.length).take k ++ [(ords net.length).getD k []] := by
      rw [List.take_succ_eq_append_getElem (by omega), List.getD_eq_getElem?_getD, List.getElem?_eq_getElem (by omega)]
      rfl
    have e0 : primeG net ((ords net.length).getD k []) = if PrimeRow net (primeAt net k) then primeAt net k else [] := rfl
    rw [primeTo_step, ih, et, firstIn_app, firstIn_one, e0]
    generalize firstIn (primeG net) ((ords net.length).take k) = x
    by_cases c : x.length = 0
    · rw [if_pos c, if_pos c]
      by_cases d : PrimeRow net (primeAt net k)
      · have : (primeAt net k).length ≠ 0 := by rw [d.len]; have := hN.pos; omega
        rw [if_pos d, if_pos d, if_neg this]
      · rw [if_neg d, if_neg d, if_pos (show ([] : List Int).length = 0 from rfl)]
    · rw [if_neg c, if_neg c, if_neg c]

theorem moved_one {net x : List Int} (hO : OrdOk net x) : moved net x 1 = x.map fun z => z + 1 := by
  have h6 := hO.ok.six
  have hW : Within 30 (x.map fun z => z + 1) := by
    intro k hk
    rw [List.length_map] at hk
    rw [map_get _ hk]
    have := hO.low (k := k) (by rw [← hO.len]; exact hk)
    omega
  rw [moved, if_pos ⟨hO.rowOk, by decide, hW⟩]
theorem ords_take {many : Nat} : ∀ (r : Nat) (row x : List Int), x ∈ ordsFrom many r row → x.take row.length = row
  | 0, row, x, hx => by
    have : x = row := by simpa [ordsFrom] using hx
    rw [this, List.take_length]
  | r + 1, row, x, hx => by
    unfold ordsFrom at hx
    obtain ⟨n, h1, h2⟩ := List.mem_flatMap.1 hx
    by_cases c : (n : Int) ∈ row
    · rw [if_pos c] at h2; cases h2
    · rw [if_neg c] at h2
      have e := congrArg (List.take row.length) (ords_take r _ x h2)
      rw [List.take_take, List.length_append, Nat.min_eq_left (Nat.le_add_right _ _), List.take_left] at e
      exact e

/-- Neighbours among the places of an order begun have numbers without a common divisor, each more by one. -/
def CoUp (net x : List Int) : Prop := ∀ b, b < x.length → ∀ a, a < b → bit ((net.getD b 0)) a = true → Nat.gcd ((x.getD a 0) + 1).toNat ((x.getD b 0) + 1).toNat = 1

theorem ords_prime {net : List Int} (hN : NetOk net) : ∀ (r : Nat) (x : List Int), x.length + r = net.length → Part net.length x → CoUp net x → firstIn (primeG net) (ordsFrom net.length r x) = primeFrom net r (x.map fun z => z + 1)
  | 0, x, hl, hp, hc => by
    have e := moved_one ((ord_part hN).2 ⟨by omega, hp⟩)
    have hP : PrimeRow net (moved net x 1) := by
      rw [e]
      refine ⟨hN, by rw [List.length_map]; omega, fun k hk => ?_, once_map _ (fun a b e => by omega) hp.1, fun b hb a hab hbit => ?_⟩
      · rw [map_get _ (by omega)]
        have := hp.2 k (by omega)
        omega
      · rw [map_get _ (by omega), map_get _ (by omega)]
        exact hc b (by omega) a hab hbit
    show firstIn (primeG net) [x] = _
    rw [firstIn_one, primeG, if_pos hP, e]
    rfl
  | r + 1, x, hl, hp, hc => by
    have hml : (x.map fun z => z + 1).length = x.length := List.length_map _
    show firstIn (primeG net) ((List.range net.length).flatMap fun n : Nat => if (n : Int) ∈ x then [] else ordsFrom net.length r (x ++ [(n : Int)])) = _
    rw [primeFrom_all, firstIn_range, firstP_shift (primeTry_none _ _ _)]
    refine firstP_congr fun v hv => ?_
    show firstIn (primeG net) (if (v : Int) ∈ x then [] else ordsFrom net.length r (x ++ [(v : Int)])) = primeTry net r (x.map fun z => z + 1) (v + 1)
    by_cases c : (v : Int) ∈ x
    · have hno : ¬ FitP net (x.map fun z => z + 1) (v + 1) := fun h => by
        obtain ⟨j, hj, e⟩ := mem_getI c
        refine h.1 j (by omega) ?_
        rw [map_get _ hj, e]
        omega
      rw [if_pos c, primeTry, if_neg fun h => hno h.2]
      rfl
    · rw [if_neg c]
      have hpush := hp.push hv c
      have hpl : (x ++ [(v : Int)]).length = x.length + 1 := by simp
      by_cases d : ∀ k, k < x.length → bit ((net.getD x.length 0)) k = true → Nat.gcd (v + 1) ((x.getD k 0) + 1).toNat = 1
      · have hf : FitP net (x.map fun z => z + 1) (v + 1) := by
          constructor
          · intro i hi e
            rw [hml] at hi
            rw [map_get _ hi] at e
            refine c ?_
            rw [show (v : Int) = (x.getD i 0) by omega, List.getD_eq_getElem?_getD, List.getElem?_eq_getElem hi]
            exact List.getElem_mem _
          · intro k hk hb
            rw [hml] at hk hb
            rw [map_get _ hk]
            exact d k hk hb
        have hc' : CoUp net (x ++ [(v : Int)]) := fun b hb a hab hbit => by
          rw [hpl] at hb
          rcases Nat.lt_succ_iff_lt_or_eq.1 hb with h | rfl
          · rw [push_l _ _ h, push_l _ _ (by omega)]
            exact hc b h a hab hbit
          · rw [push_at, push_l _ _ hab, Nat.gcd_comm]
            exact d a hab hbit
        rw [ords_prime hN r _ (by omega) hpush hc', primeTry, if_pos ⟨by omega, hf⟩, List.map_append]
        rfl
      · have hno : ¬ FitP net (x.map fun z => z + 1) (v + 1) := fun h => d fun k hk hb => by
          have := h.2 k (by omega) (by rw [hml]; exact hb)
          rw [map_get _ hk] at this
          exact this
        rw [primeTry, if_neg fun h => hno h.2]
        refine firstIn_none fun y hy => ?_
        obtain ⟨hyl, hyp⟩ := ords_in r _ y (by omega) hpush hy
        have ht := ords_take r _ y hy
        have hy1 : ∀ k, k < x.length → (y.getD k 0) = (x.getD k 0) := fun k hk => by
          rw [← take_getI (x := y) (n := (x ++ [(v : Int)]).length) (by omega), ht, push_l _ _ hk]
        have hy2 : (y.getD x.length 0) = (v : Int) := by
          rw [← take_getI (x := y) (n := (x ++ [(v : Int)]).length) (by omega), ht, push_at]
        have e := moved_one ((ord_part hN).2 ⟨hyl, hyp⟩)
        have hnp : ¬ PrimeRow net (moved net y 1) := fun h => d fun k hk hb => by
          have := h.co x.length (by omega) k hk hb
          rw [e, map_get _ (by omega), map_get _ (by omega), hy1 k hk, hy2, Nat.gcd_comm] at this
          exact this
        rw [primeG, if_neg hnp]
        rfl

theorem prime_from {net : List Int} (hN : NetOk net) : primeL net = primeFrom net net.length [] ∧ primeB net = decide ((primeFrom net net.length []).length ≠ 0) := by
  have h := primeTo_in hN _ (Nat.le_refl _)
  have e := ords_prime hN net.length [] (by simp) ⟨fun k hk => absurd hk (Nat.not_lt_zero _), fun k hk => absurd hk (Nat.not_lt_zero _)⟩ fun k hk => absurd hk (Nat.not_lt_zero _)
  rw [List.take_length, show firstIn (primeG net) (ords net.length) = primeFrom net net.length [] from e] at h
  have hp : primeFirst net = primeTo net (ords net.length).length := if_pos hN
  unfold primeL primeB
  rw [hp, h]
  by_cases c : (primeFrom net net.length []).length = 0
  · rw [if_pos c, decide_eq_false fun d => d c]
    exact ⟨(List.eq_nil_of_length_eq_zero c).symm, rfl⟩
  · rw [if_neg c, decide_eq_true c]
    exact ⟨rfl, rfl⟩

/-! ### The row begun -/

set_option maxHeartbeats 4000000 in
theorem impl_isPrimeWith {s : SV} {net row : List Int} {n : Nat} {m : Heap} (hs : IsInts .i64 m s net) (hN : NetOk net) (hl : row.length < net.length) (hn : n ≤ 30) (hrow : ∀ i, i < row.length → 0 ≤ (row.getD i 0) ∧ (row.getD i 0) ≤ 30) :
    AQuiet Try.prog F.impl_isPrimeWith [.one (.sl s), begunX row 0, .one (.int .i64 (n : Int))] m (.one (.bool (decide (FitP net row n)))) := by
  obtain ⟨ref, off, len⟩ := s
  obtain rfl : len = net.length := hs.1
  have h6 := hN.six
  have hnl := nums_lt fun i hi => (hrow i hi).2
  have hg0 : ∀ i, i < 6 → (begunL row 0).getD i 0 = (row.getD i 0) := fun i hi => begunL_get row 0 hi
  have e6 : (begunL row 0).getD 6 0 = (row.length : Int) := rfl
  have e7 : (begunL row 0).getD 7 0 = (nums row : Int) := rfl
  have hagg : Vals.ofAgg ((begunL row 0).map (AV.int .i64)) = .ints .i64 (begunL row 0) := Vals.ofAgg_ints _ _ _
  have hLl : (begunL row 0).length = 9 := rfl
  have hml : ((begunL row 0).map (AV.int .i64)).length = 9 := rfl
  unfold begunX
  generalize begunL row 0 = L at *
  have hpm := prefix_push m ⟨Ty.impl_begun, m.length, true, .ints .i64 L⟩
  have hs1 := hs.pre hpm
  have hat : ∀ i, i < 9 → Heap.at (m ++ [⟨Ty.impl_begun, m.length, true, .ints .i64 L⟩]) m.length i = some (.int .i64 (L.getD i 0)) := fun i hi => at_row (get_last _ _) (by simp only [Vals.len]; omega)
  have a6 := hat 6 (by decide)
  have a7 := hat 7 (by decide)
  rw [e6] at a6
  rw [e7] at a7
  refine aqn T.impl_isPrimeWith (by rfl) ?_
  have hM := impl_hasMark (nums row : Int) n (by omega) (by omega) (by omega) (m ++ [⟨Ty.impl_begun, m.length, true, .ints .i64 L⟩])
  rw [bit_cast] at hM
  have hmb := nums_bit row n
  cases hb0 : (nums row).testBit n with
  | true =>
    rw [hb0] at hM
    have hno : decide (FitP net row n) = false := decide_eq_false fun h => by
      obtain ⟨i, h1, h2⟩ := hmb.1 hb0
      have := hrow i h1
      exact h.1 i h1 (by omega)
    rw [hno]
    repeat' (first | refine xA ?_ | refine xB ?_ | refine xC ?_ | refine xD ?_ | refine xE ?_ | refine xF ?_ | refine xG ?_ | refine xH ?_ | refine xI rfl ?_ | refine xJ ?_ | refine xK ?_ | refine xL ?_ | refine xM rfl ?_ | refine xN rfl ?_ | refine xO rfl ?_ | (first | refine xP rfl (fun hif => ?_) (fun hif => ?_) | refine xQ rfl (fun hif => ?_) (fun hif => ?_) | refine xR rfl (fun hif => ?_) (fun hif => ?_) | refine xS rfl (fun hif => ?_) (fun hif => ?_)) <;> try (first | contradiction | (exfalso; omega)) | (refine hK _ _ ?_; clear hK K) | rw [hagg] | refine onSome_of a7 ?_ | refine AQuiet.call hM trivial ?_ | refine AQuiet.callq hM trivial ?_ | (refine And.intro (by first | omega | assumption | (constructor <;> omega)) ?_) | (refine And.intro (fun hif => ?_) (fun hif => ?_) <;> try (first | contradiction | (exfalso; omega))) | ((first | refine xT fun K hK => ?_ | refine xU fun K hK => ?_ | refine yB (fun K hK => ?_) (fun K hK => ?_) | refine xV ?_ | refine yA ?_ | refine xW ?_ | refine xX ?_ | refine xY ?_ | refine xZ ?_) <;> simp only [↓awpOps, ↓awpKeep, ↓awpKeepF, ↓aop, ↓aopQ, ↓abin, ↓aun, ↓onSome_some, ↓Kont_at, ↓KM_at, ↓KV_at, ↓KU_at, refId_row, Frame.ev, Frame.evs, Frame.evOr, Frame.put, Frame.keep, get_nil, get_cons, argFrame, resOf, fillA, Vals.len, Vals.get, Vals.set, Vals.app, Vals.sub, Vals.take, Vals.ofAgg_cons, Vals.ofList, Vals.toInts, Vals.toBools, Vals.toSls, Vals.toStrs, Vals.zeros, Nat.reduceBEq, Nat.reduceAdd, Nat.reduceEqDiff, cond_true, cond_false, Option.map_some, Option.map_none, List.length_cons, List.length_nil, List.replicate, List.set_cons_zero, List.set_cons_succ, Nat.reduceLT, Bool.not_true, Bool.not_false, Int.toNat_natCast, inR, Nat.zero_add, Int.toNat_zero, reduceCtorEq, IntKind.bits, List.nil_append, List.cons_append, Nat.add_zero, Nat.sub_zero, noughts_len, List.map_cons, List.map_nil, zp, zu]) | refine And.intro ?_ (fun hif => (hif trivial).elim) | (intro hif; try (first | contradiction | (exfalso; omega))))
    all_goals first | exact hpm | exact ⟨rfl, hpm⟩
  | false =>
    rw [hb0] at hM
    have hnew : ∀ i, i < row.length → (row.getD i 0) ≠ (n : Int) := fun i hi e => by
      rw [hmb.2 ⟨i, hi, by rw [e]; rfl⟩] at hb0
      cases hb0
    clear hmb
    repeat' (first | refine xA ?_ | refine xB ?_ | refine xC ?_ | refine xD ?_ | refine xE ?_ | refine xF ?_ | refine xG ?_ | refine xH ?_ | refine xI rfl ?_ | refine xJ ?_ | refine xK ?_ | refine xL ?_ | refine xM rfl ?_ | refine xN rfl ?_ | refine xO rfl ?_ | (first | refine xP rfl (fun hif => ?_) (fun hif => ?_) | refine xQ rfl (fun hif => ?_) (fun hif => ?_) | refine xR rfl (fun hif => ?_) (fun hif => ?_) | refine xS rfl (fun hif => ?_) (fun hif => ?_)) <;> try (first | contradiction | (exfalso; omega)) | (refine hK _ _ ?_; clear hK K) | rw [hagg] | refine onSome_of a7 ?_ | refine AQuiet.call hM trivial ?_ | refine AQuiet.callq hM trivial ?_ | (refine And.intro (by first | omega | assumption | (constructor <;> omega)) ?_) | (refine And.intro (fun hif => ?_) (fun hif => ?_) <;> try (first | contradiction | (exfalso; omega))) | ((first | refine xT fun K hK => ?_ | refine xU fun K hK => ?_ | refine yB (fun K hK => ?_) (fun K hK => ?_) | refine xV ?_ | refine yA ?_ | refine xW ?_ | refine xX ?_ | refine xY ?_ | refine xZ ?_) <;> simp only [↓awpOps, ↓awpKeep, ↓awpKeepF, ↓aop, ↓aopQ, ↓abin, ↓aun, ↓onSome_some, ↓Kont_at, ↓KM_at, ↓KV_at, ↓KU_at, refId_row, Frame.ev, Frame.evs, Frame.evOr, Frame.put, Frame.keep, get_nil, get_cons, argFrame, resOf, fillA, Vals.len, Vals.get, Vals.set, Vals.app, Vals.sub, Vals.take, Vals.ofAgg_cons, Vals.ofList, Vals.toInts, Vals.toBools, Vals.toSls, Vals.toStrs, Vals.zeros, Nat.reduceBEq, Nat.reduceAdd, Nat.reduceEqDiff, cond_true, cond_false, Option.map_some, Option.map_none, List.length_cons, List.length_nil, List.replicate, List.set_cons_zero, List.set_cons_succ, Nat.reduceLT, Bool.not_true, Bool.not_false, Int.toNat_natCast, inR, Nat.zero_add, Int.toNat_zero, reduceCtorEq, IntKind.bits, List.nil_append, List.cons_append, Nat.add_zero, Nat.sub_zero, noughts_len, List.map_cons, List.map_nil, zp, zu]) | refine And.intro ?_ (fun hif => (hif trivial).elim) | (intro hif; try (first | contradiction | (exfalso; omega))))
    refine awp_loop ?_
    refine ALoop.by [0, 2, 4, 7] (fun k : Nat => [(0, .one (.sl ⟨ref, off, net.length⟩)), (2, .one (.int .i64 n)), (4, .one (.ptr m.length 0)), (7, .one (.int .i64 k))]) (fun _ => m ++ [⟨Ty.impl_begun, m.length, true, .ints .i64 L⟩]) (fun k => k ≤ row.length ∧ ∀ i, i < k → bit ((net.getD row.length 0)) i = true → Nat.gcd n ((row.getD i 0)).toNat = 1) (fun k => row.length - k) 0 rfl rfl ⟨Nat.zero_le _, fun i hi => absurd hi (Nat.not_lt_zero _)⟩ ?_
    rintro k ⟨hk, hok⟩ K1 hK1
    by_cases hlt : k < row.length
    · have hna := hs1.2 row.length hl
      have hnb := hN.small hl
      have hP := impl_hasPlace ((net.getD row.length 0)) k (by omega) (by omega) (by omega) (m ++ [⟨Ty.impl_begun, m.length, true, .ints .i64 L⟩])
      have hrk := hrow k hlt
      have ak := hat k (by omega)
      rw [hg0 k (by omega)] at ak
      have hnx : (bit ((net.getD row.length 0)) k = true → Nat.gcd n ((row.getD k 0)).toNat = 1) → ∀ i, i < k + 1 → bit ((net.getD row.length 0)) i = true → Nat.gcd n ((row.getD i 0)).toNat = 1 := fun h i hi => by
        rcases Nat.lt_succ_iff_lt_or_eq.1 hi with c | rfl
        · exact hok i c
        · exact h
      have hno : bit ((net.getD row.length 0)) k = true → ¬ Nat.gcd n ((row.getD k 0)).toNat = 1 → decide (FitP net row n) = false := fun h1 h2 => decide_eq_false fun h => h2 (h.2 k hlt h1)
      obtain ⟨v, hv⟩ := Int.eq_ofNat_of_zero_le hrk.1
      rw [hv] at ak hrk hnx hno
      rw [Int.toNat_natCast] at hnx hno
      have cG := impl_commonDivisor n v (by omega) (by omega) (m ++ [⟨Ty.impl_begun, m.length, true, .ints .i64 L⟩])
      have hgI : ((Nat.gcd n v : Nat) : Int) = 1 ↔ Nat.gcd n v = 1 := by omega
      generalize Nat.gcd n v = g at *
      cases hb : bit ((net.getD row.length 0)) k with
      | false =>
        rw [hb] at hP
        have hnx := hnx fun c => by rw [hb] at c; cases c
        clear hno
        repeat' (first | refine xA ?_ | refine xB ?_ | refine xC ?_ | refine xD ?_ | refine xE ?_ | refine xF ?_ | refine xG ?_ | refine xH ?_ | refine xI rfl ?_ | refine xJ ?_ | refine xK ?_ | refine xL ?_ | refine xM rfl ?_ | refine xN rfl ?_ | refine xO rfl ?_ | (first | refine xP rfl (fun hif => ?_) (fun hif => ?_) | refine xQ rfl (fun hif => ?_) (fun hif => ?_) | refine xR rfl (fun hif => ?_) (fun hif => ?_) | refine xS rfl (fun hif => ?_) (fun hif => ?_)) <;> try (first | contradiction | (exfalso; omega)) | (refine hK _ _ ?_; clear hK K) | refine onSome_of a6 ?_ | refine onSome_of hna ?_ | refine AQuiet.call hP trivial ?_ | refine AQuiet.callq hP trivial ?_ | (refine And.intro (by first | omega | assumption | (constructor <;> omega)) ?_) | (refine And.intro (fun hif => ?_) (fun hif => ?_) <;> try (first | contradiction | (exfalso; omega))) | ((first | refine xT fun K hK => ?_ | refine xU fun K hK => ?_ | refine yB (fun K hK => ?_) (fun K hK => ?_) | refine xV ?_ | refine yA ?_ | refine xW ?_ | refine xX ?_ | refine xY ?_ | refine xZ ?_) <;> simp only [↓awpOps, ↓awpKeep, ↓awpKeepF, ↓aop, ↓aopQ, ↓abin, ↓aun, ↓onSome_some, ↓Kont_at, ↓KM_at, ↓KV_at, ↓KU_at, refId_row, Frame.ev, Frame.evs, Frame.evOr, Frame.put, Frame.keep, get_nil, get_cons, argFrame, resOf, fillA, Vals.len, Vals.get, Vals.set, Vals.app, Vals.sub, Vals.take, Vals.ofAgg_cons, Vals.ofList, Vals.toInts, Vals.toBools, Vals.toSls, Vals.toStrs, Vals.zeros, Nat.reduceBEq, Nat.reduceAdd, Nat.reduceEqDiff, cond_true, cond_false, Option.map_some, Option.map_none, List.length_cons, List.length_nil, List.replicate, List.set_cons_zero, List.set_cons_succ, Nat.reduceLT, Bool.not_true, Bool.not_false, Int.toNat_natCast, inR, Nat.zero_add, Int.toNat_zero, reduceCtorEq, IntKind.bits, List.nil_append, List.cons_append, Nat.add_zero, Nat.sub_zero, noughts_len, List.map_cons, List.map_nil, zp, zu]) | refine And.intro ?_ (fun hif => (hif trivial).elim) | (intro hif; try (first | contradiction | (exfalso; omega))))
        all_goals exact hK1 (k + 1) _ _ rfl rfl ⟨by omega, hnx⟩ (by omega)
      | true =>
        rw [hb] at hP
        by_cases hg : g = 1
        · have hnx := hnx fun _ => hg
          have hg' := hgI.2 hg
          clear hno hgI
          repeat' (first | refine xA ?_ | refine xB ?_ | refine xC ?_ | refine xD ?_ | refine xE ?_ | refine xF ?_ | refine xG ?_ | refine xH ?_ | refine xI rfl ?_ | refine xJ ?_ | refine xK ?_ | refine xL ?_ | refine xM rfl ?_ | refine xN rfl ?_ | refine xO rfl ?_ | (first | refine xP rfl (fun hif => ?_) (fun hif => ?_) | refine xQ rfl (fun hif => ?_) (fun hif => ?_) | refine xR rfl (fun hif => ?_) (fun hif => ?_) | refine xS rfl (fun hif => ?_) (fun hif => ?_)) <;> try (first | contradiction | (exfalso; omega)) | (refine hK _ _ ?_; clear hK K) | refine onSome_of a6 ?_ | refine onSome_of hna ?_ | refine onSome_of ak ?_ | refine AQuiet.call hP trivial ?_ | refine AQuiet.callq hP trivial ?_ | refine AQuiet.call cG trivial ?_ | refine AQuiet.callq cG trivial ?_ | (refine And.intro (by first | omega | assumption | (constructor <;> omega)) ?_) | (refine And.intro (fun hif => ?_) (fun hif => ?_) <;> try (first | contradiction | (exfalso; omega))) | ((first | refine xT fun K hK => ?_ | refine xU fun K hK => ?_ | refine yB (fun K hK => ?_) (fun K hK => ?_) | refine xV ?_ | refine yA ?_ | refine xW ?_ | refine xX ?_ | refine xY ?_ | refine xZ ?_) <;> simp only [↓awpOps, ↓awpKeep, ↓awpKeepF, ↓aop, ↓aopQ, ↓abin, ↓aun, ↓onSome_some, ↓Kont_at, ↓KM_at, ↓KV_at, ↓KU_at, refId_row, Frame.ev, Frame.evs, Frame.evOr, Frame.put, Frame.keep, get_nil, get_cons, argFrame, resOf, fillA, Vals.len, Vals.get, Vals.set, Vals.app, Vals.sub, Vals.take, Vals.ofAgg_cons, Vals.ofList, Vals.toInts, Vals.toBools, Vals.toSls, Vals.toStrs, Vals.zeros, Nat.reduceBEq, Nat.reduceAdd, Nat.reduceEqDiff, cond_true, cond_false, Option.map_some, Option.map_none, List.length_cons, List.length_nil, List.replicate, List.set_cons_zero, List.set_cons_succ, Nat.reduceLT, Bool.not_true, Bool.not_false, Int.toNat_natCast, inR, Nat.zero_add, Int.toNat_zero, reduceCtorEq, IntKind.bits, List.nil_append, List.cons_append, Nat.add_zero, Nat.sub_zero, noughts_len, List.map_cons, List.map_nil, zp, zu]) | refine And.intro ?_ (fun hif => (hif trivial).elim) | (intro hif; try (first | contradiction | (exfalso; omega))))
          all_goals exact hK1 (k + 1) _ _ rfl rfl ⟨by omega, hnx⟩ (by omega)
        · have hg' : ¬ (g : Int) = 1 := fun c => hg (hgI.1 c)
          rw [hno hb hg]
          clear hno hnx hgI
          repeat' (first | refine xA ?_ | refine xB ?_ | refine xC ?_ | refine xD ?_ | refine xE ?_ | refine xF ?_ | refine xG ?_ | refine xH ?_ | refine xI rfl ?_ | refine xJ ?_ | refine xK ?_ | refine xL ?_ | refine xM rfl ?_ | refine xN rfl ?_ | refine xO rfl ?_ | (first | refine xP rfl (fun hif => ?_) (fun hif => ?_) | refine xQ rfl (fun hif => ?_) (fun hif => ?_) | refine xR rfl (fun hif => ?_) (fun hif => ?_) | refine xS rfl (fun hif => ?_) (fun hif => ?_)) <;> try (first | contradiction | (exfalso; omega)) | (refine hK _ _ ?_; clear hK K) | refine onSome_of a6 ?_ | refine onSome_of hna ?_ | refine onSome_of ak ?_ | refine AQuiet.call hP trivial ?_ | refine AQuiet.callq hP trivial ?_ | refine AQuiet.call cG trivial ?_ | refine AQuiet.callq cG trivial ?_ | (refine And.intro (by first | omega | assumption | (constructor <;> omega)) ?_) | (refine And.intro (fun hif => ?_) (fun hif => ?_) <;> try (first | contradiction | (exfalso; omega))) | ((first | refine xT fun K hK => ?_ | refine xU fun K hK => ?_ | refine yB (fun K hK => ?_) (fun K hK => ?_) | refine xV ?_ | refine yA ?_ | refine xW ?_ | refine xX ?_ | refine xY ?_ | refine xZ ?_) <;> simp only [↓awpOps, ↓awpKeep, ↓awpKeepF, ↓aop, ↓aopQ, ↓abin, ↓aun, ↓onSome_some, ↓Kont_at, ↓KM_at, ↓KV_at, ↓KU_at, refId_row, Frame.ev, Frame.evs, Frame.evOr, Frame.put, Frame.keep, get_nil, get_cons, argFrame, resOf, fillA, Vals.len, Vals.get, Vals.set, Vals.app, Vals.sub, Vals.take, Vals.ofAgg_cons, Vals.ofList, Vals.toInts, Vals.toBools, Vals.toSls, Vals.toStrs, Vals.zeros, Nat.reduceBEq, Nat.reduceAdd, Nat.reduceEqDiff, cond_true, cond_false, Option.map_some, Option.map_none, List.length_cons, List.length_nil, List.replicate, List.set_cons_zero, List.set_cons_succ, Nat.reduceLT, Bool.not_true, Bool.not_false, Int.toNat_natCast, inR, Nat.zero_add, Int.toNat_zero, reduceCtorEq, IntKind.bits, List.nil_append, List.cons_append, Nat.add_zero, Nat.sub_zero, noughts_len, List.map_cons, List.map_nil, zp, zu]) | refine And.intro ?_ (fun hif => (hif trivial).elim) | (intro hif; try (first | contradiction | (exfalso; omega))))
          all_goals first | exact hpm | exact ⟨rfl, hpm⟩
    · obtain rfl : k = row.length := by omega
      have hF : FitP net row n := ⟨hnew, hok⟩
      rw [decide_eq_true hF]
      repeat' (first | refine xA ?_ | refine xB ?_ | refine xC ?_ | refine xD ?_ | refine xE ?_ | refine xF ?_ | refine xG ?_ | refine xH ?_ | refine xI rfl ?_ | refine xJ ?_ | refine xK ?_ | refine xL ?_ | refine xM rfl ?_ | refine xN rfl ?_ | refine xO rfl ?_ | (first | refine xP rfl (fun hif => ?_) (fun hif => ?_) | refine xQ rfl (fun hif => ?_) (fun hif => ?_) | refine xR rfl (fun hif => ?_) (fun hif => ?_) | refine xS rfl (fun hif => ?_) (fun hif => ?_)) <;> try (first | contradiction | (exfalso; omega)) | (refine hK _ _ ?_; clear hK K) | refine onSome_of a6 ?_ | (refine And.intro (by first | omega | assumption | (constructor <;> omega)) ?_) | (refine And.intro (fun hif => ?_) (fun hif => ?_) <;> try (first | contradiction | (exfalso; omega))) | ((first | refine xT fun K hK => ?_ | refine xU fun K hK => ?_ | refine yB (fun K hK => ?_) (fun K hK => ?_) | refine xV ?_ | refine yA ?_ | refine xW ?_ | refine xX ?_ | refine xY ?_ | refine xZ ?_) <;> simp only [↓awpOps, ↓awpKeep, ↓awpKeepF, ↓aop, ↓aopQ, ↓abin, ↓aun, ↓onSome_some, ↓Kont_at, ↓KM_at, ↓KV_at, ↓KU_at, refId_row, Frame.ev, Frame.evs, Frame.evOr, Frame.put, Frame.keep, get_nil, get_cons, argFrame, resOf, fillA, Vals.len, Vals.get, Vals.set, Vals.app, Vals.sub, Vals.take, Vals.ofAgg_cons, Vals.ofList, Vals.toInts, Vals.toBools, Vals.toSls, Vals.toStrs, Vals.zeros, Nat.reduceBEq, Nat.reduceAdd, Nat.reduceEqDiff, cond_true, cond_false, Option.map_some, Option.map_none, List.length_cons, List.length_nil, List.replicate, List.set_cons_zero, List.set_cons_succ, Nat.reduceLT, Bool.not_true, Bool.not_false, Int.toNat_natCast, inR, Nat.zero_add, Int.toNat_zero, reduceCtorEq, IntKind.bits, List.nil_append, List.cons_append, Nat.add_zero, Nat.sub_zero, noughts_len, List.map_cons, List.map_nil, zp, zu]) | refine And.intro ?_ (fun hif => (hif trivial).elim) | (intro hif; try (first | contradiction | (exfalso; omega))))
      all_goals first | exact hpm | exact ⟨rfl, hpm⟩

set_option maxHeartbeats 4000000 in
theorem impl_withPrime {row : List Int} {n : Nat} (m : Heap) (hl : row.length < 6) (hn : n ≤ 30) (hrow : ∀ i, i < row.length → 0 ≤ (row.getD i 0) ∧ (row.getD i 0) ≤ 30) :
    AQuiet Try.prog F.impl_withPrime [begunX row 0, .one (.int .i64 (n : Int))] m (begunX (row ++ [(n : Int)]) 0) := by
  have hW : ∀ mx, AQuiet Try.prog F.impl_withNumber [begunX row 0, .one (.int .i64 (n : Int)), .one (.int .i64 0)] mx (begunX (row ++ [(n : Int)]) 0) := fun mx => impl_withNumber (c0 := 0) (c := 0) mx hl hn hrow
  delta AQuiet
  refine ACalls.wf fun hwf => ?_
  have hagg : Vals.ofAgg ((begunL row 0).map (AV.int .i64)) = .ints .i64 (begunL row 0) := Vals.ofAgg_ints _ _ _
  have hagg2 : Vals.ofAgg ((begunL (row ++ [(n : Int)]) 0).map (AV.int .i64)) = .ints .i64 (begunL (row ++ [(n : Int)]) 0) := Vals.ofAgg_ints _ _ _
  have hLl : (begunL row 0).length = 9 := rfl
  have hml : ((begunL row 0).map (AV.int .i64)).length = 9 := rfl
  have hL2 : (begunL (row ++ [(n : Int)]) 0).length = 9 := rfl
  have hm2 : ((begunL (row ++ [(n : Int)]) 0).map (AV.int .i64)).length = 9 := rfl
  unfold begunX at hW ⊢
  generalize begunL row 0 = L at *
  generalize begunL (row ++ [(n : Int)]) 0 = L' at *
  have g0 := Grow.push hwf Ty.impl_begun true (.ints .i64 L)
  refine afna T.impl_withPrime (by rfl) ?_
  have hrow0 : (m ++ [(⟨Ty.impl_begun, m.length, true, .ints .i64 L⟩ : Row)] ++ [⟨Ty.impl_begun, List.length (m ++ [(⟨Ty.impl_begun, m.length, true, .ints .i64 L⟩ : Row)]), true, .ints .i64 [0, 0, 0, 0, 0, 0, 0, 0, 0]⟩])[m.length]? = some ⟨Ty.impl_begun, m.length, true, .ints .i64 L⟩ := row_at_push (get_last _ _) _
  have hwf0 := (g0.trans (Grow.push g0.wf Ty.impl_begun true (.ints .i64 [0, 0, 0, 0, 0, 0, 0, 0, 0]))).wf
  have hres0 := get_last (m ++ [(⟨Ty.impl_begun, m.length, true, .ints .i64 L⟩ : Row)]) ⟨Ty.impl_begun, List.length (m ++ [(⟨Ty.impl_begun, m.length, true, .ints .i64 L⟩ : Row)]), true, .ints .i64 [0, 0, 0, 0, 0, 0, 0, 0, 0]⟩
  have hpre0 : m <+: m ++ [(⟨Ty.impl_begun, m.length, true, .ints .i64 L⟩ : Row)] ++ [⟨Ty.impl_begun, List.length (m ++ [(⟨Ty.impl_begun, m.length, true, .ints .i64 L⟩ : Row)]), true, .ints .i64 [0, 0, 0, 0, 0, 0, 0, 0, 0]⟩] := (prefix_push _ _).trans (prefix_push _ _)
  have hcs := cells_ints hrow0 hLl.symm
  repeat' (first | refine xA ?_ | refine xB ?_ | refine xC ?_ | refine xD ?_ | refine xE ?_ | refine xF ?_ | refine xG ?_ | refine xH ?_ | refine xI rfl ?_ | refine xJ ?_ | refine xK ?_ | refine xL ?_ | refine xM rfl ?_ | refine xN rfl ?_ | refine xO rfl ?_ | (first | refine xP rfl (fun hif => ?_) (fun hif => ?_) | refine xQ rfl (fun hif => ?_) (fun hif => ?_) | refine xR rfl (fun hif => ?_) (fun hif => ?_) | refine xS rfl (fun hif => ?_) (fun hif => ?_)) <;> try (first | contradiction | (exfalso; omega)) | (refine hK _ _ ?_; clear hK K) | rw [hagg] | (refine onCells_of hcs ?_; simp only [↓KM_at]) | refine AQuiet.call (hW _) (flats_ints _ _) ?_ | refine AQuiet.callq (hW _) (flats_ints _ _) ?_ | refine st_agg hwf0 hres0 hm2.symm rfl hagg2 fun m5 g5 l5 r5 => ?_ | refine ret_agg rfl (cells_ints r5 hL2.symm) ?_ | (refine And.intro (by first | omega | assumption | (constructor <;> omega)) ?_) | (refine And.intro (fun hif => ?_) (fun hif => ?_) <;> try (first | contradiction | (exfalso; omega))) | ((first | refine xT fun K hK => ?_ | refine xU fun K hK => ?_ | refine yB (fun K hK => ?_) (fun K hK => ?_) | refine xV ?_ | refine yA ?_ | refine xW ?_ | refine xX ?_ | refine xY ?_ | refine xZ ?_) <;> simp only [↓awpOps, ↓awpKeep, ↓awpKeepF, ↓aop, ↓aopQ, ↓abin, ↓aun, ↓onSome_some, ↓Kont_at, ↓KM_at, ↓KV_at, ↓KU_at, refId_row, Frame.ev, Frame.evs, Frame.evOr, Frame.put, Frame.keep, get_nil, get_cons, argFrame, resOf, fillA, Vals.len, Vals.get, Vals.set, Vals.app, Vals.sub, Vals.take, Vals.ofAgg_cons, Vals.ofList, Vals.toInts, Vals.toBools, Vals.toSls, Vals.toStrs, Vals.zeros, Nat.reduceBEq, Nat.reduceAdd, Nat.reduceEqDiff, cond_true, cond_false, Option.map_some, Option.map_none, List.length_cons, List.length_nil, List.replicate, List.set_cons_zero, List.set_cons_succ, Nat.reduceLT, Bool.not_true, Bool.not_false, Int.toNat_natCast, inR, Nat.zero_add, Int.toNat_zero, reduceCtorEq, IntKind.bits, List.nil_append, List.cons_append, Nat.add_zero, Nat.sub_zero, noughts_len, List.map_cons, List.map_nil, zp, zu]) | refine And.intro ?_ (fun hif => (hif trivial).elim) | (intro hif; try (first | contradiction | (exfalso; omega))))
  all_goals first | exact g5.pre hpre0 hwf (by simp) | exact ⟨rfl, g5.pre hpre0 hwf (by simp)⟩

set_option maxHeartbeats 8000000 in
theorem impl_primeFrom {net : List Int} (hN : NetOk net) : ∀ (rem : Nat) (row : List Int) (s : SV) (m : Heap), IsInts .i64 m s net → row.length + rem = net.length → (∀ k, k < row.length → 0 ≤ (row.getD k 0) ∧ (row.getD k 0) ≤ 30) →
    ARet2 Try.prog F.impl_primeFrom [.one (.sl s), begunX row 0] m Ty.int (.ints .i64 (primeFrom net rem row)) (.bool (decide ((primeFrom net rem row).length ≠ 0))) := by
  intro rem
  have h6 := hN.six
  have hpos := hN.pos
  induction rem with
  | zero =>
    intro row s m hs hl hrow
    obtain ⟨ref, off, len⟩ := s
    obtain rfl : len = net.length := hs.1
    rw [show primeFrom net 0 row = row from rfl, decide_eq_true (show row.length ≠ 0 by omega)]
    have e6 : (begunL row 0).getD 6 0 = (row.length : Int) := rfl
    have htk := begunL_take row 0 (by omega)
    have hagg : Vals.ofAgg ((begunL row 0).map (AV.int .i64)) = .ints .i64 (begunL row 0) := Vals.ofAgg_ints _ _ _
    have hLl : (begunL row 0).length = 9 := rfl
    have hml : ((begunL row 0).map (AV.int .i64)).length = 9 := rfl
    unfold ARet2
    refine ACalls.wf fun hwf => ?_
    refine afn T.impl_primeFrom (by rfl) ?_
    unfold begunX
    generalize begunL row 0 = L at *
    have a6 : Heap.at (m ++ [⟨Ty.impl_begun, m.length, true, .ints .i64 L⟩]) m.length 6 = some (.int .i64 (L.getD 6 0)) := at_row (get_last _ _) (by simp only [Vals.len]; omega)
    rw [e6] at a6
    have g0 := Grow.push hwf Ty.impl_begun true (.ints .i64 L)
    have g1 := Grow.push g0.wf Ty.int true (.ints .i64 [])
    have hA := acc_new g0.wf Ty.int (.ints .i64 []) (n := 0) rfl
    have hbox : (m ++ [(⟨Ty.impl_begun, m.length, true, .ints .i64 L⟩ : Row)] ++ [⟨Ty.int, List.length (m ++ [(⟨Ty.impl_begun, m.length, true, .ints .i64 L⟩ : Row)]), true, .ints .i64 []⟩])[m.length]? = some ⟨Ty.impl_begun, m.length, true, .ints .i64 L⟩ := row_at_push (get_last _ _) _
    have a6' := at_row hbox (off := 6) (by simp only [Vals.len]; omega)
    simp only [Vals.get, e6] at a6'
    repeat' (first | refine xA ?_ | refine xB ?_ | refine xC ?_ | refine xD ?_ | refine xE ?_ | refine xF ?_ | refine xG ?_ | refine xH ?_ | refine xI rfl ?_ | refine xJ ?_ | refine xK ?_ | refine xL ?_ | refine xM rfl ?_ | refine xN rfl ?_ | refine xO rfl ?_ | (first | refine xP rfl (fun hif => ?_) (fun hif => ?_) | refine xQ rfl (fun hif => ?_) (fun hif => ?_) | refine xR rfl (fun hif => ?_) (fun hif => ?_) | refine xS rfl (fun hif => ?_) (fun hif => ?_)) <;> try (first | contradiction | (exfalso; omega)) | (refine hK _ _ ?_; clear hK K) | rw [hagg] | refine onSome_of a6 ?_ | refine onSome_of a6' ?_ | refine app_part g1.wf hA (fun c => by cases c) hbox (by omega) (by simp; omega) fun s2 m2 hp2 g2 hA2 hne2 => ?_ | (refine And.intro (by first | omega | assumption | (constructor <;> omega)) ?_) | (refine And.intro (fun hif => ?_) (fun hif => ?_) <;> try (first | contradiction | (exfalso; omega))) | ((first | refine xT fun K hK => ?_ | refine xU fun K hK => ?_ | refine yB (fun K hK => ?_) (fun K hK => ?_) | refine xV ?_ | refine yA ?_ | refine xW ?_ | refine xX ?_ | refine xY ?_ | refine xZ ?_) <;> simp only [↓awpOps, ↓awpKeep, ↓awpKeepF, ↓aop, ↓aopQ, ↓abin, ↓aun, ↓onSome_some, ↓Kont_at, ↓KM_at, ↓KV_at, ↓KU_at, refId_row, Frame.ev, Frame.evs, Frame.evOr, Frame.put, Frame.keep, get_nil, get_cons, argFrame, resOf, fillA, Vals.len, Vals.get, Vals.set, Vals.app, Vals.sub, Vals.take, Vals.ofAgg_cons, Vals.ofList, Vals.toInts, Vals.toBools, Vals.toSls, Vals.toStrs, Vals.zeros, Nat.reduceBEq, Nat.reduceAdd, Nat.reduceEqDiff, cond_true, cond_false, Option.map_some, Option.map_none, List.length_cons, List.length_nil, List.replicate, List.set_cons_zero, List.set_cons_succ, Nat.reduceLT, Bool.not_true, Bool.not_false, Int.toNat_natCast, inR, Nat.zero_add, Int.toNat_zero, reduceCtorEq, IntKind.bits, List.nil_append, List.cons_append, Nat.add_zero, Nat.sub_zero, noughts_len, List.map_cons, List.map_nil, zp, zu]) | refine And.intro ?_ (fun hif => (hif trivial).elim) | (intro hif; try (first | contradiction | (exfalso; omega))))
    rw [List.nil_append, htk] at hA2
    have hp2' := hp2.length_le
    simp only [List.length_append, List.length_cons, List.length_nil] at hp2'
    refine ⟨_, rfl, grow00 ((prefix_push _ _).trans ((prefix_push _ _).trans hp2)) ((g0.any _ _).trans ((g1.any _ _).trans (g2.mono (by simp) (by simp; omega)))), hA2.obj (by simp) (by simp; omega)⟩
  | succ rem ih =>
    intro row s m hs hl hrow
    obtain ⟨ref, off, len⟩ := s
    obtain rfl : len = net.length := hs.1
    have hr6 : row.length < 6 := by omega
    have e6 : (begunL row 0).getD 6 0 = (row.length : Int) := rfl
    have hagg : Vals.ofAgg ((begunL row 0).map (AV.int .i64)) = .ints .i64 (begunL row 0) := Vals.ofAgg_ints _ _ _
    have hLl : (begunL row 0).length = 9 := rfl
    have hml : ((begunL row 0).map (AV.int .i64)).length = 9 := rfl
    have cF : ∀ (n : Nat) (m' : Heap), n ≤ 30 → IsInts .i64 m' ⟨ref, off, net.length⟩ net → AQuiet Try.prog F.impl_isPrimeWith [.one (.sl ⟨ref, off, net.length⟩), .agg ((begunL row 0).map (AV.int .i64)), .one (.int .i64 (n : Int))] m' (.one (.bool (decide (FitP net row n)))) := fun n m' hn hs' => impl_isPrimeWith hs' hN (by omega) hn hrow
    have cW : ∀ (n : Nat) (m' : Heap), n ≤ 30 → AQuiet Try.prog F.impl_withPrime [.agg ((begunL row 0).map (AV.int .i64)), .one (.int .i64 (n : Int))] m' (begunX (row ++ [(n : Int)]) 0) := fun n m' hn => impl_withPrime m' hr6 hn hrow
    have htry : ∀ n : Nat, 1 ≤ n → primeTry net rem row n = if FitP net row n then primeFrom net rem (row ++ [(n : Int)]) else [] := fun n hn => by
      unfold primeTry
      by_cases c : FitP net row n
      · rw [if_pos c, if_pos ⟨hn, c⟩]
      · rw [if_neg c, if_neg fun d => c d.2]
    rw [primeFrom_all]
    unfold ARet2
    refine ACalls.wf fun hwf => ?_
    refine afn T.impl_primeFrom (by rfl) ?_
    unfold begunX
    generalize hL : begunL row 0 = L at *
    have g0 := Grow.push hwf Ty.impl_begun true (.ints .i64 L)
    have a6 : Heap.at (m ++ [⟨Ty.impl_begun, m.length, true, .ints .i64 L⟩]) m.length 6 = some (.int .i64 (L.getD 6 0)) := at_row (get_last _ _) (by simp only [Vals.len]; omega)
    rw [e6] at a6
    repeat' (first | refine xA ?_ | refine xB ?_ | refine xC ?_ | refine xD ?_ | refine xE ?_ | refine xF ?_ | refine xG ?_ | refine xH ?_ | refine xI rfl ?_ | refine xJ ?_ | refine xK ?_ | refine xL ?_ | refine xM rfl ?_ | refine xN rfl ?_ | refine xO rfl ?_ | (first | refine xP rfl (fun hif => ?_) (fun hif => ?_) | refine xQ rfl (fun hif => ?_) (fun hif => ?_) | refine xR rfl (fun hif => ?_) (fun hif => ?_) | refine xS rfl (fun hif => ?_) (fun hif => ?_)) <;> try (first | contradiction | (exfalso; omega)) | (refine hK _ _ ?_; clear hK K) | rw [hagg] | refine onSome_of a6 ?_ | (refine And.intro (by first | omega | assumption | (constructor <;> omega)) ?_) | (refine And.intro (fun hif => ?_) (fun hif => ?_) <;> try (first | contradiction | (exfalso; omega))) | ((first | refine xT fun K hK => ?_ | refine xU fun K hK => ?_ | refine yB (fun K hK => ?_) (fun K hK => ?_) | refine xV ?_ | refine yA ?_ | refine xW ?_ | refine xX ?_ | refine xY ?_ | refine xZ ?_) <;> simp only [↓awpOps, ↓awpKeep, ↓awpKeepF, ↓aop, ↓aopQ, ↓abin, ↓aun, ↓onSome_some, ↓Kont_at, ↓KM_at, ↓KV_at, ↓KU_at, refId_row, Frame.ev, Frame.evs, Frame.evOr, Frame.put, Frame.keep, get_nil, get_cons, argFrame, resOf, fillA, Vals.len, Vals.get, Vals.set, Vals.app, Vals.sub, Vals.take, Vals.ofAgg_cons, Vals.ofList, Vals.toInts, Vals.toBools, Vals.toSls, Vals.toStrs, Vals.zeros, Nat.reduceBEq, Nat.reduceAdd, Nat.reduceEqDiff, cond_true, cond_false, Option.map_some, Option.map_none, List.length_cons, List.length_nil, List.replicate, List.set_cons_zero, List.set_cons_succ, Nat.reduceLT, Bool.not_true, Bool.not_false, Int.toNat_natCast, inR, Nat.zero_add, Int.toNat_zero, reduceCtorEq, IntKind.bits, List.nil_append, List.cons_append, Nat.add_zero, Nat.sub_zero, noughts_len, List.map_cons, List.map_nil, zp, zu]) | refine And.intro ?_ (fun hif => (hif trivial).elim) | (intro hif; try (first | contradiction | (exfalso; omega))))
    refine awp_loop ?_
    refine ALoop.by [0, 3, 6] (fun a : Nat × Heap => [(0, .one (.sl ⟨ref, off, net.length⟩)), (3, .one (.ptr m.length 0)), (6, .one (.int .i64 a.1))]) (fun a => a.2) (fun a => 1 ≤ a.1 ∧ a.1 ≤ net.length + 1 ∧ Grow 0 0 (m ++ [⟨Ty.impl_begun, m.length, true, .ints .i64 L⟩]) a.2 ∧ ∀ v, v < a.1 → (primeTry net rem row v).length = 0) (fun a => net.length + 1 - a.1) (1, _) rfl rfl ⟨Nat.le_refl _, by simp only; omega, Grow.refl g0.wf _ _, fun v hv => by
      simp only at hv
      obtain rfl : v = 0 := by omega
      rw [primeTry_none]
      rfl⟩ ?_
    rintro ⟨n, mo⟩ ⟨hn1, hn, hgo, hemp⟩ K1 hK1
    simp only at hn1 hn hgo hemp
    by_cases hlt : n < net.length + 1
    · have hso := hs.pre ((prefix_push _ _).trans hgo.pre0)
      have hbox := row_prefix hgo.pre0 (get_last m ⟨Ty.impl_begun, m.length, true, .ints .i64 L⟩)
      have hcs := cells_ints hbox hLl.symm
      have cF' := cF n mo (by omega) hso
      have hle := hgo.le
      simp only [List.length_append, List.length_cons, List.length_nil] at hle
      have hnext : ∀ m5, Grow 0 0 mo m5 → (primeTry net rem row n).length = 0 → (fun a : Nat × Heap => 1 ≤ a.1 ∧ a.1 ≤ net.length + 1 ∧ Grow 0 0 (m ++ [⟨Ty.impl_begun, m.length, true, .ints .i64 L⟩]) a.2 ∧ ∀ v, v < a.1 → (primeTry net rem row v).length = 0) (n + 1, m5) := fun m5 g5 e5 => ⟨by simp only; omega, hlt, hgo.trans g5, fun v hv => by
        rcases Nat.lt_succ_iff_lt_or_eq.1 hv with c | rfl
        · exact hemp v c
        · exact e5⟩
      have htn := htry n hn1
      by_cases hf : FitP net row n
      · rw [decide_eq_true hf] at cF'
        rw [if_pos hf] at htn
        have cW' := cW n mo (by omega)
        have hpushl : (row ++ [(n : Int)]).length = row.length + 1 := by simp
        have cR := ih (row ++ [(n : Int)]) ⟨ref, off, net.length⟩ mo hso (by omega) fun k hk => by
          rw [hpushl] at hk
          rcases Nat.lt_succ_iff_lt_or_eq.1 hk with c | rfl
          · rw [push_l _ _ c]; exact hrow k c
          · rw [push_at]; omega
        rw [← htn] at cR
        by_cases h0 : (primeTry net rem row n).length = 0
        · rw [decide_eq_false (fun c => c h0)] at cR
          repeat' (first | refine xA ?_ | refine xB ?_ | refine xC ?_ | refine xD ?_ | refine xE ?_ | refine xF ?_ | refine xG ?_ | refine xH ?_ | refine xI rfl ?_ | refine xJ ?_ | refine xK ?_ | refine xL ?_ | refine xM rfl ?_ | refine xN rfl ?_ | refine xO rfl ?_ | (first | refine xP rfl (fun hif => ?_) (fun hif => ?_) | refine xQ rfl (fun hif => ?_) (fun hif => ?_) | refine xR rfl (fun hif => ?_) (fun hif => ?_) | refine xS rfl (fun hif => ?_) (fun hif => ?_)) <;> try (first | contradiction | (exfalso; omega)) | (refine hK _ _ ?_; clear hK K) | (refine onCells_of hcs ?_; simp only [↓KM_at]) | refine AQuiet.call cF' trivial ?_ | refine AQuiet.callq cF' trivial ?_ | refine AQuiet.call cW' (begunX_flat _ _) ?_ | refine AQuiet.callq cW' (begunX_flat _ _) ?_ | refine ARet2.call cR fun s5 m5 g5 o5 => ?_ | (refine And.intro (by first | omega | assumption | (constructor <;> omega)) ?_) | (refine And.intro (fun hif => ?_) (fun hif => ?_) <;> try (first | contradiction | (exfalso; omega))) | ((first | refine xT fun K hK => ?_ | refine xU fun K hK => ?_ | refine yB (fun K hK => ?_) (fun K hK => ?_) | refine xV ?_ | refine yA ?_ | refine xW ?_ | refine xX ?_ | refine xY ?_ | refine xZ ?_) <;> simp only [↓awpOps, ↓awpKeep, ↓awpKeepF, ↓aop, ↓aopQ, ↓abin, ↓aun, ↓onSome_some, ↓Kont_at, ↓KM_at, ↓KV_at, ↓KU_at, refId_row, Frame.ev, Frame.evs, Frame.evOr, Frame.put, Frame.keep, get_nil, get_cons, argFrame, resOf, fillA, Vals.len, Vals.get, Vals.set, Vals.app, Vals.sub, Vals.take, Vals.ofAgg_cons, Vals.ofList, Vals.toInts, Vals.toBools, Vals.toSls, Vals.toStrs, Vals.zeros, Nat.reduceBEq, Nat.reduceAdd, Nat.reduceEqDiff, cond_true, cond_false, Option.map_some, Option.map_none, List.length_cons, List.length_nil, List.replicate, List.set_cons_zero, List.set_cons_succ, Nat.reduceLT, Bool.not_true, Bool.not_false, Int.toNat_natCast, inR, Nat.zero_add, Int.toNat_zero, reduceCtorEq, IntKind.bits, List.nil_append, List.cons_append, Nat.add_zero, Nat.sub_zero, noughts_len, List.map_cons, List.map_nil, zp, zu]) | refine And.intro ?_ (fun hif => (hif trivial).elim) | (intro hif; try (first | contradiction | (exfalso; omega))))
          all_goals exact hK1 (n + 1, m5) _ _ rfl rfl (hnext m5 g5 h0) (by simp only; omega)
        · rw [decide_eq_true h0] at cR
          rw [firstP_one hemp h0 hlt, decide_eq_true h0]
          repeat' (first | refine xA ?_ | refine xB ?_ | refine xC ?_ | refine xD ?_ | refine xE ?_ | refine xF ?_ | refine xG ?_ | refine xH ?_ | refine xI rfl ?_ | refine xJ ?_ | refine xK ?_ | refine xL ?_ | refine xM rfl ?_ | refine xN rfl ?_ | refine xO rfl ?_ | (first | refine xP rfl (fun hif => ?_) (fun hif => ?_) | refine xQ rfl (fun hif => ?_) (fun hif => ?_) | refine xR rfl (fun hif => ?_) (fun hif => ?_) | refine xS rfl (fun hif => ?_) (fun hif => ?_)) <;> try (first | contradiction | (exfalso; omega)) | (refine hK _ _ ?_; clear hK K) | (refine onCells_of hcs ?_; simp only [↓KM_at]) | refine AQuiet.call cF' trivial ?_ | refine AQuiet.callq cF' trivial ?_ | refine AQuiet.call cW' (begunX_flat _ _) ?_ | refine AQuiet.callq cW' (begunX_flat _ _) ?_ | refine ARet2.call cR fun s5 m5 g5 o5 => ?_ | (refine And.intro (by first | omega | assumption | (constructor <;> omega)) ?_) | (refine And.intro (fun hif => ?_) (fun hif => ?_) <;> try (first | contradiction | (exfalso; omega))) | ((first | refine xT fun K hK => ?_ | refine xU fun K hK => ?_ | refine yB (fun K hK => ?_) (fun K hK => ?_) | refine xV ?_ | refine yA ?_ | refine xW ?_ | refine xX ?_ | refine xY ?_ | refine xZ ?_) <;> simp only [↓awpOps, ↓awpKeep, ↓awpKeepF, ↓aop, ↓aopQ, ↓abin, ↓aun, ↓onSome_some, ↓Kont_at, ↓KM_at, ↓KV_at, ↓KU_at, refId_row, Frame.ev, Frame.evs, Frame.evOr, Frame.put, Frame.keep, get_nil, get_cons, argFrame, resOf, fillA, Vals.len, Vals.get, Vals.set, Vals.app, Vals.sub, Vals.take, Vals.ofAgg_cons, Vals.ofList, Vals.toInts, Vals.toBools, Vals.toSls, Vals.toStrs, Vals.zeros, Nat.reduceBEq, Nat.reduceAdd, Nat.reduceEqDiff, cond_true, cond_false, Option.map_some, Option.map_none, List.length_cons, List.length_nil, List.replicate, List.set_cons_zero, List.set_cons_succ, Nat.reduceLT, Bool.not_true, Bool.not_false, Int.toNat_natCast, inR, Nat.zero_add, Int.toNat_zero, reduceCtorEq, IntKind.bits, List.nil_append, List.cons_append, Nat.add_zero, Nat.sub_zero, noughts_len, List.map_cons, List.map_nil, zp, zu]) | refine And.intro ?_ (fun hif => (hif trivial).elim) | (intro hif; try (first | contradiction | (exfalso; omega))))
          all_goals exact ⟨_, rfl, g0.trans (hgo.trans g5), o5.mono (by omega) (Nat.le_refl _)⟩
      · rw [decide_eq_false hf] at cF'
        rw [if_neg hf] at htn
        repeat' (first | refine xA ?_ | refine xB ?_ | refine xC ?_ | refine xD ?_ | refine xE ?_ | refine xF ?_ | refine xG ?_ | refine xH ?_ | refine xI rfl ?_ | refine xJ ?_ | refine xK ?_ | refine xL ?_ | refine xM rfl ?_ | refine xN rfl ?_ | refine xO rfl ?_ | (first | refine xP rfl (fun hif => ?_) (fun hif => ?_) | refine xQ rfl (fun hif => ?_) (fun hif => ?_) | refine xR rfl (fun hif => ?_) (fun hif => ?_) | refine xS rfl (fun hif => ?_) (fun hif => ?_)) <;> try (first | contradiction | (exfalso; omega)) | (refine hK _ _ ?_; clear hK K) | (refine onCells_of hcs ?_; simp only [↓KM_at]) | refine AQuiet.call cF' trivial ?_ | refine AQuiet.callq cF' trivial ?_ | (refine And.intro (by first | omega | assumption | (constructor <;> omega)) ?_) | (refine And.intro (fun hif => ?_) (fun hif => ?_) <;> try (first | contradiction | (exfalso; omega))) | ((first | refine xT fun K hK => ?_ | refine xU fun K hK => ?_ | refine yB (fun K hK => ?_) (fun K hK => ?_) | refine xV ?_ | refine yA ?_ | refine xW ?_ | refine xX ?_ | refine xY ?_ | refine xZ ?_) <;> simp only [↓awpOps, ↓awpKeep, ↓awpKeepF, ↓aop, ↓aopQ, ↓abin, ↓aun, ↓onSome_some, ↓Kont_at, ↓KM_at, ↓KV_at, ↓KU_at, refId_row, Frame.ev, Frame.evs, Frame.evOr, Frame.put, Frame.keep, get_nil, get_cons, argFrame, resOf, fillA, Vals.len, Vals.get, Vals.set, Vals.app, Vals.sub, Vals.take, Vals.ofAgg_cons, Vals.ofList, Vals.toInts, Vals.toBools, Vals.toSls, Vals.toStrs, Vals.zeros, Nat.reduceBEq, Nat.reduceAdd, Nat.reduceEqDiff, cond_true, cond_false, Option.map_some, Option.map_none, List.length_cons, List.length_nil, List.replicate, List.set_cons_zero, List.set_cons_succ, Nat.reduceLT, Bool.not_true, Bool.not_false, Int.toNat_natCast, inR, Nat.zero_add, Int.toNat_zero, reduceCtorEq, IntKind.bits, List.nil_append, List.cons_append, Nat.add_zero, Nat.sub_zero, noughts_len, List.map_cons, List.map_nil, zp, zu]) | refine And.intro ?_ (fun hif => (hif trivial).elim) | (intro hif; try (first | contradiction | (exfalso; omega))))
        all_goals exact hK1 (n + 1, mo) _ _ rfl rfl (hnext mo (Grow.refl hgo.wf _ _) (by rw [htn]; rfl)) (by simp only; omega)
    · obtain rfl : n = net.length + 1 := by omega
      rw [firstP_no hemp, decide_eq_false (fun c => c (show ([] : List Int).length = 0 from rfl))]
      repeat' (first | refine xA ?_ | refine xB ?_ | refine xC ?_ | refine xD ?_ | refine xE ?_ | refine xF ?_ | refine xG ?_ | refine xH ?_ | refine xI rfl ?_ | refine xJ ?_ | refine xK ?_ | refine xL ?_ | refine xM rfl ?_ | refine xN rfl ?_ | refine xO rfl ?_ | (first | refine xP rfl (fun hif => ?_) (fun hif => ?_) | refine xQ rfl (fun hif => ?_) (fun hif => ?_) | refine xR rfl (fun hif => ?_) (fun hif => ?_) | refine xS rfl (fun hif => ?_) (fun hif => ?_)) <;> try (first | contradiction | (exfalso; omega)) | (refine hK _ _ ?_; clear hK K) | (refine And.intro (by first | omega | assumption | (constructor <;> omega)) ?_) | (refine And.intro (fun hif => ?_) (fun hif => ?_) <;> try (first | contradiction | (exfalso; omega))) | ((first | refine xT fun K hK => ?_ | refine xU fun K hK => ?_ | refine yB (fun K hK => ?_) (fun K hK => ?_) | refine xV ?_ | refine yA ?_ | refine xW ?_ | refine xX ?_ | refine xY ?_ | refine xZ ?_) <;> simp only [↓awpOps, ↓awpKeep, ↓awpKeepF, ↓aop, ↓aopQ, ↓abin, ↓aun, ↓onSome_some, ↓Kont_at, ↓KM_at, ↓KV_at, ↓KU_at, refId_row, Frame.ev, Frame.evs, Frame.evOr, Frame.put, Frame.keep, get_nil, get_cons, argFrame, resOf, fillA, Vals.len, Vals.get, Vals.set, Vals.app, Vals.sub, Vals.take, Vals.ofAgg_cons, Vals.ofList, Vals.toInts, Vals.toBools, Vals.toSls, Vals.toStrs, Vals.zeros, Nat.reduceBEq, Nat.reduceAdd, Nat.reduceEqDiff, cond_true, cond_false, Option.map_some, Option.map_none, List.length_cons, List.length_nil, List.replicate, List.set_cons_zero, List.set_cons_succ, Nat.reduceLT, Bool.not_true, Bool.not_false, Int.toNat_natCast, inR, Nat.zero_add, Int.toNat_zero, reduceCtorEq, IntKind.bits, List.nil_append, List.cons_append, Nat.add_zero, Nat.sub_zero, noughts_len, List.map_cons, List.map_nil, zp, zu]) | refine And.intro ?_ (fun hif => (hif trivial).elim) | (intro hif; try (first | contradiction | (exfalso; omega))))
      all_goals exact ⟨_, rfl, g0.trans hgo, obj_nil _ _ _ _ _⟩

theorem impl_PrimeFirst (s : SV) (net : List Int) (m : Heap) (hs : IsInts .i64 m s net) : ARet2 Try.prog F.impl_PrimeFirst [.one (.sl s)] m Ty.int (.ints .i64 (primeL net)) (.bool (primeB net)) := by
  unfold ARet2
  refine ACalls.wf fun hwf => ?_
  by_cases hN : NetOk net
  · obtain ⟨e1, e2⟩ := prime_from hN
    have hR := impl_primeFrom hN net.length [] s m hs (by simp) fun k hk => absurd hk (Nat.not_lt_zero _)
    rw [begunX_nil, ← e1] at hR
    rw [← e1] at e2
    rw [← e2] at hR
    refine afn T.impl_PrimeFirst (by rfl) ?_
    repeat' (first | refine xA ?_ | refine xB ?_ | refine xC ?_ | refine xD ?_ | refine xE ?_ | refine xF ?_ | refine xG ?_ | refine xH ?_ | refine xI rfl ?_ | refine xJ ?_ | refine xK ?_ | refine xL ?_ | refine xM rfl ?_ | refine xN rfl ?_ | refine xO rfl ?_ | (first | refine xP rfl (fun hif => ?_) (fun hif => ?_) | refine xQ rfl (fun hif => ?_) (fun hif => ?_) | refine xR rfl (fun hif => ?_) (fun hif => ?_) | refine xS rfl (fun hif => ?_) (fun hif => ?_)) <;> try (first | contradiction | (exfalso; omega)) | (refine hK _ _ ?_; clear hK K) | refine AQuiet.call (impl_NetOk_t hs hN) trivial ?_ | refine ARet2.call hR fun s5 m5 g5 o5 => ?_ | (refine And.intro (by first | omega | assumption | (constructor <;> omega)) ?_) | (refine And.intro (fun hif => ?_) (fun hif => ?_) <;> try (first | contradiction | (exfalso; omega))) | ((first | refine xT fun K hK => ?_ | refine xU fun K hK => ?_ | refine yB (fun K hK => ?_) (fun K hK => ?_) | refine xV ?_ | refine yA ?_ | refine xW ?_ | refine xX ?_ | refine xY ?_ | refine xZ ?_) <;> simp only [↓awpOps, ↓awpKeep, ↓awpKeepF, ↓aop, ↓aopQ, ↓abin, ↓aun, ↓onSome_some, ↓Kont_at, ↓KM_at, ↓KV_at, ↓KU_at, refId_row, Frame.ev, Frame.evs, Frame.evOr, Frame.put, Frame.keep, get_nil, get_cons, argFrame, resOf, fillA, Vals.len, Vals.get, Vals.set, Vals.app, Vals.sub, Vals.take, Vals.ofAgg_cons, Vals.ofList, Vals.toInts, Vals.toBools, Vals.toSls, Vals.toStrs, Vals.zeros, Nat.reduceBEq, Nat.reduceAdd, Nat.reduceEqDiff, cond_true, cond_false, Option.map_some, Option.map_none, List.length_cons, List.length_nil, List.replicate, List.set_cons_zero, List.set_cons_succ, Nat.reduceLT, Bool.not_true, Bool.not_false, Int.toNat_natCast, inR, Nat.zero_add, Int.toNat_zero, reduceCtorEq, IntKind.bits, List.nil_append, List.cons_append, Nat.add_zero, Nat.sub_zero, noughts_len, List.map_cons, List.map_nil, zp, zu]) | refine And.intro ?_ (fun hif => (hif trivial).elim) | (intro hif; try (first | contradiction | (exfalso; omega))))
    all_goals exact ⟨_, rfl, g5, o5⟩
  · have hno : primeFirst net = none := by rw [primeFirst, if_neg hN]
    rw [primeL, primeB, hno]
    refine afn T.impl_PrimeFirst (by rfl) ?_
    repeat' (first | refine xA ?_ | refine xB ?_ | refine xC ?_ | refine xD ?_ | refine xE ?_ | refine xF ?_ | refine xG ?_ | refine xH ?_ | refine xI rfl ?_ | refine xJ ?_ | refine xK ?_ | refine xL ?_ | refine xM rfl ?_ | refine xN rfl ?_ | refine xO rfl ?_ | (first | refine xP rfl (fun hif => ?_) (fun hif => ?_) | refine xQ rfl (fun hif => ?_) (fun hif => ?_) | refine xR rfl (fun hif => ?_) (fun hif => ?_) | refine xS rfl (fun hif => ?_) (fun hif => ?_)) <;> try (first | contradiction | (exfalso; omega)) | (refine hK _ _ ?_; clear hK K) | refine AQuiet.call (impl_NetOk_f hs hN) trivial ?_ | (refine And.intro (by first | omega | assumption | (constructor <;> omega)) ?_) | (refine And.intro (fun hif => ?_) (fun hif => ?_) <;> try (first | contradiction | (exfalso; omega))) | ((first | refine xT fun K hK => ?_ | refine xU fun K hK => ?_ | refine yB (fun K hK => ?_) (fun K hK => ?_) | refine xV ?_ | refine yA ?_ | refine xW ?_ | refine xX ?_ | refine xY ?_ | refine xZ ?_) <;> simp only [↓awpOps, ↓awpKeep, ↓awpKeepF, ↓aop, ↓aopQ, ↓abin, ↓aun, ↓onSome_some, ↓Kont_at, ↓KM_at, ↓KV_at, ↓KU_at, refId_row, Frame.ev, Frame.evs, Frame.evOr, Frame.put, Frame.keep, get_nil, get_cons, argFrame, resOf, fillA, Vals.len, Vals.get, Vals.set, Vals.app, Vals.sub, Vals.take, Vals.ofAgg_cons, Vals.ofList, Vals.toInts, Vals.toBools, Vals.toSls, Vals.toStrs, Vals.zeros, Nat.reduceBEq, Nat.reduceAdd, Nat.reduceEqDiff, cond_true, cond_false, Option.map_some, Option.map_none, List.length_cons, List.length_nil, List.replicate, List.set_cons_zero, List.set_cons_succ, Nat.reduceLT, Bool.not_true, Bool.not_false, Int.toNat_natCast, inR, Nat.zero_add, Int.toNat_zero, reduceCtorEq, IntKind.bits, List.nil_append, List.cons_append, Nat.add_zero, Nat.sub_zero, noughts_len, List.map_cons, List.map_nil, zp, zu]) | refine And.intro ?_ (fun hif => (hif trivial).elim) | (intro hif; try (first | contradiction | (exfalso; omega))))
    all_goals exact ⟨_, rfl, Grow.refl hwf _ _, obj_nil _ _ _ _ _⟩

/-! ### Prime rows, looked at place by place -/

/-- The first places of a row are prime. -/
structure PUp (net row : List Int) (k : Nat) : Prop where
  low : ∀ i, i < k → 1 ≤ (row.getD i 0) ∧ (row.getD i 0) ≤ net.length
  un : ∀ i, i < k → ∀ j, j < i → (row.getD j 0) ≠ (row.getD i 0)
  co : ∀ b, b < k → ∀ a, a < b → bit ((net.getD b 0)) a = true → Nat.gcd ((row.getD a 0)).toNat ((row.getD b 0)).toNat = 1
theorem PUp.step {net row : List Int} {k n : Nat} (h : PUp net row k) (hk : k < row.length) (hn : (row.getD k 0) = (n : Int)) (hlow : 1 ≤ (n : Int) ∧ (n : Int) ≤ net.length) (hf : FitP net (row.take k) n) : PUp net row (k + 1) := by
  have hkl : (row.take k).length = k := by rw [List.length_take]; omega
  refine ⟨fun i hi => ?_, fun i hi j hj => ?_, fun b hb a hab hbit => ?_⟩
  · rcases Nat.lt_succ_iff_lt_or_eq.1 hi with c | rfl
    · exact h.low i c
    · rw [hn]; exact hlow
  · rcases Nat.lt_succ_iff_lt_or_eq.1 hi with c | rfl
    · exact h.un i c j hj
    · have := hf.1 j (by omega)
      rw [take_getI hj] at this
      rw [hn]
      exact this
  · rcases Nat.lt_succ_iff_lt_or_eq.1 hb with c | rfl
    · exact h.co b c a hab hbit
    · have := hf.2 a (by omega) (by rw [hkl]; exact hbit)
      rw [take_getI hab, Nat.gcd_comm] at this
      rw [hn, Int.toNat_natCast]
      exact this
theorem PrimeRow.fit {net row : List Int} (h : PrimeRow net row) {k n : Nat} (hk : k < row.length) (hn : (row.getD k 0) = (n : Int)) : FitP net (row.take k) n := by
  have hkl : (row.take k).length = k := by rw [List.length_take]; omega
  constructor
  · intro i hi
    rw [hkl] at hi
    rw [take_getI hi, ← hn]
    exact h.once k hk i hi
  · intro i hi hb
    rw [hkl] at hi hb
    have := h.co k (by rw [← h.len]; exact hk) i hi hb
    rw [hn, Int.toNat_natCast, Nat.gcd_comm] at this
    rw [take_getI hi]
    exact this

set_option maxHeartbeats 16000000 in
theorem impl_PrimeOk (s t : SV) (net row : List Int) (m : Heap) (hs : IsInts .i64 m s net) (ht : IsInts .i64 m t row) : AQuiet Try.prog F.impl_PrimeOk [.one (.sl s), .one (.sl t)] m (.one (.bool (decide (PrimeRow net row)))) := by
  have cR := impl_RowOk s t net row m hs ht
  refine ACalls_wf_q fun hwf => ?_
  refine aqn T.impl_PrimeOk (by rfl) ?_
  by_cases hR : RowOk net row
  · rw [decide_eq_true hR] at cR
    have hN := hR.ok
    have h6 := hN.six
    have hlen := hR.len
    have hlow30 : ∀ k, k < row.length → 0 ≤ (row.getD k 0) ∧ (row.getD k 0) ≤ 30 := hR.low
    obtain ⟨ref, off, len⟩ := s
    obtain rfl : len = net.length := hs.1
    obtain ⟨ref', off', len'⟩ := t
    obtain rfl : len' = row.length := ht.1
    have hg0 := Grow.push hwf Ty.impl_begun true (.ints .i64 [0, 0, 0, 0, 0, 0, 0, 0, 0])
    have hz : Vals.ofAgg [.int .i64 0, .int .i64 0, .int .i64 0, .int .i64 0, .int .i64 0, .int .i64 0, .int .i64 0, .int .i64 0, .int .i64 0] = .ints .i64 (begunL (row.take 0) 0) := rfl
    repeat' (first | refine xA ?_ | refine xB ?_ | refine xC ?_ | refine xD ?_ | refine xE ?_ | refine xF ?_ | refine xG ?_ | refine xH ?_ | refine xI rfl ?_ | refine xJ ?_ | refine xK ?_ | refine xL ?_ | refine xM rfl ?_ | refine xN rfl ?_ | refine xO rfl ?_ | (first | refine xP rfl (fun hif => ?_) (fun hif => ?_) | refine xQ rfl (fun hif => ?_) (fun hif => ?_) | refine xR rfl (fun hif => ?_) (fun hif => ?_) | refine xS rfl (fun hif => ?_) (fun hif => ?_)) <;> try (first | contradiction | (exfalso; omega)) | (refine hK _ _ ?_; clear hK K) | refine AQuiet.call cR trivial ?_ | refine st_agg hg0.wf (get_last _ _) rfl rfl hz fun m1 g1 l1 r1 => ?_ | (refine And.intro (by first | omega | assumption | (constructor <;> omega)) ?_) | (refine And.intro (fun hif => ?_) (fun hif => ?_) <;> try (first | contradiction | (exfalso; omega))) | ((first | refine xT fun K hK => ?_ | refine xU fun K hK => ?_ | refine yB (fun K hK => ?_) (fun K hK => ?_) | refine xV ?_ | refine yA ?_ | refine xW ?_ | refine xX ?_ | refine xY ?_ | refine xZ ?_) <;> simp only [↓awpOps, ↓awpKeep, ↓awpKeepF, ↓aop, ↓aopQ, ↓abin, ↓aun, ↓onSome_some, ↓Kont_at, ↓KM_at, ↓KV_at, ↓KU_at, refId_row, Frame.ev, Frame.evs, Frame.evOr, Frame.put, Frame.keep, get_nil, get_cons, argFrame, resOf, fillA, Vals.len, Vals.get, Vals.set, Vals.app, Vals.sub, Vals.take, Vals.ofAgg_cons, Vals.ofList, Vals.toInts, Vals.toBools, Vals.toSls, Vals.toStrs, Vals.zeros, Nat.reduceBEq, Nat.reduceAdd, Nat.reduceEqDiff, cond_true, cond_false, Option.map_some, Option.map_none, List.length_cons, List.length_nil, List.replicate, List.set_cons_zero, List.set_cons_succ, Nat.reduceLT, Bool.not_true, Bool.not_false, Int.toNat_natCast, inR, Nat.zero_add, Int.toNat_zero, reduceCtorEq, IntKind.bits, List.nil_append, List.cons_append, Nat.add_zero, Nat.sub_zero, noughts_len, List.map_cons, List.map_nil, zp, zu]) | refine And.intro ?_ (fun hif => (hif trivial).elim) | (intro hif; try (first | contradiction | (exfalso; omega))))
    have hp1 := g1.pre (prefix_push _ _) hwf (Nat.le_refl _)
    refine awp_loop ?_
    refine ALoop.by [0, 1, 5, 6] (fun a : Nat × Heap => [(0, .one (.sl ⟨ref, off, net.length⟩)), (1, .one (.sl ⟨ref', off', row.length⟩)), (5, .one (.ptr m.length 0)), (6, .one (.int .i64 a.1))]) (fun a => a.2)
      (fun a => a.1 ≤ row.length ∧ m <+: a.2 ∧ a.2.wf ∧ a.2[m.length]? = some ⟨Ty.impl_begun, m.length, true, .ints .i64 (begunL (row.take a.1) 0)⟩ ∧ PUp net row a.1) (fun a => row.length - a.1) (0, m1) rfl rfl ⟨Nat.zero_le _, hp1, g1.wf, r1, ⟨fun i hi => absurd hi (Nat.not_lt_zero _), fun i hi => absurd hi (Nat.not_lt_zero _), fun i hi => absurd hi (Nat.not_lt_zero _)⟩⟩ ?_
    rintro ⟨k, mo⟩ ⟨hk, hpo, hwo, hro, hup⟩ K1 hK1
    simp only at hk hpo hwo hro hup
    have hso := hs.pre hpo
    have hto := ht.pre hpo
    by_cases hlt : k < row.length
    · have hat := hto.2 k hlt
      obtain ⟨n, hn⟩ := Int.eq_ofNat_of_zero_le (hlow30 k hlt).1
      have hn30 := (hlow30 k hlt).2
      have hbad : ¬ (1 ≤ (n : Int) ∧ (n : Int) ≤ net.length) → decide (PrimeRow net row) = false := fun c => decide_eq_false fun h => c (hn ▸ h.low k (by omega))
      have hunf : ¬ FitP net (row.take k) n → decide (PrimeRow net row) = false := fun c => decide_eq_false fun h => c (h.fit hlt hn)
      have hstep := fun c1 c2 => hup.step hlt hn c1 c2
      have hkl : (row.take k).length = k := by rw [List.length_take]; omega
      have htr : ∀ i, i < (row.take k).length → 0 ≤ ((row.take k).getD i 0) ∧ ((row.take k).getD i 0) ≤ 30 := fun i hi => by
        rw [hkl] at hi
        rw [take_getI hi]
        exact hlow30 i (by omega)
      have htp := take_push row hlt hn
      rw [hn] at hat hn30
      by_cases e : 1 ≤ (n : Int) ∧ (n : Int) ≤ net.length
      · have cF := impl_isPrimeWith (n := n) hso hN (show (row.take k).length < net.length by omega) (by omega) htr
        have cW := impl_withPrime (n := n) mo (show (row.take k).length < 6 by omega) (by omega) htr
        rw [htp] at cW
        unfold begunX at cF cW
        have hLl : (begunL (row.take k) 0).length = 9 := rfl
        have hml : ((begunL (row.take k) 0).map (AV.int .i64)).length = 9 := rfl
        have hagg2 : Vals.ofAgg ((begunL (row.take (k + 1)) 0).map (AV.int .i64)) = .ints .i64 (begunL (row.take (k + 1)) 0) := Vals.ofAgg_ints _ _ _
        have hm2 : ((begunL (row.take (k + 1)) 0).map (AV.int .i64)).length = 9 := rfl
        have hcs := cells_ints hro hLl.symm
        have hnext : ∀ m2 : Heap, m <+: m2 → m2.wf → m2[m.length]? = some ⟨Ty.impl_begun, m.length, true, .ints .i64 (begunL (row.take (k + 1)) 0)⟩ → PUp net row (k + 1) → (fun a : Nat × Heap => a.1 ≤ row.length ∧ m <+: a.2 ∧ a.2.wf ∧ a.2[m.length]? = some ⟨Ty.impl_begun, m.length, true, .ints .i64 (begunL (row.take a.1) 0)⟩ ∧ PUp net row a.1) (k + 1, m2) := fun m2 q1 q2 q3 q4 => ⟨hlt, q1, q2, q3, q4⟩
        clear htr htp hbad
        by_cases hf : FitP net (row.take k) n
        · have hst := hstep e hf
          rw [decide_eq_true hf] at cF
          clear hunf hstep hf
          generalize begunL (row.take k) 0 = L at *
          generalize begunL (row.take (k + 1)) 0 = L' at *
          repeat' (first | refine xA ?_ | refine xB ?_ | refine xC ?_ | refine xD ?_ | refine xE ?_ | refine xF ?_ | refine xG ?_ | refine xH ?_ | refine xI rfl ?_ | refine xJ ?_ | refine xK ?_ | refine xL ?_ | refine xM rfl ?_ | refine xN rfl ?_ | refine xO rfl ?_ | (first | refine xP rfl (fun hif => ?_) (fun hif => ?_) | refine xQ rfl (fun hif => ?_) (fun hif => ?_) | refine xR rfl (fun hif => ?_) (fun hif => ?_) | refine xS rfl (fun hif => ?_) (fun hif => ?_)) <;> try (first | contradiction | (exfalso; omega)) | (refine hK _ _ ?_; clear hK K) | (refine onCells_of hcs ?_; simp only [↓KM_at]) | refine onSome_of hat ?_ | refine AQuiet.call cF trivial ?_ | refine AQuiet.callq cF trivial ?_ | refine AQuiet.call cW (flats_ints _ _) ?_ | refine AQuiet.callq cW (flats_ints _ _) ?_ | refine st_agg hwo hro hm2.symm hLl hagg2 fun m2 g2 l2 r2 => ?_ | (refine And.intro (by first | omega | assumption | (constructor <;> omega)) ?_) | (refine And.intro (fun hif => ?_) (fun hif => ?_) <;> try (first | contradiction | (exfalso; omega))) | ((first | refine xT fun K hK => ?_ | refine xU fun K hK => ?_ | refine yB (fun K hK => ?_) (fun K hK => ?_) | refine xV ?_ | refine yA ?_ | refine xW ?_ | refine xX ?_ | refine xY ?_ | refine xZ ?_) <;> simp only [↓awpOps, ↓awpKeep, ↓awpKeepF, ↓aop, ↓aopQ, ↓abin, ↓aun, ↓onSome_some, ↓Kont_at, ↓KM_at, ↓KV_at, ↓KU_at, refId_row, Frame.ev, Frame.evs, Frame.evOr, Frame.put, Frame.keep, get_nil, get_cons, argFrame, resOf, fillA, Vals.len, Vals.get, Vals.set, Vals.app, Vals.sub, Vals.take, Vals.ofAgg_cons, Vals.ofList, Vals.toInts, Vals.toBools, Vals.toSls, Vals.toStrs, Vals.zeros, Nat.reduceBEq, Nat.reduceAdd, Nat.reduceEqDiff, cond_true, cond_false, Option.map_some, Option.map_none, List.length_cons, List.length_nil, List.replicate, List.set_cons_zero, List.set_cons_succ, Nat.reduceLT, Bool.not_true, Bool.not_false, Int.toNat_natCast, inR, Nat.zero_add, Int.toNat_zero, reduceCtorEq, IntKind.bits, List.nil_append, List.cons_append, Nat.add_zero, Nat.sub_zero, noughts_len, List.map_cons, List.map_nil, zp, zu]) | refine And.intro ?_ (fun hif => (hif trivial).elim) | (intro hif; try (first | contradiction | (exfalso; omega))))
          all_goals exact hK1 (k + 1, m2) _ _ rfl rfl (hnext m2 (g2.pre hpo hwf (Nat.le_refl _)) g2.wf r2 hst) (by simp only; omega)
        · rw [decide_eq_false hf] at cF
          rw [hunf hf]
          clear hunf hstep hf
          generalize begunL (row.take k) 0 = L at *
          repeat' (first | refine xA ?_ | refine xB ?_ | refine xC ?_ | refine xD ?_ | refine xE ?_ | refine xF ?_ | refine xG ?_ | refine xH ?_ | refine xI rfl ?_ | refine xJ ?_ | refine xK ?_ | refine xL ?_ | refine xM rfl ?_ | refine xN rfl ?_ | refine xO rfl ?_ | (first | refine xP rfl (fun hif => ?_) (fun hif => ?_) | refine xQ rfl (fun hif => ?_) (fun hif => ?_) | refine xR rfl (fun hif => ?_) (fun hif => ?_) | refine xS rfl (fun hif => ?_) (fun hif => ?_)) <;> try (first | contradiction | (exfalso; omega)) | (refine hK _ _ ?_; clear hK K) | (refine onCells_of hcs ?_; simp only [↓KM_at]) | refine onSome_of hat ?_ | refine AQuiet.call cF trivial ?_ | refine AQuiet.callq cF trivial ?_ | (refine And.intro (by first | omega | assumption | (constructor <;> omega)) ?_) | (refine And.intro (fun hif => ?_) (fun hif => ?_) <;> try (first | contradiction | (exfalso; omega))) | ((first | refine xT fun K hK => ?_ | refine xU fun K hK => ?_ | refine yB (fun K hK => ?_) (fun K hK => ?_) | refine xV ?_ | refine yA ?_ | refine xW ?_ | refine xX ?_ | refine xY ?_ | refine xZ ?_) <;> simp only [↓awpOps, ↓awpKeep, ↓awpKeepF, ↓aop, ↓aopQ, ↓abin, ↓aun, ↓onSome_some, ↓Kont_at, ↓KM_at, ↓KV_at, ↓KU_at, refId_row, Frame.ev, Frame.evs, Frame.evOr, Frame.put, Frame.keep, get_nil, get_cons, argFrame, resOf, fillA, Vals.len, Vals.get, Vals.set, Vals.app, Vals.sub, Vals.take, Vals.ofAgg_cons, Vals.ofList, Vals.toInts, Vals.toBools, Vals.toSls, Vals.toStrs, Vals.zeros, Nat.reduceBEq, Nat.reduceAdd, Nat.reduceEqDiff, cond_true, cond_false, Option.map_some, Option.map_none, List.length_cons, List.length_nil, List.replicate, List.set_cons_zero, List.set_cons_succ, Nat.reduceLT, Bool.not_true, Bool.not_false, Int.toNat_natCast, inR, Nat.zero_add, Int.toNat_zero, reduceCtorEq, IntKind.bits, List.nil_append, List.cons_append, Nat.add_zero, Nat.sub_zero, noughts_len, List.map_cons, List.map_nil, zp, zu]) | refine And.intro ?_ (fun hif => (hif trivial).elim) | (intro hif; try (first | contradiction | (exfalso; omega))))
          all_goals first | exact hpo | exact ⟨rfl, hpo⟩
      · rw [hbad e]
        repeat' (first | refine xA ?_ | refine xB ?_ | refine xC ?_ | refine xD ?_ | refine xE ?_ | refine xF ?_ | refine xG ?_ | refine xH ?_ | refine xI rfl ?_ | refine xJ ?_ | refine xK ?_ | refine xL ?_ | refine xM rfl ?_ | refine xN rfl ?_ | refine xO rfl ?_ | (first | refine xP rfl (fun hif => ?_) (fun hif => ?_) | refine xQ rfl (fun hif => ?_) (fun hif => ?_) | refine xR rfl (fun hif => ?_) (fun hif => ?_) | refine xS rfl (fun hif => ?_) (fun hif => ?_)) <;> try (first | contradiction | (exfalso; omega)) | (refine hK _ _ ?_; clear hK K) | refine onSome_of hat ?_ | (refine And.intro (by first | omega | assumption | (constructor <;> omega)) ?_) | (refine And.intro (fun hif => ?_) (fun hif => ?_) <;> try (first | contradiction | (exfalso; omega))) | ((first | refine xT fun K hK => ?_ | refine xU fun K hK => ?_ | refine yB (fun K hK => ?_) (fun K hK => ?_) | refine xV ?_ | refine yA ?_ | refine xW ?_ | refine xX ?_ | refine xY ?_ | refine xZ ?_) <;> simp only [↓awpOps, ↓awpKeep, ↓awpKeepF, ↓aop, ↓aopQ, ↓abin, ↓aun, ↓onSome_some, ↓Kont_at, ↓KM_at, ↓KV_at, ↓KU_at, refId_row, Frame.ev, Frame.evs, Frame.evOr, Frame.put, Frame.keep, get_nil, get_cons, argFrame, resOf, fillA, Vals.len, Vals.get, Vals.set, Vals.app, Vals.sub, Vals.take, Vals.ofAgg_cons, Vals.ofList, Vals.toInts, Vals.toBools, Vals.toSls, Vals.toStrs, Vals.zeros, Nat.reduceBEq, Nat.reduceAdd, Nat.reduceEqDiff, cond_true, cond_false, Option.map_some, Option.map_none, List.length_cons, List.length_nil, List.replicate, List.set_cons_zero, List.set_cons_succ, Nat.reduceLT, Bool.not_true, Bool.not_false, Int.toNat_natCast, inR, Nat.zero_add, Int.toNat_zero, reduceCtorEq, IntKind.bits, List.nil_append, List.cons_append, Nat.add_zero, Nat.sub_zero, noughts_len, List.map_cons, List.map_nil, zp, zu]) | refine And.intro ?_ (fun hif => (hif trivial).elim) | (intro hif; try (first | contradiction | (exfalso; omega))))
        all_goals first | exact hpo | exact ⟨rfl, hpo⟩
    · obtain rfl : k = row.length := by omega
      rw [decide_eq_true (⟨hN, hlen, fun i hi => hup.low i (by omega), hup.un, fun b hb a hab hbit => hup.co b (by omega) a hab hbit⟩ : PrimeRow net row)]
      repeat' (first | refine xA ?_ | refine xB ?_ | refine xC ?_ | refine xD ?_ | refine xE ?_ | refine xF ?_ | refine xG ?_ | refine xH ?_ | refine xI rfl ?_ | refine xJ ?_ | refine xK ?_ | refine xL ?_ | refine xM rfl ?_ | refine xN rfl ?_ | refine xO rfl ?_ | (first | refine xP rfl (fun hif => ?_) (fun hif => ?_) | refine xQ rfl (fun hif => ?_) (fun hif => ?_) | refine xR rfl (fun hif => ?_) (fun hif => ?_) | refine xS rfl (fun hif => ?_) (fun hif => ?_)) <;> try (first | contradiction | (exfalso; omega)) | (refine hK _ _ ?_; clear hK K) | (refine And.intro (by first | omega | assumption | (constructor <;> omega)) ?_) | (refine And.intro (fun hif => ?_) (fun hif => ?_) <;> try (first | contradiction | (exfalso; omega))) | ((first | refine xT fun K hK => ?_ | refine xU fun K hK => ?_ | refine yB (fun K hK => ?_) (fun K hK => ?_) | refine xV ?_ | refine yA ?_ | refine xW ?_ | refine xX ?_ | refine xY ?_ | refine xZ ?_) <;> simp only [↓awpOps, ↓awpKeep, ↓awpKeepF, ↓aop, ↓aopQ, ↓abin, ↓aun, ↓onSome_some, ↓Kont_at, ↓KM_at, ↓KV_at, ↓KU_at, refId_row, Frame.ev, Frame.evs, Frame.evOr, Frame.put, Frame.keep, get_nil, get_cons, argFrame, resOf, fillA, Vals.len, Vals.get, Vals.set, Vals.app, Vals.sub, Vals.take, Vals.ofAgg_cons, Vals.ofList, Vals.toInts, Vals.toBools, Vals.toSls, Vals.toStrs, Vals.zeros, Nat.reduceBEq, Nat.reduceAdd, Nat.reduceEqDiff, cond_true, cond_false, Option.map_some, Option.map_none, List.length_cons, List.length_nil, List.replicate, List.set_cons_zero, List.set_cons_succ, Nat.reduceLT, Bool.not_true, Bool.not_false, Int.toNat_natCast, inR, Nat.zero_add, Int.toNat_zero, reduceCtorEq, IntKind.bits, List.nil_append, List.cons_append, Nat.add_zero, Nat.sub_zero, noughts_len, List.map_cons, List.map_nil, zp, zu]) | refine And.intro ?_ (fun hif => (hif trivial).elim) | (intro hif; try (first | contradiction | (exfalso; omega))))
      all_goals first | exact hpo | exact ⟨rfl, hpo⟩
  · rw [decide_eq_false hR] at cR
    rw [decide_eq_false fun h : PrimeRow net row => hR ⟨h.ok, h.len, fun k hk => by have := h.low k (by rw [← h.len]; exact hk); have := h.ok.six; omega⟩]
    repeat' (first | refine xA ?_ | refine xB ?_ | refine xC ?_ | refine xD ?_ | refine xE ?_ | refine xF ?_ | refine xG ?_ | refine xH ?_ | refine xI rfl ?_ | refine xJ ?_ | refine xK ?_ | refine xL ?_ | refine xM rfl ?_ | refine xN rfl ?_ | refine xO rfl ?_ | (first | refine xP rfl (fun hif => ?_) (fun hif => ?_) | refine xQ rfl (fun hif => ?_) (fun hif => ?_) | refine xR rfl (fun hif => ?_) (fun hif => ?_) | refine xS rfl (fun hif => ?_) (fun hif => ?_)) <;> try (first | contradiction | (exfalso; omega)) | (refine hK _ _ ?_; clear hK K) | refine AQuiet.call cR trivial ?_ | (refine And.intro (by first | omega | assumption | (constructor <;> omega)) ?_) | (refine And.intro (fun hif => ?_) (fun hif => ?_) <;> try (first | contradiction | (exfalso; omega))) | ((first | refine xT fun K hK => ?_ | refine xU fun K hK => ?_ | refine yB (fun K hK => ?_) (fun K hK => ?_) | refine xV ?_ | refine yA ?_ | refine xW ?_ | refine xX ?_ | refine xY ?_ | refine xZ ?_) <;> simp only [↓awpOps, ↓awpKeep, ↓awpKeepF, ↓aop, ↓aopQ, ↓abin, ↓aun, ↓onSome_some, ↓Kont_at, ↓KM_at, ↓KV_at, ↓KU_at, refId_row, Frame.ev, Frame.evs, Frame.evOr, Frame.put, Frame.keep, get_nil, get_cons, argFrame, resOf, fillA, Vals.len, Vals.get, Vals.set, Vals.app, Vals.sub, Vals.take, Vals.ofAgg_cons, Vals.ofList, Vals.toInts, Vals.toBools, Vals.toSls, Vals.toStrs, Vals.zeros, Nat.reduceBEq, Nat.reduceAdd, Nat.reduceEqDiff, cond_true, cond_false, Option.map_some, Option.map_none, List.length_cons, List.length_nil, List.replicate, List.set_cons_zero, List.set_cons_succ, Nat.reduceLT, Bool.not_true, Bool.not_false, Int.toNat_natCast, inR, Nat.zero_add, Int.toNat_zero, reduceCtorEq, IntKind.bits, List.nil_append, List.cons_append, Nat.add_zero, Nat.sub_zero, noughts_len, List.map_cons, List.map_nil, zp, zu]) | refine And.intro ?_ (fun hif => (hif trivial).elim) | (intro hif; try (first | contradiction | (exfalso; omega))))
    all_goals (first | exact List.prefix_rfl | exact ⟨rfl, List.prefix_rfl⟩ | exact ⟨by simp, List.prefix_rfl⟩)

end Go.Abs
