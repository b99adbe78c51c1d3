/- How many places a set has, and MostNear of both. Own work; no condition. -/
import Derived.Test.YtcbnigipnepnkaaLaws0
import Derived.Test.YtcbnigipnepnkaaSpec1
set_option maxRecDepth 100000
set_option linter.unusedSimpArgs false
set_option linter.unusedVariables false
namespace Go.Abs
open Go.Proofs
attribute [local irreducible] awp awpOps aloop ALoop ACalls ACallq AQuiet retPost retPostA AExit.thn AExit.blk aApp aSt aStA

/-- How many places below six are in a set. -/
def pc (n : Nat) : Nat := n % 2 + n / 2 % 2 + n / 4 % 2 + n / 8 % 2 + n / 16 % 2 + n / 32 % 2

theorem pc_low : ∀ n, n < 64 → n ≠ 0 → pc (n &&& (n - 1)) + 1 = pc n := by decide +kernel
theorem pc_half {n : Nat} (h : n < 64) : pc n = n % 2 + pc (n / 2) := by unfold pc; omega
theorem pc_six (n : Nat) : pc n ≤ 6 := by unfold pc; omega

theorem impl_placesIn (n : Int) (h0 : 0 ≤ n) (h1 : n < 64) (m : Heap) : AQuiet Try.prog F.impl_placesIn [.one (.int .i64 n)] m (.one (.int .i64 (pc n.toNat))) := by
  obtain ⟨x, rfl⟩ := Int.eq_ofNat_of_zero_le h0
  have h6 := pc_six x
  refine aqn T.impl_placesIn (by rfl) ?_
  repeat' (first | refine awp_seq ?_ | refine awp_block ?_ | refine thn_n ?_ | refine thn_e ?_ | refine thn_r ?_ | refine blk_n ?_ | refine blk_r ?_ | refine blk_here ?_ | refine blk_on rfl ?_ | refine awp_skip ?_ | refine awp_exit ?_ | refine awp_ret ?_ | refine ret_one rfl ?_ | refine ret_many rfl ?_ | refine end_one rfl ?_ | (first | refine awp_if rfl (fun hif => ?_) (fun hif => ?_) | refine awp_nif rfl (fun hif => ?_) (fun hif => ?_) | refine awp_not rfl (fun hif => ?_) (fun hif => ?_) | refine awp_cond rfl (fun hif => ?_) (fun hif => ?_)) <;> try (first | contradiction | (exfalso; omega)) | (refine hK _ _ ?_; clear hK K) | (refine And.intro (by first | omega | assumption | (constructor <;> omega)) ?_) | (refine And.intro (fun hif => ?_) (fun hif => ?_) <;> try (first | contradiction | (exfalso; omega))) | ((first | refine awp_reg fun K hK => ?_ | refine ops_go ?_ | refine kont_go ?_ | refine kv_go ?_ | refine ku_go ?_); simp only [↓awpOps, ↓aop, ↓aopQ, ↓abin, ↓aun, ↓onSome_some, ↓Kont_at, ↓KM_at, ↓KV_at, ↓KU_at, refId_row, Int.one_mul, Frame.ev, Frame.evs, Frame.evOr, Frame.put, Frame.keep, get_nil, get_cons, argFrame, resOf, fillA, Vals.len, Vals.get, Vals.set, Vals.app, Vals.sub, Vals.take, Vals.ofAgg_cons, Vals.ofList, Vals.toInts, Vals.toBools, Vals.toSls, Vals.toStrs, Vals.zeros, Nat.reduceBEq, Nat.reduceAdd, Nat.reduceEqDiff, cond_true, cond_false, if_true, if_false, Option.map_some, Option.map_none, List.length_cons, List.length_nil, List.replicate, List.set_cons_zero, List.set_cons_succ, Nat.reduceLT, true_and, and_true, forall_const, true_implies, Bool.not_true, Bool.not_false, Bool.true_eq_false, Bool.false_eq_true, false_implies, decide_eq_true_eq, decide_eq_false_iff_not, Int.not_lt, Int.not_le, Int.toNat_natCast, inR, Nat.zero_add, Int.toNat_zero, reduceCtorEq, IntKind.bits, List.nil_append, List.cons_append, Nat.add_zero, implies_true, ite_self, Nat.zero_lt_succ, Nat.lt_add_one, Int.zero_sub, Nat.sub_zero, Int.ofNat_toNat, List.map_cons, List.map_nil, Bool.true_eq, Bool.not_eq_eq_eq_not]) | refine And.intro ?_ (fun hif => (hif trivial).elim) | (intro hif; try (first | contradiction | (exfalso; omega))))
  refine awp_loop ?_
  refine ALoop.by [0, 3] (fun a : Int × Int => [(0, .one (.int .i64 a.1)), (3, .one (.int .i64 a.2))]) (fun _ => m) (fun a => ∃ y : Nat, a.1 = y ∧ y < 64 ∧ 0 ≤ a.2 ∧ a.2 + pc y = pc x) (fun a => a.1.toNat) (x, 0) rfl rfl ⟨x, rfl, by omega, by simp, by simp⟩ ?_
  rintro ⟨a, c⟩ ⟨y, h2, hy, hc, he⟩ K1 hK1
  simp only at h2 hc he
  subst h2
  have hb : y ≠ 0 → bandInt .i64 (y : Int) ((y : Int) - 1) = ((y &&& (y - 1) : Nat) : Int) := fun h => by
    rw [show ((y : Int) - 1) = ((y - 1 : Nat) : Int) by omega]
    exact band_nat _ _ (by omega) (by omega)
  repeat' (first | refine awp_seq ?_ | refine awp_block ?_ | refine thn_n ?_ | refine thn_e ?_ | refine thn_r ?_ | refine blk_n ?_ | refine blk_r ?_ | refine blk_here ?_ | refine blk_on rfl ?_ | refine awp_skip ?_ | refine awp_exit ?_ | refine awp_ret ?_ | refine ret_one rfl ?_ | refine ret_many rfl ?_ | refine end_one rfl ?_ | (first | refine awp_if rfl (fun hif => ?_) (fun hif => ?_) | refine awp_nif rfl (fun hif => ?_) (fun hif => ?_) | refine awp_not rfl (fun hif => ?_) (fun hif => ?_) | refine awp_cond rfl (fun hif => ?_) (fun hif => ?_)) <;> try (first | contradiction | (exfalso; omega)) | (refine hK _ _ ?_; clear hK K) | (refine And.intro (by first | omega | assumption | (constructor <;> omega)) ?_) | (refine And.intro (fun hif => ?_) (fun hif => ?_) <;> try (first | contradiction | (exfalso; omega))) | ((first | refine awp_reg fun K hK => ?_ | refine ops_go ?_ | refine kont_go ?_ | refine kv_go ?_ | refine ku_go ?_); simp only [↓awpOps, ↓aop, ↓aopQ, ↓abin, ↓aun, ↓onSome_some, ↓Kont_at, ↓KM_at, ↓KV_at, ↓KU_at, refId_row, Int.one_mul, Frame.ev, Frame.evs, Frame.evOr, Frame.put, Frame.keep, get_nil, get_cons, argFrame, resOf, fillA, Vals.len, Vals.get, Vals.set, Vals.app, Vals.sub, Vals.take, Vals.ofAgg_cons, Vals.ofList, Vals.toInts, Vals.toBools, Vals.toSls, Vals.toStrs, Vals.zeros, Nat.reduceBEq, Nat.reduceAdd, Nat.reduceEqDiff, cond_true, cond_false, if_true, if_false, Option.map_some, Option.map_none, List.length_cons, List.length_nil, List.replicate, List.set_cons_zero, List.set_cons_succ, Nat.reduceLT, true_and, and_true, forall_const, true_implies, Bool.not_true, Bool.not_false, Bool.true_eq_false, Bool.false_eq_true, false_implies, decide_eq_true_eq, decide_eq_false_iff_not, Int.not_lt, Int.not_le, Int.toNat_natCast, inR, Nat.zero_add, Int.toNat_zero, reduceCtorEq, IntKind.bits, List.nil_append, List.cons_append, Nat.add_zero, implies_true, ite_self, Nat.zero_lt_succ, Nat.lt_add_one, Int.zero_sub, Nat.sub_zero, Int.ofNat_toNat, List.map_cons, List.map_nil, Bool.true_eq, Bool.not_eq_eq_eq_not]) | refine And.intro ?_ (fun hif => (hif trivial).elim) | (intro hif; try (first | contradiction | (exfalso; omega))))
  · have hy0 : y ≠ 0 := by omega
    have hle : y &&& (y - 1) ≤ y - 1 := Nat.and_le_right
    have hlow := pc_low y hy hy0
    refine hK1 (bandInt .i64 (y : Int) ((y : Int) - 1), c + 1) _ _ rfl rfl ⟨y &&& (y - 1), hb hy0, by omega, by simp only; omega, by simp only; omega⟩ ?_
    simp only [hb hy0]
    omega
  · refine ⟨?_, List.prefix_rfl⟩
    obtain rfl : y = 0 := by omega
    have : pc 0 = 0 := rfl
    congr 2
    simp only [Int.toNat_natCast]
    omega

theorem spec_l1Size (n : Int) (h0 : 0 ≤ n) (h1 : n < 64) (m : Heap) : AQuiet Try.prog F.spec_l1Size [.one (.int .i64 n)] m (.one (.int .i64 (pc n.toNat))) := by
  obtain ⟨x, rfl⟩ := Int.eq_ofNat_of_zero_le h0
  have h6 := pc_six x
  refine aqn T.spec_l1Size (by rfl) ?_
  repeat' (first | refine awp_seq ?_ | refine awp_block ?_ | refine thn_n ?_ | refine thn_e ?_ | refine thn_r ?_ | refine blk_n ?_ | refine blk_r ?_ | refine blk_here ?_ | refine blk_on rfl ?_ | refine awp_skip ?_ | refine awp_exit ?_ | refine awp_ret ?_ | refine ret_one rfl ?_ | refine ret_many rfl ?_ | refine end_one rfl ?_ | (first | refine awp_if rfl (fun hif => ?_) (fun hif => ?_) | refine awp_nif rfl (fun hif => ?_) (fun hif => ?_) | refine awp_not rfl (fun hif => ?_) (fun hif => ?_) | refine awp_cond rfl (fun hif => ?_) (fun hif => ?_)) <;> try (first | contradiction | (exfalso; omega)) | (refine hK _ _ ?_; clear hK K) | (refine And.intro (by first | omega | assumption | (constructor <;> omega)) ?_) | (refine And.intro (fun hif => ?_) (fun hif => ?_) <;> try (first | contradiction | (exfalso; omega))) | ((first | refine awp_reg fun K hK => ?_ | refine ops_go ?_ | refine kont_go ?_ | refine kv_go ?_ | refine ku_go ?_); simp only [↓awpOps, ↓aop, ↓aopQ, ↓abin, ↓aun, ↓onSome_some, ↓Kont_at, ↓KM_at, ↓KV_at, ↓KU_at, refId_row, Int.one_mul, Frame.ev, Frame.evs, Frame.evOr, Frame.put, Frame.keep, get_nil, get_cons, argFrame, resOf, fillA, Vals.len, Vals.get, Vals.set, Vals.app, Vals.sub, Vals.take, Vals.ofAgg_cons, Vals.ofList, Vals.toInts, Vals.toBools, Vals.toSls, Vals.toStrs, Vals.zeros, Nat.reduceBEq, Nat.reduceAdd, Nat.reduceEqDiff, cond_true, cond_false, if_true, if_false, Option.map_some, Option.map_none, List.length_cons, List.length_nil, List.replicate, List.set_cons_zero, List.set_cons_succ, Nat.reduceLT, true_and, and_true, forall_const, true_implies, Bool.not_true, Bool.not_false, Bool.true_eq_false, Bool.false_eq_true, false_implies, decide_eq_true_eq, decide_eq_false_iff_not, Int.not_lt, Int.not_le, Int.toNat_natCast, inR, Nat.zero_add, Int.toNat_zero, reduceCtorEq, IntKind.bits, List.nil_append, List.cons_append, Nat.add_zero, implies_true, ite_self, Nat.zero_lt_succ, Nat.lt_add_one, Int.zero_sub, Nat.sub_zero, Int.ofNat_toNat, List.map_cons, List.map_nil, Bool.true_eq, Bool.not_eq_eq_eq_not]) | refine And.intro ?_ (fun hif => (hif trivial).elim) | (intro hif; try (first | contradiction | (exfalso; omega))))
  refine awp_loop ?_
  refine ALoop.by [0, 3] (fun a : Int × Int => [(0, .one (.int .i64 a.1)), (3, .one (.int .i64 a.2))]) (fun _ => m) (fun a => ∃ y : Nat, a.1 = y ∧ y < 64 ∧ 0 ≤ a.2 ∧ a.2 + pc y = pc x) (fun a => a.1.toNat) (x, 0) rfl rfl ⟨x, rfl, by omega, by simp, by simp⟩ ?_
  rintro ⟨a, c⟩ ⟨y, h2, hy, hc, he⟩ K1 hK1
  simp only at h2 hc he
  subst h2
  have hh := pc_half hy
  repeat' (first | refine awp_seq ?_ | refine awp_block ?_ | refine thn_n ?_ | refine thn_e ?_ | refine thn_r ?_ | refine blk_n ?_ | refine blk_r ?_ | refine blk_here ?_ | refine blk_on rfl ?_ | refine awp_skip ?_ | refine awp_exit ?_ | refine awp_ret ?_ | refine ret_one rfl ?_ | refine ret_many rfl ?_ | refine end_one rfl ?_ | (first | refine awp_if rfl (fun hif => ?_) (fun hif => ?_) | refine awp_nif rfl (fun hif => ?_) (fun hif => ?_) | refine awp_not rfl (fun hif => ?_) (fun hif => ?_) | refine awp_cond rfl (fun hif => ?_) (fun hif => ?_)) <;> try (first | contradiction | (exfalso; omega)) | (refine hK _ _ ?_; clear hK K) | (refine And.intro (by first | omega | assumption | (constructor <;> omega)) ?_) | (refine And.intro (fun hif => ?_) (fun hif => ?_) <;> try (first | contradiction | (exfalso; omega))) | ((first | refine awp_reg fun K hK => ?_ | refine ops_go ?_ | refine kont_go ?_ | refine kv_go ?_ | refine ku_go ?_); simp only [↓awpOps, ↓aop, ↓aopQ, ↓abin, ↓aun, ↓onSome_some, ↓Kont_at, ↓KM_at, ↓KV_at, ↓KU_at, refId_row, Int.one_mul, Frame.ev, Frame.evs, Frame.evOr, Frame.put, Frame.keep, get_nil, get_cons, argFrame, resOf, fillA, Vals.len, Vals.get, Vals.set, Vals.app, Vals.sub, Vals.take, Vals.ofAgg_cons, Vals.ofList, Vals.toInts, Vals.toBools, Vals.toSls, Vals.toStrs, Vals.zeros, Nat.reduceBEq, Nat.reduceAdd, Nat.reduceEqDiff, cond_true, cond_false, if_true, if_false, Option.map_some, Option.map_none, List.length_cons, List.length_nil, List.replicate, List.set_cons_zero, List.set_cons_succ, Nat.reduceLT, true_and, and_true, forall_const, true_implies, Bool.not_true, Bool.not_false, Bool.true_eq_false, Bool.false_eq_true, false_implies, decide_eq_true_eq, decide_eq_false_iff_not, Int.not_lt, Int.not_le, Int.toNat_natCast, inR, Nat.zero_add, Int.toNat_zero, reduceCtorEq, IntKind.bits, List.nil_append, List.cons_append, Nat.add_zero, implies_true, ite_self, Nat.zero_lt_succ, Nat.lt_add_one, Int.zero_sub, Nat.sub_zero, Int.ofNat_toNat, List.map_cons, List.map_nil, Bool.true_eq, Bool.not_eq_eq_eq_not]) | refine And.intro ?_ (fun hif => (hif trivial).elim) | (intro hif; try (first | contradiction | (exfalso; omega))))
  · refine hK1 ((y : Int) / 2, c + (y : Int) % 2) _ _ rfl rfl ⟨y / 2, by simp, by omega, by simp only; omega, by simp only; omega⟩ ?_
    simp only
    omega
  · refine ⟨?_, List.prefix_rfl⟩
    obtain rfl : y = 0 := by omega
    have : pc 0 = 0 := rfl
    congr 2
    simp only [Int.toNat_natCast]
    omega

/-- The greatest number of neighbours of the first places. -/
def most (net : List Int) : Nat → Int
  | 0 => 0
  | k + 1 => max (most net k) (pc ((net.getD k 0)).toNat)
theorem most_pos (net : List Int) : ∀ k, 0 ≤ most net k
  | 0 => Int.le_refl _
  | k + 1 => by have := most_pos net k; unfold most; omega
def mostNear (net : List Int) : Int := if NetOk net then most net net.length else -1

theorem NetOk.small {net : List Int} (h : NetOk net) {k : Nat} (hk : k < net.length) : 0 ≤ (net.getD k 0) ∧ (net.getD k 0) < 64 := by
  have h1 := h.low k hk
  have h2 := h.high k hk
  have h3 := pow_le6 h.six
  omega

end Go.Abs
