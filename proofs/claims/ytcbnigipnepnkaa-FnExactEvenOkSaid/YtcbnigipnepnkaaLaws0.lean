/- The helpers of the laws, each by a contract. Own work; no condition. -/
import Derived.Test.YtcbnigipnepnkaaImpl1
set_option maxRecDepth 100000
set_option linter.unusedSimpArgs false
set_option linter.unusedVariables false
namespace Go.Abs
open Go.Proofs
attribute [local irreducible] awp awpOps aloop ALoop ACalls ACallq AQuiet retPost retPostA AExit.thn AExit.blk aApp aSt aStA

theorem isInts_push (k : IntKind) (m : Heap) (e f : Nat) (o : Bool) (l : List Int) : IsInts k (m ++ [⟨e, f, o, .ints k l⟩]) ⟨.row m.length, 0, l.length⟩ l :=
  ⟨rfl, fun i hi => by rw [Nat.zero_add]; exact at_row (get_last m _) hi⟩

theorem set_take {α : Type} (l : List α) (d z : α) {k : Nat} (hk : k < l.length) : (l.take k ++ List.replicate (l.length - k) z).set k (l.getD k d) = l.take (k + 1) ++ List.replicate (l.length - (k + 1)) z := by
  have h1 : (l.take k).length = k := by rw [List.length_take]; omega
  rw [List.set_append_right _ _ (by omega), h1, Nat.sub_self]
  obtain ⟨n, hn⟩ : ∃ n, l.length - k = n + 1 := ⟨l.length - k - 1, by omega⟩
  rw [hn, List.replicate_succ, List.set_cons_zero, List.take_succ_eq_append_getElem hk, List.append_assoc, show l.length - (k + 1) = n by omega]
  simp [List.getD_eq_getElem?_getD, hk]

theorem laws_toIntS {s : SV} {l : List Int} {m : Heap} {K : XV → Heap → Prop} (hs : IsInts .i64 m s l) (hl : l.length ≤ 1048576)
    (hK : K (.one (.sl ⟨.row m.length, 0, l.length⟩)) (m ++ [⟨Ty.int, m.length, true, .ints .i64 l⟩])) : ACalls Try.prog F.laws_toIntS [.one (.sl s)] m K := by
  obtain ⟨ref, off, len⟩ := s
  obtain rfl : len = l.length := hs.1
  refine ACalls.wf fun hwf => ?_
  refine afn T.laws_toIntS (by rfl) ?_
  repeat' (first | refine awp_seq ?_ | refine awp_block ?_ | refine thn_n ?_ | refine thn_e ?_ | refine thn_r ?_ | refine blk_n ?_ | refine blk_r ?_ | refine blk_here ?_ | refine blk_on rfl ?_ | refine awp_skip ?_ | refine awp_exit ?_ | refine awp_ret ?_ | refine ret_one rfl ?_ | refine ret_many rfl ?_ | refine end_one rfl ?_ | (first | refine awp_if rfl (fun hif => ?_) (fun hif => ?_) | refine awp_nif rfl (fun hif => ?_) (fun hif => ?_) | refine awp_not rfl (fun hif => ?_) (fun hif => ?_) | refine awp_cond rfl (fun hif => ?_) (fun hif => ?_)) <;> try (first | contradiction | (exfalso; omega)) | (refine hK _ _ ?_; clear hK K) | (refine And.intro (by first | omega | assumption | (constructor <;> omega)) ?_) | (refine And.intro (fun hif => ?_) (fun hif => ?_) <;> try (first | contradiction | (exfalso; omega))) | ((first | refine awp_reg fun K hK => ?_ | refine ops_go ?_ | refine kont_go ?_ | refine kv_go ?_ | refine ku_go ?_); simp only [↓awpOps, ↓aop, ↓aopQ, ↓abin, ↓aun, ↓onSome_some, ↓Kont_at, ↓KM_at, ↓KV_at, ↓KU_at, refId_row, Int.one_mul, Frame.ev, Frame.evs, Frame.evOr, Frame.put, Frame.keep, get_nil, get_cons, argFrame, resOf, fillA, Vals.len, Vals.get, Vals.set, Vals.app, Vals.sub, Vals.take, Vals.ofAgg_cons, Vals.ofList, Vals.toInts, Vals.toBools, Vals.toSls, Vals.toStrs, Vals.zeros, Nat.reduceBEq, Nat.reduceAdd, Nat.reduceEqDiff, cond_true, cond_false, if_true, if_false, Option.map_some, Option.map_none, List.length_cons, List.length_nil, List.replicate, List.set_cons_zero, List.set_cons_succ, Nat.reduceLT, true_and, and_true, forall_const, true_implies, Bool.not_true, Bool.not_false, Bool.true_eq_false, Bool.false_eq_true, false_implies, decide_eq_true_eq, decide_eq_false_iff_not, Int.not_lt, Int.not_le, Int.toNat_natCast, inR, Nat.zero_add, Int.toNat_zero, reduceCtorEq, IntKind.bits, List.nil_append, List.cons_append, Nat.add_zero, implies_true, ite_self, Nat.zero_lt_succ, Nat.lt_add_one, Int.zero_sub, Nat.sub_zero, Int.ofNat_toNat, List.map_cons, List.map_nil, Bool.true_eq, Bool.not_eq_eq_eq_not]) | refine And.intro ?_ (fun hif => (hif trivial).elim) | (intro hif; try (first | contradiction | (exfalso; omega))))
  refine awp_loop ?_
  refine ALoop.by [0, 3, 4] (fun k : Nat => [(0, .one (.sl ⟨ref, off, l.length⟩)), (3, .one (.sl ⟨.row m.length, 0, l.length⟩)), (4, .one (.int .i64 k))]) (fun k => m ++ [⟨Ty.int, m.length, true, .ints .i64 (l.take k ++ List.replicate (l.length - k) 0)⟩]) (fun k => k ≤ l.length) (fun k => l.length - k) 0 rfl (by simp) (Nat.zero_le _) ?_
  intro k hk K1 hK1
  have hlen : (l.take k ++ List.replicate (l.length - k) (0 : Int)).length = l.length := by simp; omega
  have hs' := hs.pre (prefix_push m ⟨Ty.int, m.length, true, .ints .i64 (l.take k ++ List.replicate (l.length - k) 0)⟩)
  repeat' (first | refine awp_seq ?_ | refine awp_block ?_ | refine thn_n ?_ | refine thn_e ?_ | refine thn_r ?_ | refine blk_n ?_ | refine blk_r ?_ | refine blk_here ?_ | refine blk_on rfl ?_ | refine awp_skip ?_ | refine awp_exit ?_ | refine awp_ret ?_ | refine ret_one rfl ?_ | refine ret_many rfl ?_ | refine end_one rfl ?_ | (first | refine awp_if rfl (fun hif => ?_) (fun hif => ?_) | refine awp_nif rfl (fun hif => ?_) (fun hif => ?_) | refine awp_not rfl (fun hif => ?_) (fun hif => ?_) | refine awp_cond rfl (fun hif => ?_) (fun hif => ?_)) <;> try (first | contradiction | (exfalso; omega)) | (refine hK _ _ ?_; clear hK K) | refine onSome_of (hs'.2 _ (by omega)) ?_ | refine st_last hwf (by simp only [Vals.len, hlen]; omega) rfl ?_ | (refine And.intro (by first | omega | assumption | (constructor <;> omega)) ?_) | (refine And.intro (fun hif => ?_) (fun hif => ?_) <;> try (first | contradiction | (exfalso; omega))) | ((first | refine awp_reg fun K hK => ?_ | refine ops_go ?_ | refine kont_go ?_ | refine kv_go ?_ | refine ku_go ?_); simp only [↓awpOps, ↓aop, ↓aopQ, ↓abin, ↓aun, ↓onSome_some, ↓Kont_at, ↓KM_at, ↓KV_at, ↓KU_at, refId_row, Int.one_mul, Frame.ev, Frame.evs, Frame.evOr, Frame.put, Frame.keep, get_nil, get_cons, argFrame, resOf, fillA, Vals.len, Vals.get, Vals.set, Vals.app, Vals.sub, Vals.take, Vals.ofAgg_cons, Vals.ofList, Vals.toInts, Vals.toBools, Vals.toSls, Vals.toStrs, Vals.zeros, Nat.reduceBEq, Nat.reduceAdd, Nat.reduceEqDiff, cond_true, cond_false, if_true, if_false, Option.map_some, Option.map_none, List.length_cons, List.length_nil, List.replicate, List.set_cons_zero, List.set_cons_succ, Nat.reduceLT, true_and, and_true, forall_const, true_implies, Bool.not_true, Bool.not_false, Bool.true_eq_false, Bool.false_eq_true, false_implies, decide_eq_true_eq, decide_eq_false_iff_not, Int.not_lt, Int.not_le, Int.toNat_natCast, inR, Nat.zero_add, Int.toNat_zero, reduceCtorEq, IntKind.bits, List.nil_append, List.cons_append, Nat.add_zero, implies_true, ite_self, Nat.zero_lt_succ, Nat.lt_add_one, Int.zero_sub, Nat.sub_zero, Int.ofNat_toNat, List.map_cons, List.map_nil, Bool.true_eq, Bool.not_eq_eq_eq_not]) | refine And.intro ?_ (fun hif => (hif trivial).elim) | (intro hif; try (first | contradiction | (exfalso; omega))))
  · refine hK1 (k + 1) _ _ rfl ?_ (by omega) (by omega)
    rw [set_take l 0 0 (by omega)]
  · obtain rfl : k = l.length := by omega
    simpa using hK

theorem laws_eqIntS (s t : SV) (l r : List Int) (m : Heap) (hs : IsInts .i64 m s l) (ht : IsInts .i64 m t r) (hl : l.length ≤ 1048576) : AQuiet Try.prog F.laws_eqIntS [.one (.sl s), .one (.sl t)] m (.one (.bool (decide (l = r)))) := by
  obtain ⟨ref, off, len⟩ := s
  obtain rfl : len = l.length := hs.1
  obtain ⟨ref', off', len'⟩ := t
  obtain rfl : len' = r.length := ht.1
  refine aqn T.laws_eqIntS (by rfl) ?_
  repeat' (first | refine awp_seq ?_ | refine awp_block ?_ | refine thn_n ?_ | refine thn_e ?_ | refine thn_r ?_ | refine blk_n ?_ | refine blk_r ?_ | refine blk_here ?_ | refine blk_on rfl ?_ | refine awp_skip ?_ | refine awp_exit ?_ | refine awp_ret ?_ | refine ret_one rfl ?_ | refine ret_many rfl ?_ | refine end_one rfl ?_ | (first | refine awp_if rfl (fun hif => ?_) (fun hif => ?_) | refine awp_nif rfl (fun hif => ?_) (fun hif => ?_) | refine awp_not rfl (fun hif => ?_) (fun hif => ?_) | refine awp_cond rfl (fun hif => ?_) (fun hif => ?_)) <;> try (first | contradiction | (exfalso; omega)) | (refine hK _ _ ?_; clear hK K) | (refine And.intro (by first | omega | assumption | (constructor <;> omega)) ?_) | (refine And.intro (fun hif => ?_) (fun hif => ?_) <;> try (first | contradiction | (exfalso; omega))) | ((first | refine awp_reg fun K hK => ?_ | refine ops_go ?_ | refine kont_go ?_ | refine kv_go ?_ | refine ku_go ?_); simp only [↓awpOps, ↓aop, ↓aopQ, ↓abin, ↓aun, ↓onSome_some, ↓Kont_at, ↓KM_at, ↓KV_at, ↓KU_at, refId_row, Int.one_mul, Frame.ev, Frame.evs, Frame.evOr, Frame.put, Frame.keep, get_nil, get_cons, argFrame, resOf, fillA, Vals.len, Vals.get, Vals.set, Vals.app, Vals.sub, Vals.take, Vals.ofAgg_cons, Vals.ofList, Vals.toInts, Vals.toBools, Vals.toSls, Vals.toStrs, Vals.zeros, Nat.reduceBEq, Nat.reduceAdd, Nat.reduceEqDiff, cond_true, cond_false, if_true, if_false, Option.map_some, Option.map_none, List.length_cons, List.length_nil, List.replicate, List.set_cons_zero, List.set_cons_succ, Nat.reduceLT, true_and, and_true, forall_const, true_implies, Bool.not_true, Bool.not_false, Bool.true_eq_false, Bool.false_eq_true, false_implies, decide_eq_true_eq, decide_eq_false_iff_not, Int.not_lt, Int.not_le, Int.toNat_natCast, inR, Nat.zero_add, Int.toNat_zero, reduceCtorEq, IntKind.bits, List.nil_append, List.cons_append, Nat.add_zero, implies_true, ite_self, Nat.zero_lt_succ, Nat.lt_add_one, Int.zero_sub, Nat.sub_zero, Int.ofNat_toNat, List.map_cons, List.map_nil, Bool.true_eq, Bool.not_eq_eq_eq_not]) | refine And.intro ?_ (fun hif => (hif trivial).elim) | (intro hif; try (first | contradiction | (exfalso; omega))))
  · refine ⟨?_, List.prefix_rfl⟩
    congr 2
    refine (decide_eq_false fun h => ?_).symm
    rw [h] at hif
    exact hif rfl
  · refine awp_loop ?_
    refine ALoop.by [0, 1, 5] (fun k : Nat => [(0, .one (.sl ⟨ref, off, l.length⟩)), (1, .one (.sl ⟨ref', off', r.length⟩)), (5, .one (.int .i64 k))]) (fun _ => m) (fun k => k ≤ l.length ∧ ∀ i, i < k → (l.getD i 0) = (r.getD i 0)) (fun k => l.length - k) 0 rfl rfl ⟨Nat.zero_le _, fun i hi => absurd hi (Nat.not_lt_zero _)⟩ ?_
    rintro k ⟨hk, hok⟩ K1 hK1
    have hlen : l.length = r.length := by omega
    repeat' (first | refine awp_seq ?_ | refine awp_block ?_ | refine thn_n ?_ | refine thn_e ?_ | refine thn_r ?_ | refine blk_n ?_ | refine blk_r ?_ | refine blk_here ?_ | refine blk_on rfl ?_ | refine awp_skip ?_ | refine awp_exit ?_ | refine awp_ret ?_ | refine ret_one rfl ?_ | refine ret_many rfl ?_ | refine end_one rfl ?_ | (first | refine awp_if rfl (fun hif => ?_) (fun hif => ?_) | refine awp_nif rfl (fun hif => ?_) (fun hif => ?_) | refine awp_not rfl (fun hif => ?_) (fun hif => ?_) | refine awp_cond rfl (fun hif => ?_) (fun hif => ?_)) <;> try (first | contradiction | (exfalso; omega)) | (refine hK _ _ ?_; clear hK K) | refine onSome_of (hs.2 _ (by omega)) ?_ | refine onSome_of (ht.2 _ (by omega)) ?_ | (refine And.intro (by first | omega | assumption | (constructor <;> omega)) ?_) | (refine And.intro (fun hif => ?_) (fun hif => ?_) <;> try (first | contradiction | (exfalso; omega))) | ((first | refine awp_reg fun K hK => ?_ | refine ops_go ?_ | refine kont_go ?_ | refine kv_go ?_ | refine ku_go ?_); simp only [↓awpOps, ↓aop, ↓aopQ, ↓abin, ↓aun, ↓onSome_some, ↓Kont_at, ↓KM_at, ↓KV_at, ↓KU_at, refId_row, Int.one_mul, Frame.ev, Frame.evs, Frame.evOr, Frame.put, Frame.keep, get_nil, get_cons, argFrame, resOf, fillA, Vals.len, Vals.get, Vals.set, Vals.app, Vals.sub, Vals.take, Vals.ofAgg_cons, Vals.ofList, Vals.toInts, Vals.toBools, Vals.toSls, Vals.toStrs, Vals.zeros, Nat.reduceBEq, Nat.reduceAdd, Nat.reduceEqDiff, cond_true, cond_false, if_true, if_false, Option.map_some, Option.map_none, List.length_cons, List.length_nil, List.replicate, List.set_cons_zero, List.set_cons_succ, Nat.reduceLT, true_and, and_true, forall_const, true_implies, Bool.not_true, Bool.not_false, Bool.true_eq_false, Bool.false_eq_true, false_implies, decide_eq_true_eq, decide_eq_false_iff_not, Int.not_lt, Int.not_le, Int.toNat_natCast, inR, Nat.zero_add, Int.toNat_zero, reduceCtorEq, IntKind.bits, List.nil_append, List.cons_append, Nat.add_zero, implies_true, ite_self, Nat.zero_lt_succ, Nat.lt_add_one, Int.zero_sub, Nat.sub_zero, Int.ofNat_toNat, List.map_cons, List.map_nil, Bool.true_eq, Bool.not_eq_eq_eq_not]) | refine And.intro ?_ (fun hif => (hif trivial).elim) | (intro hif; try (first | contradiction | (exfalso; omega))))
    · refine ⟨?_, List.prefix_rfl⟩
      congr 2
      refine (decide_eq_false fun h => ?_).symm
      rw [h] at hif
      exact hif rfl
    · refine hK1 (k + 1) _ _ rfl rfl ⟨by omega, fun i hi => ?_⟩ (by omega)
      rcases Nat.lt_succ_iff_lt_or_eq.1 hi with h | rfl
      · exact hok i h
      · exact Decidable.not_not.1 hif
    · refine ⟨?_, List.prefix_rfl⟩
      congr 2
      refine (decide_eq_true ?_).symm
      apply List.ext_getElem hlen
      intro i h1 h2
      have := hok i (by omega)
      simpa [List.getD_eq_getElem?_getD, h1, h2] using this

theorem impl_NetOk_b {s : SV} {net : List Int} {m : Heap} (b : Bool) (hs : IsInts .i64 m s net) (hb : decide (NetOk net) = b) : AQuiet Try.prog F.impl_NetOk [.one (.sl s)] m (.one (.bool b)) := hb ▸ impl_NetOk s net m hs

theorem laws_alive (m : Heap) : AQuiet Try.prog F.laws_alive [] m (.one (.bool true)) := by
  refine aqn T.laws_alive (by rfl) ?_
  have h1 : decide (NetOk [2, 1]) = true := by decide +kernel
  have h2 : decide (NetOk [1]) = false := by decide +kernel
  repeat' (first | refine awp_seq ?_ | refine awp_block ?_ | refine thn_n ?_ | refine thn_e ?_ | refine thn_r ?_ | refine blk_n ?_ | refine blk_r ?_ | refine blk_here ?_ | refine blk_on rfl ?_ | refine awp_skip ?_ | refine awp_exit ?_ | refine awp_ret ?_ | refine ret_one rfl ?_ | refine ret_many rfl ?_ | refine end_one rfl ?_ | (first | refine awp_if rfl (fun hif => ?_) (fun hif => ?_) | refine awp_nif rfl (fun hif => ?_) (fun hif => ?_) | refine awp_not rfl (fun hif => ?_) (fun hif => ?_) | refine awp_cond rfl (fun hif => ?_) (fun hif => ?_)) <;> try (first | contradiction | (exfalso; omega)) | (refine hK _ _ ?_; clear hK K) | refine AQuiet.call (impl_NetOk_b true (isInts_push _ _ _ _ _ [2, 1]) h1) trivial ?_ | refine AQuiet.call (impl_NetOk_b false (isInts_push _ _ _ _ _ [1]) h2) trivial ?_ | (refine And.intro (by first | omega | assumption | (constructor <;> omega)) ?_) | (refine And.intro (fun hif => ?_) (fun hif => ?_) <;> try (first | contradiction | (exfalso; omega))) | ((first | refine awp_reg fun K hK => ?_ | refine ops_go ?_ | refine kont_go ?_ | refine kv_go ?_ | refine ku_go ?_); simp only [↓awpOps, ↓aop, ↓aopQ, ↓abin, ↓aun, ↓onSome_some, ↓Kont_at, ↓KM_at, ↓KV_at, ↓KU_at, refId_row, Int.one_mul, Frame.ev, Frame.evs, Frame.evOr, Frame.put, Frame.keep, get_nil, get_cons, argFrame, resOf, fillA, Vals.len, Vals.get, Vals.set, Vals.app, Vals.sub, Vals.take, Vals.ofAgg_cons, Vals.ofList, Vals.toInts, Vals.toBools, Vals.toSls, Vals.toStrs, Vals.zeros, Nat.reduceBEq, Nat.reduceAdd, Nat.reduceEqDiff, cond_true, cond_false, if_true, if_false, Option.map_some, Option.map_none, List.length_cons, List.length_nil, List.replicate, List.set_cons_zero, List.set_cons_succ, Nat.reduceLT, true_and, and_true, forall_const, true_implies, Bool.not_true, Bool.not_false, Bool.true_eq_false, Bool.false_eq_true, false_implies, decide_eq_true_eq, decide_eq_false_iff_not, Int.not_lt, Int.not_le, Int.toNat_natCast, inR, Nat.zero_add, Int.toNat_zero, reduceCtorEq, IntKind.bits, List.nil_append, List.cons_append, Nat.add_zero, implies_true, ite_self, Nat.zero_lt_succ, Nat.lt_add_one, Int.zero_sub, Nat.sub_zero, Int.ofNat_toNat, List.map_cons, List.map_nil, Bool.true_eq, Bool.not_eq_eq_eq_not]) | refine And.intro ?_ (fun hif => (hif trivial).elim) | (intro hif; try (first | contradiction | (exfalso; omega))))
  exact (prefix_push _ _).trans (prefix_push _ _)

end Go.Abs
