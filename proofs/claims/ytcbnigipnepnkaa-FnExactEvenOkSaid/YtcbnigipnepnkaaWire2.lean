/- The wires in their order; lists that are the same. Own work; no condition. -/
import Derived.Test.YtcbnigipnepnkaaWire1
set_option maxRecDepth 100000
set_option linter.unusedSimpArgs false
set_option linter.unusedVariables false
namespace Go.Abs
open Go.Proofs
attribute [local irreducible] awp awpOps aloop ALoop ACalls ACallq AQuiet retPost retPostA AExit.thn AExit.blk aApp aSt aStA

theorem mem_in {net : List Int} {k : Nat} {x : List Int} : ∀ {j : Nat}, x ∈ wiresIn net k j → ∃ b : Nat, x = [(k : Int), (b : Int)] ∧ k < b ∧ b < j ∧ bit ((net.getD k 0)) b = true
  | 0, h => by simp [wiresIn] at h
  | j + 1, h => by
    rw [wiresIn] at h
    by_cases hc : k < j ∧ bit ((net.getD k 0)) j = true
    · rw [if_pos hc] at h
      rcases List.mem_append.1 h with h | h
      · obtain ⟨b, h1, h2, h3, h4⟩ := mem_in h
        exact ⟨b, h1, h2, by omega, h4⟩
      · exact ⟨j, by simpa using h, hc.1, by omega, hc.2⟩
    · rw [if_neg hc] at h
      obtain ⟨b, h1, h2, h3, h4⟩ := mem_in h
      exact ⟨b, h1, h2, by omega, h4⟩

theorem mem_to {net : List Int} {x : List Int} : ∀ {k : Nat}, x ∈ wiresTo net k → ∃ a b : Nat, x = [(a : Int), (b : Int)] ∧ a < k ∧ a < b ∧ b < net.length ∧ bit ((net.getD a 0)) b = true
  | 0, h => by simp [wiresTo] at h
  | k + 1, h => by
    rw [wiresTo] at h
    rcases List.mem_append.1 h with h | h
    · obtain ⟨a, b, h1, h2, h3⟩ := mem_to h
      exact ⟨a, b, h1, by omega, h3⟩
    · obtain ⟨b, h1, h2, h3, h4⟩ := mem_in h
      exact ⟨k, b, h1, by omega, h2, h3, h4⟩

/-- One wire stands ahead of another. -/
def Ahead (x y : List Int) : Prop := ∃ a b c d : Nat, x = [(a : Int), (b : Int)] ∧ y = [(c : Int), (d : Int)] ∧ (a < c ∨ a = c ∧ b < d)

theorem in_order (net : List Int) (k : Nat) : ∀ j, (wiresIn net k j).Pairwise Ahead
  | 0 => by simp [wiresIn]
  | j + 1 => by
    rw [wiresIn]
    by_cases hc : k < j ∧ bit ((net.getD k 0)) j = true
    · rw [if_pos hc, List.pairwise_append]
      refine ⟨in_order net k j, by simp, fun x hx y hy => ?_⟩
      obtain ⟨b, rfl, _, h3, _⟩ := mem_in hx
      obtain rfl : y = [(k : Int), (j : Int)] := by simpa using hy
      exact ⟨k, b, k, j, rfl, rfl, .inr ⟨rfl, h3⟩⟩
    · rw [if_neg hc]
      exact in_order net k j
theorem to_order (net : List Int) : ∀ k, (wiresTo net k).Pairwise Ahead
  | 0 => by simp [wiresTo]
  | k + 1 => by
    rw [wiresTo, List.pairwise_append]
    refine ⟨to_order net k, in_order net k _, fun x hx y hy => ?_⟩
    obtain ⟨a, b, rfl, h2, _⟩ := mem_to hx
    obtain ⟨d, rfl, _⟩ := mem_in hy
    exact ⟨a, b, k, d, rfl, rfl, .inl h2⟩

theorem wire_at {net : List Int} {i : Nat} (hi : i < (wires net).length) : ∃ a b : Nat, (wires net).getD i [] = [(a : Int), (b : Int)] ∧ a < net.length ∧ a < b ∧ b < net.length ∧ bit ((net.getD a 0)) b = true := by
  rw [List.getD_eq_getElem?_getD, List.getElem?_eq_getElem hi]
  exact mem_to (List.getElem_mem hi)
theorem wire_next {net : List Int} {i : Nat} (hi : i + 1 < (wires net).length) : Ahead ((wires net).getD i []) ((wires net).getD (i + 1) []) := by
  rw [List.getD_eq_getElem?_getD, List.getD_eq_getElem?_getD, List.getElem?_eq_getElem hi, List.getElem?_eq_getElem (by omega)]
  have h2 : i + 1 < (wiresTo net net.length).length := hi
  exact List.pairwise_iff_getElem.1 (to_order net net.length) i (i + 1) (by omega) h2 (by omega)

def wireList (net : List Int) : List (List Int) := if NetOk net then wires net else []

theorem impl_WireList_all {s : SV} {net : List Int} {m : Heap} {K : XV → Heap → Prop} (hs : IsInts .i64 m s net)
    (hK : ∀ (s' : SV) (m' : Heap), m <+: m' → m'.wf → IsWires m.length m' s' (wireList net) → K (.one (.sl s')) m') : ACalls Try.prog F.impl_WireList [.one (.sl s)] m K := by
  by_cases hN : NetOk net
  · exact impl_WireList hs hN fun s' m' h1 h2 h3 => hK s' m' h1 h2 (by rw [wireList, if_pos hN]; exact h3)
  · refine ACalls.wf fun hwf => ?_
    refine afn T.impl_WireList (by rfl) ?_
    repeat' (first | refine awp_seq ?_ | refine awp_block ?_ | refine thn_n ?_ | refine thn_e ?_ | refine thn_r ?_ | refine blk_n ?_ | refine blk_r ?_ | refine blk_here ?_ | refine blk_on rfl ?_ | refine awp_skip ?_ | refine awp_exit ?_ | refine awp_ret ?_ | refine ret_one rfl ?_ | refine ret_many rfl ?_ | refine end_one rfl ?_ | (first | refine awp_if rfl (fun hif => ?_) (fun hif => ?_) | refine awp_nif rfl (fun hif => ?_) (fun hif => ?_) | refine awp_not rfl (fun hif => ?_) (fun hif => ?_) | refine awp_cond rfl (fun hif => ?_) (fun hif => ?_)) <;> try (first | contradiction | (exfalso; omega)) | (refine hK _ _ ?_; clear hK K) | refine AQuiet.call (impl_NetOk_b false hs (decide_eq_false hN)) trivial ?_ | (refine And.intro (by first | omega | assumption | (constructor <;> omega)) ?_) | (refine And.intro (fun hif => ?_) (fun hif => ?_) <;> try (first | contradiction | (exfalso; omega))) | ((first | refine awp_reg fun K hK => ?_ | refine ops_go ?_ | refine kont_go ?_ | refine kv_go ?_ | refine ku_go ?_); simp only [↓awpOps, ↓aop, ↓aopQ, ↓abin, ↓aun, ↓onSome_some, ↓Kont_at, ↓KM_at, ↓KV_at, ↓KU_at, refId_row, Int.one_mul, Frame.ev, Frame.evs, Frame.evOr, Frame.put, Frame.keep, get_nil, get_cons, argFrame, resOf, fillA, Vals.len, Vals.get, Vals.set, Vals.app, Vals.sub, Vals.take, Vals.ofAgg_cons, Vals.ofList, Vals.toInts, Vals.toBools, Vals.toSls, Vals.toStrs, Vals.zeros, Nat.reduceBEq, Nat.reduceAdd, Nat.reduceEqDiff, cond_true, cond_false, if_true, if_false, Option.map_some, Option.map_none, List.length_cons, List.length_nil, List.replicate, List.set_cons_zero, List.set_cons_succ, Nat.reduceLT, true_and, and_true, forall_const, true_implies, Bool.not_true, Bool.not_false, Bool.true_eq_false, Bool.false_eq_true, false_implies, decide_eq_true_eq, decide_eq_false_iff_not, Int.not_lt, Int.not_le, Int.toNat_natCast, inR, Nat.zero_add, Int.toNat_zero, reduceCtorEq, IntKind.bits, List.nil_append, List.cons_append, Nat.add_zero, implies_true, ite_self, Nat.zero_lt_succ, Nat.lt_add_one, Int.zero_sub, Nat.sub_zero, Int.ofNat_toNat, List.map_cons, List.map_nil, Bool.true_eq, Bool.not_eq_eq_eq_not]) | refine And.intro ?_ (fun hif => (hif trivial).elim) | (intro hif; try (first | contradiction | (exfalso; omega))))
    exact hK _ _ List.prefix_rfl hwf (by rw [wireList, if_neg hN]; exact isWires_nil _ _)

theorem IsWires.rows {n0 : Nat} {m : Heap} {s : SV} {ll : List (List Int)} (h : IsWires n0 m s ll) : IsRows .i64 m s ll := by
  obtain ⟨svs, h1, h2, h3⟩ := h.own
  refine ⟨svs, h1.isSls, h2, fun i hi => ?_⟩
  obtain ⟨id, _, g2, g3⟩ := h3 i hi
  rw [g2]
  refine ⟨rfl, fun j hj => ?_⟩
  rw [Nat.zero_add]
  exact at_row g3 hj

theorem laws_sameInts (s t : SV) (l r : List Int) (m : Heap) (hs : IsInts .i64 m s l) (ht : IsInts .i64 m t r) (hl : l.length ≤ 1048576) : AQuiet Try.prog F.laws_sameInts [.one (.sl s), .one (.sl t)] m (.one (.bool (decide (l = r)))) := by
  obtain ⟨ref, off, len⟩ := s
  obtain rfl : len = l.length := hs.1
  obtain ⟨ref', off', len'⟩ := t
  obtain rfl : len' = r.length := ht.1
  refine aqn T.laws_sameInts (by rfl) ?_
  repeat' (first | refine awp_seq ?_ | refine awp_block ?_ | refine thn_n ?_ | refine thn_e ?_ | refine thn_r ?_ | refine blk_n ?_ | refine blk_r ?_ | refine blk_here ?_ | refine blk_on rfl ?_ | refine awp_skip ?_ | refine awp_exit ?_ | refine awp_ret ?_ | refine ret_one rfl ?_ | refine ret_many rfl ?_ | refine end_one rfl ?_ | (first | refine awp_if rfl (fun hif => ?_) (fun hif => ?_) | refine awp_nif rfl (fun hif => ?_) (fun hif => ?_) | refine awp_not rfl (fun hif => ?_) (fun hif => ?_) | refine awp_cond rfl (fun hif => ?_) (fun hif => ?_)) <;> try (first | contradiction | (exfalso; omega)) | (refine hK _ _ ?_; clear hK K) | (refine And.intro (by first | omega | assumption | (constructor <;> omega)) ?_) | (refine And.intro (fun hif => ?_) (fun hif => ?_) <;> try (first | contradiction | (exfalso; omega))) | ((first | refine awp_reg fun K hK => ?_ | refine ops_go ?_ | refine kont_go ?_ | refine kv_go ?_ | refine ku_go ?_); simp only [↓awpOps, ↓aop, ↓aopQ, ↓abin, ↓aun, ↓onSome_some, ↓Kont_at, ↓KM_at, ↓KV_at, ↓KU_at, refId_row, Int.one_mul, Frame.ev, Frame.evs, Frame.evOr, Frame.put, Frame.keep, get_nil, get_cons, argFrame, resOf, fillA, Vals.len, Vals.get, Vals.set, Vals.app, Vals.sub, Vals.take, Vals.ofAgg_cons, Vals.ofList, Vals.toInts, Vals.toBools, Vals.toSls, Vals.toStrs, Vals.zeros, Nat.reduceBEq, Nat.reduceAdd, Nat.reduceEqDiff, cond_true, cond_false, if_true, if_false, Option.map_some, Option.map_none, List.length_cons, List.length_nil, List.replicate, List.set_cons_zero, List.set_cons_succ, Nat.reduceLT, true_and, and_true, forall_const, true_implies, Bool.not_true, Bool.not_false, Bool.true_eq_false, Bool.false_eq_true, false_implies, decide_eq_true_eq, decide_eq_false_iff_not, Int.not_lt, Int.not_le, Int.toNat_natCast, inR, Nat.zero_add, Int.toNat_zero, reduceCtorEq, IntKind.bits, List.nil_append, List.cons_append, Nat.add_zero, implies_true, ite_self, Nat.zero_lt_succ, Nat.lt_add_one, Int.zero_sub, Nat.sub_zero, Int.ofNat_toNat, List.map_cons, List.map_nil, Bool.true_eq, Bool.not_eq_eq_eq_not]) | refine And.intro ?_ (fun hif => (hif trivial).elim) | (intro hif; try (first | contradiction | (exfalso; omega))))
  · refine ⟨?_, List.prefix_rfl⟩
    congr 2
    refine (decide_eq_false fun h => ?_).symm
    rw [h] at hif
    exact hif rfl
  · refine awp_loop ?_
    refine ALoop.by [0, 1, 5] (fun k : Nat => [(0, .one (.sl ⟨ref, off, l.length⟩)), (1, .one (.sl ⟨ref', off', r.length⟩)), (5, .one (.int .i64 k))]) (fun _ => m) (fun k => k ≤ l.length ∧ ∀ i, i < k → (l.getD i 0) = (r.getD i 0)) (fun k => l.length - k) 0 rfl rfl ⟨Nat.zero_le _, fun i hi => absurd hi (Nat.not_lt_zero _)⟩ ?_
    rintro k ⟨hk, hok⟩ K1 hK1
    have hlen : l.length = r.length := by omega
    repeat' (first | refine awp_seq ?_ | refine awp_block ?_ | refine thn_n ?_ | refine thn_e ?_ | refine thn_r ?_ | refine blk_n ?_ | refine blk_r ?_ | refine blk_here ?_ | refine blk_on rfl ?_ | refine awp_skip ?_ | refine awp_exit ?_ | refine awp_ret ?_ | refine ret_one rfl ?_ | refine ret_many rfl ?_ | refine end_one rfl ?_ | (first | refine awp_if rfl (fun hif => ?_) (fun hif => ?_) | refine awp_nif rfl (fun hif => ?_) (fun hif => ?_) | refine awp_not rfl (fun hif => ?_) (fun hif => ?_) | refine awp_cond rfl (fun hif => ?_) (fun hif => ?_)) <;> try (first | contradiction | (exfalso; omega)) | (refine hK _ _ ?_; clear hK K) | refine onSome_of (hs.2 _ (by omega)) ?_ | refine onSome_of (ht.2 _ (by omega)) ?_ | (refine And.intro (by first | omega | assumption | (constructor <;> omega)) ?_) | (refine And.intro (fun hif => ?_) (fun hif => ?_) <;> try (first | contradiction | (exfalso; omega))) | ((first | refine awp_reg fun K hK => ?_ | refine ops_go ?_ | refine kont_go ?_ | refine kv_go ?_ | refine ku_go ?_); simp only [↓awpOps, ↓aop, ↓aopQ, ↓abin, ↓aun, ↓onSome_some, ↓Kont_at, ↓KM_at, ↓KV_at, ↓KU_at, refId_row, Int.one_mul, Frame.ev, Frame.evs, Frame.evOr, Frame.put, Frame.keep, get_nil, get_cons, argFrame, resOf, fillA, Vals.len, Vals.get, Vals.set, Vals.app, Vals.sub, Vals.take, Vals.ofAgg_cons, Vals.ofList, Vals.toInts, Vals.toBools, Vals.toSls, Vals.toStrs, Vals.zeros, Nat.reduceBEq, Nat.reduceAdd, Nat.reduceEqDiff, cond_true, cond_false, if_true, if_false, Option.map_some, Option.map_none, List.length_cons, List.length_nil, List.replicate, List.set_cons_zero, List.set_cons_succ, Nat.reduceLT, true_and, and_true, forall_const, true_implies, Bool.not_true, Bool.not_false, Bool.true_eq_false, Bool.false_eq_true, false_implies, decide_eq_true_eq, decide_eq_false_iff_not, Int.not_lt, Int.not_le, Int.toNat_natCast, inR, Nat.zero_add, Int.toNat_zero, reduceCtorEq, IntKind.bits, List.nil_append, List.cons_append, Nat.add_zero, implies_true, ite_self, Nat.zero_lt_succ, Nat.lt_add_one, Int.zero_sub, Nat.sub_zero, Int.ofNat_toNat, List.map_cons, List.map_nil, Bool.true_eq, Bool.not_eq_eq_eq_not]) | refine And.intro ?_ (fun hif => (hif trivial).elim) | (intro hif; try (first | contradiction | (exfalso; omega))))
    · refine ⟨?_, List.prefix_rfl⟩
      congr 2
      refine (decide_eq_false fun h => ?_).symm
      rw [h] at hif
      exact hif rfl
    · refine hK1 (k + 1) _ _ rfl rfl ⟨by omega, fun i hi => ?_⟩ (by omega)
      rcases Nat.lt_succ_iff_lt_or_eq.1 hi with h | rfl
      · exact hok i h
      · exact Decidable.not_not.1 hif
    · refine ⟨?_, List.prefix_rfl⟩
      congr 2
      refine (decide_eq_true ?_).symm
      apply List.ext_getElem hlen
      intro i h1 h2
      have := hok i (by omega)
      simpa [List.getD_eq_getElem?_getD, h1, h2] using this

theorem laws_sameInts_t (s t : SV) (l : List Int) (m : Heap) (hs : IsInts .i64 m s l) (ht : IsInts .i64 m t l) (hl : l.length ≤ 1048576) : AQuiet Try.prog F.laws_sameInts [.one (.sl s), .one (.sl t)] m (.one (.bool true)) :=
  (laws_sameInts s t l l m hs ht hl).eq (by rw [decide_eq_true rfl])

theorem laws_sameLists (s t : SV) (ll : List (List Int)) (m : Heap) (hs : IsRows .i64 m s ll) (ht : IsRows .i64 m t ll) (hl : ll.length ≤ 100000000) (hi : ∀ i, i < ll.length → (ll.getD i []).length ≤ 1000000) :
    AQuiet Try.prog F.laws_sameLists [.one (.sl s), .one (.sl t)] m (.one (.bool true)) := by
  obtain ⟨ls, hs1, hs2, hs3⟩ := hs
  obtain ⟨lt, ht1, ht2, ht3⟩ := ht
  obtain ⟨ref, off, len⟩ := s
  obtain rfl : len = ls.length := hs1.1
  obtain ⟨ref', off', len'⟩ := t
  obtain rfl : len' = lt.length := ht1.1
  refine aqn T.laws_sameLists (by rfl) ?_
  repeat' (first | refine awp_seq ?_ | refine awp_block ?_ | refine thn_n ?_ | refine thn_e ?_ | refine thn_r ?_ | refine blk_n ?_ | refine blk_r ?_ | refine blk_here ?_ | refine blk_on rfl ?_ | refine awp_skip ?_ | refine awp_exit ?_ | refine awp_ret ?_ | refine ret_one rfl ?_ | refine ret_many rfl ?_ | refine end_one rfl ?_ | (first | refine awp_if rfl (fun hif => ?_) (fun hif => ?_) | refine awp_nif rfl (fun hif => ?_) (fun hif => ?_) | refine awp_not rfl (fun hif => ?_) (fun hif => ?_) | refine awp_cond rfl (fun hif => ?_) (fun hif => ?_)) <;> try (first | contradiction | (exfalso; omega)) | (refine hK _ _ ?_; clear hK K) | (refine And.intro (by first | omega | assumption | (constructor <;> omega)) ?_) | (refine And.intro (fun hif => ?_) (fun hif => ?_) <;> try (first | contradiction | (exfalso; omega))) | ((first | refine awp_reg fun K hK => ?_ | refine ops_go ?_ | refine kont_go ?_ | refine kv_go ?_ | refine ku_go ?_); simp only [↓awpOps, ↓aop, ↓aopQ, ↓abin, ↓aun, ↓onSome_some, ↓Kont_at, ↓KM_at, ↓KV_at, ↓KU_at, refId_row, Int.one_mul, Frame.ev, Frame.evs, Frame.evOr, Frame.put, Frame.keep, get_nil, get_cons, argFrame, resOf, fillA, Vals.len, Vals.get, Vals.set, Vals.app, Vals.sub, Vals.take, Vals.ofAgg_cons, Vals.ofList, Vals.toInts, Vals.toBools, Vals.toSls, Vals.toStrs, Vals.zeros, Nat.reduceBEq, Nat.reduceAdd, Nat.reduceEqDiff, cond_true, cond_false, if_true, if_false, Option.map_some, Option.map_none, List.length_cons, List.length_nil, List.replicate, List.set_cons_zero, List.set_cons_succ, Nat.reduceLT, true_and, and_true, forall_const, true_implies, Bool.not_true, Bool.not_false, Bool.true_eq_false, Bool.false_eq_true, false_implies, decide_eq_true_eq, decide_eq_false_iff_not, Int.not_lt, Int.not_le, Int.toNat_natCast, inR, Nat.zero_add, Int.toNat_zero, reduceCtorEq, IntKind.bits, List.nil_append, List.cons_append, Nat.add_zero, implies_true, ite_self, Nat.zero_lt_succ, Nat.lt_add_one, Int.zero_sub, Nat.sub_zero, Int.ofNat_toNat, List.map_cons, List.map_nil, Bool.true_eq, Bool.not_eq_eq_eq_not]) | refine And.intro ?_ (fun hif => (hif trivial).elim) | (intro hif; try (first | contradiction | (exfalso; omega))))
  refine awp_loop ?_
  refine ALoop.by [0, 1, 5] (fun k : Nat => [(0, .one (.sl ⟨ref, off, ls.length⟩)), (1, .one (.sl ⟨ref', off', lt.length⟩)), (5, .one (.int .i64 k))]) (fun _ => m) (fun k => k ≤ ls.length) (fun k => ls.length - k) 0 rfl rfl (Nat.zero_le _) ?_
  rintro k hk K1 hK1
  repeat' (first | refine awp_seq ?_ | refine awp_block ?_ | refine thn_n ?_ | refine thn_e ?_ | refine thn_r ?_ | refine blk_n ?_ | refine blk_r ?_ | refine blk_here ?_ | refine blk_on rfl ?_ | refine awp_skip ?_ | refine awp_exit ?_ | refine awp_ret ?_ | refine ret_one rfl ?_ | refine ret_many rfl ?_ | refine end_one rfl ?_ | (first | refine awp_if rfl (fun hif => ?_) (fun hif => ?_) | refine awp_nif rfl (fun hif => ?_) (fun hif => ?_) | refine awp_not rfl (fun hif => ?_) (fun hif => ?_) | refine awp_cond rfl (fun hif => ?_) (fun hif => ?_)) <;> try (first | contradiction | (exfalso; omega)) | (refine hK _ _ ?_; clear hK K) | refine onSome_of (hs1.2 _ (by omega)) ?_ | refine onSome_of (ht1.2 _ (by omega)) ?_ | refine AQuiet.callq (laws_sameInts_t _ _ _ _ (hs3 k (by omega)) (ht3 k (by omega)) (by have := hi k (by omega); omega)) trivial ?_ | (refine And.intro (by first | omega | assumption | (constructor <;> omega)) ?_) | (refine And.intro (fun hif => ?_) (fun hif => ?_) <;> try (first | contradiction | (exfalso; omega))) | ((first | refine awp_reg fun K hK => ?_ | refine ops_go ?_ | refine kont_go ?_ | refine kv_go ?_ | refine ku_go ?_); simp only [↓awpOps, ↓aop, ↓aopQ, ↓abin, ↓aun, ↓onSome_some, ↓Kont_at, ↓KM_at, ↓KV_at, ↓KU_at, refId_row, Int.one_mul, Frame.ev, Frame.evs, Frame.evOr, Frame.put, Frame.keep, get_nil, get_cons, argFrame, resOf, fillA, Vals.len, Vals.get, Vals.set, Vals.app, Vals.sub, Vals.take, Vals.ofAgg_cons, Vals.ofList, Vals.toInts, Vals.toBools, Vals.toSls, Vals.toStrs, Vals.zeros, Nat.reduceBEq, Nat.reduceAdd, Nat.reduceEqDiff, cond_true, cond_false, if_true, if_false, Option.map_some, Option.map_none, List.length_cons, List.length_nil, List.replicate, List.set_cons_zero, List.set_cons_succ, Nat.reduceLT, true_and, and_true, forall_const, true_implies, Bool.not_true, Bool.not_false, Bool.true_eq_false, Bool.false_eq_true, false_implies, decide_eq_true_eq, decide_eq_false_iff_not, Int.not_lt, Int.not_le, Int.toNat_natCast, inR, Nat.zero_add, Int.toNat_zero, reduceCtorEq, IntKind.bits, List.nil_append, List.cons_append, Nat.add_zero, implies_true, ite_self, Nat.zero_lt_succ, Nat.lt_add_one, Int.zero_sub, Nat.sub_zero, Int.ofNat_toNat, List.map_cons, List.map_nil, Bool.true_eq, Bool.not_eq_eq_eq_not]) | refine And.intro ?_ (fun hif => (hif trivial).elim) | (intro hif; try (first | contradiction | (exfalso; omega))))
  all_goals first | exact hK1 (k + 1) _ _ rfl rfl (by omega) (by omega) | exact ⟨rfl, List.prefix_rfl⟩ | exact List.prefix_rfl

end Go.Abs
