/- The reader of codes, and what draws a net: each leaves a net, whatever the code. Own work; no condition. -/
import Derived.Test.YtcbnigipnepnkaaLaws0
import Derived.Test.YtcbnigipnepnkaaHeap1
set_option maxRecDepth 100000
set_option linter.unusedSimpArgs false
set_option linter.unusedVariables false
namespace Go.Abs
open Go.Proofs
attribute [local irreducible] awp awpOps aloop ALoop ACalls ACallq AQuiet retPost retPostA AExit.thn AExit.blk aApp aSt aStA

def rdRow (rid : Nat) (b : SV) (p : Int) : Row := ⟨Ty.spec_l20Rd, rid, true, .mix [.sl b, .int .i64 p]⟩

/-- A reader at a place of its code. -/
structure IsRd (m0 m : Heap) (rid : Nat) (b : SV) (bl : List Int) (p : Int) : Prop where
  pre : m0 <+: m
  le : m0.length ≤ rid
  row : m[rid]? = some (rdRow rid b p)
  alone : Alone m rid
  ints : IsInts .u8 m0 b bl
  low : ∀ i, 0 ≤ (bl.getD i 0) ∧ (bl.getD i 0) ≤ 255
  len : bl.length ≤ 2000

theorem IsRd.set {m0 m : Heap} {rid : Nat} {b : SV} {bl : List Int} {p : Int} (h : IsRd m0 m rid b bl p) (q : Int) : IsRd m0 (m.set rid (rdRow rid b q)) rid b bl q :=
  ⟨prefix_set h.pre h.le, h.le, get_set_self (get_lt h.row), h.alone.set h.row rfl rfl, h.ints, h.low, h.len⟩

theorem spec_pick {m0 m : Heap} {rid : Nat} {b : SV} {bl : List Int} {p n : Int} {K : XV → Heap → Prop} (h : IsRd m0 m rid b bl p) (hp : 0 ≤ p ∧ p < 1000000) (hn : n ≤ 1000000)
    (hK : ∀ x : Int, 0 ≤ x → (x < n ∨ x = 0) → K (.one (.int .i64 x)) (m.set rid (rdRow rid b (p + 1)))) : ACalls Try.prog F.spec_l20Rd_pick [.one (.ptr rid 0), .one (.int .i64 n)] m K := by
  obtain ⟨ref, off, len⟩ := b
  obtain rfl : len = bl.length := h.ints.1
  refine afn T.spec_l20Rd_pick (by rfl) ?_
  have g0 : m.at rid 0 = some (.sl ⟨ref, off, bl.length⟩) := at_row h.row (by simp [rdRow, Vals.len])
  have g1 : m.at rid 1 = some (.int .i64 p) := at_row h.row (by simp [rdRow, Vals.len])
  have h' := h.set (p + 1)
  have f0 : Heap.at (m.set rid (rdRow rid ⟨ref, off, bl.length⟩ (p + 1))) rid 0 = some (AV.sl ⟨ref, off, bl.length⟩) := at_row h'.row (by simp [rdRow, Vals.len])
  have f1 : Heap.at (m.set rid (rdRow rid ⟨ref, off, bl.length⟩ (p + 1))) rid 1 = some (AV.int .i64 (p + 1)) := at_row h'.row (by simp [rdRow, Vals.len])
  have hs := h.ints.pre h'.pre
  have hlen := h.len
  by_cases hl : bl.length = 0
  · repeat' (first | refine awp_seq ?_ | refine awp_block ?_ | refine thn_n ?_ | refine thn_e ?_ | refine thn_r ?_ | refine blk_n ?_ | refine blk_r ?_ | refine blk_here ?_ | refine blk_on rfl ?_ | refine awp_skip ?_ | refine awp_exit ?_ | refine awp_ret ?_ | refine ret_one rfl ?_ | refine ret_many rfl ?_ | refine end_one rfl ?_ | (first | refine awp_if rfl (fun hif => ?_) (fun hif => ?_) | refine awp_nif rfl (fun hif => ?_) (fun hif => ?_) | refine awp_not rfl (fun hif => ?_) (fun hif => ?_) | refine awp_cond rfl (fun hif => ?_) (fun hif => ?_)) <;> try (first | contradiction | (exfalso; omega)) | (refine hK _ _ ?_; clear hK K) | refine onSome_of g1 ?_ | refine onSome_of f0 ?_ | refine onSome_of f1 ?_ | refine st_alone h.row h.alone (by simp [rdRow, Vals.len]) rfl ?_ | (refine And.intro (by first | omega | assumption | (constructor <;> omega)) ?_) | (refine And.intro (fun hif => ?_) (fun hif => ?_) <;> try (first | contradiction | (exfalso; omega))) | ((first | refine awp_reg fun K hK => ?_ | refine ops_go ?_ | refine kont_go ?_ | refine kv_go ?_ | refine ku_go ?_); simp only [↓awpOps, ↓aop, ↓aopQ, ↓abin, ↓aun, ↓onSome_some, ↓Kont_at, ↓KM_at, ↓KV_at, ↓KU_at, refId_row, Int.one_mul, Frame.ev, Frame.evs, Frame.evOr, Frame.put, Frame.keep, get_nil, get_cons, argFrame, resOf, fillA, Vals.len, Vals.get, Vals.set, Vals.app, Vals.sub, Vals.take, Vals.ofAgg_cons, Vals.ofList, Vals.toInts, Vals.toBools, Vals.toSls, Vals.toStrs, Vals.zeros, Nat.reduceBEq, Nat.reduceAdd, Nat.reduceEqDiff, cond_true, cond_false, if_true, if_false, Option.map_some, Option.map_none, List.length_cons, List.length_nil, List.replicate, List.set_cons_zero, List.set_cons_succ, Nat.reduceLT, true_and, and_true, forall_const, true_implies, Bool.not_true, Bool.not_false, Bool.true_eq_false, Bool.false_eq_true, false_implies, decide_eq_true_eq, decide_eq_false_iff_not, Int.not_lt, Int.not_le, Int.toNat_natCast, inR, Nat.zero_add, Int.toNat_zero, reduceCtorEq, IntKind.bits, List.nil_append, List.cons_append, Nat.add_zero, implies_true, ite_self, Nat.zero_lt_succ, Nat.lt_add_one, Int.zero_sub, Nat.sub_zero, Int.ofNat_toNat, List.map_cons, List.map_nil, Bool.true_eq, Bool.not_eq_eq_eq_not]) | refine And.intro ?_ (fun hif => (hif trivial).elim) | (intro hif; try (first | contradiction | (exfalso; omega))))
    all_goals exact hK 0 (Int.le_refl _) (.inr rfl)
  · have e1 : ∀ z : Int, 0 ≤ z → 0 ≤ z % (bl.length : Int) ∧ z % (bl.length : Int) < bl.length := fun z _ => ⟨Int.emod_nonneg _ (by omega), Int.emod_lt_of_pos _ (by omega)⟩
    have e2 : ∀ z : Int, 0 ≤ z → 0 ≤ z / (bl.length : Int) ∧ z / (bl.length : Int) ≤ z := fun z hz => ⟨Int.ediv_nonneg hz (by omega), Int.ediv_le_self _ hz⟩
    have hx : ∀ z : Int, 0 ≤ z → z < 4611686018427387904 → 0 ≤ bxorInt .i64 z (z / 64) := fun z h0 h1 => by
      obtain ⟨x, rfl⟩ := Int.eq_ofNat_of_zero_le h0
      rw [show ((x : Int) / 64) = ((x / 64 : Nat) : Int) by simp, bxor_nat _ _ (by omega) (by omega)]
      omega
    have a0 := h.low (p + 1 - 1).toNat
    have b1 := e1 (p + 1 - 1) (by omega)
    have b2 := e1 ((p + 1 - 1) * 7 + 3) (by omega)
    have b3 := e2 (p + 1 - 1) (by omega)
    have a1 := h.low ((p + 1 - 1) % (bl.length : Int)).toNat
    have a2 := h.low (((p + 1 - 1) * 7 + 3) % (bl.length : Int)).toNat
    repeat' (first | refine awp_seq ?_ | refine awp_block ?_ | refine thn_n ?_ | refine thn_e ?_ | refine thn_r ?_ | refine blk_n ?_ | refine blk_r ?_ | refine blk_here ?_ | refine blk_on rfl ?_ | refine awp_skip ?_ | refine awp_exit ?_ | refine awp_ret ?_ | refine ret_one rfl ?_ | refine ret_many rfl ?_ | refine end_one rfl ?_ | (first | refine awp_if rfl (fun hif => ?_) (fun hif => ?_) | refine awp_nif rfl (fun hif => ?_) (fun hif => ?_) | refine awp_not rfl (fun hif => ?_) (fun hif => ?_) | refine awp_cond rfl (fun hif => ?_) (fun hif => ?_)) <;> try (first | contradiction | (exfalso; omega)) | (refine hK _ _ ?_; clear hK K) | refine onSome_of g1 ?_ | refine onSome_of f0 ?_ | refine onSome_of f1 ?_ | refine st_alone h.row h.alone (by simp [rdRow, Vals.len]) rfl ?_ | refine onSome_of (hs.2 _ (by omega)) ?_ | refine And.intro b1 ?_ | refine And.intro b2 ?_ | refine And.intro ⟨hx _ (by omega) (by omega), by omega⟩ ?_ | (refine And.intro (by first | omega | assumption | (constructor <;> omega)) ?_) | (refine And.intro (fun hif => ?_) (fun hif => ?_) <;> try (first | contradiction | (exfalso; omega))) | ((first | refine awp_reg fun K hK => ?_ | refine ops_go ?_ | refine kont_go ?_ | refine kv_go ?_ | refine ku_go ?_); simp only [↓awpOps, ↓aop, ↓aopQ, ↓abin, ↓aun, ↓onSome_some, ↓Kont_at, ↓KM_at, ↓KV_at, ↓KU_at, refId_row, Int.one_mul, Frame.ev, Frame.evs, Frame.evOr, Frame.put, Frame.keep, get_nil, get_cons, argFrame, resOf, fillA, Vals.len, Vals.get, Vals.set, Vals.app, Vals.sub, Vals.take, Vals.ofAgg_cons, Vals.ofList, Vals.toInts, Vals.toBools, Vals.toSls, Vals.toStrs, Vals.zeros, Nat.reduceBEq, Nat.reduceAdd, Nat.reduceEqDiff, cond_true, cond_false, if_true, if_false, Option.map_some, Option.map_none, List.length_cons, List.length_nil, List.replicate, List.set_cons_zero, List.set_cons_succ, Nat.reduceLT, true_and, and_true, forall_const, true_implies, Bool.not_true, Bool.not_false, Bool.true_eq_false, Bool.false_eq_true, false_implies, decide_eq_true_eq, decide_eq_false_iff_not, Int.not_lt, Int.not_le, Int.toNat_natCast, inR, Nat.zero_add, Int.toNat_zero, reduceCtorEq, IntKind.bits, List.nil_append, List.cons_append, Nat.add_zero, implies_true, ite_self, Nat.zero_lt_succ, Nat.lt_add_one, Int.zero_sub, Nat.sub_zero, Int.ofNat_toNat, List.map_cons, List.map_nil, Bool.true_eq, Bool.not_eq_eq_eq_not]) | refine And.intro ?_ (fun hif => (hif trivial).elim) | (intro hif; try (first | contradiction | (exfalso; omega))))
    all_goals first | exact hK _ (Int.emod_nonneg _ (by omega)) (.inl (Int.emod_lt_of_pos _ (by omega))) | exact hK 0 (Int.le_refl _) (.inr rfl)

end Go.Abs
