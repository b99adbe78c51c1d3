/- laws.FnGracefulMany returns true, whatever the input. No condition. -/
import Derived.Test.YtcbnigipnepnkaaDrawG2
import Derived.Test.YtcbnigipnepnkaaDrawn1
import Derived.Test.YtcbnigipnepnkaaImpl3
import Derived.Test.YtcbnigipnepnkaaRow
import Derived.Test.YtcbnigipnepnkaaIni
set_option maxRecDepth 100000
set_option linter.unusedSimpArgs false
set_option linter.unusedVariables false
namespace Go.Abs
open Go.Proofs
attribute [local irreducible] awp awpOps aloop ALoop ACalls ACallq AQuiet retPost retPostA AExit.thn AExit.blk aApp aSt aStA

theorem laws_FnGracefulMany (l : List Int) (sv : SV) (m : Heap) (hwf : m.wf) (hs : IsInts .u8 m sv l) (hw : ∀ z ∈ l, (Lit.int .u8 z).wf = true) (hl : l.length ≤ maxLen) :
    AQuiet Try.prog F.laws_FnGracefulMany [.one (.sl sv)] m (.one (.bool true)) := by
  have hlen := hs.1
  have hb := byte_range hw
  by_cases hbig : 1048576 < l.length
  · refine aqn T.laws_FnGracefulMany (by rfl) ?_
    repeat' (first | refine awp_seq ?_ | refine awp_block ?_ | refine thn_n ?_ | refine thn_e ?_ | refine thn_r ?_ | refine blk_n ?_ | refine blk_r ?_ | refine blk_here ?_ | refine blk_on rfl ?_ | refine awp_skip ?_ | refine awp_exit ?_ | refine awp_ret ?_ | refine ret_one rfl ?_ | refine ret_many rfl ?_ | refine end_one rfl ?_ | (first | refine awp_if rfl (fun hif => ?_) (fun hif => ?_) | refine awp_nif rfl (fun hif => ?_) (fun hif => ?_) | refine awp_not rfl (fun hif => ?_) (fun hif => ?_) | refine awp_cond rfl (fun hif => ?_) (fun hif => ?_)) <;> try (first | contradiction | (exfalso; omega)) | (refine hK _ _ ?_; clear hK K) | (refine And.intro (by first | omega | assumption | (constructor <;> omega)) ?_) | (refine And.intro (fun hif => ?_) (fun hif => ?_) <;> try (first | contradiction | (exfalso; omega))) | ((first | refine awp_reg fun K hK => ?_ | refine ops_go ?_ | refine kont_go ?_ | refine kv_go ?_ | refine ku_go ?_); simp only [↓awpOps, ↓aop, ↓aopQ, ↓abin, ↓aun, ↓onSome_some, ↓Kont_at, ↓KM_at, ↓KV_at, ↓KU_at, refId_row, Int.one_mul, Frame.ev, Frame.evs, Frame.evOr, Frame.put, Frame.keep, get_nil, get_cons, argFrame, resOf, fillA, Vals.len, Vals.get, Vals.set, Vals.app, Vals.sub, Vals.take, Vals.ofAgg_cons, Vals.ofList, Vals.toInts, Vals.toBools, Vals.toSls, Vals.toStrs, Vals.zeros, Nat.reduceBEq, Nat.reduceAdd, Nat.reduceEqDiff, cond_true, cond_false, if_true, if_false, Option.map_some, Option.map_none, List.length_cons, List.length_nil, List.replicate, List.set_cons_zero, List.set_cons_succ, Nat.reduceLT, true_and, and_true, forall_const, true_implies, Bool.not_true, Bool.not_false, Bool.true_eq_false, Bool.false_eq_true, false_implies, decide_eq_true_eq, decide_eq_false_iff_not, Int.not_lt, Int.not_le, Int.toNat_natCast, inR, Nat.zero_add, Int.toNat_zero, reduceCtorEq, IntKind.bits, List.nil_append, List.cons_append, Nat.add_zero, implies_true, ite_self, Nat.zero_lt_succ, Nat.lt_add_one, Int.zero_sub, Nat.sub_zero, Int.ofNat_toNat, List.map_cons, List.map_nil, Bool.true_eq, Bool.not_eq_eq_eq_not]) | refine And.intro ?_ (fun hif => (hif trivial).elim) | (intro hif; try (first | contradiction | (exfalso; omega))))
    (first | exact List.prefix_rfl | exact ⟨rfl, List.prefix_rfl⟩ | exact ⟨by simp, List.prefix_rfl⟩)
  · refine aqn T.laws_FnGracefulMany (by rfl) ?_
    repeat' (first | refine awp_seq ?_ | refine awp_block ?_ | refine thn_n ?_ | refine thn_e ?_ | refine thn_r ?_ | refine blk_n ?_ | refine blk_r ?_ | refine blk_here ?_ | refine blk_on rfl ?_ | refine awp_skip ?_ | refine awp_exit ?_ | refine awp_ret ?_ | refine ret_one rfl ?_ | refine ret_many rfl ?_ | refine end_one rfl ?_ | (first | refine awp_if rfl (fun hif => ?_) (fun hif => ?_) | refine awp_nif rfl (fun hif => ?_) (fun hif => ?_) | refine awp_not rfl (fun hif => ?_) (fun hif => ?_) | refine awp_cond rfl (fun hif => ?_) (fun hif => ?_)) <;> try (first | contradiction | (exfalso; omega)) | (refine hK _ _ ?_; clear hK K) | refine spec_DrawGracefulMany hs hb fun s' m' net hp hw' hn h6 => ?_ | (refine And.intro (by first | omega | assumption | (constructor <;> omega)) ?_) | (refine And.intro (fun hif => ?_) (fun hif => ?_) <;> try (first | contradiction | (exfalso; omega))) | ((first | refine awp_reg fun K hK => ?_ | refine ops_go ?_ | refine kont_go ?_ | refine kv_go ?_ | refine ku_go ?_); simp only [↓awpOps, ↓aop, ↓aopQ, ↓abin, ↓aun, ↓onSome_some, ↓Kont_at, ↓KM_at, ↓KV_at, ↓KU_at, refId_row, Int.one_mul, Frame.ev, Frame.evs, Frame.evOr, Frame.put, Frame.keep, get_nil, get_cons, argFrame, resOf, fillA, Vals.len, Vals.get, Vals.set, Vals.app, Vals.sub, Vals.take, Vals.ofAgg_cons, Vals.ofList, Vals.toInts, Vals.toBools, Vals.toSls, Vals.toStrs, Vals.zeros, Nat.reduceBEq, Nat.reduceAdd, Nat.reduceEqDiff, cond_true, cond_false, if_true, if_false, Option.map_some, Option.map_none, List.length_cons, List.length_nil, List.replicate, List.set_cons_zero, List.set_cons_succ, Nat.reduceLT, true_and, and_true, forall_const, true_implies, Bool.not_true, Bool.not_false, Bool.true_eq_false, Bool.false_eq_true, false_implies, decide_eq_true_eq, decide_eq_false_iff_not, Int.not_lt, Int.not_le, Int.toNat_natCast, inR, Nat.zero_add, Int.toNat_zero, reduceCtorEq, IntKind.bits, List.nil_append, List.cons_append, Nat.add_zero, implies_true, ite_self, Nat.zero_lt_succ, Nat.lt_add_one, Int.zero_sub, Nat.sub_zero, Int.ofNat_toNat, List.map_cons, List.map_nil, Bool.true_eq, Bool.not_eq_eq_eq_not]) | refine And.intro ?_ (fun hif => (hif trivial).elim) | (intro hif; try (first | contradiction | (exfalso; omega))))
    have c1 := impl_GracefulMany _ net _ hn
    have c2 := spec_GracefulMany _ net _ hn
    obtain ⟨nref, noff, nlen⟩ := s'
    obtain rfl : nlen = net.length := hn.1
    by_cases hN : NetOk net
    · have hmany : graceMany net = ((graceRows net).length : Int) := by rw [graceMany, if_pos hN]
      have hWO : wiresOf net = (qOf net : Int) := by rw [wiresOf, if_pos hN]; rfl
      have c3 := impl_WiresOf _ net _ hn
      rw [hWO] at c3
      rw [hmany] at c1 c2
      have hq := qOf_le hN
      have f1 : 0 < qOf net → (graceRows net).length % 2 = 0 := grace_even
      have f2 : EvenOk net → qOf net % 4 = 1 ∨ qOf net % 4 = 2 → (graceRows net).length = 0 := fun hE h => by
        rcases Nat.eq_zero_or_pos (graceRows net).length with e | e
        · exact e
        · have hG := mem_graceRows.1 (show (graceRows net)[0] ∈ graceRows net from List.getElem_mem e)
          have := hG.parity hE.2
          omega
      have f3 : ¬ net.length ≤ qOf net + 1 → (graceRows net).length = 0 := fun h => by
        rcases Nat.eq_zero_or_pos (graceRows net).length with e | e
        · exact e
        · have hG := mem_graceRows.1 (show (graceRows net)[0] ∈ graceRows net from List.getElem_mem e)
          exact absurd hG.places h
      have f4 := graceRows_len net
      clear hmany hWO
      generalize (graceRows net).length = N at c1 c2 f1 f2 f3 f4
      generalize qOf net = q at c3 f1 f2 f3 hq
      by_cases hE : EvenOk net
      · have c4 := (impl_EvenOk_b (by omega) _ net _ hn).yes hE
        have f2 := f2 hE
        repeat' (first | refine awp_seq ?_ | refine awp_block ?_ | refine thn_n ?_ | refine thn_e ?_ | refine thn_r ?_ | refine blk_n ?_ | refine blk_r ?_ | refine blk_here ?_ | refine blk_on rfl ?_ | refine awp_skip ?_ | refine awp_exit ?_ | refine awp_ret ?_ | refine ret_one rfl ?_ | refine ret_many rfl ?_ | refine end_one rfl ?_ | (first | refine awp_if rfl (fun hif => ?_) (fun hif => ?_) | refine awp_nif rfl (fun hif => ?_) (fun hif => ?_) | refine awp_not rfl (fun hif => ?_) (fun hif => ?_) | refine awp_cond rfl (fun hif => ?_) (fun hif => ?_)) <;> try (first | contradiction | (exfalso; omega)) | (refine hK _ _ ?_; clear hK K) | refine AQuiet.call c1 trivial ?_ | refine AQuiet.call c2 trivial ?_ | refine AQuiet.call c3 trivial ?_ | refine AQuiet.call c4 trivial ?_ | refine AQuiet.call (laws_alive _) trivial ?_ | simp only [decide_true] | (refine And.intro (by first | omega | assumption | (constructor <;> omega)) ?_) | (refine And.intro (fun hif => ?_) (fun hif => ?_) <;> try (first | contradiction | (exfalso; omega))) | ((first | refine awp_reg fun K hK => ?_ | refine ops_go ?_ | refine kont_go ?_ | refine kv_go ?_ | refine ku_go ?_); simp only [↓awpOps, ↓aop, ↓aopQ, ↓abin, ↓aun, ↓onSome_some, ↓Kont_at, ↓KM_at, ↓KV_at, ↓KU_at, refId_row, Int.one_mul, Frame.ev, Frame.evs, Frame.evOr, Frame.put, Frame.keep, get_nil, get_cons, argFrame, resOf, fillA, Vals.len, Vals.get, Vals.set, Vals.app, Vals.sub, Vals.take, Vals.ofAgg_cons, Vals.ofList, Vals.toInts, Vals.toBools, Vals.toSls, Vals.toStrs, Vals.zeros, Nat.reduceBEq, Nat.reduceAdd, Nat.reduceEqDiff, cond_true, cond_false, if_true, if_false, Option.map_some, Option.map_none, List.length_cons, List.length_nil, List.replicate, List.set_cons_zero, List.set_cons_succ, Nat.reduceLT, true_and, and_true, forall_const, true_implies, Bool.not_true, Bool.not_false, Bool.true_eq_false, Bool.false_eq_true, false_implies, decide_eq_true_eq, decide_eq_false_iff_not, Int.not_lt, Int.not_le, Int.toNat_natCast, inR, Nat.zero_add, Int.toNat_zero, reduceCtorEq, IntKind.bits, List.nil_append, List.cons_append, Nat.add_zero, implies_true, ite_self, Nat.zero_lt_succ, Nat.lt_add_one, Int.zero_sub, Nat.sub_zero, Int.ofNat_toNat, List.map_cons, List.map_nil, Bool.true_eq, Bool.not_eq_eq_eq_not]) | refine And.intro ?_ (fun hif => (hif trivial).elim) | (intro hif; try (first | contradiction | (exfalso; omega))))
        all_goals first | exact ⟨rfl, hp⟩ | exact hp | skip
      · have c4 := (impl_EvenOk_b (by omega) _ net _ hn).no hE
        clear f2
        repeat' (first | refine awp_seq ?_ | refine awp_block ?_ | refine thn_n ?_ | refine thn_e ?_ | refine thn_r ?_ | refine blk_n ?_ | refine blk_r ?_ | refine blk_here ?_ | refine blk_on rfl ?_ | refine awp_skip ?_ | refine awp_exit ?_ | refine awp_ret ?_ | refine ret_one rfl ?_ | refine ret_many rfl ?_ | refine end_one rfl ?_ | (first | refine awp_if rfl (fun hif => ?_) (fun hif => ?_) | refine awp_nif rfl (fun hif => ?_) (fun hif => ?_) | refine awp_not rfl (fun hif => ?_) (fun hif => ?_) | refine awp_cond rfl (fun hif => ?_) (fun hif => ?_)) <;> try (first | contradiction | (exfalso; omega)) | (refine hK _ _ ?_; clear hK K) | refine AQuiet.call c1 trivial ?_ | refine AQuiet.call c2 trivial ?_ | refine AQuiet.call c3 trivial ?_ | refine AQuiet.call c4 trivial ?_ | refine AQuiet.call (laws_alive _) trivial ?_ | simp only [decide_true] | (refine And.intro (by first | omega | assumption | (constructor <;> omega)) ?_) | (refine And.intro (fun hif => ?_) (fun hif => ?_) <;> try (first | contradiction | (exfalso; omega))) | ((first | refine awp_reg fun K hK => ?_ | refine ops_go ?_ | refine kont_go ?_ | refine kv_go ?_ | refine ku_go ?_); simp only [↓awpOps, ↓aop, ↓aopQ, ↓abin, ↓aun, ↓onSome_some, ↓Kont_at, ↓KM_at, ↓KV_at, ↓KU_at, refId_row, Int.one_mul, Frame.ev, Frame.evs, Frame.evOr, Frame.put, Frame.keep, get_nil, get_cons, argFrame, resOf, fillA, Vals.len, Vals.get, Vals.set, Vals.app, Vals.sub, Vals.take, Vals.ofAgg_cons, Vals.ofList, Vals.toInts, Vals.toBools, Vals.toSls, Vals.toStrs, Vals.zeros, Nat.reduceBEq, Nat.reduceAdd, Nat.reduceEqDiff, cond_true, cond_false, if_true, if_false, Option.map_some, Option.map_none, List.length_cons, List.length_nil, List.replicate, List.set_cons_zero, List.set_cons_succ, Nat.reduceLT, true_and, and_true, forall_const, true_implies, Bool.not_true, Bool.not_false, Bool.true_eq_false, Bool.false_eq_true, false_implies, decide_eq_true_eq, decide_eq_false_iff_not, Int.not_lt, Int.not_le, Int.toNat_natCast, inR, Nat.zero_add, Int.toNat_zero, reduceCtorEq, IntKind.bits, List.nil_append, List.cons_append, Nat.add_zero, implies_true, ite_self, Nat.zero_lt_succ, Nat.lt_add_one, Int.zero_sub, Nat.sub_zero, Int.ofNat_toNat, List.map_cons, List.map_nil, Bool.true_eq, Bool.not_eq_eq_eq_not]) | refine And.intro ?_ (fun hif => (hif trivial).elim) | (intro hif; try (first | contradiction | (exfalso; omega))))
        all_goals first | exact ⟨rfl, hp⟩ | exact hp | skip
    · have hmany : graceMany net = -1 := by rw [graceMany, if_neg hN]
      generalize graceMany net = N at c1 c2 hmany
      repeat' (first | refine awp_seq ?_ | refine awp_block ?_ | refine thn_n ?_ | refine thn_e ?_ | refine thn_r ?_ | refine blk_n ?_ | refine blk_r ?_ | refine blk_here ?_ | refine blk_on rfl ?_ | refine awp_skip ?_ | refine awp_exit ?_ | refine awp_ret ?_ | refine ret_one rfl ?_ | refine ret_many rfl ?_ | refine end_one rfl ?_ | (first | refine awp_if rfl (fun hif => ?_) (fun hif => ?_) | refine awp_nif rfl (fun hif => ?_) (fun hif => ?_) | refine awp_not rfl (fun hif => ?_) (fun hif => ?_) | refine awp_cond rfl (fun hif => ?_) (fun hif => ?_)) <;> try (first | contradiction | (exfalso; omega)) | (refine hK _ _ ?_; clear hK K) | refine AQuiet.call c1 trivial ?_ | refine AQuiet.call c2 trivial ?_ | refine AQuiet.call (impl_NetOk_b false hn (decide_eq_false hN)) trivial ?_ | refine AQuiet.call (laws_alive _) trivial ?_ | simp only [decide_true] | (refine And.intro (by first | omega | assumption | (constructor <;> omega)) ?_) | (refine And.intro (fun hif => ?_) (fun hif => ?_) <;> try (first | contradiction | (exfalso; omega))) | ((first | refine awp_reg fun K hK => ?_ | refine ops_go ?_ | refine kont_go ?_ | refine kv_go ?_ | refine ku_go ?_); simp only [↓awpOps, ↓aop, ↓aopQ, ↓abin, ↓aun, ↓onSome_some, ↓Kont_at, ↓KM_at, ↓KV_at, ↓KU_at, refId_row, Int.one_mul, Frame.ev, Frame.evs, Frame.evOr, Frame.put, Frame.keep, get_nil, get_cons, argFrame, resOf, fillA, Vals.len, Vals.get, Vals.set, Vals.app, Vals.sub, Vals.take, Vals.ofAgg_cons, Vals.ofList, Vals.toInts, Vals.toBools, Vals.toSls, Vals.toStrs, Vals.zeros, Nat.reduceBEq, Nat.reduceAdd, Nat.reduceEqDiff, cond_true, cond_false, if_true, if_false, Option.map_some, Option.map_none, List.length_cons, List.length_nil, List.replicate, List.set_cons_zero, List.set_cons_succ, Nat.reduceLT, true_and, and_true, forall_const, true_implies, Bool.not_true, Bool.not_false, Bool.true_eq_false, Bool.false_eq_true, false_implies, decide_eq_true_eq, decide_eq_false_iff_not, Int.not_lt, Int.not_le, Int.toNat_natCast, inR, Nat.zero_add, Int.toNat_zero, reduceCtorEq, IntKind.bits, List.nil_append, List.cons_append, Nat.add_zero, implies_true, ite_self, Nat.zero_lt_succ, Nat.lt_add_one, Int.zero_sub, Nat.sub_zero, Int.ofNat_toNat, List.map_cons, List.map_nil, Bool.true_eq, Bool.not_eq_eq_eq_not]) | refine And.intro ?_ (fun hif => (hif trivial).elim) | (intro hif; try (first | contradiction | (exfalso; omega))))
      all_goals first | exact ⟨rfl, hp⟩ | exact hp | skip

end Go.Abs
namespace Go.Proofs.Ytcbnigipnepnkaa.fnGracefulMany
open Go.ChangeShapes Go.WideShapes Go.ChangeAt Go.RowKit
theorem own : ownKnob Try.prog.godebug = none := by kernel_rfl
theorem laid : laidOutB Try.prog = true := by kernel_rfl
set_option maxRecDepth 100000 in
theorem lifted (os : Os) (started : os.Started) (H : Type) (enc : TypeId × Value → H) :
    ReturnsInHanded {} Try.checked os 5 .any (Rows.fnGracefulManySpec.pre6 enc Try.prog Try.f5 Rows.fnGracefulManyRow.domain false) (Rows.fnGracefulManySpec.post enc Try.prog Try.f5 false true false false) := by
  refine returnsInHanded_of_change (C := Try.checked) own started (by kernel_rfl) Try.func5
    (ChangeSpec.witness6 (enc := enc) (C := Try.checked) false ⟨#[], #[.slice none 0 0], []⟩ 8 (by kernel_rfl) (by kernel_rfl) (by kernel_rfl) (by kernel_rfl)) ?_
  intro W base args ds gs before hval hW _ _
  exact Go.Abs.slice_contract (t := 22) (e := 5) (tb := 4) Try.underlying22 Try.underlying5 (by kernel_rfl) Try.underlying4 laid (by kernel_rfl) (of_decide_eq_true (by kernel_rfl)) (by kernel_rfl) (by kernel_rfl) (by kernel_rfl) rfl (fun _ => rfl) Go.Abs.laws_FnGracefulMany W base args ds gs before hval hW
theorem closed : joinedFacts Try.checked.prog 5 Try.f5 Rows.fnGracefulManySpec Rows.fnGracefulManyRow = true := by
  unfold joinedFacts
  rw [show Try.checked.prog = Try.prog from rfl, iniMayEnter, iniLiftsFinal, iniMake]
  kernel_rfl
theorem proved : Rows.FnGracefulManySaid :=
  OpenClaim.holds_of_wide 5 Try.f5 rfl rfl rfl rfl rfl rfl rfl ⟨rfl, rfl, rfl, rfl, rfl⟩ rfl rfl rfl rfl rfl (by kernel_rfl) Try.func5 closed
    (of_decide_eq_true (by kernel_rfl)) (by unfold Func.isWrapper; first | (rw [if_pos (by decide +kernel)]; kernel_rfl) | (rw [if_neg (by decide +kernel)]; exact ⟨rfl, rfl⟩))
    (fun os started H enc _ => lifted os started H enc)
end Go.Proofs.Ytcbnigipnepnkaa.fnGracefulMany
