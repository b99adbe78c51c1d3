/- laws.FnTurnedSides returns true, whatever the input. No condition. -/
import Derived.Test.YtnkmcllbljjeoaaDrawA1
import Derived.Test.YtnkmcllbljjeoaaImpl5
import Derived.Test.YtnkmcllbljjeoaaSpecA3
import Derived.Test.YtnkmcllbljjeoaaImpl3
import Derived.Test.YtnkmcllbljjeoaaRow
import Derived.Test.YtnkmcllbljjeoaaIni
set_option maxRecDepth 100000
set_option linter.unusedSimpArgs false
set_option linter.unusedVariables false
namespace Go.Abs
open Go.Proofs
attribute [local irreducible] awp awpOps awpKeep KeepK aloop ALoop ACalls ACallq AQuiet retPost retPostA AExit.thn AExit.blk aApp aSt aStA

theorem laws_FnTurnedSides (l : List Int) (sv : SV) (m : Heap) (hwf : m.wf) (hs : IsInts .u8 m sv l) (hw : ∀ z ∈ l, (Lit.int .u8 z).wf = true) (hl : l.length ≤ maxLen) :
    AQuiet Try.prog F.laws_FnTurnedSides [.one (.sl sv)] m (.one (.bool true)) := by
  have hlen := hs.1
  have hb := byte_range hw
  by_cases hbig : 1048576 < l.length
  · refine aqn T.laws_FnTurnedSides (by rfl) ?_
    repeat' (first | refine xA ?_ | refine xB ?_ | refine xC ?_ | refine xD ?_ | refine xE ?_ | refine xF ?_ | refine xG ?_ | refine xH ?_ | refine xI rfl ?_ | refine xJ ?_ | refine xK ?_ | refine xL ?_ | refine xM rfl ?_ | refine xN rfl ?_ | refine xO rfl ?_ | (first | refine xP rfl (fun hif => ?_) (fun hif => ?_) | refine xQ rfl (fun hif => ?_) (fun hif => ?_) | refine xR rfl (fun hif => ?_) (fun hif => ?_) | refine xS rfl (fun hif => ?_) (fun hif => ?_)) <;> try (first | contradiction | (exfalso; omega)) | (refine hK _ _ ?_; clear hK K) | (refine And.intro (by first | omega | assumption | (constructor <;> omega)) ?_) | (refine And.intro (fun hif => ?_) (fun hif => ?_) <;> try (first | contradiction | (exfalso; omega))) | ((first | refine xT fun K hK => ?_ | refine xU fun K hK => ?_ | refine xV ?_ | refine xW ?_ | refine xX ?_ | refine xY ?_ | refine xZ ?_); simp only [↓awpOps, ↓awpKeep, ↓aop, ↓aopQ, ↓abin, ↓aun, ↓onSome_some, ↓Kont_at, ↓KM_at, ↓KV_at, ↓KU_at, refId_row, Frame.ev, Frame.evs, Frame.evOr, Frame.put, Frame.keep, get_nil, get_cons, argFrame, resOf, fillA, Vals.len, Vals.get, Vals.set, Vals.app, Vals.sub, Vals.take, Vals.ofAgg_cons, Vals.ofList, Vals.toInts, Vals.toBools, Vals.toSls, Vals.toStrs, Vals.zeros, Nat.reduceBEq, Nat.reduceAdd, Nat.reduceEqDiff, cond_true, cond_false, Option.map_some, Option.map_none, List.length_cons, List.length_nil, List.replicate, List.set_cons_zero, List.set_cons_succ, Nat.reduceLT, Bool.not_true, Bool.not_false, Int.toNat_natCast, inR, Nat.zero_add, Int.toNat_zero, reduceCtorEq, IntKind.bits, List.nil_append, List.cons_append, Nat.add_zero, Nat.sub_zero, List.map_cons, List.map_nil, zp, zu]) | refine And.intro ?_ (fun hif => (hif trivial).elim) | (intro hif; try (first | contradiction | (exfalso; omega))))
    (first | exact List.prefix_rfl | exact ⟨rfl, List.prefix_rfl⟩ | exact ⟨by simp, List.prefix_rfl⟩)
  · refine aqn T.laws_FnTurnedSides (by rfl) ?_
    repeat' (first | refine xA ?_ | refine xB ?_ | refine xC ?_ | refine xD ?_ | refine xE ?_ | refine xF ?_ | refine xG ?_ | refine xH ?_ | refine xI rfl ?_ | refine xJ ?_ | refine xK ?_ | refine xL ?_ | refine xM rfl ?_ | refine xN rfl ?_ | refine xO rfl ?_ | (first | refine xP rfl (fun hif => ?_) (fun hif => ?_) | refine xQ rfl (fun hif => ?_) (fun hif => ?_) | refine xR rfl (fun hif => ?_) (fun hif => ?_) | refine xS rfl (fun hif => ?_) (fun hif => ?_)) <;> try (first | contradiction | (exfalso; omega)) | (refine hK _ _ ?_; clear hK K) | refine spec_DrawTurnedSides hs hb fun s1 s2 m' net row hp hw' hN hR h6 h6' => ?_ | refine ARet.call (impl_TurnedSides _ _ net row _ hN hR) fun t1 m1 g1 o1 => ?_ | refine ARet.call (spec_TurnedSides _ _ net row _ (hN.pre g1.pre0) (hR.pre g1.pre0)) fun t2 m2 g2 o2 => ?_ | refine AQuiet.call (laws_sameInts_t _ _ _ _ (o1.grow0 g2).isInts o2.isInts (turnedSides_len net row)) trivial ?_ | (refine And.intro (by first | omega | assumption | (constructor <;> omega)) ?_) | (refine And.intro (fun hif => ?_) (fun hif => ?_) <;> try (first | contradiction | (exfalso; omega))) | ((first | refine xT fun K hK => ?_ | refine xU fun K hK => ?_ | refine xV ?_ | refine xW ?_ | refine xX ?_ | refine xY ?_ | refine xZ ?_); simp only [↓awpOps, ↓awpKeep, ↓aop, ↓aopQ, ↓abin, ↓aun, ↓onSome_some, ↓Kont_at, ↓KM_at, ↓KV_at, ↓KU_at, refId_row, Frame.ev, Frame.evs, Frame.evOr, Frame.put, Frame.keep, get_nil, get_cons, argFrame, resOf, fillA, Vals.len, Vals.get, Vals.set, Vals.app, Vals.sub, Vals.take, Vals.ofAgg_cons, Vals.ofList, Vals.toInts, Vals.toBools, Vals.toSls, Vals.toStrs, Vals.zeros, Nat.reduceBEq, Nat.reduceAdd, Nat.reduceEqDiff, cond_true, cond_false, Option.map_some, Option.map_none, List.length_cons, List.length_nil, List.replicate, List.set_cons_zero, List.set_cons_succ, Nat.reduceLT, Bool.not_true, Bool.not_false, Int.toNat_natCast, inR, Nat.zero_add, Int.toNat_zero, reduceCtorEq, IntKind.bits, List.nil_append, List.cons_append, Nat.add_zero, Nat.sub_zero, List.map_cons, List.map_nil, zp, zu]) | refine And.intro ?_ (fun hif => (hif trivial).elim) | (intro hif; try (first | contradiction | (exfalso; omega))))
    all_goals have hp2 := g1.pre0.trans g2.pre0
    all_goals have hN2 := hN.pre hp2
    all_goals have hR2 := hR.pre hp2
    all_goals have hI1 := (o1.grow0 g2).isInts
    all_goals have hsl := hI1.1
    · repeat' (first | refine xA ?_ | refine xB ?_ | refine xC ?_ | refine xD ?_ | refine xE ?_ | refine xF ?_ | refine xG ?_ | refine xH ?_ | refine xI rfl ?_ | refine xJ ?_ | refine xK ?_ | refine xL ?_ | refine xM rfl ?_ | refine xN rfl ?_ | refine xO rfl ?_ | (first | refine xP rfl (fun hif => ?_) (fun hif => ?_) | refine xQ rfl (fun hif => ?_) (fun hif => ?_) | refine xR rfl (fun hif => ?_) (fun hif => ?_) | refine xS rfl (fun hif => ?_) (fun hif => ?_)) <;> try (first | contradiction | (exfalso; omega)) | (refine hK _ _ ?_; clear hK K) | refine AQuiet.call (laws_alive _) trivial ?_ | (refine And.intro (by first | omega | assumption | (constructor <;> omega)) ?_) | (refine And.intro (fun hif => ?_) (fun hif => ?_) <;> try (first | contradiction | (exfalso; omega))) | ((first | refine xT fun K hK => ?_ | refine xU fun K hK => ?_ | refine xV ?_ | refine xW ?_ | refine xX ?_ | refine xY ?_ | refine xZ ?_); simp only [↓awpOps, ↓awpKeep, ↓aop, ↓aopQ, ↓abin, ↓aun, ↓onSome_some, ↓Kont_at, ↓KM_at, ↓KV_at, ↓KU_at, refId_row, Frame.ev, Frame.evs, Frame.evOr, Frame.put, Frame.keep, get_nil, get_cons, argFrame, resOf, fillA, Vals.len, Vals.get, Vals.set, Vals.app, Vals.sub, Vals.take, Vals.ofAgg_cons, Vals.ofList, Vals.toInts, Vals.toBools, Vals.toSls, Vals.toStrs, Vals.zeros, Nat.reduceBEq, Nat.reduceAdd, Nat.reduceEqDiff, cond_true, cond_false, Option.map_some, Option.map_none, List.length_cons, List.length_nil, List.replicate, List.set_cons_zero, List.set_cons_succ, Nat.reduceLT, Bool.not_true, Bool.not_false, Int.toNat_natCast, inR, Nat.zero_add, Int.toNat_zero, reduceCtorEq, IntKind.bits, List.nil_append, List.cons_append, Nat.add_zero, Nat.sub_zero, List.map_cons, List.map_nil, zp, zu]) | refine And.intro ?_ (fun hif => (hif trivial).elim) | (intro hif; try (first | contradiction | (exfalso; omega))))
      all_goals first | exact ⟨rfl, hp.trans hp2⟩ | exact hp.trans hp2
    · have h0 : 0 ≤ partedAt net row := by
        by_cases c : 0 ≤ partedAt net row
        · exact c
        · have e : turnedSides net row = [] := if_neg c
          rw [e] at hsl
          simp only [List.length_nil] at hsl
          omega
      obtain ⟨a1, a2, a3⟩ := Grace.sides h0
      have c1 := impl_PartedAt _ _ net _ m2 hN2 hI1
      rw [a2] at c1
      have c2 := impl_PartedAt _ _ net row m2 hN2 hR2
      repeat' (first | refine xA ?_ | refine xB ?_ | refine xC ?_ | refine xD ?_ | refine xE ?_ | refine xF ?_ | refine xG ?_ | refine xH ?_ | refine xI rfl ?_ | refine xJ ?_ | refine xK ?_ | refine xL ?_ | refine xM rfl ?_ | refine xN rfl ?_ | refine xO rfl ?_ | (first | refine xP rfl (fun hif => ?_) (fun hif => ?_) | refine xQ rfl (fun hif => ?_) (fun hif => ?_) | refine xR rfl (fun hif => ?_) (fun hif => ?_) | refine xS rfl (fun hif => ?_) (fun hif => ?_)) <;> try (first | contradiction | (exfalso; omega)) | (refine hK _ _ ?_; clear hK K) | refine AQuiet.call ((impl_GracefulOk _ _ net _ _ hN2 hI1).yes a1) trivial ?_ | refine AQuiet.call c1 trivial ?_ | refine AQuiet.call c2 trivial ?_ | refine AQuiet.callq c1 trivial ?_ | refine AQuiet.callq c2 trivial ?_ | refine ARet.call (impl_TurnedSides _ _ net _ _ hN2 hI1) fun t3 m3 g3 o3 => ?_ | refine AQuiet.call (laws_sameInts_t _ _ row _ (a3 ▸ o3.isInts) (hR2.pre g3.pre0) (by omega)) trivial ?_ | (refine And.intro (by first | omega | assumption | (constructor <;> omega)) ?_) | (refine And.intro (fun hif => ?_) (fun hif => ?_) <;> try (first | contradiction | (exfalso; omega))) | ((first | refine xT fun K hK => ?_ | refine xU fun K hK => ?_ | refine xV ?_ | refine xW ?_ | refine xX ?_ | refine xY ?_ | refine xZ ?_); simp only [↓awpOps, ↓awpKeep, ↓aop, ↓aopQ, ↓abin, ↓aun, ↓onSome_some, ↓Kont_at, ↓KM_at, ↓KV_at, ↓KU_at, refId_row, Frame.ev, Frame.evs, Frame.evOr, Frame.put, Frame.keep, get_nil, get_cons, argFrame, resOf, fillA, Vals.len, Vals.get, Vals.set, Vals.app, Vals.sub, Vals.take, Vals.ofAgg_cons, Vals.ofList, Vals.toInts, Vals.toBools, Vals.toSls, Vals.toStrs, Vals.zeros, Nat.reduceBEq, Nat.reduceAdd, Nat.reduceEqDiff, cond_true, cond_false, Option.map_some, Option.map_none, List.length_cons, List.length_nil, List.replicate, List.set_cons_zero, List.set_cons_succ, Nat.reduceLT, Bool.not_true, Bool.not_false, Int.toNat_natCast, inR, Nat.zero_add, Int.toNat_zero, reduceCtorEq, IntKind.bits, List.nil_append, List.cons_append, Nat.add_zero, Nat.sub_zero, List.map_cons, List.map_nil, zp, zu]) | refine And.intro ?_ (fun hif => (hif trivial).elim) | (intro hif; try (first | contradiction | (exfalso; omega))))
      all_goals first | exact ⟨rfl, hp.trans (hp2.trans g3.pre0)⟩ | exact hp.trans (hp2.trans g3.pre0) | exact hp.trans hp2

end Go.Abs
namespace Go.Proofs.Ytnkmcllbljjeoaa.fnTurnedSides
open Go.ChangeShapes Go.WideShapes Go.ChangeAt Go.RowKit
theorem own : ownKnob Try.prog.godebug = none := by kernel_rfl
theorem laid : laidOutB Try.prog = true := by kernel_rfl
set_option maxRecDepth 100000 in
theorem lifted (os : Os) (started : os.Started) (H : Type) (enc : TypeId × Value → H) :
    ReturnsInHanded {} Try.checked os 5 .any (Rows.fnTurnedSidesSpec.pre6 enc Try.prog Try.f5 Rows.fnTurnedSidesRow.domain false) (Rows.fnTurnedSidesSpec.post enc Try.prog Try.f5 false true false false) := by
  refine returnsInHanded_of_change (C := Try.checked) own started (by kernel_rfl) Try.func5
    (ChangeSpec.witness6 (enc := enc) (C := Try.checked) false ⟨#[], #[.slice none 0 0], []⟩ 8 (by kernel_rfl) (by kernel_rfl) (by kernel_rfl) (by kernel_rfl)) ?_
  intro W base args ds gs before hval hW _ _
  exact Go.Abs.slice_contract (t := 22) (e := 5) (tb := 4) Try.underlying22 Try.underlying5 (by kernel_rfl) Try.underlying4 laid (by kernel_rfl) (of_decide_eq_true (by kernel_rfl)) (by kernel_rfl) (by kernel_rfl) (by kernel_rfl) rfl (fun _ => rfl) Go.Abs.laws_FnTurnedSides W base args ds gs before hval hW
theorem closed : joinedFacts Try.checked.prog 5 Try.f5 Rows.fnTurnedSidesSpec Rows.fnTurnedSidesRow = true := by
  unfold joinedFacts
  rw [show Try.checked.prog = Try.prog from rfl, iniMayEnter, iniLiftsFinal, iniMake]
  kernel_rfl
theorem proved : Rows.FnTurnedSidesSaid :=
  OpenClaim.holds_of_wide 5 Try.f5 rfl rfl rfl rfl rfl rfl rfl ⟨rfl, rfl, rfl, rfl, rfl⟩ rfl rfl rfl rfl rfl (by kernel_rfl) Try.func5 closed
    (of_decide_eq_true (by kernel_rfl)) (by unfold Func.isWrapper; first | (rw [if_pos (by decide +kernel)]; kernel_rfl) | (rw [if_neg (by decide +kernel)]; exact ⟨rfl, rfl⟩))
    (fun os started H enc _ => lifted os started H enc)
end Go.Proofs.Ytnkmcllbljjeoaa.fnTurnedSides
