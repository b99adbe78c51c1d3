/- laws.FnOtherNet returns true, whatever the input. No condition. -/
import Derived.Test.YtchejfephmmcaaaDrawN1
import Derived.Test.YtchejfephmmcaaaImpl10
import Derived.Test.YtchejfephmmcaaaSpecN3
import Derived.Test.YtchejfephmmcaaaSpecN2
import Derived.Test.YtchejfephmmcaaaOther1
import Derived.Test.YtchejfephmmcaaaCover1
import Derived.Test.YtchejfephmmcaaaPart5
import Derived.Test.YtchejfephmmcaaaWire2
import Derived.Test.YtchejfephmmcaaaRow
import Derived.Test.YtchejfephmmcaaaIni
set_option maxRecDepth 100000
set_option linter.unusedSimpArgs false
set_option linter.unusedVariables false
namespace Go.Abs
open Go.Proofs
attribute [local irreducible] awp awpOps awpKeep KeepK awpKeepF KeepF aloop ALoop ACalls ACallq AQuiet retPost retPostA AExit.thn AExit.blk aApp aSt aStA

set_option maxHeartbeats 4000000 in
theorem laws_FnOtherNet (l : List Int) (sv : SV) (m : Heap) (hwf : m.wf) (hs : IsInts .u8 m sv l) (hw : ∀ z ∈ l, (Lit.int .u8 z).wf = true) (hl : l.length ≤ maxLen) :
    AQuiet Try.prog F.laws_FnOtherNet [.one (.sl sv)] m (.one (.bool true)) := by
  have hlen := hs.1
  have hb := byte_range hw
  by_cases hbig : 1048576 < l.length
  · refine aqn T.laws_FnOtherNet (by rfl) ?_
    repeat' (first | refine xA ?_ | refine xB ?_ | refine xC ?_ | refine xD ?_ | refine xE ?_ | refine xF ?_ | refine xG ?_ | refine xH ?_ | refine xI rfl ?_ | refine xJ ?_ | refine xK ?_ | refine xL ?_ | refine xM rfl ?_ | refine xN rfl ?_ | refine xO rfl ?_ | (first | refine xP rfl (fun hif => ?_) (fun hif => ?_) | refine xQ rfl (fun hif => ?_) (fun hif => ?_) | refine xR rfl (fun hif => ?_) (fun hif => ?_) | refine xS rfl (fun hif => ?_) (fun hif => ?_)) <;> try (first | contradiction | (exfalso; omega)) | (refine hK _ _ ?_; clear hK K) | (refine And.intro (by first | omega | assumption | (constructor <;> omega)) ?_) | (refine And.intro (fun hif => ?_) (fun hif => ?_) <;> try (first | contradiction | (exfalso; omega))) | ((first | refine xT fun K hK => ?_ | refine xU fun K hK => ?_ | refine yB (fun K hK => ?_) (fun K hK => ?_) | refine xV ?_ | refine yA ?_ | refine xW ?_ | refine xX ?_ | refine xY ?_ | refine xZ ?_) <;> simp only [↓awpOps, ↓awpKeep, ↓awpKeepF, ↓aop, ↓aopQ, ↓abin, ↓aun, ↓onSome_some, ↓Kont_at, ↓KM_at, ↓KV_at, ↓KU_at, refId_row, Frame.ev, Frame.evs, Frame.evOr, Frame.put, Frame.keep, get_nil, get_cons, argFrame, resOf, fillA, Vals.len, Vals.get, Vals.set, Vals.app, Vals.sub, Vals.take, Vals.ofAgg_cons, Vals.ofList, Vals.toInts, Vals.toBools, Vals.toSls, Vals.toStrs, Vals.zeros, Nat.reduceBEq, Nat.reduceAdd, Nat.reduceEqDiff, cond_true, cond_false, Option.map_some, Option.map_none, List.length_cons, List.length_nil, List.replicate, List.set_cons_zero, List.set_cons_succ, Nat.reduceLT, Bool.not_true, Bool.not_false, Int.toNat_natCast, inR, Nat.zero_add, Int.toNat_zero, reduceCtorEq, IntKind.bits, List.nil_append, List.cons_append, Nat.add_zero, Nat.sub_zero, noughts_len, List.map_cons, List.map_nil, zp, zu]) | refine And.intro ?_ (fun hif => (hif trivial).elim) | (intro hif; try (first | contradiction | (exfalso; omega))))
    (first | exact List.prefix_rfl | exact ⟨rfl, List.prefix_rfl⟩ | exact ⟨by simp, List.prefix_rfl⟩)
  · refine aqn T.laws_FnOtherNet (by rfl) ?_
    repeat' (first | refine xA ?_ | refine xB ?_ | refine xC ?_ | refine xD ?_ | refine xE ?_ | refine xF ?_ | refine xG ?_ | refine xH ?_ | refine xI rfl ?_ | refine xJ ?_ | refine xK ?_ | refine xL ?_ | refine xM rfl ?_ | refine xN rfl ?_ | refine xO rfl ?_ | (first | refine xP rfl (fun hif => ?_) (fun hif => ?_) | refine xQ rfl (fun hif => ?_) (fun hif => ?_) | refine xR rfl (fun hif => ?_) (fun hif => ?_) | refine xS rfl (fun hif => ?_) (fun hif => ?_)) <;> try (first | contradiction | (exfalso; omega)) | (refine hK _ _ ?_; clear hK K) | refine spec_DrawOtherNet hs hb fun s1 m1 net hp hw1 hn h6 => ?_ | (refine And.intro (by first | omega | assumption | (constructor <;> omega)) ?_) | (refine And.intro (fun hif => ?_) (fun hif => ?_) <;> try (first | contradiction | (exfalso; omega))) | ((first | refine xT fun K hK => ?_ | refine xU fun K hK => ?_ | refine yB (fun K hK => ?_) (fun K hK => ?_) | refine xV ?_ | refine yA ?_ | refine xW ?_ | refine xX ?_ | refine xY ?_ | refine xZ ?_) <;> simp only [↓awpOps, ↓awpKeep, ↓awpKeepF, ↓aop, ↓aopQ, ↓abin, ↓aun, ↓onSome_some, ↓Kont_at, ↓KM_at, ↓KV_at, ↓KU_at, refId_row, Frame.ev, Frame.evs, Frame.evOr, Frame.put, Frame.keep, get_nil, get_cons, argFrame, resOf, fillA, Vals.len, Vals.get, Vals.set, Vals.app, Vals.sub, Vals.take, Vals.ofAgg_cons, Vals.ofList, Vals.toInts, Vals.toBools, Vals.toSls, Vals.toStrs, Vals.zeros, Nat.reduceBEq, Nat.reduceAdd, Nat.reduceEqDiff, cond_true, cond_false, Option.map_some, Option.map_none, List.length_cons, List.length_nil, List.replicate, List.set_cons_zero, List.set_cons_succ, Nat.reduceLT, Bool.not_true, Bool.not_false, Int.toNat_natCast, inR, Nat.zero_add, Int.toNat_zero, reduceCtorEq, IntKind.bits, List.nil_append, List.cons_append, Nat.add_zero, Nat.sub_zero, noughts_len, List.map_cons, List.map_nil, zp, zu]) | refine And.intro ?_ (fun hif => (hif trivial).elim) | (intro hif; try (first | contradiction | (exfalso; omega))))
    obtain ⟨ref, off, len⟩ := s1
    obtain rfl : len = net.length := hn.1
    by_cases hN : NetOk net
    · have hpos := hN.pos
      have hO := other_net hN
      have hOl := other_len hN
      have hOO := other_other hN
      have hOp := other_part hN
      have hOw := other_wires hN
      have hns := other_short net
      have hq1 := qOf_le hN
      have hq2 := qOf_le hO
      have hmul : (net.length : Int) * ((net.length : Int) - 1) = 2 * ((qOf net : Int) + (qOf (other net) : Int)) := by
        have h := congrArg (fun n : Nat => (n : Int)) hOw
        simp only [Int.natCast_mul, Int.natCast_add, Int.natCast_sub hpos] at h
        simpa using h.symm
      have cO := impl_OtherNet _ net m1 hn
      have cW : ∀ (mx : Heap) (sx : SV), IsInts .i64 mx sx (other net) → AQuiet Try.prog F.impl_WiresOf [.one (.sl sx)] mx (.one (.int .i64 (qOf (other net)))) := fun mx sx hx => impl_WiresOf_q hx hO
      have cP : ∀ (mx : Heap) (sx : SV), IsInts .i64 mx sx (other net) → AQuiet Try.prog F.impl_PartMany [.one (.sl sx)] mx (.one (.int .i64 (partMany (other net)))) := fun mx sx hx => impl_PartMany _ _ _ hx
      have cV : ∀ (mx : Heap), m1 <+: mx → AQuiet Try.prog F.impl_WiresOf [.one (.sl ⟨ref, off, net.length⟩)] mx (.one (.int .i64 (qOf net))) := fun mx hx => impl_WiresOf_q (hn.pre hx) hN
      have cQ : ∀ (mx : Heap), m1 <+: mx → AQuiet Try.prog F.impl_PartMany [.one (.sl ⟨ref, off, net.length⟩)] mx (.one (.int .i64 (partMany net))) := fun mx hx => impl_PartMany _ _ _ (hn.pre hx)
      have c2 : ∀ (mx : Heap) (sx : SV), IsInts .i64 mx sx (other net) → ARet Try.prog F.impl_OtherNet [.one (.sl sx)] mx Ty.int (.ints .i64 net) := fun mx sx hx => by
        have := impl_OtherNet sx _ mx hx
        rwa [hOO] at this
      generalize hz : (net.length : Int) * ((net.length : Int) - 1) = z at *
      generalize partMany net = p1 at *
      generalize partMany (other net) = p2 at *
      generalize qOf net = q1 at *
      generalize qOf (other net) = q2 at *
      repeat' (first | refine xA ?_ | refine xB ?_ | refine xC ?_ | refine xD ?_ | refine xE ?_ | refine xF ?_ | refine xG ?_ | refine xH ?_ | refine xI rfl ?_ | refine xJ ?_ | refine xK ?_ | refine xL ?_ | refine xM rfl ?_ | refine xN rfl ?_ | refine xO rfl ?_ | (first | refine xP rfl (fun hif => ?_) (fun hif => ?_) | refine xQ rfl (fun hif => ?_) (fun hif => ?_) | refine xR rfl (fun hif => ?_) (fun hif => ?_) | refine xS rfl (fun hif => ?_) (fun hif => ?_)) <;> try (first | contradiction | (exfalso; omega)) | (refine hK _ _ ?_; clear hK K) | (refine ARet.call cO fun t2 m2 g2 o2 => ?_; obtain ⟨tref, toff, tlen⟩ := t2; obtain rfl : tlen = (other net).length := o2.isInts.1) | (refine ARet.call (spec_OtherNet _ net _ (hn.pre g2.pre0)) fun t3 m3 g3 o3 => ?_; have hp23 := g2.pre0.trans g3.pre0; have oI := (o2.grow0 g3).isInts) | (refine AQuiet.call (laws_sameInts_t _ _ (other net) _ oI o3.isInts hns) trivial ?_) | refine AQuiet.call (impl_NetOk_t oI hO) trivial ?_ | refine AQuiet.callq (impl_NetOk_t oI hO) trivial ?_ | (refine ARet.call (c2 _ _ oI) fun t4 m4 g4 o4 => ?_; have hp4 := hp23.trans g4.pre0; have oI4 := oI.pre g4.pre0; have hp5 := hp.trans hp4) | refine AQuiet.call (laws_sameInts_t _ _ net _ o4.isInts (hn.pre hp4) (by omega)) trivial ?_ | refine AQuiet.call (cV _ hp4) trivial ?_ | refine AQuiet.callq (cV _ hp4) trivial ?_ | refine AQuiet.call (cW _ _ oI4) trivial ?_ | refine AQuiet.callq (cW _ _ oI4) trivial ?_ | refine AQuiet.call (cQ _ hp4) trivial ?_ | refine AQuiet.callq (cQ _ hp4) trivial ?_ | refine AQuiet.call (cP _ _ oI4) trivial ?_ | refine AQuiet.callq (cP _ _ oI4) trivial ?_ | rw [hz] | (refine And.intro (by first | omega | assumption | (constructor <;> omega)) ?_) | (refine And.intro (fun hif => ?_) (fun hif => ?_) <;> try (first | contradiction | (exfalso; omega))) | ((first | refine xT fun K hK => ?_ | refine xU fun K hK => ?_ | refine yB (fun K hK => ?_) (fun K hK => ?_) | refine xV ?_ | refine yA ?_ | refine xW ?_ | refine xX ?_ | refine xY ?_ | refine xZ ?_) <;> simp only [↓awpOps, ↓awpKeep, ↓awpKeepF, ↓aop, ↓aopQ, ↓abin, ↓aun, ↓onSome_some, ↓Kont_at, ↓KM_at, ↓KV_at, ↓KU_at, refId_row, Frame.ev, Frame.evs, Frame.evOr, Frame.put, Frame.keep, get_nil, get_cons, argFrame, resOf, fillA, Vals.len, Vals.get, Vals.set, Vals.app, Vals.sub, Vals.take, Vals.ofAgg_cons, Vals.ofList, Vals.toInts, Vals.toBools, Vals.toSls, Vals.toStrs, Vals.zeros, Nat.reduceBEq, Nat.reduceAdd, Nat.reduceEqDiff, cond_true, cond_false, Option.map_some, Option.map_none, List.length_cons, List.length_nil, List.replicate, List.set_cons_zero, List.set_cons_succ, Nat.reduceLT, Bool.not_true, Bool.not_false, Int.toNat_natCast, inR, Nat.zero_add, Int.toNat_zero, reduceCtorEq, IntKind.bits, List.nil_append, List.cons_append, Nat.add_zero, Nat.sub_zero, noughts_len, List.map_cons, List.map_nil, zp, zu]) | refine And.intro ?_ (fun hif => (hif trivial).elim) | (intro hif; try (first | contradiction | (exfalso; omega))))
      all_goals first | exact hp5 | exact ⟨rfl, hp5⟩ | exact ⟨by rw [decide_eq_true (show p2 = 1 by omega)], hp5⟩ | exact absurd (decide_eq_decide.2 (by omega)) hif | omega
    · have e : other net = [] := if_neg hN
      have iI := impl_OtherNet _ net m1 hn
      rw [e] at iI
      repeat' (first | refine xA ?_ | refine xB ?_ | refine xC ?_ | refine xD ?_ | refine xE ?_ | refine xF ?_ | refine xG ?_ | refine xH ?_ | refine xI rfl ?_ | refine xJ ?_ | refine xK ?_ | refine xL ?_ | refine xM rfl ?_ | refine xN rfl ?_ | refine xO rfl ?_ | (first | refine xP rfl (fun hif => ?_) (fun hif => ?_) | refine xQ rfl (fun hif => ?_) (fun hif => ?_) | refine xR rfl (fun hif => ?_) (fun hif => ?_) | refine xS rfl (fun hif => ?_) (fun hif => ?_)) <;> try (first | contradiction | (exfalso; omega)) | (refine hK _ _ ?_; clear hK K) | (refine ARet.call iI fun t2 m2 g2 o2 => ?_; obtain ⟨tref, toff, tlen⟩ := t2; obtain rfl : tlen = 0 := o2.isInts.1) | (refine ARet.call (spec_OtherNet _ net _ (hn.pre g2.pre0)) fun t3 m3 g3 o3 => ?_; rw [e] at o3; have hp3 := hp.trans (g2.pre0.trans g3.pre0)) | (refine AQuiet.call (laws_sameInts_t _ _ [] _ (o2.grow0 g3).isInts o3.isInts (by simp)) trivial ?_) | refine AQuiet.call (impl_NetOk_f (hn.pre (g2.pre0.trans g3.pre0)) hN) trivial ?_ | refine AQuiet.callq (impl_NetOk_f (hn.pre (g2.pre0.trans g3.pre0)) hN) trivial ?_ | refine AQuiet.call (laws_alive _) trivial ?_ | refine AQuiet.callq (laws_alive _) trivial ?_ | (refine And.intro (by first | omega | assumption | (constructor <;> omega)) ?_) | (refine And.intro (fun hif => ?_) (fun hif => ?_) <;> try (first | contradiction | (exfalso; omega))) | ((first | refine xT fun K hK => ?_ | refine xU fun K hK => ?_ | refine yB (fun K hK => ?_) (fun K hK => ?_) | refine xV ?_ | refine yA ?_ | refine xW ?_ | refine xX ?_ | refine xY ?_ | refine xZ ?_) <;> simp only [↓awpOps, ↓awpKeep, ↓awpKeepF, ↓aop, ↓aopQ, ↓abin, ↓aun, ↓onSome_some, ↓Kont_at, ↓KM_at, ↓KV_at, ↓KU_at, refId_row, Frame.ev, Frame.evs, Frame.evOr, Frame.put, Frame.keep, get_nil, get_cons, argFrame, resOf, fillA, Vals.len, Vals.get, Vals.set, Vals.app, Vals.sub, Vals.take, Vals.ofAgg_cons, Vals.ofList, Vals.toInts, Vals.toBools, Vals.toSls, Vals.toStrs, Vals.zeros, Nat.reduceBEq, Nat.reduceAdd, Nat.reduceEqDiff, cond_true, cond_false, Option.map_some, Option.map_none, List.length_cons, List.length_nil, List.replicate, List.set_cons_zero, List.set_cons_succ, Nat.reduceLT, Bool.not_true, Bool.not_false, Int.toNat_natCast, inR, Nat.zero_add, Int.toNat_zero, reduceCtorEq, IntKind.bits, List.nil_append, List.cons_append, Nat.add_zero, Nat.sub_zero, noughts_len, List.map_cons, List.map_nil, zp, zu]) | refine And.intro ?_ (fun hif => (hif trivial).elim) | (intro hif; try (first | contradiction | (exfalso; omega))))
      all_goals first | exact hp3 | exact ⟨rfl, hp3⟩

end Go.Abs
namespace Go.Proofs.Ytchejfephmmcaaa.fnOtherNet
open Go.ChangeShapes Go.WideShapes Go.ChangeAt Go.RowKit
theorem own : ownKnob Try.prog.godebug = none := by kernel_rfl
theorem laid : laidOutB Try.prog = true := by kernel_rfl
set_option maxRecDepth 100000 in
theorem lifted (os : Os) (started : os.Started) (H : Type) (enc : TypeId × Value → H) :
    ReturnsInHanded {} Try.checked os 7 .any (Rows.fnOtherNetSpec.pre6 enc Try.prog Try.f7 Rows.fnOtherNetRow.domain false) (Rows.fnOtherNetSpec.post enc Try.prog Try.f7 false true false false) := by
  refine returnsInHanded_of_change (C := Try.checked) own started (by kernel_rfl) Try.func7
    (ChangeSpec.witness6 (enc := enc) (C := Try.checked) false ⟨#[], #[.slice none 0 0], []⟩ 8 (by kernel_rfl) (by kernel_rfl) (by kernel_rfl) (by kernel_rfl)) ?_
  intro W base args ds gs before hval hW _ _
  exact Go.Abs.slice_contract (t := 22) (e := 5) (tb := 4) Try.underlying22 Try.underlying5 (by kernel_rfl) Try.underlying4 laid (by kernel_rfl) (of_decide_eq_true (by kernel_rfl)) (by kernel_rfl) (by kernel_rfl) (by kernel_rfl) rfl (fun _ => rfl) Go.Abs.laws_FnOtherNet W base args ds gs before hval hW
theorem closed : joinedFacts Try.checked.prog 7 Try.f7 Rows.fnOtherNetSpec Rows.fnOtherNetRow = true := by
  unfold joinedFacts
  rw [show Try.checked.prog = Try.prog from rfl, iniMayEnter, iniLiftsFinal, iniMake]
  kernel_rfl
theorem proved : Rows.FnOtherNetSaid :=
  OpenClaim.holds_of_wide 7 Try.f7 rfl rfl rfl rfl rfl rfl rfl ⟨rfl, rfl, rfl, rfl, rfl⟩ rfl rfl rfl rfl rfl (by kernel_rfl) Try.func7 closed
    (of_decide_eq_true (by kernel_rfl)) (by unfold Func.isWrapper; first | (rw [if_pos (by decide +kernel)]; kernel_rfl) | (rw [if_neg (by decide +kernel)]; exact ⟨rfl, rfl⟩))
    (fun os started H enc _ => lifted os started H enc)
end Go.Proofs.Ytchejfephmmcaaa.fnOtherNet
