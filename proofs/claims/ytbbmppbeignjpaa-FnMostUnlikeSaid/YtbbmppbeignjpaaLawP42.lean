/- laws.FnMostUnlike returns true, whatever the input. No condition. -/
import Derived.Test.YtbbmppbeignjpaaDrawB1
import Derived.Test.YtbbmppbeignjpaaDraw3
import Derived.Test.YtbbmppbeignjpaaImpl8
import Derived.Test.YtbbmppbeignjpaaSpecB1
import Derived.Test.YtbbmppbeignjpaaSpecB2
import Derived.Test.YtbbmppbeignjpaaBal2
import Derived.Test.YtbbmppbeignjpaaPart5
import Derived.Test.YtbbmppbeignjpaaRow
import Derived.Test.YtbbmppbeignjpaaIni
set_option maxRecDepth 100000
set_option linter.unusedSimpArgs false
set_option linter.unusedVariables false
namespace Go.Abs
open Go.Proofs
attribute [local irreducible] awp awpOps awpKeep KeepK awpKeepF KeepF aloop ALoop ACalls ACallq AQuiet retPost retPostA AExit.thn AExit.blk aApp aSt aStA

theorem laws_FnMostUnlike (l : List Int) (sv : SV) (m : Heap) (hwf : m.wf) (hs : IsInts .u8 m sv l) (hw : ∀ z ∈ l, (Lit.int .u8 z).wf = true) (hl : l.length ≤ maxLen) :
    AQuiet Try.prog F.laws_FnMostUnlike [.one (.sl sv)] m (.one (.bool true)) := by
  have hlen := hs.1
  have hb := byte_range hw
  by_cases hbig : 1048576 < l.length
  · refine aqn T.laws_FnMostUnlike (by rfl) ?_
    repeat' (first | refine xA ?_ | refine xB ?_ | refine xC ?_ | refine xD ?_ | refine xE ?_ | refine xF ?_ | refine xG ?_ | refine xH ?_ | refine xI rfl ?_ | refine xJ ?_ | refine xK ?_ | refine xL ?_ | refine xM rfl ?_ | refine xN rfl ?_ | refine xO rfl ?_ | (first | refine xP rfl (fun hif => ?_) (fun hif => ?_) | refine xQ rfl (fun hif => ?_) (fun hif => ?_) | refine xR rfl (fun hif => ?_) (fun hif => ?_) | refine xS rfl (fun hif => ?_) (fun hif => ?_)) <;> try (first | contradiction | (exfalso; omega)) | (refine hK _ _ ?_; clear hK K) | (refine And.intro (by first | omega | assumption | (constructor <;> omega)) ?_) | (refine And.intro (fun hif => ?_) (fun hif => ?_) <;> try (first | contradiction | (exfalso; omega))) | ((first | refine xT fun K hK => ?_ | refine xU fun K hK => ?_ | refine yB (fun K hK => ?_) (fun K hK => ?_) | refine xV ?_ | refine yA ?_ | refine xW ?_ | refine xX ?_ | refine xY ?_ | refine xZ ?_) <;> simp only [↓awpOps, ↓awpKeep, ↓awpKeepF, ↓aop, ↓aopQ, ↓abin, ↓aun, ↓onSome_some, ↓Kont_at, ↓KM_at, ↓KV_at, ↓KU_at, refId_row, Frame.ev, Frame.evs, Frame.evOr, Frame.put, Frame.keep, get_nil, get_cons, argFrame, resOf, fillA, Vals.len, Vals.get, Vals.set, Vals.app, Vals.sub, Vals.take, Vals.ofAgg_cons, Vals.ofList, Vals.toInts, Vals.toBools, Vals.toSls, Vals.toStrs, Vals.zeros, Nat.reduceBEq, Nat.reduceAdd, Nat.reduceEqDiff, cond_true, cond_false, Option.map_some, Option.map_none, List.length_cons, List.length_nil, List.replicate, List.set_cons_zero, List.set_cons_succ, Nat.reduceLT, Bool.not_true, Bool.not_false, Int.toNat_natCast, inR, Nat.zero_add, Int.toNat_zero, reduceCtorEq, IntKind.bits, List.nil_append, List.cons_append, Nat.add_zero, Nat.sub_zero, noughts_len, List.map_cons, List.map_nil, zp, zu]) | refine And.intro ?_ (fun hif => (hif trivial).elim) | (intro hif; try (first | contradiction | (exfalso; omega))))
    (first | exact List.prefix_rfl | exact ⟨rfl, List.prefix_rfl⟩ | exact ⟨by simp, List.prefix_rfl⟩)
  · refine aqn T.laws_FnMostUnlike (by rfl) ?_
    repeat' (first | refine xA ?_ | refine xB ?_ | refine xC ?_ | refine xD ?_ | refine xE ?_ | refine xF ?_ | refine xG ?_ | refine xH ?_ | refine xI rfl ?_ | refine xJ ?_ | refine xK ?_ | refine xL ?_ | refine xM rfl ?_ | refine xN rfl ?_ | refine xO rfl ?_ | (first | refine xP rfl (fun hif => ?_) (fun hif => ?_) | refine xQ rfl (fun hif => ?_) (fun hif => ?_) | refine xR rfl (fun hif => ?_) (fun hif => ?_) | refine xS rfl (fun hif => ?_) (fun hif => ?_)) <;> try (first | contradiction | (exfalso; omega)) | (refine hK _ _ ?_; clear hK K) | refine spec_DrawMostUnlike hs hb fun s1 m1 net hp hw1 hn h6 => ?_ | (refine And.intro (by first | omega | assumption | (constructor <;> omega)) ?_) | (refine And.intro (fun hif => ?_) (fun hif => ?_) <;> try (first | contradiction | (exfalso; omega))) | ((first | refine xT fun K hK => ?_ | refine xU fun K hK => ?_ | refine yB (fun K hK => ?_) (fun K hK => ?_) | refine xV ?_ | refine yA ?_ | refine xW ?_ | refine xX ?_ | refine xY ?_ | refine xZ ?_) <;> simp only [↓awpOps, ↓awpKeep, ↓awpKeepF, ↓aop, ↓aopQ, ↓abin, ↓aun, ↓onSome_some, ↓Kont_at, ↓KM_at, ↓KV_at, ↓KU_at, refId_row, Frame.ev, Frame.evs, Frame.evOr, Frame.put, Frame.keep, get_nil, get_cons, argFrame, resOf, fillA, Vals.len, Vals.get, Vals.set, Vals.app, Vals.sub, Vals.take, Vals.ofAgg_cons, Vals.ofList, Vals.toInts, Vals.toBools, Vals.toSls, Vals.toStrs, Vals.zeros, Nat.reduceBEq, Nat.reduceAdd, Nat.reduceEqDiff, cond_true, cond_false, Option.map_some, Option.map_none, List.length_cons, List.length_nil, List.replicate, List.set_cons_zero, List.set_cons_succ, Nat.reduceLT, Bool.not_true, Bool.not_false, Int.toNat_natCast, inR, Nat.zero_add, Int.toNat_zero, reduceCtorEq, IntKind.bits, List.nil_append, List.cons_append, Nat.add_zero, Nat.sub_zero, noughts_len, List.map_cons, List.map_nil, zp, zu]) | refine And.intro ?_ (fun hif => (hif trivial).elim) | (intro hif; try (first | contradiction | (exfalso; omega))))
    have cI := impl_MostUnlike _ net m1 hn
    have cS := spec_MostUnlike _ net m1 hn
    by_cases hN : NetOk net
    · have cW := impl_WiresOf _ net m1 hn
      rw [show wiresOf net = (qOf net : Int) by rw [wiresOf, if_pos hN]; rfl] at cW
      have cD := impl_SidesOf _ net m1 hn
      have h1 := max_half hN
      have h2 := maxTo_range net (2 ^ net.length)
      have h3 := max_all hN
      have hq := qOf_le hN
      rw [mostUnlike, if_pos hN] at cI cS
      generalize maxTo net (2 ^ net.length) = M at *
      generalize sidesOf net = d at *
      generalize qOf net = q at *
      repeat' (first | refine xA ?_ | refine xB ?_ | refine xC ?_ | refine xD ?_ | refine xE ?_ | refine xF ?_ | refine xG ?_ | refine xH ?_ | refine xI rfl ?_ | refine xJ ?_ | refine xK ?_ | refine xL ?_ | refine xM rfl ?_ | refine xN rfl ?_ | refine xO rfl ?_ | (first | refine xP rfl (fun hif => ?_) (fun hif => ?_) | refine xQ rfl (fun hif => ?_) (fun hif => ?_) | refine xR rfl (fun hif => ?_) (fun hif => ?_) | refine xS rfl (fun hif => ?_) (fun hif => ?_)) <;> try (first | contradiction | (exfalso; omega)) | (refine hK _ _ ?_; clear hK K) | refine AQuiet.call cI trivial ?_ | refine AQuiet.call cS trivial ?_ | refine AQuiet.call cW trivial ?_ | refine AQuiet.call cD trivial ?_ | refine AQuiet.call (laws_alive _) trivial ?_ | (refine And.intro (by first | omega | assumption | (constructor <;> omega)) ?_) | (refine And.intro (fun hif => ?_) (fun hif => ?_) <;> try (first | contradiction | (exfalso; omega))) | ((first | refine xT fun K hK => ?_ | refine xU fun K hK => ?_ | refine yB (fun K hK => ?_) (fun K hK => ?_) | refine xV ?_ | refine yA ?_ | refine xW ?_ | refine xX ?_ | refine xY ?_ | refine xZ ?_) <;> simp only [↓awpOps, ↓awpKeep, ↓awpKeepF, ↓aop, ↓aopQ, ↓abin, ↓aun, ↓onSome_some, ↓Kont_at, ↓KM_at, ↓KV_at, ↓KU_at, refId_row, Frame.ev, Frame.evs, Frame.evOr, Frame.put, Frame.keep, get_nil, get_cons, argFrame, resOf, fillA, Vals.len, Vals.get, Vals.set, Vals.app, Vals.sub, Vals.take, Vals.ofAgg_cons, Vals.ofList, Vals.toInts, Vals.toBools, Vals.toSls, Vals.toStrs, Vals.zeros, Nat.reduceBEq, Nat.reduceAdd, Nat.reduceEqDiff, cond_true, cond_false, Option.map_some, Option.map_none, List.length_cons, List.length_nil, List.replicate, List.set_cons_zero, List.set_cons_succ, Nat.reduceLT, Bool.not_true, Bool.not_false, Int.toNat_natCast, inR, Nat.zero_add, Int.toNat_zero, reduceCtorEq, IntKind.bits, List.nil_append, List.cons_append, Nat.add_zero, Nat.sub_zero, noughts_len, List.map_cons, List.map_nil, zp, zu]) | refine And.intro ?_ (fun hif => (hif trivial).elim) | (intro hif; try (first | contradiction | (exfalso; omega))))
      all_goals first | exact hp | exact ⟨rfl, hp⟩ | exact absurd (decide_eq_decide.2 h3) hif
    · rw [mostUnlike, if_neg hN] at cI cS
      repeat' (first | refine xA ?_ | refine xB ?_ | refine xC ?_ | refine xD ?_ | refine xE ?_ | refine xF ?_ | refine xG ?_ | refine xH ?_ | refine xI rfl ?_ | refine xJ ?_ | refine xK ?_ | refine xL ?_ | refine xM rfl ?_ | refine xN rfl ?_ | refine xO rfl ?_ | (first | refine xP rfl (fun hif => ?_) (fun hif => ?_) | refine xQ rfl (fun hif => ?_) (fun hif => ?_) | refine xR rfl (fun hif => ?_) (fun hif => ?_) | refine xS rfl (fun hif => ?_) (fun hif => ?_)) <;> try (first | contradiction | (exfalso; omega)) | (refine hK _ _ ?_; clear hK K) | refine AQuiet.call cI trivial ?_ | refine AQuiet.call cS trivial ?_ | refine AQuiet.call (impl_NetOk_f hn hN) trivial ?_ | refine AQuiet.call (laws_alive _) trivial ?_ | (refine And.intro (by first | omega | assumption | (constructor <;> omega)) ?_) | (refine And.intro (fun hif => ?_) (fun hif => ?_) <;> try (first | contradiction | (exfalso; omega))) | ((first | refine xT fun K hK => ?_ | refine xU fun K hK => ?_ | refine yB (fun K hK => ?_) (fun K hK => ?_) | refine xV ?_ | refine yA ?_ | refine xW ?_ | refine xX ?_ | refine xY ?_ | refine xZ ?_) <;> simp only [↓awpOps, ↓awpKeep, ↓awpKeepF, ↓aop, ↓aopQ, ↓abin, ↓aun, ↓onSome_some, ↓Kont_at, ↓KM_at, ↓KV_at, ↓KU_at, refId_row, Frame.ev, Frame.evs, Frame.evOr, Frame.put, Frame.keep, get_nil, get_cons, argFrame, resOf, fillA, Vals.len, Vals.get, Vals.set, Vals.app, Vals.sub, Vals.take, Vals.ofAgg_cons, Vals.ofList, Vals.toInts, Vals.toBools, Vals.toSls, Vals.toStrs, Vals.zeros, Nat.reduceBEq, Nat.reduceAdd, Nat.reduceEqDiff, cond_true, cond_false, Option.map_some, Option.map_none, List.length_cons, List.length_nil, List.replicate, List.set_cons_zero, List.set_cons_succ, Nat.reduceLT, Bool.not_true, Bool.not_false, Int.toNat_natCast, inR, Nat.zero_add, Int.toNat_zero, reduceCtorEq, IntKind.bits, List.nil_append, List.cons_append, Nat.add_zero, Nat.sub_zero, noughts_len, List.map_cons, List.map_nil, zp, zu]) | refine And.intro ?_ (fun hif => (hif trivial).elim) | (intro hif; try (first | contradiction | (exfalso; omega))))
      all_goals first | exact hp | exact ⟨rfl, hp⟩ | exact absurd (decide_eq_decide.2 h3) hif

end Go.Abs
namespace Go.Proofs.Ytbbmppbeignjpaa.fnMostUnlike
open Go.ChangeShapes Go.WideShapes Go.ChangeAt Go.RowKit
theorem own : ownKnob Try.prog.godebug = none := by kernel_rfl
theorem laid : laidOutB Try.prog = true := by kernel_rfl
set_option maxRecDepth 100000 in
theorem lifted (os : Os) (started : os.Started) (H : Type) (enc : TypeId × Value → H) :
    ReturnsInHanded {} Try.checked os 8 .any (Rows.fnMostUnlikeSpec.pre6 enc Try.prog Try.f8 Rows.fnMostUnlikeRow.domain false) (Rows.fnMostUnlikeSpec.post enc Try.prog Try.f8 false true false false) := by
  refine returnsInHanded_of_change (C := Try.checked) own started (by kernel_rfl) Try.func8
    (ChangeSpec.witness6 (enc := enc) (C := Try.checked) false ⟨#[], #[.slice none 0 0], []⟩ 8 (by kernel_rfl) (by kernel_rfl) (by kernel_rfl) (by kernel_rfl)) ?_
  intro W base args ds gs before hval hW _ _
  exact Go.Abs.slice_contract (t := 22) (e := 5) (tb := 4) Try.underlying22 Try.underlying5 (by kernel_rfl) Try.underlying4 laid (by kernel_rfl) (of_decide_eq_true (by kernel_rfl)) (by kernel_rfl) (by kernel_rfl) (by kernel_rfl) rfl (fun _ => rfl) Go.Abs.laws_FnMostUnlike W base args ds gs before hval hW
theorem closed : joinedFacts Try.checked.prog 8 Try.f8 Rows.fnMostUnlikeSpec Rows.fnMostUnlikeRow = true := by
  unfold joinedFacts
  rw [show Try.checked.prog = Try.prog from rfl, iniMayEnter, iniLiftsFinal, iniMake]
  kernel_rfl
theorem proved : Rows.FnMostUnlikeSaid :=
  OpenClaim.holds_of_wide 8 Try.f8 rfl rfl rfl rfl rfl rfl rfl ⟨rfl, rfl, rfl, rfl, rfl⟩ rfl rfl rfl rfl rfl (by kernel_rfl) Try.func8 closed
    (of_decide_eq_true (by kernel_rfl)) (by unfold Func.isWrapper; first | (rw [if_pos (by decide +kernel)]; kernel_rfl) | (rw [if_neg (by decide +kernel)]; exact ⟨rfl, rfl⟩))
    (fun os started H enc _ => lifted os started H enc)
end Go.Proofs.Ytbbmppbeignjpaa.fnMostUnlike
