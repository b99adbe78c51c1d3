/- The draws of chapter 5. Own work; no condition. -/
import Derived.Test.YtklmfnafbfghjaaDrawG2
import Derived.Test.YtklmfnafbfghjaaDrawG3
import Derived.Test.YtklmfnafbfghjaaTree1
import Derived.Test.YtklmfnafbfghjaaBone8
set_option maxRecDepth 100000
set_option linter.unusedSimpArgs false
set_option linter.unusedVariables false
namespace Go.Abs
open Go.Proofs
attribute [local irreducible] awp awpOps awpKeep KeepK awpKeepF KeepF aloop ALoop ACalls ACallq AQuiet retPost retPostA AExit.thn AExit.blk aApp aSt aStA

theorem catL_six {net : List Int} (h : net.length ≤ 6) : (catL net).length ≤ 6 := by
  unfold catL
  split
  · rw [labs_len]; exact h
  · simp
theorem turned_six {net row : List Int} {v : Int} (h : row.length ≤ 6) : (turned net row v).length ≤ 6 := by
  unfold turned
  split
  · rw [List.length_map]; exact h
  · simp

set_option maxHeartbeats 4000000 in
theorem spec_l20Parted {m0 m : Heap} {rid : Nat} {b : SV} {bl : List Int} {p n : Int} {K : XV → Heap → Prop} (h : IsRd m0 m rid b bl p) (hwf0 : m0.wf) (hp : 0 ≤ p ∧ p < 700000) (hn : 1 ≤ n ∧ n ≤ 1000000) (hwf : m.wf)
    (hQ : ∀ (s s' : SV) (m' : Heap) (net row : List Int) (q : Int), IsRd m0 m' rid b bl q → (p ≤ q ∧ q ≤ p + 600) → Held (rid + 1) m'.length m' s net → Held (rid + 1) m'.length m' s' row → m'.wf → net.length ≤ 6 → row.length ≤ 6 → K (.tup [.sl s, .sl s']) m') : ACalls Try.prog F.spec_l20Parted [.one (.ptr rid 0), .one (.int .i64 n)] m K := by
  refine afn T.spec_l20Parted (by rfl) ?_
  have hle0 := h.pre.length_le
  have hrm := get_lt h.row
  repeat' (first | refine xA ?_ | refine xB ?_ | refine xC ?_ | refine xD ?_ | refine xE ?_ | refine xF ?_ | refine xG ?_ | refine xH ?_ | refine xI rfl ?_ | refine xJ ?_ | refine xK ?_ | refine xL ?_ | refine xM rfl ?_ | refine xN rfl ?_ | refine xO rfl ?_ | (first | refine xP rfl (fun hif => ?_) (fun hif => ?_) | refine xQ rfl (fun hif => ?_) (fun hif => ?_) | refine xR rfl (fun hif => ?_) (fun hif => ?_) | refine xS rfl (fun hif => ?_) (fun hif => ?_)) <;> try (first | contradiction | (exfalso; omega)) | (refine hK _ _ ?_; clear hK K) | refine pick_g h hwf (by omega) (by omega) fun x m1 hx0 hx hg1 hl1 hR1 => ?_ | (refine spec_l20Graceful hR1 hwf0 (by omega) hn hg1.wf fun s s' m' net row hd hle => ?_; obtain ⟨q, hr, hq1, hq2⟩ := hd.rd) | (refine spec_l20Tree hR1 (by omega) hg1.wf fun s2 m2 net hd => ?_; obtain ⟨q2, hR2, hq1, hq2⟩ := hd.rd; obtain ⟨id, ho⟩ := hd.own; have h6 := hd.six; have his := ho.is; subst his; have hidl := ho.le; have hid2 := get_lt ho.row; have hr2 := get_lt hR2.row; have hN2 : Obj Ty.int id (id + 1) m2 ⟨.row id, 0, net.length⟩ (.ints .i64 net) := .inr ⟨id, id, Nat.le_refl _, Nat.lt_succ_self _, rfl, ho.row⟩) | (refine ARet.call (spec_CaterpillarRow _ net m2 hN2.isInts) fun s3 m3 g3 o3 => ?_; have hR3 := hR2.grow hwf0 (g3.any m2.length m2.length) (.inl hr2) (by omega); have hl3 := g3.le; have hN3 := hN2.grow0 g3) | (refine pick_g hR3 g3.wf (by omega) (by omega) fun y m4 hy0 hy hg4 hl4 hR4 => ?_; have hN4 := hN3.grow hg4 (by omega); have o4 := o3.grow hg4 (by omega)) | (refine ARet.call (spec_TurnedRow _ _ net (catL net) _ m4 hN4.isInts o4.isInts) fun s5 m5 g5 o5 => ?_; have hR5 := hR4.grow hwf0 (g5.any m4.length m4.length) (.inl (by omega)) (by omega); have hl5 := g5.le) | (refine And.intro (by first | omega | assumption | (constructor <;> omega)) ?_) | (refine And.intro (fun hif => ?_) (fun hif => ?_) <;> try (first | contradiction | (exfalso; omega))) | ((first | refine xT fun K hK => ?_ | refine xU fun K hK => ?_ | refine yB (fun K hK => ?_) (fun K hK => ?_) | refine xV ?_ | refine yA ?_ | refine xW ?_ | refine xX ?_ | refine xY ?_ | refine xZ ?_) <;> simp only [↓awpOps, ↓awpKeep, ↓awpKeepF, ↓aop, ↓aopQ, ↓abin, ↓aun, ↓onSome_some, ↓Kont_at, ↓KM_at, ↓KV_at, ↓KU_at, refId_row, Frame.ev, Frame.evs, Frame.evOr, Frame.put, Frame.keep, get_nil, get_cons, argFrame, resOf, fillA, Vals.len, Vals.get, Vals.set, Vals.app, Vals.sub, Vals.take, Vals.ofAgg_cons, Vals.ofList, Vals.toInts, Vals.toBools, Vals.toSls, Vals.toStrs, Vals.zeros, Nat.reduceBEq, Nat.reduceAdd, Nat.reduceEqDiff, cond_true, cond_false, Option.map_some, Option.map_none, List.length_cons, List.length_nil, List.replicate, List.set_cons_zero, List.set_cons_succ, Nat.reduceLT, Bool.not_true, Bool.not_false, Int.toNat_natCast, inR, Nat.zero_add, Int.toNat_zero, reduceCtorEq, IntKind.bits, List.nil_append, List.cons_append, Nat.add_zero, Nat.sub_zero, noughts_len, List.map_cons, List.map_nil, zp, zu]) | refine And.intro ?_ (fun hif => (hif trivial).elim) | (intro hif; try (first | contradiction | (exfalso; omega))))
  · exact hQ _ _ m5 net _ _ hR5 (by omega) ((hN4.grow0 g5).held.mono (by omega) (by omega)) (o5.held.mono (by omega) (by omega)) g5.wf h6 (turned_six (catL_six h6))
  · exact hQ _ _ m4 net _ _ hR4 (by omega) (hN4.held.mono (by omega) (by omega)) (o4.held.mono (by omega) (by omega)) hg4.wf h6 (catL_six h6)
  · exact hQ _ _ m' net row q hr (by omega) hd.hnet hd.hrow hd.wf hd.six hd.six'

theorem spec_DrawRaisedRow {s : SV} {l : List Int} {m : Heap} {K : XV → Heap → Prop} (hs : IsInts .u8 m s l) (hw : ∀ i, 0 ≤ (l.getD i 0) ∧ (l.getD i 0) ≤ 255)
    (hK : ∀ (s1 s2 : SV) (m' : Heap) (net row : List Int) (v : Int), m <+: m' → m'.wf → IsInts .i64 m' s1 net → IsInts .i64 m' s2 row → net.length ≤ 6 → row.length ≤ 6 → (-100 ≤ v ∧ v ≤ 100) → K (.tup [.sl s1, .sl s2, .int .i64 v]) m') : ACalls Try.prog F.spec_DrawRaisedRow [.one (.sl s)] m K := by
  refine afn T.spec_DrawRaisedRow (by rfl) ?_
  repeat' (first | refine xA ?_ | refine xB ?_ | refine xC ?_ | refine xD ?_ | refine xE ?_ | refine xF ?_ | refine xG ?_ | refine xH ?_ | refine xI rfl ?_ | refine xJ ?_ | refine xK ?_ | refine xL ?_ | refine xM rfl ?_ | refine xN rfl ?_ | refine xO rfl ?_ | (first | refine xP rfl (fun hif => ?_) (fun hif => ?_) | refine xQ rfl (fun hif => ?_) (fun hif => ?_) | refine xR rfl (fun hif => ?_) (fun hif => ?_) | refine xS rfl (fun hif => ?_) (fun hif => ?_)) <;> try (first | contradiction | (exfalso; omega)) | (refine hK _ _ ?_; clear hK K) | refine spec_l20Open hs hw fun b bl h hwf => ?_ | (refine spec_l20Parted h hwf (by omega) (by omega) (wf_push hwf (Nat.le_refl _)) fun s1 s2 m' net row q hr hq hn hro hw' h6 h6' => ?_; have hrl := get_lt hr.row) | refine pick_g hr hw' (by omega) (by omega) fun y m3 hy0 hy hg3 hl3 hR3 => ?_ | refine pick_g hR3 hg3.wf (by omega) (by omega) fun z m4 hz0 hz hg4 hl4 hR4 => ?_ | (refine And.intro (by first | omega | assumption | (constructor <;> omega)) ?_) | (refine And.intro (fun hif => ?_) (fun hif => ?_) <;> try (first | contradiction | (exfalso; omega))) | ((first | refine xT fun K hK => ?_ | refine xU fun K hK => ?_ | refine yB (fun K hK => ?_) (fun K hK => ?_) | refine xV ?_ | refine yA ?_ | refine xW ?_ | refine xX ?_ | refine xY ?_ | refine xZ ?_) <;> simp only [↓awpOps, ↓awpKeep, ↓awpKeepF, ↓aop, ↓aopQ, ↓abin, ↓aun, ↓onSome_some, ↓Kont_at, ↓KM_at, ↓KV_at, ↓KU_at, refId_row, Frame.ev, Frame.evs, Frame.evOr, Frame.put, Frame.keep, get_nil, get_cons, argFrame, resOf, fillA, Vals.len, Vals.get, Vals.set, Vals.app, Vals.sub, Vals.take, Vals.ofAgg_cons, Vals.ofList, Vals.toInts, Vals.toBools, Vals.toSls, Vals.toStrs, Vals.zeros, Nat.reduceBEq, Nat.reduceAdd, Nat.reduceEqDiff, cond_true, cond_false, Option.map_some, Option.map_none, List.length_cons, List.length_nil, List.replicate, List.set_cons_zero, List.set_cons_succ, Nat.reduceLT, Bool.not_true, Bool.not_false, Int.toNat_natCast, inR, Nat.zero_add, Int.toNat_zero, reduceCtorEq, IntKind.bits, List.nil_append, List.cons_append, Nat.add_zero, Nat.sub_zero, noughts_len, List.map_cons, List.map_nil, zp, zu]) | refine And.intro ?_ (fun hif => (hif trivial).elim) | (intro hif; try (first | contradiction | (exfalso; omega))))
  all_goals exact hK s1 s2 m4 net row _ hR4.pre hg4.wf ((hn.grow hg3 (by omega)).grow hg4 (by omega)).isInts ((hro.grow hg3 (by omega)).grow hg4 (by omega)).isInts h6 h6' (by omega)

end Go.Abs
