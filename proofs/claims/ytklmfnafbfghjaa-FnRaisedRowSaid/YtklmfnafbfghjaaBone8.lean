/- The model's row of a caterpillar, by its contract. Own work; no condition. -/
import Derived.Test.YtklmfnafbfghjaaBone6
set_option maxRecDepth 100000
set_option linter.unusedSimpArgs false
set_option linter.unusedVariables false
namespace Go.Abs
open Go.Proofs
attribute [local irreducible] awp awpOps awpKeep KeepK awpKeepF KeepF aloop ALoop ACalls ACallq AQuiet retPost retPostA AExit.thn AExit.blk aApp aSt aStA
open Parts

theorem Obj.low {e : TypeId} {a b : Nat} {m : Heap} {s : SV} {v : Vals} (h : Obj e a b m s v) (hwf : m.wf) : Obj e a m.length m s v := by
  rcases h with h | ⟨id, f, h1, h2, h3, h4⟩
  · exact .inl h
  · exact .inr ⟨id, f, h1, by have := hwf id _ h4; have := get_lt h4; simp only at *; omega, h3, h4⟩

set_option maxHeartbeats 4000000 in
theorem spec_CaterpillarRow (s : SV) (net : List Int) (m : Heap) (hs : IsInts .i64 m s net) : ARet Try.prog F.spec_CaterpillarRow [.one (.sl s)] m Ty.int (.ints .i64 (catL net)) := by
  refine arn T.spec_CaterpillarRow (by rfl) fun hwf => ?_
  cases hT : treeOk net with
  | false =>
    rw [catL, if_neg (by rw [hT]; exact Bool.noConfusion)]
    repeat' (first | refine xA ?_ | refine xB ?_ | refine xC ?_ | refine xD ?_ | refine xE ?_ | refine xF ?_ | refine xG ?_ | refine xH ?_ | refine xI rfl ?_ | refine xJ ?_ | refine xK ?_ | refine xL ?_ | refine xM rfl ?_ | refine xN rfl ?_ | refine xO rfl ?_ | (first | refine xP rfl (fun hif => ?_) (fun hif => ?_) | refine xQ rfl (fun hif => ?_) (fun hif => ?_) | refine xR rfl (fun hif => ?_) (fun hif => ?_) | refine xS rfl (fun hif => ?_) (fun hif => ?_)) <;> try (first | contradiction | (exfalso; omega)) | (refine hK _ _ ?_; clear hK K) | refine AQuiet.call (spec_CaterpillarOk_v hs hT) trivial ?_ | (refine And.intro (by first | omega | assumption | (constructor <;> omega)) ?_) | (refine And.intro (fun hif => ?_) (fun hif => ?_) <;> try (first | contradiction | (exfalso; omega))) | ((first | refine xT fun K hK => ?_ | refine xU fun K hK => ?_ | refine yB (fun K hK => ?_) (fun K hK => ?_) | refine xV ?_ | refine yA ?_ | refine xW ?_ | refine xX ?_ | refine xY ?_ | refine xZ ?_) <;> simp only [↓awpOps, ↓awpKeep, ↓awpKeepF, ↓aop, ↓aopQ, ↓abin, ↓aun, ↓onSome_some, ↓Kont_at, ↓KM_at, ↓KV_at, ↓KU_at, refId_row, Frame.ev, Frame.evs, Frame.evOr, Frame.put, Frame.keep, get_nil, get_cons, argFrame, resOf, fillA, Vals.len, Vals.get, Vals.set, Vals.app, Vals.sub, Vals.take, Vals.ofAgg_cons, Vals.ofList, Vals.toInts, Vals.toBools, Vals.toSls, Vals.toStrs, Vals.zeros, Nat.reduceBEq, Nat.reduceAdd, Nat.reduceEqDiff, cond_true, cond_false, Option.map_some, Option.map_none, List.length_cons, List.length_nil, List.replicate, List.set_cons_zero, List.set_cons_succ, Nat.reduceLT, Bool.not_true, Bool.not_false, Int.toNat_natCast, inR, Nat.zero_add, Int.toNat_zero, reduceCtorEq, IntKind.bits, List.nil_append, List.cons_append, Nat.add_zero, Nat.sub_zero, noughts_len, List.map_cons, List.map_nil, zp, zu]) | refine And.intro ?_ (fun hif => (hif trivial).elim) | (intro hif; try (first | contradiction | (exfalso; omega))))
    exact ⟨_, rfl, Grow.push hwf _ _ _, obj_new _ _ rfl (Nat.le_refl _) (by simp)⟩
  | true =>
    have hC := cat_is hT
    have h6 := hC.ok.six
    have h1 := hC.ok.pos
    have hlA : listA net = plist (colA net) := if_pos hT
    have hlB : listB net = plist (colB net) := if_pos hT
    have hboth := hC.both
    have hltA := hC.ltA
    have hltB := hC.ltB
    have hgA : ∀ j, j < colA net % 16 → (plist (colA net)).getD j 0 = (pa (colA net) j : Int) := fun j hj => plist_get hj
    have hgB : ∀ j, j < colB net % 16 → (plist (colB net)).getD j 0 = (pa (colB net) j : Int) := fun j hj => plist_get hj
    have hnA := plist_len (colA net)
    have hnB := plist_len (colB net)
    have hrow := catRow_is net
    rw [catL, if_pos hT, hrow]
    have hz := labs_zero net.length
    obtain ⟨ref, off, len⟩ := s
    obtain rfl : len = net.length := hs.1
    repeat' (first | refine xA ?_ | refine xB ?_ | refine xC ?_ | refine xD ?_ | refine xE ?_ | refine xF ?_ | refine xG ?_ | refine xH ?_ | refine xI rfl ?_ | refine xJ ?_ | refine xK ?_ | refine xL ?_ | refine xM rfl ?_ | refine xN rfl ?_ | refine xO rfl ?_ | (first | refine xP rfl (fun hif => ?_) (fun hif => ?_) | refine xQ rfl (fun hif => ?_) (fun hif => ?_) | refine xR rfl (fun hif => ?_) (fun hif => ?_) | refine xS rfl (fun hif => ?_) (fun hif => ?_)) <;> try (first | contradiction | (exfalso; omega)) | (refine hK _ _ ?_; clear hK K) | refine AQuiet.call (spec_CaterpillarOk_v hs hT) trivial ?_ | (refine spec_TwoColumns hs fun sA sB m1 g1 oA oB => ?_; rw [hlA] at oA; rw [hlB] at oB; obtain ⟨aref, aoff, alen⟩ := sA; obtain ⟨bref, boff, blen⟩ := sB; obtain rfl : alen = colA net % 16 := oA.isInts.1.trans hnA; obtain rfl : blen = colB net % 16 := oB.isInts.1.trans hnB) | (refine And.intro (by first | omega | assumption | (constructor <;> omega)) ?_) | (refine And.intro (fun hif => ?_) (fun hif => ?_) <;> try (first | contradiction | (exfalso; omega))) | ((first | refine xT fun K hK => ?_ | refine xU fun K hK => ?_ | refine yB (fun K hK => ?_) (fun K hK => ?_) | refine xV ?_ | refine yA ?_ | refine xW ?_ | refine xX ?_ | refine xY ?_ | refine xZ ?_) <;> simp only [↓awpOps, ↓awpKeep, ↓awpKeepF, ↓aop, ↓aopQ, ↓abin, ↓aun, ↓onSome_some, ↓Kont_at, ↓KM_at, ↓KV_at, ↓KU_at, refId_row, Frame.ev, Frame.evs, Frame.evOr, Frame.put, Frame.keep, get_nil, get_cons, argFrame, resOf, fillA, Vals.len, Vals.get, Vals.set, Vals.app, Vals.sub, Vals.take, Vals.ofAgg_cons, Vals.ofList, Vals.toInts, Vals.toBools, Vals.toSls, Vals.toStrs, Vals.zeros, Nat.reduceBEq, Nat.reduceAdd, Nat.reduceEqDiff, cond_true, cond_false, Option.map_some, Option.map_none, List.length_cons, List.length_nil, List.replicate, List.set_cons_zero, List.set_cons_succ, Nat.reduceLT, Bool.not_true, Bool.not_false, Int.toNat_natCast, inR, Nat.zero_add, Int.toNat_zero, reduceCtorEq, IntKind.bits, List.nil_append, List.cons_append, Nat.add_zero, Nat.sub_zero, noughts_len, List.map_cons, List.map_nil, zp, zu]) | refine And.intro ?_ (fun hif => (hif trivial).elim) | (intro hif; try (first | contradiction | (exfalso; omega))))
    have hle1 := g1.le
    rw [← hz]
    have g2 := Grow.push g1.wf Ty.int true (.ints .i64 (labs 0 net.length))
    have oA2 := (oA.low g1.wf).grow0 g2
    have oB2 := (oB.low g1.wf).grow0 g2
    have hp2 := g1.pre0.trans g2.pre0
    refine awp_loop ?_
    refine ALoop.by [0, 3, 4, 5, 6] (fun a : Nat × Heap => [(0, .one (.sl ⟨ref, off, net.length⟩)), (3, .one (.sl ⟨aref, aoff, colA net % 16⟩)), (4, .one (.sl ⟨bref, boff, colB net % 16⟩)), (5, .one (.sl ⟨.row m1.length, 0, net.length⟩)), (6, .one (.int .i64 a.1))]) (fun a => a.2)
      (fun a => a.1 ≤ colA net % 16 ∧ Grow m1.length (m1.length + 1) (m1 ++ [⟨Ty.int, m1.length, true, .ints .i64 (labs 0 net.length)⟩]) a.2 ∧ a.2[m1.length]? = some ⟨Ty.int, m1.length, true, .ints .i64 (labs (setA (colA net) 0 a.1) net.length)⟩)
      (fun a => colA net % 16 - a.1) (0, _) rfl rfl ⟨Nat.zero_le _, Grow.refl g2.wf _ _, get_last _ _⟩ ?_
    rintro ⟨k, mo⟩ ⟨hk, hgo, hro⟩ K1 hK1
    simp only at hk hgo hro
    have hoA := (oA2.grow hgo (.inl (Nat.le_refl _))).isInts
    by_cases hlt : k < colA net % 16
    · have hat := hoA.2 k (by omega)
      rw [hgA k hlt] at hat
      have hx := hltA k hlt
      have hset := labs_set (R := setA (colA net) 0 k) (n := net.length) (i := pa (colA net) k) (v := k) (by omega)
      rw [← setA_succ] at hset
      generalize pa (colA net) k = x at hat hx hset
      repeat' (first | refine xA ?_ | refine xB ?_ | refine xC ?_ | refine xD ?_ | refine xE ?_ | refine xF ?_ | refine xG ?_ | refine xH ?_ | refine xI rfl ?_ | refine xJ ?_ | refine xK ?_ | refine xL ?_ | refine xM rfl ?_ | refine xN rfl ?_ | refine xO rfl ?_ | (first | refine xP rfl (fun hif => ?_) (fun hif => ?_) | refine xQ rfl (fun hif => ?_) (fun hif => ?_) | refine xR rfl (fun hif => ?_) (fun hif => ?_) | refine xS rfl (fun hif => ?_) (fun hif => ?_)) <;> try (first | contradiction | (exfalso; omega)) | (refine hK _ _ ?_; clear hK K) | refine onSome_of hat ?_ | refine st_row hgo.wf hro (by simp only [Vals.len, labs_len]; omega) rfl fun m5 g5 l5 r5 => ?_ | (refine And.intro (by first | omega | assumption | (constructor <;> omega)) ?_) | (refine And.intro (fun hif => ?_) (fun hif => ?_) <;> try (first | contradiction | (exfalso; omega))) | ((first | refine xT fun K hK => ?_ | refine xU fun K hK => ?_ | refine yB (fun K hK => ?_) (fun K hK => ?_) | refine xV ?_ | refine yA ?_ | refine xW ?_ | refine xX ?_ | refine xY ?_ | refine xZ ?_) <;> simp only [↓awpOps, ↓awpKeep, ↓awpKeepF, ↓aop, ↓aopQ, ↓abin, ↓aun, ↓onSome_some, ↓Kont_at, ↓KM_at, ↓KV_at, ↓KU_at, refId_row, Frame.ev, Frame.evs, Frame.evOr, Frame.put, Frame.keep, get_nil, get_cons, argFrame, resOf, fillA, Vals.len, Vals.get, Vals.set, Vals.app, Vals.sub, Vals.take, Vals.ofAgg_cons, Vals.ofList, Vals.toInts, Vals.toBools, Vals.toSls, Vals.toStrs, Vals.zeros, Nat.reduceBEq, Nat.reduceAdd, Nat.reduceEqDiff, cond_true, cond_false, Option.map_some, Option.map_none, List.length_cons, List.length_nil, List.replicate, List.set_cons_zero, List.set_cons_succ, Nat.reduceLT, Bool.not_true, Bool.not_false, Int.toNat_natCast, inR, Nat.zero_add, Int.toNat_zero, reduceCtorEq, IntKind.bits, List.nil_append, List.cons_append, Nat.add_zero, Nat.sub_zero, noughts_len, List.map_cons, List.map_nil, zp, zu]) | refine And.intro ?_ (fun hif => (hif trivial).elim) | (intro hif; try (first | contradiction | (exfalso; omega))))
      rw [hset] at r5
      exact hK1 (k + 1, m5) _ _ rfl rfl ⟨by simp only; omega, hgo.trans g5, r5⟩ (by simp only; omega)
    · obtain rfl : k = colA net % 16 := by omega
      generalize hR0 : setA (colA net) 0 (colA net % 16) = R0 at *
      repeat' (first | refine xA ?_ | refine xB ?_ | refine xC ?_ | refine xD ?_ | refine xE ?_ | refine xF ?_ | refine xG ?_ | refine xH ?_ | refine xI rfl ?_ | refine xJ ?_ | refine xK ?_ | refine xL ?_ | refine xM rfl ?_ | refine xN rfl ?_ | refine xO rfl ?_ | (first | refine xP rfl (fun hif => ?_) (fun hif => ?_) | refine xQ rfl (fun hif => ?_) (fun hif => ?_) | refine xR rfl (fun hif => ?_) (fun hif => ?_) | refine xS rfl (fun hif => ?_) (fun hif => ?_)) <;> try (first | contradiction | (exfalso; omega)) | (refine hK _ _ ?_; clear hK K) | (refine And.intro (by first | omega | assumption | (constructor <;> omega)) ?_) | (refine And.intro (fun hif => ?_) (fun hif => ?_) <;> try (first | contradiction | (exfalso; omega))) | ((first | refine xT fun K hK => ?_ | refine xU fun K hK => ?_ | refine yB (fun K hK => ?_) (fun K hK => ?_) | refine xV ?_ | refine yA ?_ | refine xW ?_ | refine xX ?_ | refine xY ?_ | refine xZ ?_) <;> simp only [↓awpOps, ↓awpKeep, ↓awpKeepF, ↓aop, ↓aopQ, ↓abin, ↓aun, ↓onSome_some, ↓Kont_at, ↓KM_at, ↓KV_at, ↓KU_at, refId_row, Frame.ev, Frame.evs, Frame.evOr, Frame.put, Frame.keep, get_nil, get_cons, argFrame, resOf, fillA, Vals.len, Vals.get, Vals.set, Vals.app, Vals.sub, Vals.take, Vals.ofAgg_cons, Vals.ofList, Vals.toInts, Vals.toBools, Vals.toSls, Vals.toStrs, Vals.zeros, Nat.reduceBEq, Nat.reduceAdd, Nat.reduceEqDiff, cond_true, cond_false, Option.map_some, Option.map_none, List.length_cons, List.length_nil, List.replicate, List.set_cons_zero, List.set_cons_succ, Nat.reduceLT, Bool.not_true, Bool.not_false, Int.toNat_natCast, inR, Nat.zero_add, Int.toNat_zero, reduceCtorEq, IntKind.bits, List.nil_append, List.cons_append, Nat.add_zero, Nat.sub_zero, noughts_len, List.map_cons, List.map_nil, zp, zu]) | refine And.intro ?_ (fun hif => (hif trivial).elim) | (intro hif; try (first | contradiction | (exfalso; omega))))
      refine awp_loop ?_
      refine ALoop.by [0, 4, 5, 7] (fun a : Nat × Heap => [(0, .one (.sl ⟨ref, off, net.length⟩)), (4, .one (.sl ⟨bref, boff, colB net % 16⟩)), (5, .one (.sl ⟨.row m1.length, 0, net.length⟩)), (7, .one (.int .i64 a.1))]) (fun a => a.2)
        (fun a => a.1 ≤ colB net % 16 ∧ Grow m1.length (m1.length + 1) (m1 ++ [⟨Ty.int, m1.length, true, .ints .i64 (labs 0 net.length)⟩]) a.2 ∧ a.2[m1.length]? = some ⟨Ty.int, m1.length, true, .ints .i64 (labs (setB net.length (colB net) R0 a.1) net.length)⟩)
        (fun a => colB net % 16 - a.1) (0, mo) rfl rfl ⟨Nat.zero_le _, hgo, hro⟩ ?_
      rintro ⟨j, mp⟩ ⟨hj, hgp, hrp⟩ K2 hK2
      simp only at hj hgp hrp
      have hoB := (oB2.grow hgp (.inl (Nat.le_refl _))).isInts
      by_cases hjl : j < colB net % 16
      · have hat := hoB.2 j (by omega)
        rw [hgB j hjl] at hat
        have hx := hltB j hjl
        have hset := labs_set (R := setB net.length (colB net) R0 j) (n := net.length) (i := pa (colB net) j) (v := net.length - 1 - j) (by omega)
        rw [← setB_succ] at hset
        have ev : ((net.length - 1 - j : Nat) : Int) = (net.length : Int) - 1 - (j : Int) := by omega
        rw [ev] at hset
        generalize pa (colB net) j = x at hat hx hset
        repeat' (first | refine xA ?_ | refine xB ?_ | refine xC ?_ | refine xD ?_ | refine xE ?_ | refine xF ?_ | refine xG ?_ | refine xH ?_ | refine xI rfl ?_ | refine xJ ?_ | refine xK ?_ | refine xL ?_ | refine xM rfl ?_ | refine xN rfl ?_ | refine xO rfl ?_ | (first | refine xP rfl (fun hif => ?_) (fun hif => ?_) | refine xQ rfl (fun hif => ?_) (fun hif => ?_) | refine xR rfl (fun hif => ?_) (fun hif => ?_) | refine xS rfl (fun hif => ?_) (fun hif => ?_)) <;> try (first | contradiction | (exfalso; omega)) | (refine hK _ _ ?_; clear hK K) | refine onSome_of hat ?_ | refine st_row hgp.wf hrp (by simp only [Vals.len, labs_len]; omega) rfl fun m5 g5 l5 r5 => ?_ | (refine And.intro (by first | omega | assumption | (constructor <;> omega)) ?_) | (refine And.intro (fun hif => ?_) (fun hif => ?_) <;> try (first | contradiction | (exfalso; omega))) | ((first | refine xT fun K hK => ?_ | refine xU fun K hK => ?_ | refine yB (fun K hK => ?_) (fun K hK => ?_) | refine xV ?_ | refine yA ?_ | refine xW ?_ | refine xX ?_ | refine xY ?_ | refine xZ ?_) <;> simp only [↓awpOps, ↓awpKeep, ↓awpKeepF, ↓aop, ↓aopQ, ↓abin, ↓aun, ↓onSome_some, ↓Kont_at, ↓KM_at, ↓KV_at, ↓KU_at, refId_row, Frame.ev, Frame.evs, Frame.evOr, Frame.put, Frame.keep, get_nil, get_cons, argFrame, resOf, fillA, Vals.len, Vals.get, Vals.set, Vals.app, Vals.sub, Vals.take, Vals.ofAgg_cons, Vals.ofList, Vals.toInts, Vals.toBools, Vals.toSls, Vals.toStrs, Vals.zeros, Nat.reduceBEq, Nat.reduceAdd, Nat.reduceEqDiff, cond_true, cond_false, Option.map_some, Option.map_none, List.length_cons, List.length_nil, List.replicate, List.set_cons_zero, List.set_cons_succ, Nat.reduceLT, Bool.not_true, Bool.not_false, Int.toNat_natCast, inR, Nat.zero_add, Int.toNat_zero, reduceCtorEq, IntKind.bits, List.nil_append, List.cons_append, Nat.add_zero, Nat.sub_zero, noughts_len, List.map_cons, List.map_nil, zp, zu]) | refine And.intro ?_ (fun hif => (hif trivial).elim) | (intro hif; try (first | contradiction | (exfalso; omega))))
        rw [hset] at r5
        exact hK2 (j + 1, m5) _ _ rfl rfl ⟨by simp only; omega, hgp.trans g5, r5⟩ (by simp only; omega)
      · obtain rfl : j = colB net % 16 := by omega
        repeat' (first | refine xA ?_ | refine xB ?_ | refine xC ?_ | refine xD ?_ | refine xE ?_ | refine xF ?_ | refine xG ?_ | refine xH ?_ | refine xI rfl ?_ | refine xJ ?_ | refine xK ?_ | refine xL ?_ | refine xM rfl ?_ | refine xN rfl ?_ | refine xO rfl ?_ | (first | refine xP rfl (fun hif => ?_) (fun hif => ?_) | refine xQ rfl (fun hif => ?_) (fun hif => ?_) | refine xR rfl (fun hif => ?_) (fun hif => ?_) | refine xS rfl (fun hif => ?_) (fun hif => ?_)) <;> try (first | contradiction | (exfalso; omega)) | (refine hK _ _ ?_; clear hK K) | (refine And.intro (by first | omega | assumption | (constructor <;> omega)) ?_) | (refine And.intro (fun hif => ?_) (fun hif => ?_) <;> try (first | contradiction | (exfalso; omega))) | ((first | refine xT fun K hK => ?_ | refine xU fun K hK => ?_ | refine yB (fun K hK => ?_) (fun K hK => ?_) | refine xV ?_ | refine yA ?_ | refine xW ?_ | refine xX ?_ | refine xY ?_ | refine xZ ?_) <;> simp only [↓awpOps, ↓awpKeep, ↓awpKeepF, ↓aop, ↓aopQ, ↓abin, ↓aun, ↓onSome_some, ↓Kont_at, ↓KM_at, ↓KV_at, ↓KU_at, refId_row, Frame.ev, Frame.evs, Frame.evOr, Frame.put, Frame.keep, get_nil, get_cons, argFrame, resOf, fillA, Vals.len, Vals.get, Vals.set, Vals.app, Vals.sub, Vals.take, Vals.ofAgg_cons, Vals.ofList, Vals.toInts, Vals.toBools, Vals.toSls, Vals.toStrs, Vals.zeros, Nat.reduceBEq, Nat.reduceAdd, Nat.reduceEqDiff, cond_true, cond_false, Option.map_some, Option.map_none, List.length_cons, List.length_nil, List.replicate, List.set_cons_zero, List.set_cons_succ, Nat.reduceLT, Bool.not_true, Bool.not_false, Int.toNat_natCast, inR, Nat.zero_add, Int.toNat_zero, reduceCtorEq, IntKind.bits, List.nil_append, List.cons_append, Nat.add_zero, Nat.sub_zero, noughts_len, List.map_cons, List.map_nil, zp, zu]) | refine And.intro ?_ (fun hif => (hif trivial).elim) | (intro hif; try (first | contradiction | (exfalso; omega))))
        have hlp := hgp.le
        rw [List.length_append, List.length_cons, List.length_nil] at hlp
        exact ⟨_, rfl, grow00 (hgp.pre hp2 hwf hle1) (((g1.trans g2).any _ _).trans (hgp.mono hle1 (by omega))), .inr ⟨m1.length, m1.length, hle1, by omega, by simp [Vals.len, labs_len], hrp⟩⟩

end Go.Abs
