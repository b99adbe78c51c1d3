/- The program's sixth chapter, by contracts: rows turned round on a ring, and the table of all pairs. Own work; no condition. -/
import Derived.Test.YtklmfnafbfghjaaRing3
import Derived.Test.YtklmfnafbfghjaaImpl5
import Derived.Test.YtklmfnafbfghjaaGrow
set_option maxRecDepth 100000
set_option linter.unusedSimpArgs false
set_option linter.unusedVariables false
namespace Go.Abs
open Go.Proofs
attribute [local irreducible] awp awpOps awpKeep KeepK awpKeepF KeepF aloop ALoop ACalls ACallq AQuiet retPost retPostA AExit.thn AExit.blk aApp aSt aStA

theorem ringOk_rows {net row : List Int} {ring : Int} (h1 : 1 ≤ ring ∧ ring ≤ 31) (h2 : RowOk net row ∧ Once row) : RingOk net row ring ↔ ∀ k, k < row.length → (row.getD k 0) < ring :=
  ⟨fun h k hk => by have := h.low.low k hk; omega, fun h => ⟨h1, ⟨h2.1.ok, h2.1.len, fun k hk => by have := h2.1.low k hk; have := h k hk; omega⟩, h2.2⟩⟩

theorem impl_isOnRing (s t : SV) (net row : List Int) (ring : Int) (m : Heap) (hs : IsInts .i64 m s net) (ht : IsInts .i64 m t row) : AQuiet Try.prog F.impl_isOnRing [.one (.sl s), .one (.sl t), .one (.int .i64 ring)] m (.one (.bool (decide (RingOk net row ring)))) := by
  have c0 := impl_RowOnceOk s t net row m hs ht
  refine aqn T.impl_isOnRing (by rfl) ?_
  by_cases h1 : 1 ≤ ring ∧ ring ≤ 31
  · by_cases h2 : RowOk net row ∧ Once row
    · have c0 := c0.yes h2
      have hi := ringOk_rows h1 h2
      have h6 := h2.1.ok.six
      have hl := h2.1.len
      obtain ⟨ref, off, len⟩ := t
      obtain rfl : len = row.length := ht.1
      repeat' (first | refine xA ?_ | refine xB ?_ | refine xC ?_ | refine xD ?_ | refine xE ?_ | refine xF ?_ | refine xG ?_ | refine xH ?_ | refine xI rfl ?_ | refine xJ ?_ | refine xK ?_ | refine xL ?_ | refine xM rfl ?_ | refine xN rfl ?_ | refine xO rfl ?_ | (first | refine xP rfl (fun hif => ?_) (fun hif => ?_) | refine xQ rfl (fun hif => ?_) (fun hif => ?_) | refine xR rfl (fun hif => ?_) (fun hif => ?_) | refine xS rfl (fun hif => ?_) (fun hif => ?_)) <;> try (first | contradiction | (exfalso; omega)) | (refine hK _ _ ?_; clear hK K) | refine AQuiet.call c0 trivial ?_ | (refine And.intro (by first | omega | assumption | (constructor <;> omega)) ?_) | (refine And.intro (fun hif => ?_) (fun hif => ?_) <;> try (first | contradiction | (exfalso; omega))) | ((first | refine xT fun K hK => ?_ | refine xU fun K hK => ?_ | refine yB (fun K hK => ?_) (fun K hK => ?_) | refine xV ?_ | refine yA ?_ | refine xW ?_ | refine xX ?_ | refine xY ?_ | refine xZ ?_) <;> simp only [↓awpOps, ↓awpKeep, ↓awpKeepF, ↓aop, ↓aopQ, ↓abin, ↓aun, ↓onSome_some, ↓Kont_at, ↓KM_at, ↓KV_at, ↓KU_at, refId_row, Frame.ev, Frame.evs, Frame.evOr, Frame.put, Frame.keep, get_nil, get_cons, argFrame, resOf, fillA, Vals.len, Vals.get, Vals.set, Vals.app, Vals.sub, Vals.take, Vals.ofAgg_cons, Vals.ofList, Vals.toInts, Vals.toBools, Vals.toSls, Vals.toStrs, Vals.zeros, Nat.reduceBEq, Nat.reduceAdd, Nat.reduceEqDiff, cond_true, cond_false, Option.map_some, Option.map_none, List.length_cons, List.length_nil, List.replicate, List.set_cons_zero, List.set_cons_succ, Nat.reduceLT, Bool.not_true, Bool.not_false, Int.toNat_natCast, inR, Nat.zero_add, Int.toNat_zero, reduceCtorEq, IntKind.bits, List.nil_append, List.cons_append, Nat.add_zero, Nat.sub_zero, noughts_len, List.map_cons, List.map_nil, zp, zu]) | refine And.intro ?_ (fun hif => (hif trivial).elim) | (intro hif; try (first | contradiction | (exfalso; omega))))
      refine awp_loop ?_
      refine ALoop.by [1, 2, 7] (fun k : Nat => [(1, .one (.sl ⟨ref, off, row.length⟩)), (2, .one (.int .i64 ring)), (7, .one (.int .i64 k))]) (fun _ => m) (fun k => k ≤ row.length ∧ ∀ i, i < k → (row.getD i 0) < ring) (fun k => row.length - k) 0 rfl rfl ⟨Nat.zero_le _, fun i hi => absurd hi (Nat.not_lt_zero _)⟩ ?_
      rintro k ⟨hk, hok⟩ K1 hK1
      by_cases hlt : k < row.length
      · have hat := ht.2 k hlt
        by_cases hc : (row.getD k 0) < ring
        · repeat' (first | refine xA ?_ | refine xB ?_ | refine xC ?_ | refine xD ?_ | refine xE ?_ | refine xF ?_ | refine xG ?_ | refine xH ?_ | refine xI rfl ?_ | refine xJ ?_ | refine xK ?_ | refine xL ?_ | refine xM rfl ?_ | refine xN rfl ?_ | refine xO rfl ?_ | (first | refine xP rfl (fun hif => ?_) (fun hif => ?_) | refine xQ rfl (fun hif => ?_) (fun hif => ?_) | refine xR rfl (fun hif => ?_) (fun hif => ?_) | refine xS rfl (fun hif => ?_) (fun hif => ?_)) <;> try (first | contradiction | (exfalso; omega)) | (refine hK _ _ ?_; clear hK K) | refine onSome_of hat ?_ | (refine And.intro (by first | omega | assumption | (constructor <;> omega)) ?_) | (refine And.intro (fun hif => ?_) (fun hif => ?_) <;> try (first | contradiction | (exfalso; omega))) | ((first | refine xT fun K hK => ?_ | refine xU fun K hK => ?_ | refine yB (fun K hK => ?_) (fun K hK => ?_) | refine xV ?_ | refine yA ?_ | refine xW ?_ | refine xX ?_ | refine xY ?_ | refine xZ ?_) <;> simp only [↓awpOps, ↓awpKeep, ↓awpKeepF, ↓aop, ↓aopQ, ↓abin, ↓aun, ↓onSome_some, ↓Kont_at, ↓KM_at, ↓KV_at, ↓KU_at, refId_row, Frame.ev, Frame.evs, Frame.evOr, Frame.put, Frame.keep, get_nil, get_cons, argFrame, resOf, fillA, Vals.len, Vals.get, Vals.set, Vals.app, Vals.sub, Vals.take, Vals.ofAgg_cons, Vals.ofList, Vals.toInts, Vals.toBools, Vals.toSls, Vals.toStrs, Vals.zeros, Nat.reduceBEq, Nat.reduceAdd, Nat.reduceEqDiff, cond_true, cond_false, Option.map_some, Option.map_none, List.length_cons, List.length_nil, List.replicate, List.set_cons_zero, List.set_cons_succ, Nat.reduceLT, Bool.not_true, Bool.not_false, Int.toNat_natCast, inR, Nat.zero_add, Int.toNat_zero, reduceCtorEq, IntKind.bits, List.nil_append, List.cons_append, Nat.add_zero, Nat.sub_zero, noughts_len, List.map_cons, List.map_nil, zp, zu]) | refine And.intro ?_ (fun hif => (hif trivial).elim) | (intro hif; try (first | contradiction | (exfalso; omega))))
          all_goals exact hK1 (k + 1) _ _ rfl rfl ⟨by omega, fun i hi => by
            rcases Nat.lt_succ_iff_lt_or_eq.1 hi with h | rfl
            · exact hok i h
            · exact hc⟩ (by omega)
        · rw [decide_eq_false fun h => hc (hi.1 h k hlt)]
          repeat' (first | refine xA ?_ | refine xB ?_ | refine xC ?_ | refine xD ?_ | refine xE ?_ | refine xF ?_ | refine xG ?_ | refine xH ?_ | refine xI rfl ?_ | refine xJ ?_ | refine xK ?_ | refine xL ?_ | refine xM rfl ?_ | refine xN rfl ?_ | refine xO rfl ?_ | (first | refine xP rfl (fun hif => ?_) (fun hif => ?_) | refine xQ rfl (fun hif => ?_) (fun hif => ?_) | refine xR rfl (fun hif => ?_) (fun hif => ?_) | refine xS rfl (fun hif => ?_) (fun hif => ?_)) <;> try (first | contradiction | (exfalso; omega)) | (refine hK _ _ ?_; clear hK K) | refine onSome_of hat ?_ | (refine And.intro (by first | omega | assumption | (constructor <;> omega)) ?_) | (refine And.intro (fun hif => ?_) (fun hif => ?_) <;> try (first | contradiction | (exfalso; omega))) | ((first | refine xT fun K hK => ?_ | refine xU fun K hK => ?_ | refine yB (fun K hK => ?_) (fun K hK => ?_) | refine xV ?_ | refine yA ?_ | refine xW ?_ | refine xX ?_ | refine xY ?_ | refine xZ ?_) <;> simp only [↓awpOps, ↓awpKeep, ↓awpKeepF, ↓aop, ↓aopQ, ↓abin, ↓aun, ↓onSome_some, ↓Kont_at, ↓KM_at, ↓KV_at, ↓KU_at, refId_row, Frame.ev, Frame.evs, Frame.evOr, Frame.put, Frame.keep, get_nil, get_cons, argFrame, resOf, fillA, Vals.len, Vals.get, Vals.set, Vals.app, Vals.sub, Vals.take, Vals.ofAgg_cons, Vals.ofList, Vals.toInts, Vals.toBools, Vals.toSls, Vals.toStrs, Vals.zeros, Nat.reduceBEq, Nat.reduceAdd, Nat.reduceEqDiff, cond_true, cond_false, Option.map_some, Option.map_none, List.length_cons, List.length_nil, List.replicate, List.set_cons_zero, List.set_cons_succ, Nat.reduceLT, Bool.not_true, Bool.not_false, Int.toNat_natCast, inR, Nat.zero_add, Int.toNat_zero, reduceCtorEq, IntKind.bits, List.nil_append, List.cons_append, Nat.add_zero, Nat.sub_zero, noughts_len, List.map_cons, List.map_nil, zp, zu]) | refine And.intro ?_ (fun hif => (hif trivial).elim) | (intro hif; try (first | contradiction | (exfalso; omega))))
          all_goals (first | exact List.prefix_rfl | exact ⟨rfl, List.prefix_rfl⟩ | exact ⟨by simp, List.prefix_rfl⟩)
      · obtain rfl : k = row.length := by omega
        rw [decide_eq_true (hi.2 hok)]
        repeat' (first | refine xA ?_ | refine xB ?_ | refine xC ?_ | refine xD ?_ | refine xE ?_ | refine xF ?_ | refine xG ?_ | refine xH ?_ | refine xI rfl ?_ | refine xJ ?_ | refine xK ?_ | refine xL ?_ | refine xM rfl ?_ | refine xN rfl ?_ | refine xO rfl ?_ | (first | refine xP rfl (fun hif => ?_) (fun hif => ?_) | refine xQ rfl (fun hif => ?_) (fun hif => ?_) | refine xR rfl (fun hif => ?_) (fun hif => ?_) | refine xS rfl (fun hif => ?_) (fun hif => ?_)) <;> try (first | contradiction | (exfalso; omega)) | (refine hK _ _ ?_; clear hK K) | (refine And.intro (by first | omega | assumption | (constructor <;> omega)) ?_) | (refine And.intro (fun hif => ?_) (fun hif => ?_) <;> try (first | contradiction | (exfalso; omega))) | ((first | refine xT fun K hK => ?_ | refine xU fun K hK => ?_ | refine yB (fun K hK => ?_) (fun K hK => ?_) | refine xV ?_ | refine yA ?_ | refine xW ?_ | refine xX ?_ | refine xY ?_ | refine xZ ?_) <;> simp only [↓awpOps, ↓awpKeep, ↓awpKeepF, ↓aop, ↓aopQ, ↓abin, ↓aun, ↓onSome_some, ↓Kont_at, ↓KM_at, ↓KV_at, ↓KU_at, refId_row, Frame.ev, Frame.evs, Frame.evOr, Frame.put, Frame.keep, get_nil, get_cons, argFrame, resOf, fillA, Vals.len, Vals.get, Vals.set, Vals.app, Vals.sub, Vals.take, Vals.ofAgg_cons, Vals.ofList, Vals.toInts, Vals.toBools, Vals.toSls, Vals.toStrs, Vals.zeros, Nat.reduceBEq, Nat.reduceAdd, Nat.reduceEqDiff, cond_true, cond_false, Option.map_some, Option.map_none, List.length_cons, List.length_nil, List.replicate, List.set_cons_zero, List.set_cons_succ, Nat.reduceLT, Bool.not_true, Bool.not_false, Int.toNat_natCast, inR, Nat.zero_add, Int.toNat_zero, reduceCtorEq, IntKind.bits, List.nil_append, List.cons_append, Nat.add_zero, Nat.sub_zero, noughts_len, List.map_cons, List.map_nil, zp, zu]) | refine And.intro ?_ (fun hif => (hif trivial).elim) | (intro hif; try (first | contradiction | (exfalso; omega))))
        all_goals (first | exact List.prefix_rfl | exact ⟨rfl, List.prefix_rfl⟩ | exact ⟨by simp, List.prefix_rfl⟩)
    · have c0 := c0.no h2
      rw [decide_eq_false fun h : RingOk net row ring => h2 ⟨h.rowOk, h.once⟩]
      repeat' (first | refine xA ?_ | refine xB ?_ | refine xC ?_ | refine xD ?_ | refine xE ?_ | refine xF ?_ | refine xG ?_ | refine xH ?_ | refine xI rfl ?_ | refine xJ ?_ | refine xK ?_ | refine xL ?_ | refine xM rfl ?_ | refine xN rfl ?_ | refine xO rfl ?_ | (first | refine xP rfl (fun hif => ?_) (fun hif => ?_) | refine xQ rfl (fun hif => ?_) (fun hif => ?_) | refine xR rfl (fun hif => ?_) (fun hif => ?_) | refine xS rfl (fun hif => ?_) (fun hif => ?_)) <;> try (first | contradiction | (exfalso; omega)) | (refine hK _ _ ?_; clear hK K) | refine AQuiet.call c0 trivial ?_ | (refine And.intro (by first | omega | assumption | (constructor <;> omega)) ?_) | (refine And.intro (fun hif => ?_) (fun hif => ?_) <;> try (first | contradiction | (exfalso; omega))) | ((first | refine xT fun K hK => ?_ | refine xU fun K hK => ?_ | refine yB (fun K hK => ?_) (fun K hK => ?_) | refine xV ?_ | refine yA ?_ | refine xW ?_ | refine xX ?_ | refine xY ?_ | refine xZ ?_) <;> simp only [↓awpOps, ↓awpKeep, ↓awpKeepF, ↓aop, ↓aopQ, ↓abin, ↓aun, ↓onSome_some, ↓Kont_at, ↓KM_at, ↓KV_at, ↓KU_at, refId_row, Frame.ev, Frame.evs, Frame.evOr, Frame.put, Frame.keep, get_nil, get_cons, argFrame, resOf, fillA, Vals.len, Vals.get, Vals.set, Vals.app, Vals.sub, Vals.take, Vals.ofAgg_cons, Vals.ofList, Vals.toInts, Vals.toBools, Vals.toSls, Vals.toStrs, Vals.zeros, Nat.reduceBEq, Nat.reduceAdd, Nat.reduceEqDiff, cond_true, cond_false, Option.map_some, Option.map_none, List.length_cons, List.length_nil, List.replicate, List.set_cons_zero, List.set_cons_succ, Nat.reduceLT, Bool.not_true, Bool.not_false, Int.toNat_natCast, inR, Nat.zero_add, Int.toNat_zero, reduceCtorEq, IntKind.bits, List.nil_append, List.cons_append, Nat.add_zero, Nat.sub_zero, noughts_len, List.map_cons, List.map_nil, zp, zu]) | refine And.intro ?_ (fun hif => (hif trivial).elim) | (intro hif; try (first | contradiction | (exfalso; omega))))
      all_goals (first | exact List.prefix_rfl | exact ⟨rfl, List.prefix_rfl⟩ | exact ⟨by simp, List.prefix_rfl⟩)
  · rw [decide_eq_false fun h : RingOk net row ring => h1 h.size]
    repeat' (first | refine xA ?_ | refine xB ?_ | refine xC ?_ | refine xD ?_ | refine xE ?_ | refine xF ?_ | refine xG ?_ | refine xH ?_ | refine xI rfl ?_ | refine xJ ?_ | refine xK ?_ | refine xL ?_ | refine xM rfl ?_ | refine xN rfl ?_ | refine xO rfl ?_ | (first | refine xP rfl (fun hif => ?_) (fun hif => ?_) | refine xQ rfl (fun hif => ?_) (fun hif => ?_) | refine xR rfl (fun hif => ?_) (fun hif => ?_) | refine xS rfl (fun hif => ?_) (fun hif => ?_)) <;> try (first | contradiction | (exfalso; omega)) | (refine hK _ _ ?_; clear hK K) | (refine And.intro (by first | omega | assumption | (constructor <;> omega)) ?_) | (refine And.intro (fun hif => ?_) (fun hif => ?_) <;> try (first | contradiction | (exfalso; omega))) | ((first | refine xT fun K hK => ?_ | refine xU fun K hK => ?_ | refine yB (fun K hK => ?_) (fun K hK => ?_) | refine xV ?_ | refine yA ?_ | refine xW ?_ | refine xX ?_ | refine xY ?_ | refine xZ ?_) <;> simp only [↓awpOps, ↓awpKeep, ↓awpKeepF, ↓aop, ↓aopQ, ↓abin, ↓aun, ↓onSome_some, ↓Kont_at, ↓KM_at, ↓KV_at, ↓KU_at, refId_row, Frame.ev, Frame.evs, Frame.evOr, Frame.put, Frame.keep, get_nil, get_cons, argFrame, resOf, fillA, Vals.len, Vals.get, Vals.set, Vals.app, Vals.sub, Vals.take, Vals.ofAgg_cons, Vals.ofList, Vals.toInts, Vals.toBools, Vals.toSls, Vals.toStrs, Vals.zeros, Nat.reduceBEq, Nat.reduceAdd, Nat.reduceEqDiff, cond_true, cond_false, Option.map_some, Option.map_none, List.length_cons, List.length_nil, List.replicate, List.set_cons_zero, List.set_cons_succ, Nat.reduceLT, Bool.not_true, Bool.not_false, Int.toNat_natCast, inR, Nat.zero_add, Int.toNat_zero, reduceCtorEq, IntKind.bits, List.nil_append, List.cons_append, Nat.add_zero, Nat.sub_zero, noughts_len, List.map_cons, List.map_nil, zp, zu]) | refine And.intro ?_ (fun hif => (hif trivial).elim) | (intro hif; try (first | contradiction | (exfalso; omega))))
    all_goals (first | exact List.prefix_rfl | exact ⟨rfl, List.prefix_rfl⟩ | exact ⟨by simp, List.prefix_rfl⟩)

theorem impl_TurnedBy (s t : SV) (net row : List Int) (ring b : Int) (m : Heap) (hs : IsInts .i64 m s net) (ht : IsInts .i64 m t row) : ARet Try.prog F.impl_TurnedBy [.one (.sl s), .one (.sl t), .one (.int .i64 ring), .one (.int .i64 b)] m Ty.int (.ints .i64 (turnedBy net row ring b)) := by
  refine arn T.impl_TurnedBy (by rfl) fun hwf => ?_
  have c0 := impl_isOnRing s t net row ring m hs ht
  by_cases hR : RingOk net row ring
  · have c0 := c0.yes hR
    have hsz := hR.size
    have h6 := hR.low.ok.six
    have hl := hR.low.len
    have hlow := hR.low.low
    by_cases hb : 0 ≤ b ∧ b < ring
    · obtain ⟨ref, off, len⟩ := t
      obtain rfl : len = row.length := ht.1
      rw [turnedBy, if_pos ⟨hR, hb⟩]
      have hVl : (row.map fun z => (z + b) % ring).length = row.length := by simp
      generalize hV : (row.map fun z => (z + b) % ring) = V at hVl ⊢
      have hVk : ∀ k, k < row.length → V.getD k 0 = ((row.getD k 0) + b) % ring := fun k hk => by rw [← hV]; exact map_get _ hk
      repeat' (first | refine xA ?_ | refine xB ?_ | refine xC ?_ | refine xD ?_ | refine xE ?_ | refine xF ?_ | refine xG ?_ | refine xH ?_ | refine xI rfl ?_ | refine xJ ?_ | refine xK ?_ | refine xL ?_ | refine xM rfl ?_ | refine xN rfl ?_ | refine xO rfl ?_ | (first | refine xP rfl (fun hif => ?_) (fun hif => ?_) | refine xQ rfl (fun hif => ?_) (fun hif => ?_) | refine xR rfl (fun hif => ?_) (fun hif => ?_) | refine xS rfl (fun hif => ?_) (fun hif => ?_)) <;> try (first | contradiction | (exfalso; omega)) | (refine hK _ _ ?_; clear hK K) | refine AQuiet.call c0 trivial ?_ | (refine And.intro (by first | omega | assumption | (constructor <;> omega)) ?_) | (refine And.intro (fun hif => ?_) (fun hif => ?_) <;> try (first | contradiction | (exfalso; omega))) | ((first | refine xT fun K hK => ?_ | refine xU fun K hK => ?_ | refine yB (fun K hK => ?_) (fun K hK => ?_) | refine xV ?_ | refine yA ?_ | refine xW ?_ | refine xX ?_ | refine xY ?_ | refine xZ ?_) <;> simp only [↓awpOps, ↓awpKeep, ↓awpKeepF, ↓aop, ↓aopQ, ↓abin, ↓aun, ↓onSome_some, ↓Kont_at, ↓KM_at, ↓KV_at, ↓KU_at, refId_row, Frame.ev, Frame.evs, Frame.evOr, Frame.put, Frame.keep, get_nil, get_cons, argFrame, resOf, fillA, Vals.len, Vals.get, Vals.set, Vals.app, Vals.sub, Vals.take, Vals.ofAgg_cons, Vals.ofList, Vals.toInts, Vals.toBools, Vals.toSls, Vals.toStrs, Vals.zeros, Nat.reduceBEq, Nat.reduceAdd, Nat.reduceEqDiff, cond_true, cond_false, Option.map_some, Option.map_none, List.length_cons, List.length_nil, List.replicate, List.set_cons_zero, List.set_cons_succ, Nat.reduceLT, Bool.not_true, Bool.not_false, Int.toNat_natCast, inR, Nat.zero_add, Int.toNat_zero, reduceCtorEq, IntKind.bits, List.nil_append, List.cons_append, Nat.add_zero, Nat.sub_zero, noughts_len, List.map_cons, List.map_nil, zp, zu]) | refine And.intro ?_ (fun hif => (hif trivial).elim) | (intro hif; try (first | contradiction | (exfalso; omega))))
      refine awp_loop ?_
      refine ALoop.by [1, 2, 3, 9, 10] (fun k : Nat => [(1, .one (.sl ⟨ref, off, row.length⟩)), (2, .one (.int .i64 ring)), (3, .one (.int .i64 b)), (9, .one (.sl ⟨.row m.length, 0, row.length⟩)), (10, .one (.int .i64 k))]) (fun k => m ++ [⟨Ty.int, m.length, true, .ints .i64 (V.take k ++ List.replicate (V.length - k) 0)⟩]) (fun k => k ≤ row.length) (fun k => row.length - k) 0 rfl (by simp [hVl]) (Nat.zero_le _) ?_
      intro k hk K1 hK1
      by_cases hlt : k < row.length
      · have hrow := (ht.pre (prefix_push m ⟨Ty.int, m.length, true, .ints .i64 (V.take k ++ List.replicate (V.length - k) 0)⟩)).2 k hlt
        have hst := set_take V 0 0 (k := k) (by omega)
        rw [hVk k hlt] at hst
        have hlen : (V.take k ++ List.replicate (V.length - k) (0 : Int)).length = row.length := by simp; omega
        have hd := hlow k hlt
        repeat' (first | refine xA ?_ | refine xB ?_ | refine xC ?_ | refine xD ?_ | refine xE ?_ | refine xF ?_ | refine xG ?_ | refine xH ?_ | refine xI rfl ?_ | refine xJ ?_ | refine xK ?_ | refine xL ?_ | refine xM rfl ?_ | refine xN rfl ?_ | refine xO rfl ?_ | (first | refine xP rfl (fun hif => ?_) (fun hif => ?_) | refine xQ rfl (fun hif => ?_) (fun hif => ?_) | refine xR rfl (fun hif => ?_) (fun hif => ?_) | refine xS rfl (fun hif => ?_) (fun hif => ?_)) <;> try (first | contradiction | (exfalso; omega)) | (refine hK _ _ ?_; clear hK K) | refine onSome_of hrow ?_ | refine st_last hwf (by simp only [Vals.len, hlen]; omega) rfl ?_ | (refine And.intro (by first | omega | assumption | (constructor <;> omega)) ?_) | (refine And.intro (fun hif => ?_) (fun hif => ?_) <;> try (first | contradiction | (exfalso; omega))) | ((first | refine xT fun K hK => ?_ | refine xU fun K hK => ?_ | refine yB (fun K hK => ?_) (fun K hK => ?_) | refine xV ?_ | refine yA ?_ | refine xW ?_ | refine xX ?_ | refine xY ?_ | refine xZ ?_) <;> simp only [↓awpOps, ↓awpKeep, ↓awpKeepF, ↓aop, ↓aopQ, ↓abin, ↓aun, ↓onSome_some, ↓Kont_at, ↓KM_at, ↓KV_at, ↓KU_at, refId_row, Frame.ev, Frame.evs, Frame.evOr, Frame.put, Frame.keep, get_nil, get_cons, argFrame, resOf, fillA, Vals.len, Vals.get, Vals.set, Vals.app, Vals.sub, Vals.take, Vals.ofAgg_cons, Vals.ofList, Vals.toInts, Vals.toBools, Vals.toSls, Vals.toStrs, Vals.zeros, Nat.reduceBEq, Nat.reduceAdd, Nat.reduceEqDiff, cond_true, cond_false, Option.map_some, Option.map_none, List.length_cons, List.length_nil, List.replicate, List.set_cons_zero, List.set_cons_succ, Nat.reduceLT, Bool.not_true, Bool.not_false, Int.toNat_natCast, inR, Nat.zero_add, Int.toNat_zero, reduceCtorEq, IntKind.bits, List.nil_append, List.cons_append, Nat.add_zero, Nat.sub_zero, noughts_len, List.map_cons, List.map_nil, zp, zu]) | refine And.intro ?_ (fun hif => (hif trivial).elim) | (intro hif; try (first | contradiction | (exfalso; omega))))
        refine hK1 (k + 1) _ _ rfl ?_ (by omega) (by omega)
        rw [hst]
      · obtain rfl : k = row.length := by omega
        have e : V.take row.length ++ List.replicate (V.length - row.length) (0 : Int) = V := by rw [← hVl, List.take_length, Nat.sub_self, List.replicate_zero, List.append_nil]
        rw [e]
        repeat' (first | refine xA ?_ | refine xB ?_ | refine xC ?_ | refine xD ?_ | refine xE ?_ | refine xF ?_ | refine xG ?_ | refine xH ?_ | refine xI rfl ?_ | refine xJ ?_ | refine xK ?_ | refine xL ?_ | refine xM rfl ?_ | refine xN rfl ?_ | refine xO rfl ?_ | (first | refine xP rfl (fun hif => ?_) (fun hif => ?_) | refine xQ rfl (fun hif => ?_) (fun hif => ?_) | refine xR rfl (fun hif => ?_) (fun hif => ?_) | refine xS rfl (fun hif => ?_) (fun hif => ?_)) <;> try (first | contradiction | (exfalso; omega)) | (refine hK _ _ ?_; clear hK K) | (refine And.intro (by first | omega | assumption | (constructor <;> omega)) ?_) | (refine And.intro (fun hif => ?_) (fun hif => ?_) <;> try (first | contradiction | (exfalso; omega))) | ((first | refine xT fun K hK => ?_ | refine xU fun K hK => ?_ | refine yB (fun K hK => ?_) (fun K hK => ?_) | refine xV ?_ | refine yA ?_ | refine xW ?_ | refine xX ?_ | refine xY ?_ | refine xZ ?_) <;> simp only [↓awpOps, ↓awpKeep, ↓awpKeepF, ↓aop, ↓aopQ, ↓abin, ↓aun, ↓onSome_some, ↓Kont_at, ↓KM_at, ↓KV_at, ↓KU_at, refId_row, Frame.ev, Frame.evs, Frame.evOr, Frame.put, Frame.keep, get_nil, get_cons, argFrame, resOf, fillA, Vals.len, Vals.get, Vals.set, Vals.app, Vals.sub, Vals.take, Vals.ofAgg_cons, Vals.ofList, Vals.toInts, Vals.toBools, Vals.toSls, Vals.toStrs, Vals.zeros, Nat.reduceBEq, Nat.reduceAdd, Nat.reduceEqDiff, cond_true, cond_false, Option.map_some, Option.map_none, List.length_cons, List.length_nil, List.replicate, List.set_cons_zero, List.set_cons_succ, Nat.reduceLT, Bool.not_true, Bool.not_false, Int.toNat_natCast, inR, Nat.zero_add, Int.toNat_zero, reduceCtorEq, IntKind.bits, List.nil_append, List.cons_append, Nat.add_zero, Nat.sub_zero, noughts_len, List.map_cons, List.map_nil, zp, zu]) | refine And.intro ?_ (fun hif => (hif trivial).elim) | (intro hif; try (first | contradiction | (exfalso; omega))))
        exact ⟨_, rfl, Grow.push hwf _ _ _, obj_new _ _ (by simp [Vals.len, hVl]) (Nat.le_refl _) (by simp)⟩
    · rw [turnedBy, if_neg fun h => hb h.2]
      repeat' (first | refine xA ?_ | refine xB ?_ | refine xC ?_ | refine xD ?_ | refine xE ?_ | refine xF ?_ | refine xG ?_ | refine xH ?_ | refine xI rfl ?_ | refine xJ ?_ | refine xK ?_ | refine xL ?_ | refine xM rfl ?_ | refine xN rfl ?_ | refine xO rfl ?_ | (first | refine xP rfl (fun hif => ?_) (fun hif => ?_) | refine xQ rfl (fun hif => ?_) (fun hif => ?_) | refine xR rfl (fun hif => ?_) (fun hif => ?_) | refine xS rfl (fun hif => ?_) (fun hif => ?_)) <;> try (first | contradiction | (exfalso; omega)) | (refine hK _ _ ?_; clear hK K) | refine AQuiet.call c0 trivial ?_ | (refine And.intro (by first | omega | assumption | (constructor <;> omega)) ?_) | (refine And.intro (fun hif => ?_) (fun hif => ?_) <;> try (first | contradiction | (exfalso; omega))) | ((first | refine xT fun K hK => ?_ | refine xU fun K hK => ?_ | refine yB (fun K hK => ?_) (fun K hK => ?_) | refine xV ?_ | refine yA ?_ | refine xW ?_ | refine xX ?_ | refine xY ?_ | refine xZ ?_) <;> simp only [↓awpOps, ↓awpKeep, ↓awpKeepF, ↓aop, ↓aopQ, ↓abin, ↓aun, ↓onSome_some, ↓Kont_at, ↓KM_at, ↓KV_at, ↓KU_at, refId_row, Frame.ev, Frame.evs, Frame.evOr, Frame.put, Frame.keep, get_nil, get_cons, argFrame, resOf, fillA, Vals.len, Vals.get, Vals.set, Vals.app, Vals.sub, Vals.take, Vals.ofAgg_cons, Vals.ofList, Vals.toInts, Vals.toBools, Vals.toSls, Vals.toStrs, Vals.zeros, Nat.reduceBEq, Nat.reduceAdd, Nat.reduceEqDiff, cond_true, cond_false, Option.map_some, Option.map_none, List.length_cons, List.length_nil, List.replicate, List.set_cons_zero, List.set_cons_succ, Nat.reduceLT, Bool.not_true, Bool.not_false, Int.toNat_natCast, inR, Nat.zero_add, Int.toNat_zero, reduceCtorEq, IntKind.bits, List.nil_append, List.cons_append, Nat.add_zero, Nat.sub_zero, noughts_len, List.map_cons, List.map_nil, zp, zu]) | refine And.intro ?_ (fun hif => (hif trivial).elim) | (intro hif; try (first | contradiction | (exfalso; omega))))
      all_goals exact ⟨_, rfl, Grow.refl hwf _ _, obj_nil _ _ _ _ _⟩
  · rw [turnedBy, if_neg fun h => hR h.1]
    have c0 := c0.no hR
    repeat' (first | refine xA ?_ | refine xB ?_ | refine xC ?_ | refine xD ?_ | refine xE ?_ | refine xF ?_ | refine xG ?_ | refine xH ?_ | refine xI rfl ?_ | refine xJ ?_ | refine xK ?_ | refine xL ?_ | refine xM rfl ?_ | refine xN rfl ?_ | refine xO rfl ?_ | (first | refine xP rfl (fun hif => ?_) (fun hif => ?_) | refine xQ rfl (fun hif => ?_) (fun hif => ?_) | refine xR rfl (fun hif => ?_) (fun hif => ?_) | refine xS rfl (fun hif => ?_) (fun hif => ?_)) <;> try (first | contradiction | (exfalso; omega)) | (refine hK _ _ ?_; clear hK K) | refine AQuiet.call c0 trivial ?_ | (refine And.intro (by first | omega | assumption | (constructor <;> omega)) ?_) | (refine And.intro (fun hif => ?_) (fun hif => ?_) <;> try (first | contradiction | (exfalso; omega))) | ((first | refine xT fun K hK => ?_ | refine xU fun K hK => ?_ | refine yB (fun K hK => ?_) (fun K hK => ?_) | refine xV ?_ | refine yA ?_ | refine xW ?_ | refine xX ?_ | refine xY ?_ | refine xZ ?_) <;> simp only [↓awpOps, ↓awpKeep, ↓awpKeepF, ↓aop, ↓aopQ, ↓abin, ↓aun, ↓onSome_some, ↓Kont_at, ↓KM_at, ↓KV_at, ↓KU_at, refId_row, Frame.ev, Frame.evs, Frame.evOr, Frame.put, Frame.keep, get_nil, get_cons, argFrame, resOf, fillA, Vals.len, Vals.get, Vals.set, Vals.app, Vals.sub, Vals.take, Vals.ofAgg_cons, Vals.ofList, Vals.toInts, Vals.toBools, Vals.toSls, Vals.toStrs, Vals.zeros, Nat.reduceBEq, Nat.reduceAdd, Nat.reduceEqDiff, cond_true, cond_false, Option.map_some, Option.map_none, List.length_cons, List.length_nil, List.replicate, List.set_cons_zero, List.set_cons_succ, Nat.reduceLT, Bool.not_true, Bool.not_false, Int.toNat_natCast, inR, Nat.zero_add, Int.toNat_zero, reduceCtorEq, IntKind.bits, List.nil_append, List.cons_append, Nat.add_zero, Nat.sub_zero, noughts_len, List.map_cons, List.map_nil, zp, zu]) | refine And.intro ?_ (fun hif => (hif trivial).elim) | (intro hif; try (first | contradiction | (exfalso; omega))))
    all_goals exact ⟨_, rfl, Grow.refl hwf _ _, obj_nil _ _ _ _ _⟩

theorem impl_RoundDifferences (s t : SV) (net row : List Int) (ring : Int) (m : Heap) (hs : IsInts .i64 m s net) (ht : IsInts .i64 m t row) : ARet Try.prog F.impl_RoundDifferences [.one (.sl s), .one (.sl t), .one (.int .i64 ring)] m Ty.int (.ints .i64 (roundDiffs net row ring)) := by
  refine arn T.impl_RoundDifferences (by rfl) fun hwf => ?_
  have c0 := impl_isOnRing s t net row ring m hs ht
  by_cases hR : RingOk net row ring
  · have c0 := c0.yes hR
    have hsz := hR.size
    have hlen := hR.low.len
    have hdf : diffs net row = perWire dist net row := if_pos hR.rowOk
    have hrd : roundDiffs net row ring = perWire (roundD ring) net row := if_pos hR
    have hDl := perWire_len dist net row
    have hVl := perWire_len (roundD ring) net row
    have hDk : ∀ k, k < (wires net).length → (perWire (roundD ring) net row).getD k 0 = min ((perWire dist net row).getD k 0) (ring - (perWire dist net row).getD k 0) ∧ 0 ≤ (perWire dist net row).getD k 0 ∧ (perWire dist net row).getD k 0 ≤ 31 := fun k hk => by
      obtain ⟨x, y, e0, q1, q2, q3, q4⟩ := wire_at hk
      rw [perWire_get _ hk e0, perWire_get _ hk e0]
      have h1 := hR.low.low x (by omega)
      have h2 := hR.low.low y (by omega)
      refine ⟨rfl, ?_⟩
      unfold dist
      split <;> omega
    have hW := wires_len hR.low.ok
    rw [hrd]
    repeat' (first | refine xA ?_ | refine xB ?_ | refine xC ?_ | refine xD ?_ | refine xE ?_ | refine xF ?_ | refine xG ?_ | refine xH ?_ | refine xI rfl ?_ | refine xJ ?_ | refine xK ?_ | refine xL ?_ | refine xM rfl ?_ | refine xN rfl ?_ | refine xO rfl ?_ | (first | refine xP rfl (fun hif => ?_) (fun hif => ?_) | refine xQ rfl (fun hif => ?_) (fun hif => ?_) | refine xR rfl (fun hif => ?_) (fun hif => ?_) | refine xS rfl (fun hif => ?_) (fun hif => ?_)) <;> try (first | contradiction | (exfalso; omega)) | (refine hK _ _ ?_; clear hK K) | refine AQuiet.call c0 trivial ?_ | (refine ARet.call (impl_Differences s t net row _ hs ht) fun s1 m1 g1 o1 => ?_; rw [hdf] at o1; obtain ⟨sref, soff, slen⟩ := s1; obtain rfl : slen = (perWire dist net row).length := o1.isInts.1) | (refine And.intro (by first | omega | assumption | (constructor <;> omega)) ?_) | (refine And.intro (fun hif => ?_) (fun hif => ?_) <;> try (first | contradiction | (exfalso; omega))) | ((first | refine xT fun K hK => ?_ | refine xU fun K hK => ?_ | refine yB (fun K hK => ?_) (fun K hK => ?_) | refine xV ?_ | refine yA ?_ | refine xW ?_ | refine xX ?_ | refine xY ?_ | refine xZ ?_) <;> simp only [↓awpOps, ↓awpKeep, ↓awpKeepF, ↓aop, ↓aopQ, ↓abin, ↓aun, ↓onSome_some, ↓Kont_at, ↓KM_at, ↓KV_at, ↓KU_at, refId_row, Frame.ev, Frame.evs, Frame.evOr, Frame.put, Frame.keep, get_nil, get_cons, argFrame, resOf, fillA, Vals.len, Vals.get, Vals.set, Vals.app, Vals.sub, Vals.take, Vals.ofAgg_cons, Vals.ofList, Vals.toInts, Vals.toBools, Vals.toSls, Vals.toStrs, Vals.zeros, Nat.reduceBEq, Nat.reduceAdd, Nat.reduceEqDiff, cond_true, cond_false, Option.map_some, Option.map_none, List.length_cons, List.length_nil, List.replicate, List.set_cons_zero, List.set_cons_succ, Nat.reduceLT, Bool.not_true, Bool.not_false, Int.toNat_natCast, inR, Nat.zero_add, Int.toNat_zero, reduceCtorEq, IntKind.bits, List.nil_append, List.cons_append, Nat.add_zero, Nat.sub_zero, noughts_len, List.map_cons, List.map_nil, zp, zu]) | refine And.intro ?_ (fun hif => (hif trivial).elim) | (intro hif; try (first | contradiction | (exfalso; omega))))
    have hI := o1.isInts
    have hwf1 := g1.wf
    generalize perWire dist net row = D at *
    generalize perWire (roundD ring) net row = V at *
    generalize (wires net).length = n at *
    rw [hDl]
    refine awp_loop ?_
    refine ALoop.by [2, 7, 8, 9] (fun k : Nat => [(2, .one (.int .i64 ring)), (7, .one (.sl ⟨sref, soff, n⟩)), (8, .one (.sl ⟨.row m1.length, 0, n⟩)), (9, .one (.int .i64 k))]) (fun k => m1 ++ [⟨Ty.int, m1.length, true, .ints .i64 (V.take k ++ List.replicate (V.length - k) 0)⟩]) (fun k => k ≤ n) (fun k => n - k) 0 rfl (by simp [hVl]) (Nat.zero_le _) ?_
    intro k hk K1 hK1
    by_cases hlt : k < n
    · have hrow := (hI.pre (prefix_push m1 ⟨Ty.int, m1.length, true, .ints .i64 (V.take k ++ List.replicate (V.length - k) 0)⟩)).2 k (by omega)
      have hst := set_take V 0 0 (k := k) (by omega)
      obtain ⟨hd1, hd2, hd3⟩ := hDk k hlt
      rw [hd1] at hst
      have hlen : (V.take k ++ List.replicate (V.length - k) (0 : Int)).length = n := by simp; omega
      generalize D.getD k 0 = d at *
      repeat' (first | refine xA ?_ | refine xB ?_ | refine xC ?_ | refine xD ?_ | refine xE ?_ | refine xF ?_ | refine xG ?_ | refine xH ?_ | refine xI rfl ?_ | refine xJ ?_ | refine xK ?_ | refine xL ?_ | refine xM rfl ?_ | refine xN rfl ?_ | refine xO rfl ?_ | (first | refine xP rfl (fun hif => ?_) (fun hif => ?_) | refine xQ rfl (fun hif => ?_) (fun hif => ?_) | refine xR rfl (fun hif => ?_) (fun hif => ?_) | refine xS rfl (fun hif => ?_) (fun hif => ?_)) <;> try (first | contradiction | (exfalso; omega)) | (refine hK _ _ ?_; clear hK K) | refine onSome_of hrow ?_ | refine AQuiet.call (impl_lesserOf _ _ _) trivial ?_ | refine AQuiet.callq (impl_lesserOf _ _ _) trivial ?_ | refine st_last hwf1 (by simp only [Vals.len, hlen]; omega) rfl ?_ | (refine And.intro (by first | omega | assumption | (constructor <;> omega)) ?_) | (refine And.intro (fun hif => ?_) (fun hif => ?_) <;> try (first | contradiction | (exfalso; omega))) | ((first | refine xT fun K hK => ?_ | refine xU fun K hK => ?_ | refine yB (fun K hK => ?_) (fun K hK => ?_) | refine xV ?_ | refine yA ?_ | refine xW ?_ | refine xX ?_ | refine xY ?_ | refine xZ ?_) <;> simp only [↓awpOps, ↓awpKeep, ↓awpKeepF, ↓aop, ↓aopQ, ↓abin, ↓aun, ↓onSome_some, ↓Kont_at, ↓KM_at, ↓KV_at, ↓KU_at, refId_row, Frame.ev, Frame.evs, Frame.evOr, Frame.put, Frame.keep, get_nil, get_cons, argFrame, resOf, fillA, Vals.len, Vals.get, Vals.set, Vals.app, Vals.sub, Vals.take, Vals.ofAgg_cons, Vals.ofList, Vals.toInts, Vals.toBools, Vals.toSls, Vals.toStrs, Vals.zeros, Nat.reduceBEq, Nat.reduceAdd, Nat.reduceEqDiff, cond_true, cond_false, Option.map_some, Option.map_none, List.length_cons, List.length_nil, List.replicate, List.set_cons_zero, List.set_cons_succ, Nat.reduceLT, Bool.not_true, Bool.not_false, Int.toNat_natCast, inR, Nat.zero_add, Int.toNat_zero, reduceCtorEq, IntKind.bits, List.nil_append, List.cons_append, Nat.add_zero, Nat.sub_zero, noughts_len, List.map_cons, List.map_nil, zp, zu]) | refine And.intro ?_ (fun hif => (hif trivial).elim) | (intro hif; try (first | contradiction | (exfalso; omega))))
      refine hK1 (k + 1) _ _ rfl ?_ (by omega) (by omega)
      rw [hst]
    · obtain rfl : k = n := by omega
      have e : V.take k ++ List.replicate (V.length - k) (0 : Int) = V := by rw [← hVl, List.take_length, Nat.sub_self, List.replicate_zero, List.append_nil]
      rw [e]
      repeat' (first | refine xA ?_ | refine xB ?_ | refine xC ?_ | refine xD ?_ | refine xE ?_ | refine xF ?_ | refine xG ?_ | refine xH ?_ | refine xI rfl ?_ | refine xJ ?_ | refine xK ?_ | refine xL ?_ | refine xM rfl ?_ | refine xN rfl ?_ | refine xO rfl ?_ | (first | refine xP rfl (fun hif => ?_) (fun hif => ?_) | refine xQ rfl (fun hif => ?_) (fun hif => ?_) | refine xR rfl (fun hif => ?_) (fun hif => ?_) | refine xS rfl (fun hif => ?_) (fun hif => ?_)) <;> try (first | contradiction | (exfalso; omega)) | (refine hK _ _ ?_; clear hK K) | (refine And.intro (by first | omega | assumption | (constructor <;> omega)) ?_) | (refine And.intro (fun hif => ?_) (fun hif => ?_) <;> try (first | contradiction | (exfalso; omega))) | ((first | refine xT fun K hK => ?_ | refine xU fun K hK => ?_ | refine yB (fun K hK => ?_) (fun K hK => ?_) | refine xV ?_ | refine yA ?_ | refine xW ?_ | refine xX ?_ | refine xY ?_ | refine xZ ?_) <;> simp only [↓awpOps, ↓awpKeep, ↓awpKeepF, ↓aop, ↓aopQ, ↓abin, ↓aun, ↓onSome_some, ↓Kont_at, ↓KM_at, ↓KV_at, ↓KU_at, refId_row, Frame.ev, Frame.evs, Frame.evOr, Frame.put, Frame.keep, get_nil, get_cons, argFrame, resOf, fillA, Vals.len, Vals.get, Vals.set, Vals.app, Vals.sub, Vals.take, Vals.ofAgg_cons, Vals.ofList, Vals.toInts, Vals.toBools, Vals.toSls, Vals.toStrs, Vals.zeros, Nat.reduceBEq, Nat.reduceAdd, Nat.reduceEqDiff, cond_true, cond_false, Option.map_some, Option.map_none, List.length_cons, List.length_nil, List.replicate, List.set_cons_zero, List.set_cons_succ, Nat.reduceLT, Bool.not_true, Bool.not_false, Int.toNat_natCast, inR, Nat.zero_add, Int.toNat_zero, reduceCtorEq, IntKind.bits, List.nil_append, List.cons_append, Nat.add_zero, Nat.sub_zero, noughts_len, List.map_cons, List.map_nil, zp, zu]) | refine And.intro ?_ (fun hif => (hif trivial).elim) | (intro hif; try (first | contradiction | (exfalso; omega))))
      exact ⟨_, rfl, g1.trans (Grow.push hwf1 _ _ _), obj_new _ _ (by simp [Vals.len, hVl]) g1.le (by simp)⟩
  · rw [roundDiffs, if_neg hR]
    have c0 := c0.no hR
    repeat' (first | refine xA ?_ | refine xB ?_ | refine xC ?_ | refine xD ?_ | refine xE ?_ | refine xF ?_ | refine xG ?_ | refine xH ?_ | refine xI rfl ?_ | refine xJ ?_ | refine xK ?_ | refine xL ?_ | refine xM rfl ?_ | refine xN rfl ?_ | refine xO rfl ?_ | (first | refine xP rfl (fun hif => ?_) (fun hif => ?_) | refine xQ rfl (fun hif => ?_) (fun hif => ?_) | refine xR rfl (fun hif => ?_) (fun hif => ?_) | refine xS rfl (fun hif => ?_) (fun hif => ?_)) <;> try (first | contradiction | (exfalso; omega)) | (refine hK _ _ ?_; clear hK K) | refine AQuiet.call c0 trivial ?_ | (refine And.intro (by first | omega | assumption | (constructor <;> omega)) ?_) | (refine And.intro (fun hif => ?_) (fun hif => ?_) <;> try (first | contradiction | (exfalso; omega))) | ((first | refine xT fun K hK => ?_ | refine xU fun K hK => ?_ | refine yB (fun K hK => ?_) (fun K hK => ?_) | refine xV ?_ | refine yA ?_ | refine xW ?_ | refine xX ?_ | refine xY ?_ | refine xZ ?_) <;> simp only [↓awpOps, ↓awpKeep, ↓awpKeepF, ↓aop, ↓aopQ, ↓abin, ↓aun, ↓onSome_some, ↓Kont_at, ↓KM_at, ↓KV_at, ↓KU_at, refId_row, Frame.ev, Frame.evs, Frame.evOr, Frame.put, Frame.keep, get_nil, get_cons, argFrame, resOf, fillA, Vals.len, Vals.get, Vals.set, Vals.app, Vals.sub, Vals.take, Vals.ofAgg_cons, Vals.ofList, Vals.toInts, Vals.toBools, Vals.toSls, Vals.toStrs, Vals.zeros, Nat.reduceBEq, Nat.reduceAdd, Nat.reduceEqDiff, cond_true, cond_false, Option.map_some, Option.map_none, List.length_cons, List.length_nil, List.replicate, List.set_cons_zero, List.set_cons_succ, Nat.reduceLT, Bool.not_true, Bool.not_false, Int.toNat_natCast, inR, Nat.zero_add, Int.toNat_zero, reduceCtorEq, IntKind.bits, List.nil_append, List.cons_append, Nat.add_zero, Nat.sub_zero, noughts_len, List.map_cons, List.map_nil, zp, zu]) | refine And.intro ?_ (fun hif => (hif trivial).elim) | (intro hif; try (first | contradiction | (exfalso; omega))))
    all_goals exact ⟨_, rfl, Grow.refl hwf _ _, obj_nil _ _ _ _ _⟩

/-! ### The table of all pairs, with room for the greatest ring -/

structure TabW (net row : List Int) (ring : Int) (t k : Nat) (L : List Int) : Prop where
  len : L.length = 961
  low : ∀ i, i < L.length → 0 ≤ (L.getD i 0) ∧ (L.getD i 0) ≤ 36 * (t : Int) + k
  pair : ∀ a b : Nat, a < b → b < ring.toNat → L.getD (a * 31 + b) 0 = cnt net row ring t k a b

theorem tabW_none (net row : List Int) (ring : Int) : TabW net row ring 0 0 (noughts 961) :=
  ⟨noughts_len _, fun i _ => by rw [noughts_get]; omega, fun a b _ _ => by rw [noughts_get, cnt_none]⟩
theorem TabW.turn {net row : List Int} {ring : Int} {t : Nat} {L : List Int} (hW : (wires net).length ≤ 36) (h : TabW net row ring t (wires net).length L) : TabW net row ring (t + 1) 0 L :=
  ⟨h.len, fun i hi => by have := h.low i hi; omega, fun a b h1 h2 => by rw [cnt_turn]; exact h.pair a b h1 h2⟩
theorem TabW.step {net row : List Int} {ring : Int} (hr : ring ≤ 31) {t k : Nat} {L : List Int} (h : TabW net row ring t k L) {a b : Nat} (hab : a < b) (hb : b < ring.toNat)
    (ea : min ((((fsts net row).getD k 0) + t) % ring) ((((snds net row).getD k 0) + t) % ring) = a) (eb : max ((((fsts net row).getD k 0) + t) % ring) ((((snds net row).getD k 0) + t) % ring) = b) :
    TabW net row ring t (k + 1) (L.set (a * 31 + b) (L.getD (a * 31 + b) 0 + 1)) := by
  have hlt : a * 31 + b < L.length := by rw [h.len]; omega
  have g : ∀ i, (L.set (a * 31 + b) (L.getD (a * 31 + b) 0 + 1)).getD i 0 = if i = a * 31 + b then L.getD (a * 31 + b) 0 + 1 else (L.getD i 0) := fun i => by
    rw [List.getD_eq_getElem?_getD, List.getElem?_set]
    by_cases e : i = a * 31 + b
    · subst e
      rw [if_pos rfl, if_pos rfl, if_pos hlt]
      rfl
    · rw [if_neg (fun c => e c.symm), if_neg e, List.getD_eq_getElem?_getD]
  refine ⟨by rw [List.length_set]; exact h.len, fun i hi => ?_, fun c d hcd hd => ?_⟩
  · rw [List.length_set] at hi
    rw [g]
    have h1 := h.low i hi
    have h2 := h.low _ hlt
    split <;> omega
  · rw [g, cnt_step]
    have hp := h.pair c d hcd hd
    unfold hit
    rw [ea, eb]
    by_cases e : c * 31 + d = a * 31 + b
    · obtain ⟨e1, e2⟩ : c = a ∧ d = b := by omega
      subst e1
      subst e2
      rw [if_pos rfl, if_pos ⟨rfl, rfl⟩, hp]
    · rw [if_neg e, if_neg fun q => e (by
        have q1 : a = c := by omega
        have q2 : b = d := by omega
        rw [q1, q2]), hp, Int.add_zero]

/-- A part of the table is what pairs with one lesser number come to. -/
theorem part_pairs {f : Nat → Nat → Int} {L : List Int} {a n : Nat} (hL : L.length = 961) (hn : n ≤ 31) (han : a < n) (h : ∀ b, a < b → b < n → L.getD (a * 31 + b) 0 = f a b) : ∀ {b : Nat}, b ≤ n → a < b → (L.drop (a * 31 + (a + 1))).take (b - (a + 1)) = pairsIn f a b
  | 0, _, h0 => absurd h0 (Nat.not_lt_zero _)
  | b + 1, hb, hab => by
    by_cases c : a < b
    · have ih := part_pairs hL hn han h (by omega : b ≤ n) c
      rw [pairsIn, if_pos c, ← ih, take_push (L.drop (a * 31 + (a + 1))) (k := b - (a + 1)) (by rw [List.length_drop]; omega) (z := f a b)]
      · congr 1; omega
      · rw [← h b c (by omega), List.getD_eq_getElem?_getD, List.getElem?_drop, List.getD_eq_getElem?_getD]
        congr 2
        omega
    · obtain rfl : b = a := by omega
      rw [pairsIn_nil f b (Nat.le_refl _), Nat.sub_self]
      rfl

/-- append(s, x[xo..xo+xl]...): a part of a row, to nothing or to a slice of the call's own. -/
theorem app_sub {e : TypeId} {s : SV} {m : Heap} {K : XV → Heap → Prop} {l L : List Int} {f xi xo xl ex fx : Nat} {ox : Bool} (hwf : m.wf) (hs : Acc e f m s (.ints .i64 l)) (hrx : m[xi]? = some ⟨ex, fx, ox, .ints .i64 L⟩) (hxl : xo + xl ≤ L.length) (hlen : l.length + xl ≤ 1000000000)
    (hk : ∀ (s' : SV) (m' : Heap) (f' : Nat), m <+: m' → (∀ a b, (s = SV.nil ∨ a ≤ f ∧ f < b) → Grow a b m m') → Acc e f' m' s' (.ints .i64 (l ++ (L.drop xo).take xl)) → (f' = f ∨ m.length ≤ f') → (s' = SV.nil ∨ f' < m'.length) → K (.one (.sl s')) m') : aApp e s ⟨.row xi, xo, xl⟩ m K := by
  rcases hs with ⟨rfl, h0⟩ | ⟨id, rfl, hid, hfam⟩
  · simp only [Vals.len] at h0
    obtain rfl := List.eq_nil_of_length_eq_zero h0
    simp only [aApp, hrx, Vals.len]
    refine ⟨⟨hxl, by simp; omega⟩, fun hz => ?_, fun hp => ?_⟩
    · subst hz
      exact hk _ _ f List.prefix_rfl (fun a b _ => Grow.refl hwf a b) (.inl ⟨rfl, by simp [Vals.len]⟩) (.inl rfl) (.inl rfl)
    · have hl : ((L.drop xo).take xl).length = xl := by rw [List.length_take, List.length_drop]; omega
      refine hk _ _ m.length (prefix_push _ _) (fun a b _ => (Grow.push hwf _ _ _).any a b) ?_ (.inr (Nat.le_refl _)) (.inr (by simp))
      exact acc_new hwf e (.ints .i64 ([] ++ (L.drop xo).take xl)) (by simp only [Vals.len, List.nil_append, hl])
  · have hfid := hwf id _ hid
    have hil := get_lt hid
    simp only at hfid
    have hl : ((L.drop xo).take xl).length = xl := by rw [List.length_take, List.length_drop]; omega
    have ht : (Vals.ints .i64 l).app ((Vals.ints .i64 L).sub xo xl) = some (.ints .i64 (l ++ (L.drop xo).take xl)) := by simp [Vals.app, Vals.sub]
    simp only [aApp, hid, hrx, Vals.take_len, ht]
    simp only [Vals.len] at hfam ⊢
    refine ⟨⟨hxl, by omega⟩, ⟨trivial, trivial, Nat.le_refl _, trivial⟩, ?_⟩
    rw [cutFam_self hfam]
    refine hk _ _ f (prefix_push _ _) (fun a b hab => ?_) (.inr ⟨m.length, by simp [Vals.len, hl], get_last _ _, fun j r hr ho hf => ?_⟩) (.inl rfl) (.inr (by simp; omega))
    · have hab := hab.resolve_left fun c => by cases c
      refine ⟨by simp, fun i r hr _ => row_at_push hr _, fun i r hi hr => ?_, fun i r hi hr => ?_, wf_push hwf (by omega)⟩
      · rcases get_push hr with ⟨_, h2⟩ | ⟨h1, _⟩
        · exact ⟨r, h2, rfl, rfl, Nat.le_refl _⟩
        · omega
      · rcases get_push hr with ⟨h1, _⟩ | ⟨_, rfl⟩
        · omega
        · exact .inr hab
    · rcases get_push hr with ⟨_, h2⟩ | ⟨_, rfl⟩
      · have := hfam j r h2 ho hf; simp only [Vals.len, List.length_append]; omega
      · exact Nat.le_refl _

theorem st_agg_last {m : Heap} {e n : Nat} {v v' : Vals} {l : List AV} {K : Heap → Prop} (hwf : m.wf) (hn : n = l.length) (hlen : v.len = n) (hv : Vals.ofAgg l = v') (hk : K (m ++ [⟨e, m.length, true, v'⟩])) : aStA (m ++ [⟨e, m.length, true, v⟩]) m.length 0 n l K := by
  unfold aStA
  rw [get_last]
  refine ⟨⟨rfl, rfl, hn, hlen⟩, ?_⟩
  rw [hv, setRow_last hwf]
  exact hk

set_option maxHeartbeats 8000000 in
theorem impl_turnedWires_g {s t : SV} {net row : List Int} {n : Nat} {m : Heap} {K : XV → Heap → Prop} (hs : IsInts .i64 m s net) (ht : IsInts .i64 m t row) (hR : RingOk net row (n : Int))
    (hK : ∀ (L : List Int) (m' : Heap), Grow 0 0 m m' → TabW net row (n : Int) n 0 L → K (.agg (L.map (AV.int .i64))) m') : ACalls Try.prog F.impl_turnedWires [.one (.sl s), .one (.sl t), .one (.int .i64 (n : Int))] m K := by
  refine ACalls.wf fun hwf => ?_
  have hsz := hR.size
  have hN := hR.low.ok
  have h6 := hN.six
  have hl := hR.low.len
  have hlow := hR.low.low
  have hW := wires_len hN
  have ga := Grow.push hwf Ty.Arr31_Arr31_int true (.ints .i64 (noughts 961))
  have gb := ga.trans (Grow.push ga.wf Ty.Arr31_Arr31_int true (.ints .i64 (noughts 961)))
  have hlm : (m ++ [(⟨Ty.Arr31_Arr31_int, m.length, true, .ints .i64 (noughts 961)⟩ : Row)]).length = m.length + 1 := by simp
  rw [hlm] at gb
  have ra := row_at_push (get_last m ⟨Ty.Arr31_Arr31_int, m.length, true, .ints .i64 (noughts 961)⟩) ⟨Ty.Arr31_Arr31_int, m.length + 1, true, .ints .i64 (noughts 961)⟩
  have rb := get_last (m ++ [(⟨Ty.Arr31_Arr31_int, m.length, true, .ints .i64 (noughts 961)⟩ : Row)]) ⟨Ty.Arr31_Arr31_int, m.length + 1, true, .ints .i64 (noughts 961)⟩
  rw [hlm] at rb
  have hlb : (m ++ [(⟨Ty.Arr31_Arr31_int, m.length, true, .ints .i64 (noughts 961)⟩ : Row)] ++ [(⟨Ty.Arr31_Arr31_int, m.length + 1, true, .ints .i64 (noughts 961)⟩ : Row)]).length = m.length + 2 := by simp
  refine afna T.impl_turnedWires (by rfl) ?_
  repeat' (first | refine xA ?_ | refine xB ?_ | refine xC ?_ | refine xD ?_ | refine xE ?_ | refine xF ?_ | refine xG ?_ | refine xH ?_ | refine xI rfl ?_ | refine xJ ?_ | refine xK ?_ | refine xL ?_ | refine xM rfl ?_ | refine xN rfl ?_ | refine xO rfl ?_ | (first | refine xP rfl (fun hif => ?_) (fun hif => ?_) | refine xQ rfl (fun hif => ?_) (fun hif => ?_) | refine xR rfl (fun hif => ?_) (fun hif => ?_) | refine xS rfl (fun hif => ?_) (fun hif => ?_)) <;> try (first | contradiction | (exfalso; omega)) | (refine hK _ _ ?_; clear hK K) | rw [hlm] | (refine impl_WireList_g (hs.pre gb.pre0) hN fun s1 m1 hg1 hL => ?_; obtain ⟨sref, soff, slen⟩ := s1; obtain rfl : slen = (wires net).length := hL.len) | (refine And.intro (by first | omega | assumption | (constructor <;> omega)) ?_) | (refine And.intro (fun hif => ?_) (fun hif => ?_) <;> try (first | contradiction | (exfalso; omega))) | ((first | refine xT fun K hK => ?_ | refine xU fun K hK => ?_ | refine yB (fun K hK => ?_) (fun K hK => ?_) | refine xV ?_ | refine yA ?_ | refine xW ?_ | refine xX ?_ | refine xY ?_ | refine xZ ?_) <;> simp only [↓awpOps, ↓awpKeep, ↓awpKeepF, ↓aop, ↓aopQ, ↓abin, ↓aun, ↓onSome_some, ↓Kont_at, ↓KM_at, ↓KV_at, ↓KU_at, refId_row, Frame.ev, Frame.evs, Frame.evOr, Frame.put, Frame.keep, get_nil, get_cons, argFrame, resOf, fillA, Vals.len, Vals.get, Vals.set, Vals.app, Vals.sub, Vals.take, Vals.ofAgg_cons, Vals.ofList, Vals.toInts, Vals.toBools, Vals.toSls, Vals.toStrs, Vals.zeros, Nat.reduceBEq, Nat.reduceAdd, Nat.reduceEqDiff, cond_true, cond_false, Option.map_some, Option.map_none, List.length_cons, List.length_nil, List.replicate, List.set_cons_zero, List.set_cons_succ, Nat.reduceLT, Bool.not_true, Bool.not_false, Int.toNat_natCast, inR, Nat.zero_add, Int.toNat_zero, reduceCtorEq, IntKind.bits, List.nil_append, List.cons_append, Nat.add_zero, Nat.sub_zero, noughts_len, List.map_cons, List.map_nil, zp, zu]) | refine And.intro ?_ (fun hif => (hif trivial).elim) | (intro hif; try (first | contradiction | (exfalso; omega))))
  have gm1 := gb.trans hg1
  have r1a := row_prefix0 hg1.pre0 ra
  have r1b := row_prefix0 hg1.pre0 rb
  have hle1 := hg1.le
  rw [hlb] at hle1 hL
  have hp1 := gm1.pre0
  refine awp_loop ?_
  refine ALoop.by [0, 1, 2, 6, 7, 8, 9] (fun a : Nat × List Int × Heap => [(0, .one (.sl s)), (1, .one (.sl t)), (2, .one (.int .i64 (n : Int))), (6, .one (.ptr m.length 0)), (7, .one (.ptr (m.length + 1) 0)), (8, .one (.sl ⟨sref, soff, (wires net).length⟩)), (9, .one (.int .i64 a.1))]) (fun a => a.2.2)
    (fun a => a.1 ≤ n ∧ TabW net row (n : Int) a.1 0 a.2.1 ∧ Grow (m.length + 1) (m.length + 2) m1 a.2.2 ∧ a.2.2[m.length + 1]? = some ⟨Ty.Arr31_Arr31_int, m.length + 1, true, .ints .i64 a.2.1⟩) (fun a => n - a.1) (0, noughts 961, m1) rfl rfl ⟨Nat.zero_le _, tabW_none net row n, Grow.refl hg1.wf _ _, r1b⟩ ?_
  rintro ⟨by', L, mo⟩ ⟨htn, hTab, hgo, hro⟩ K1 hK1
  simp only at htn hTab hgo hro
  by_cases htl : by' < n
  · have htI : (by' : Int) < (n : Int) := by omega
    have hpo := hgo.pre hp1 hwf (by omega)
    repeat' (first | refine xA ?_ | refine xB ?_ | refine xC ?_ | refine xD ?_ | refine xE ?_ | refine xF ?_ | refine xG ?_ | refine xH ?_ | refine xI rfl ?_ | refine xJ ?_ | refine xK ?_ | refine xL ?_ | refine xM rfl ?_ | refine xN rfl ?_ | refine xO rfl ?_ | (first | refine xP rfl (fun hif => ?_) (fun hif => ?_) | refine xQ rfl (fun hif => ?_) (fun hif => ?_) | refine xR rfl (fun hif => ?_) (fun hif => ?_) | refine xS rfl (fun hif => ?_) (fun hif => ?_)) <;> try (first | contradiction | (exfalso; omega)) | (refine hK _ _ ?_; clear hK K) | (refine ARet.call (impl_TurnedBy s t net row (n : Int) (by' : Int) _ (hs.pre hpo) (ht.pre hpo)) fun s5 m5 g5 o5 => ?_) | (refine And.intro (by first | omega | assumption | (constructor <;> omega)) ?_) | (refine And.intro (fun hif => ?_) (fun hif => ?_) <;> try (first | contradiction | (exfalso; omega))) | ((first | refine xT fun K hK => ?_ | refine xU fun K hK => ?_ | refine yB (fun K hK => ?_) (fun K hK => ?_) | refine xV ?_ | refine yA ?_ | refine xW ?_ | refine xX ?_ | refine xY ?_ | refine xZ ?_) <;> simp only [↓awpOps, ↓awpKeep, ↓awpKeepF, ↓aop, ↓aopQ, ↓abin, ↓aun, ↓onSome_some, ↓Kont_at, ↓KM_at, ↓KV_at, ↓KU_at, refId_row, Frame.ev, Frame.evs, Frame.evOr, Frame.put, Frame.keep, get_nil, get_cons, argFrame, resOf, fillA, Vals.len, Vals.get, Vals.set, Vals.app, Vals.sub, Vals.take, Vals.ofAgg_cons, Vals.ofList, Vals.toInts, Vals.toBools, Vals.toSls, Vals.toStrs, Vals.zeros, Nat.reduceBEq, Nat.reduceAdd, Nat.reduceEqDiff, cond_true, cond_false, Option.map_some, Option.map_none, List.length_cons, List.length_nil, List.replicate, List.set_cons_zero, List.set_cons_succ, Nat.reduceLT, Bool.not_true, Bool.not_false, Int.toNat_natCast, inR, Nat.zero_add, Int.toNat_zero, reduceCtorEq, IntKind.bits, List.nil_append, List.cons_append, Nat.add_zero, Nat.sub_zero, noughts_len, List.map_cons, List.map_nil, zp, zu]) | refine And.intro ?_ (fun hif => (hif trivial).elim) | (intro hif; try (first | contradiction | (exfalso; omega))))
    have hturn : turnedBy net row (n : Int) (by' : Int) = row.map (fun z => (z + (by' : Int)) % (n : Int)) := by rw [turnedBy, if_pos (And.intro hR (And.intro (by omega) (by omega)))]
    rw [hturn] at o5
    obtain ⟨tref, toff, tlen⟩ := s5
    obtain rfl : tlen = row.length := by have := o5.isInts.1; simpa using this
    have hgo5 := hgo.trans (g5.any _ _)
    have hro5 := row_prefix0 g5.pre0 hro
    have hleo := hgo.le
    have hle5 := g5.le
    refine awp_loop ?_
    refine ALoop.by [0, 1, 2, 6, 7, 8, 9, 10, 11] (fun a : Nat × List Int × Heap => [(0, .one (.sl s)), (1, .one (.sl t)), (2, .one (.int .i64 (n : Int))), (6, .one (.ptr m.length 0)), (7, .one (.ptr (m.length + 1) 0)), (8, .one (.sl ⟨sref, soff, (wires net).length⟩)), (9, .one (.int .i64 by')), (10, .one (.sl ⟨tref, toff, row.length⟩)), (11, .one (.int .i64 a.1))]) (fun a => a.2.2)
      (fun a => a.1 ≤ (wires net).length ∧ TabW net row (n : Int) by' a.1 a.2.1 ∧ Grow (m.length + 1) (m.length + 2) m5 a.2.2 ∧ a.2.2[m.length + 1]? = some ⟨Ty.Arr31_Arr31_int, m.length + 1, true, .ints .i64 a.2.1⟩) (fun a => (wires net).length - a.1) (0, L, m5) rfl rfl ⟨Nat.zero_le _, hTab, Grow.refl g5.wf _ _, hro5⟩ ?_
    rintro ⟨k, L2, m2⟩ ⟨hk, hTab2, hg2, hr2⟩ K2 hK2
    simp only at hk hTab2 hg2 hr2
    by_cases hlt : k < (wires net).length
    · have hL2 := (LObj.mk hg1.wf hL).grow (hgo5.trans hg2) (.inr (by omega))
      obtain ⟨x, y, wi, f1, f2, f3, f4, f5, f6, f7, f8⟩ := hL2.is.wire hlt
      have hI := (o5.grow hg2 (.inr (by omega))).isInts
      have hx := hI.2 x (by rw [List.length_map]; omega)
      have hy := hI.2 y (by rw [List.length_map]; omega)
      rw [map_get _ (by omega)] at hx hy
      have hdx := hlow x (by omega)
      have hdy := hlow y (by omega)
      obtain ⟨a, b, hab, hbn, ea, eb⟩ := turned_pair hR hlt (t := by') (by rw [Int.toNat_natCast]; exact htl)
      have hst := hTab2.step hsz.2 hab hbn ea eb
      have eF : (fsts net row).getD k 0 = (row.getD x 0) := perWire_get _ hlt f8
      have eS : (snds net row).getD k 0 = (row.getD y 0) := perWire_get _ hlt f8
      rw [eF, eS] at ea eb
      rw [Int.toNat_natCast] at hbn
      have hLl := hTab2.len
      have hv := hTab2.low (a * 31 + b) (by omega)
      have hat : Heap.at m2 (m.length + 1) (a * 31 + b) = some (.int .i64 (L2.getD (a * 31 + b) 0)) := at_row hr2 (by simp only [Vals.len]; omega)
      have hmn := impl_lesserOf (((row.getD x 0) + by') % (n : Int)) (((row.getD y 0) + by') % (n : Int)) m2
      have hmx := impl_greaterOf (((row.getD x 0) + by') % (n : Int)) (((row.getD y 0) + by') % (n : Int)) m2
      rw [ea] at hmn
      rw [eb] at hmx
      generalize hz : L2.getD (a * 31 + b) 0 = z at *
      repeat' (first | refine xA ?_ | refine xB ?_ | refine xC ?_ | refine xD ?_ | refine xE ?_ | refine xF ?_ | refine xG ?_ | refine xH ?_ | refine xI rfl ?_ | refine xJ ?_ | refine xK ?_ | refine xL ?_ | refine xM rfl ?_ | refine xN rfl ?_ | refine xO rfl ?_ | (first | refine xP rfl (fun hif => ?_) (fun hif => ?_) | refine xQ rfl (fun hif => ?_) (fun hif => ?_) | refine xR rfl (fun hif => ?_) (fun hif => ?_) | refine xS rfl (fun hif => ?_) (fun hif => ?_)) <;> try (first | contradiction | (exfalso; omega)) | (refine hK _ _ ?_; clear hK K) | refine onSome_of f1 ?_ | refine onSome_of f2 ?_ | refine onSome_of f3 ?_ | refine onSome_of hx ?_ | refine onSome_of hy ?_ | refine AQuiet.callq hmn trivial ?_ | refine AQuiet.callq hmx trivial ?_ | refine onSome_of hat ?_ | (refine st_row hg2.wf hr2 (by simp only [Vals.len]; omega) rfl fun m6 g6 l6 r6 => ?_) | (refine And.intro (by first | omega | assumption | (constructor <;> omega)) ?_) | (refine And.intro (fun hif => ?_) (fun hif => ?_) <;> try (first | contradiction | (exfalso; omega))) | ((first | refine xT fun K hK => ?_ | refine xU fun K hK => ?_ | refine yB (fun K hK => ?_) (fun K hK => ?_) | refine xV ?_ | refine yA ?_ | refine xW ?_ | refine xX ?_ | refine xY ?_ | refine xZ ?_) <;> simp only [↓awpOps, ↓awpKeep, ↓awpKeepF, ↓aop, ↓aopQ, ↓abin, ↓aun, ↓onSome_some, ↓Kont_at, ↓KM_at, ↓KV_at, ↓KU_at, refId_row, Frame.ev, Frame.evs, Frame.evOr, Frame.put, Frame.keep, get_nil, get_cons, argFrame, resOf, fillA, Vals.len, Vals.get, Vals.set, Vals.app, Vals.sub, Vals.take, Vals.ofAgg_cons, Vals.ofList, Vals.toInts, Vals.toBools, Vals.toSls, Vals.toStrs, Vals.zeros, Nat.reduceBEq, Nat.reduceAdd, Nat.reduceEqDiff, cond_true, cond_false, Option.map_some, Option.map_none, List.length_cons, List.length_nil, List.replicate, List.set_cons_zero, List.set_cons_succ, Nat.reduceLT, Bool.not_true, Bool.not_false, Int.toNat_natCast, inR, Nat.zero_add, Int.toNat_zero, reduceCtorEq, IntKind.bits, List.nil_append, List.cons_append, Nat.add_zero, Nat.sub_zero, noughts_len, List.map_cons, List.map_nil, zp, zu]) | refine And.intro ?_ (fun hif => (hif trivial).elim) | (intro hif; try (first | contradiction | (exfalso; omega))))
      exact hK2 (k + 1, _, m6) _ _ rfl rfl ⟨by simp only; omega, hst, hg2.trans g6, r6⟩ (by simp only; omega)
    · obtain rfl : k = (wires net).length := by omega
      repeat' (first | refine xA ?_ | refine xB ?_ | refine xC ?_ | refine xD ?_ | refine xE ?_ | refine xF ?_ | refine xG ?_ | refine xH ?_ | refine xI rfl ?_ | refine xJ ?_ | refine xK ?_ | refine xL ?_ | refine xM rfl ?_ | refine xN rfl ?_ | refine xO rfl ?_ | (first | refine xP rfl (fun hif => ?_) (fun hif => ?_) | refine xQ rfl (fun hif => ?_) (fun hif => ?_) | refine xR rfl (fun hif => ?_) (fun hif => ?_) | refine xS rfl (fun hif => ?_) (fun hif => ?_)) <;> try (first | contradiction | (exfalso; omega)) | (refine hK _ _ ?_; clear hK K) | (refine And.intro (by first | omega | assumption | (constructor <;> omega)) ?_) | (refine And.intro (fun hif => ?_) (fun hif => ?_) <;> try (first | contradiction | (exfalso; omega))) | ((first | refine xT fun K hK => ?_ | refine xU fun K hK => ?_ | refine yB (fun K hK => ?_) (fun K hK => ?_) | refine xV ?_ | refine yA ?_ | refine xW ?_ | refine xX ?_ | refine xY ?_ | refine xZ ?_) <;> simp only [↓awpOps, ↓awpKeep, ↓awpKeepF, ↓aop, ↓aopQ, ↓abin, ↓aun, ↓onSome_some, ↓Kont_at, ↓KM_at, ↓KV_at, ↓KU_at, refId_row, Frame.ev, Frame.evs, Frame.evOr, Frame.put, Frame.keep, get_nil, get_cons, argFrame, resOf, fillA, Vals.len, Vals.get, Vals.set, Vals.app, Vals.sub, Vals.take, Vals.ofAgg_cons, Vals.ofList, Vals.toInts, Vals.toBools, Vals.toSls, Vals.toStrs, Vals.zeros, Nat.reduceBEq, Nat.reduceAdd, Nat.reduceEqDiff, cond_true, cond_false, Option.map_some, Option.map_none, List.length_cons, List.length_nil, List.replicate, List.set_cons_zero, List.set_cons_succ, Nat.reduceLT, Bool.not_true, Bool.not_false, Int.toNat_natCast, inR, Nat.zero_add, Int.toNat_zero, reduceCtorEq, IntKind.bits, List.nil_append, List.cons_append, Nat.add_zero, Nat.sub_zero, noughts_len, List.map_cons, List.map_nil, zp, zu]) | refine And.intro ?_ (fun hif => (hif trivial).elim) | (intro hif; try (first | contradiction | (exfalso; omega))))
      exact hK1 (by' + 1, L2, m2) _ _ rfl rfl ⟨by simp only; omega, hTab2.turn hW, hgo5.trans hg2, hr2⟩ (by simp only; omega)
  · obtain rfl : by' = n := by omega
    have hLl := hTab.len
    have hml : (L.map (AV.int .i64)).length = 961 := by rw [List.length_map]; exact hLl
    have hro6 := hgo.keep _ _ r1a (.inl (Nat.lt_succ_self _))
    have hcl := cells_ints hro hLl.symm
    repeat' (first | refine xA ?_ | refine xB ?_ | refine xC ?_ | refine xD ?_ | refine xE ?_ | refine xF ?_ | refine xG ?_ | refine xH ?_ | refine xI rfl ?_ | refine xJ ?_ | refine xK ?_ | refine xL ?_ | refine xM rfl ?_ | refine xN rfl ?_ | refine xO rfl ?_ | (first | refine xP rfl (fun hif => ?_) (fun hif => ?_) | refine xQ rfl (fun hif => ?_) (fun hif => ?_) | refine xR rfl (fun hif => ?_) (fun hif => ?_) | refine xS rfl (fun hif => ?_) (fun hif => ?_)) <;> try (first | contradiction | (exfalso; omega)) | (refine hK _ _ ?_; clear hK K) | refine onCells_of hcl ?_ | refine st_agg hgo.wf hro6 hml.symm (noughts_len _) (Vals.ofAgg_all (by omega)) fun m7 g7 l7 r7 => ?_ | refine ret_agg rfl (cells_ints r7 hLl.symm) ?_ | (refine And.intro (by first | omega | assumption | (constructor <;> omega)) ?_) | (refine And.intro (fun hif => ?_) (fun hif => ?_) <;> try (first | contradiction | (exfalso; omega))) | ((first | refine xT fun K hK => ?_ | refine xU fun K hK => ?_ | refine yB (fun K hK => ?_) (fun K hK => ?_) | refine xV ?_ | refine yA ?_ | refine xW ?_ | refine xX ?_ | refine xY ?_ | refine xZ ?_) <;> simp only [↓awpOps, ↓awpKeep, ↓awpKeepF, ↓aop, ↓aopQ, ↓abin, ↓aun, ↓onSome_some, ↓Kont_at, ↓KM_at, ↓KV_at, ↓KU_at, refId_row, Frame.ev, Frame.evs, Frame.evOr, Frame.put, Frame.keep, get_nil, get_cons, argFrame, resOf, fillA, Vals.len, Vals.get, Vals.set, Vals.app, Vals.sub, Vals.take, Vals.ofAgg_cons, Vals.ofList, Vals.toInts, Vals.toBools, Vals.toSls, Vals.toStrs, Vals.zeros, Nat.reduceBEq, Nat.reduceAdd, Nat.reduceEqDiff, cond_true, cond_false, Option.map_some, Option.map_none, List.length_cons, List.length_nil, List.replicate, List.set_cons_zero, List.set_cons_succ, Nat.reduceLT, Bool.not_true, Bool.not_false, Int.toNat_natCast, inR, Nat.zero_add, Int.toNat_zero, reduceCtorEq, IntKind.bits, List.nil_append, List.cons_append, Nat.add_zero, Nat.sub_zero, noughts_len, List.map_cons, List.map_nil, zp, zu]) | refine And.intro ?_ (fun hif => (hif trivial).elim) | (intro hif; try (first | contradiction | (exfalso; omega))))
    have hg17 := (hgo.mono (show m.length ≤ m.length + 1 by omega) (Nat.le_refl (m.length + 2))).trans (g7.mono (Nat.le_refl _) (by omega))
    refine hK L m7 (grow00 (hg17.pre hp1 hwf (Nat.le_refl _)) ?_) hTab
    exact (gm1.any _ _).trans (hg17.mono (Nat.le_refl _) (by have := hg17.le; omega))

set_option maxHeartbeats 8000000 in
theorem impl_PairCounts (s t : SV) (net row : List Int) (ring : Int) (m : Heap) (hs : IsInts .i64 m s net) (ht : IsInts .i64 m t row) : ARet Try.prog F.impl_PairCounts [.one (.sl s), .one (.sl t), .one (.int .i64 ring)] m Ty.int (.ints .i64 (pairCounts net row ring)) := by
  refine arn T.impl_PairCounts (by rfl) fun hwf => ?_
  have c0 := impl_isOnRing s t net row ring m hs ht
  by_cases hR : RingOk net row ring
  · have c0 := c0.yes hR
    rw [pairCounts, if_pos hR]
    have hsz := hR.size
    obtain ⟨n, rfl⟩ : ∃ n : Nat, ring = (n : Int) := ⟨ring.toNat, by omega⟩
    rw [Int.toNat_natCast]
    have hgoal : ∀ L : List Int, TabW net row (n : Int) n 0 L → ∀ a b : Nat, a < b → b < n → L.getD (a * 31 + b) 0 = countP net row n a b := fun L hT a b h1 h2 => by
      rw [hT.pair a b h1 (by rw [Int.toNat_natCast]; exact h2), ← cnt_all net row n a b, Int.toNat_natCast]
    repeat' (first | refine xA ?_ | refine xB ?_ | refine xC ?_ | refine xD ?_ | refine xE ?_ | refine xF ?_ | refine xG ?_ | refine xH ?_ | refine xI rfl ?_ | refine xJ ?_ | refine xK ?_ | refine xL ?_ | refine xM rfl ?_ | refine xN rfl ?_ | refine xO rfl ?_ | (first | refine xP rfl (fun hif => ?_) (fun hif => ?_) | refine xQ rfl (fun hif => ?_) (fun hif => ?_) | refine xR rfl (fun hif => ?_) (fun hif => ?_) | refine xS rfl (fun hif => ?_) (fun hif => ?_)) <;> try (first | contradiction | (exfalso; omega)) | (refine hK _ _ ?_; clear hK K) | refine AQuiet.call c0 trivial ?_ | (refine impl_turnedWires_g hs ht hR fun L m1 g1 hT => ?_; have hLl := hT.len; have hml : (L.map (AV.int .i64)).length = 961 := by rw [List.length_map]; exact hLl) | refine st_agg_last g1.wf hml.symm (noughts_len _) (Vals.ofAgg_all (by omega)) ?_ | (refine And.intro (by first | omega | assumption | (constructor <;> omega)) ?_) | (refine And.intro (fun hif => ?_) (fun hif => ?_) <;> try (first | contradiction | (exfalso; omega))) | ((first | refine xT fun K hK => ?_ | refine xU fun K hK => ?_ | refine yB (fun K hK => ?_) (fun K hK => ?_) | refine xV ?_ | refine yA ?_ | refine xW ?_ | refine xX ?_ | refine xY ?_ | refine xZ ?_) <;> simp only [↓awpOps, ↓awpKeep, ↓awpKeepF, ↓aop, ↓aopQ, ↓abin, ↓aun, ↓onSome_some, ↓Kont_at, ↓KM_at, ↓KV_at, ↓KU_at, refId_row, Frame.ev, Frame.evs, Frame.evOr, Frame.put, Frame.keep, get_nil, get_cons, argFrame, resOf, fillA, Vals.len, Vals.get, Vals.set, Vals.app, Vals.sub, Vals.take, Vals.ofAgg_cons, Vals.ofList, Vals.toInts, Vals.toBools, Vals.toSls, Vals.toStrs, Vals.zeros, Nat.reduceBEq, Nat.reduceAdd, Nat.reduceEqDiff, cond_true, cond_false, Option.map_some, Option.map_none, List.length_cons, List.length_nil, List.replicate, List.set_cons_zero, List.set_cons_succ, Nat.reduceLT, Bool.not_true, Bool.not_false, Int.toNat_natCast, inR, Nat.zero_add, Int.toNat_zero, reduceCtorEq, IntKind.bits, List.nil_append, List.cons_append, Nat.add_zero, Nat.sub_zero, noughts_len, List.map_cons, List.map_nil, zp, zu]) | refine And.intro ?_ (fun hif => (hif trivial).elim) | (intro hif; try (first | contradiction | (exfalso; omega))))
    have hcnt := hgoal L hT
    obtain ⟨f, hf⟩ : ∃ f : Nat → Nat → Int, f = fun a b : Nat => countP net row (n : Int) (a : Int) (b : Int) := ⟨_, rfl⟩
    have hff : ∀ a b : Nat, countP net row n a b = f a b := fun a b => by rw [hf]
    rw [← hf]
    simp only [hff] at hcnt
    clear hff hf hgoal
    have g2 := g1.trans (Grow.push g1.wf Ty.Arr31_Arr31_int true (.ints .i64 L))
    have r2 := get_last m1 ⟨Ty.Arr31_Arr31_int, m1.length, true, .ints .i64 L⟩
    have hp2 := g2.pre0
    have hle := g1.le
    have hl2 : (m1 ++ [(⟨Ty.Arr31_Arr31_int, m1.length, true, .ints .i64 L⟩ : Row)]).length = m1.length + 1 := by simp
    generalize m1 ++ [(⟨Ty.Arr31_Arr31_int, m1.length, true, .ints .i64 L⟩ : Row)] = m2 at *
    refine awp_loop ?_
    refine ALoop.by [2, 7, 8, 9] (fun a : Nat × SV × Nat × Heap => [(2, .one (.int .i64 (n : Int))), (7, .one (.ptr m1.length 0)), (8, .one (.sl a.2.1)), (9, .one (.int .i64 a.1))]) (fun a => a.2.2.2)
      (fun a => a.1 ≤ n ∧ m2 <+: a.2.2.2 ∧ Grow m.length a.2.2.2.length m2 a.2.2.2 ∧ Acc Ty.int a.2.2.1 a.2.2.2 a.2.1 (.ints .i64 (pairsTo f n a.1)) ∧ m.length ≤ a.2.2.1 ∧ (a.2.1 = SV.nil ∨ a.2.2.1 < a.2.2.2.length)) (fun a => n - a.1) (0, SV.nil, m2.length, m2) rfl rfl ⟨Nat.zero_le _, List.prefix_rfl, Grow.refl g2.wf _ _, acc_nil _ _ _ _, by simp only; omega, .inl rfl⟩ ?_
    rintro ⟨a, s3, f3, m3⟩ ⟨ha, hp3, hg3, hA, hf3, hc3⟩ K1 hK1
    simp only at ha hp3 hg3 hA hf3 hc3
    by_cases hlt : a < n
    · have r3 := row_prefix0 hp3 r2
      have hpl := pairsTo_len f n a
      have hmul := Nat.mul_le_mul (show a ≤ 31 by omega) (show n ≤ 31 by omega)
      have hpart := part_pairs hLl (by omega : n ≤ 31) hlt (fun b h1 h2 => hcnt a b h1 h2) (Nat.le_refl n) hlt
      have hto : pairsTo f n (a + 1) = pairsTo f n a ++ pairsIn f a n := rfl
      have hempty : n = a + 1 → pairsIn f a n = [] := fun e => by rw [← hpart, e, Nat.sub_self]; rfl
      have e1 : ((a : Int) + 1).toNat = a + 1 := by omega
      have hfin : ∀ (s4 : SV) (m4 : Heap) (f4 : Nat) (V : List Int), V = pairsIn f a n → m3 <+: m4 → (∀ a b, (s3 = SV.nil ∨ a ≤ f3 ∧ f3 < b) → Grow a b m3 m4) → Acc Ty.int f4 m4 s4 (.ints .i64 (pairsTo f n a ++ V)) → (f4 = f3 ∨ m3.length ≤ f4) → (s4 = SV.nil ∨ f4 < m4.length) →
          m2 <+: m4 ∧ Grow m.length m4.length m2 m4 ∧ Acc Ty.int f4 m4 s4 (.ints .i64 (pairsTo f n (a + 1))) ∧ m.length ≤ f4 ∧ (s4 = SV.nil ∨ f4 < m4.length) := fun s4 m4 f4 V hV p4 g4 a4 q4 c4 => by
        subst hV
        refine ⟨hp3.trans p4, ?_, a4, ?_, c4⟩
        · exact (hg3.mono (Nat.le_refl _) p4.length_le).trans (g4 _ _ (hc3.imp id fun c => ⟨hf3, by have := p4.length_le; omega⟩))
        · have := hg3.le
          rcases q4 with e | e <;> omega
      by_cases hlast : a + 1 < 31
      · repeat' (first | refine xA ?_ | refine xB ?_ | refine xC ?_ | refine xD ?_ | refine xE ?_ | refine xF ?_ | refine xG ?_ | refine xH ?_ | refine xI rfl ?_ | refine xJ ?_ | refine xK ?_ | refine xL ?_ | refine xM rfl ?_ | refine xN rfl ?_ | refine xO rfl ?_ | (first | refine xP rfl (fun hif => ?_) (fun hif => ?_) | refine xQ rfl (fun hif => ?_) (fun hif => ?_) | refine xR rfl (fun hif => ?_) (fun hif => ?_) | refine xS rfl (fun hif => ?_) (fun hif => ?_)) <;> try (first | contradiction | (exfalso; omega)) | (refine hK _ _ ?_; clear hK K) | refine And.intro (.inl (.inr (by omega))) ?_ | refine app_sub hg3.wf hA r3 (by omega) (by omega) fun s4 m4 f4 p4 g4 a4 q4 c4 => ?_ | (refine And.intro (by first | omega | assumption | (constructor <;> omega)) ?_) | (refine And.intro (fun hif => ?_) (fun hif => ?_) <;> try (first | contradiction | (exfalso; omega))) | ((first | refine xT fun K hK => ?_ | refine xU fun K hK => ?_ | refine yB (fun K hK => ?_) (fun K hK => ?_) | refine xV ?_ | refine yA ?_ | refine xW ?_ | refine xX ?_ | refine xY ?_ | refine xZ ?_) <;> simp only [↓awpOps, ↓awpKeep, ↓awpKeepF, ↓aop, ↓aopQ, ↓abin, ↓aun, ↓onSome_some, ↓Kont_at, ↓KM_at, ↓KV_at, ↓KU_at, refId_row, Frame.ev, Frame.evs, Frame.evOr, Frame.put, Frame.keep, get_nil, get_cons, argFrame, resOf, fillA, Vals.len, Vals.get, Vals.set, Vals.app, Vals.sub, Vals.take, Vals.ofAgg_cons, Vals.ofList, Vals.toInts, Vals.toBools, Vals.toSls, Vals.toStrs, Vals.zeros, Nat.reduceBEq, Nat.reduceAdd, Nat.reduceEqDiff, cond_true, cond_false, Option.map_some, Option.map_none, List.length_cons, List.length_nil, List.replicate, List.set_cons_zero, List.set_cons_succ, Nat.reduceLT, Bool.not_true, Bool.not_false, Int.toNat_natCast, inR, Nat.zero_add, Int.toNat_zero, reduceCtorEq, IntKind.bits, List.nil_append, List.cons_append, Nat.add_zero, Nat.sub_zero, noughts_len, List.map_cons, List.map_nil, zp, zu]) | refine And.intro ?_ (fun hif => (hif trivial).elim) | (intro hif; try (first | contradiction | (exfalso; omega))))
        rw [e1] at a4
        exact hK1 (a + 1, s4, f4, m4) _ _ rfl rfl ⟨by simp only; omega, hfin s4 m4 f4 _ hpart p4 g4 a4 q4 c4⟩ (by simp only; omega)
      · repeat' (first | refine xA ?_ | refine xB ?_ | refine xC ?_ | refine xD ?_ | refine xE ?_ | refine xF ?_ | refine xG ?_ | refine xH ?_ | refine xI rfl ?_ | refine xJ ?_ | refine xK ?_ | refine xL ?_ | refine xM rfl ?_ | refine xN rfl ?_ | refine xO rfl ?_ | (first | refine xP rfl (fun hif => ?_) (fun hif => ?_) | refine xQ rfl (fun hif => ?_) (fun hif => ?_) | refine xR rfl (fun hif => ?_) (fun hif => ?_) | refine xS rfl (fun hif => ?_) (fun hif => ?_)) <;> try (first | contradiction | (exfalso; omega)) | (refine hK _ _ ?_; clear hK K) | refine And.intro (.inr ?_) ?_ | refine app_sub hg3.wf hA r3 (by omega) (by omega) fun s4 m4 f4 p4 g4 a4 q4 c4 => ?_ | (refine And.intro (by first | omega | assumption | (constructor <;> omega)) ?_) | (refine And.intro (fun hif => ?_) (fun hif => ?_) <;> try (first | contradiction | (exfalso; omega))) | ((first | refine xT fun K hK => ?_ | refine xU fun K hK => ?_ | refine yB (fun K hK => ?_) (fun K hK => ?_) | refine xV ?_ | refine yA ?_ | refine xW ?_ | refine xX ?_ | refine xY ?_ | refine xZ ?_) <;> simp only [↓awpOps, ↓awpKeep, ↓awpKeepF, ↓aop, ↓aopQ, ↓abin, ↓aun, ↓onSome_some, ↓Kont_at, ↓KM_at, ↓KV_at, ↓KU_at, refId_row, Frame.ev, Frame.evs, Frame.evOr, Frame.put, Frame.keep, get_nil, get_cons, argFrame, resOf, fillA, Vals.len, Vals.get, Vals.set, Vals.app, Vals.sub, Vals.take, Vals.ofAgg_cons, Vals.ofList, Vals.toInts, Vals.toBools, Vals.toSls, Vals.toStrs, Vals.zeros, Nat.reduceBEq, Nat.reduceAdd, Nat.reduceEqDiff, cond_true, cond_false, Option.map_some, Option.map_none, List.length_cons, List.length_nil, List.replicate, List.set_cons_zero, List.set_cons_succ, Nat.reduceLT, Bool.not_true, Bool.not_false, Int.toNat_natCast, inR, Nat.zero_add, Int.toNat_zero, reduceCtorEq, IntKind.bits, List.nil_append, List.cons_append, Nat.add_zero, Nat.sub_zero, noughts_len, List.map_cons, List.map_nil, zp, zu]) | refine And.intro ?_ (fun hif => (hif trivial).elim) | (intro hif; try (first | contradiction | (exfalso; omega))))
        · exact hK1 (a + 1, s4, f4, m4) _ _ rfl rfl ⟨by simp only; omega, hfin s4 m4 f4 _ (by rw [hempty (by omega)]; rfl) p4 g4 a4 q4 c4⟩ (by simp only; omega)
        · rw [e1] at a4
          exact hK1 (a + 1, s4, f4, m4) _ _ rfl rfl ⟨by simp only; omega, hfin s4 m4 f4 _ hpart p4 g4 a4 q4 c4⟩ (by simp only; omega)
    · obtain rfl : a = n := by omega
      repeat' (first | refine xA ?_ | refine xB ?_ | refine xC ?_ | refine xD ?_ | refine xE ?_ | refine xF ?_ | refine xG ?_ | refine xH ?_ | refine xI rfl ?_ | refine xJ ?_ | refine xK ?_ | refine xL ?_ | refine xM rfl ?_ | refine xN rfl ?_ | refine xO rfl ?_ | (first | refine xP rfl (fun hif => ?_) (fun hif => ?_) | refine xQ rfl (fun hif => ?_) (fun hif => ?_) | refine xR rfl (fun hif => ?_) (fun hif => ?_) | refine xS rfl (fun hif => ?_) (fun hif => ?_)) <;> try (first | contradiction | (exfalso; omega)) | (refine hK _ _ ?_; clear hK K) | (refine And.intro (by first | omega | assumption | (constructor <;> omega)) ?_) | (refine And.intro (fun hif => ?_) (fun hif => ?_) <;> try (first | contradiction | (exfalso; omega))) | ((first | refine xT fun K hK => ?_ | refine xU fun K hK => ?_ | refine yB (fun K hK => ?_) (fun K hK => ?_) | refine xV ?_ | refine yA ?_ | refine xW ?_ | refine xX ?_ | refine xY ?_ | refine xZ ?_) <;> simp only [↓awpOps, ↓awpKeep, ↓awpKeepF, ↓aop, ↓aopQ, ↓abin, ↓aun, ↓onSome_some, ↓Kont_at, ↓KM_at, ↓KV_at, ↓KU_at, refId_row, Frame.ev, Frame.evs, Frame.evOr, Frame.put, Frame.keep, get_nil, get_cons, argFrame, resOf, fillA, Vals.len, Vals.get, Vals.set, Vals.app, Vals.sub, Vals.take, Vals.ofAgg_cons, Vals.ofList, Vals.toInts, Vals.toBools, Vals.toSls, Vals.toStrs, Vals.zeros, Nat.reduceBEq, Nat.reduceAdd, Nat.reduceEqDiff, cond_true, cond_false, Option.map_some, Option.map_none, List.length_cons, List.length_nil, List.replicate, List.set_cons_zero, List.set_cons_succ, Nat.reduceLT, Bool.not_true, Bool.not_false, Int.toNat_natCast, inR, Nat.zero_add, Int.toNat_zero, reduceCtorEq, IntKind.bits, List.nil_append, List.cons_append, Nat.add_zero, Nat.sub_zero, noughts_len, List.map_cons, List.map_nil, zp, zu]) | refine And.intro ?_ (fun hif => (hif trivial).elim) | (intro hif; try (first | contradiction | (exfalso; omega))))
      exact ⟨_, rfl, grow00 (hp2.trans hp3) ((g2.any _ _).trans hg3), hA.obj' (hc3.imp id fun c => ⟨hf3, c⟩)⟩
  · rw [pairCounts, if_neg hR]
    have c0 := c0.no hR
    repeat' (first | refine xA ?_ | refine xB ?_ | refine xC ?_ | refine xD ?_ | refine xE ?_ | refine xF ?_ | refine xG ?_ | refine xH ?_ | refine xI rfl ?_ | refine xJ ?_ | refine xK ?_ | refine xL ?_ | refine xM rfl ?_ | refine xN rfl ?_ | refine xO rfl ?_ | (first | refine xP rfl (fun hif => ?_) (fun hif => ?_) | refine xQ rfl (fun hif => ?_) (fun hif => ?_) | refine xR rfl (fun hif => ?_) (fun hif => ?_) | refine xS rfl (fun hif => ?_) (fun hif => ?_)) <;> try (first | contradiction | (exfalso; omega)) | (refine hK _ _ ?_; clear hK K) | refine AQuiet.call c0 trivial ?_ | (refine And.intro (by first | omega | assumption | (constructor <;> omega)) ?_) | (refine And.intro (fun hif => ?_) (fun hif => ?_) <;> try (first | contradiction | (exfalso; omega))) | ((first | refine xT fun K hK => ?_ | refine xU fun K hK => ?_ | refine yB (fun K hK => ?_) (fun K hK => ?_) | refine xV ?_ | refine yA ?_ | refine xW ?_ | refine xX ?_ | refine xY ?_ | refine xZ ?_) <;> simp only [↓awpOps, ↓awpKeep, ↓awpKeepF, ↓aop, ↓aopQ, ↓abin, ↓aun, ↓onSome_some, ↓Kont_at, ↓KM_at, ↓KV_at, ↓KU_at, refId_row, Frame.ev, Frame.evs, Frame.evOr, Frame.put, Frame.keep, get_nil, get_cons, argFrame, resOf, fillA, Vals.len, Vals.get, Vals.set, Vals.app, Vals.sub, Vals.take, Vals.ofAgg_cons, Vals.ofList, Vals.toInts, Vals.toBools, Vals.toSls, Vals.toStrs, Vals.zeros, Nat.reduceBEq, Nat.reduceAdd, Nat.reduceEqDiff, cond_true, cond_false, Option.map_some, Option.map_none, List.length_cons, List.length_nil, List.replicate, List.set_cons_zero, List.set_cons_succ, Nat.reduceLT, Bool.not_true, Bool.not_false, Int.toNat_natCast, inR, Nat.zero_add, Int.toNat_zero, reduceCtorEq, IntKind.bits, List.nil_append, List.cons_append, Nat.add_zero, Nat.sub_zero, noughts_len, List.map_cons, List.map_nil, zp, zu]) | refine And.intro ?_ (fun hif => (hif trivial).elim) | (intro hif; try (first | contradiction | (exfalso; omega))))
    all_goals exact ⟨_, rfl, Grow.refl hwf _ _, obj_nil _ _ _ _ _⟩

end Go.Abs
