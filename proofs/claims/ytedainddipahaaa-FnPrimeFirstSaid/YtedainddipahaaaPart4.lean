/- Parts and sides in the program: each function by a contract. Own work; no condition. -/
import Derived.Test.YtedainddipahaaaPart2
import Derived.Test.YtedainddipahaaaGrow
set_option maxRecDepth 100000
set_option linter.unusedSimpArgs false
set_option linter.unusedVariables false
namespace Go.Abs
open Go.Proofs
attribute [local irreducible] awp awpOps awpKeep KeepK awpKeepF KeepF aloop ALoop ACalls ACallq AQuiet retPost retPostA AExit.thn AExit.blk aApp aSt aStA
open Parts

theorem bor_lor {x y : Nat} (h : x < 64) (h' : y < 64) : borInt .i64 (x : Int) (y : Int) = ((Nat.lor x y : Nat) : Int) := bor_nat x y (by omega) (by omega)
theorem bandNot_less {x y : Nat} (h : x < 64) (h' : y < 64) : bandNotInt .i64 (x : Int) (y : Int) = ((less x y : Nat) : Int) := less_int x h y h'
theorem bit_nat (x j : Nat) : bit (x : Int) j = x.testBit j := by unfold bit; rfl

theorem nrow_int {net : List Int} (h : NetOk net) {k : Nat} (hk : k < net.length) : (net.getD k 0) = ((nrow net k : Nat) : Int) := by
  have := h.low k hk
  unfold nrow
  omega

theorem impl_nearSet (s : SV) (net : List Int) (x : Nat) (m : Heap) (hs : IsInts .i64 m s net) (hN : NetOk net) (hx : x < 64) : AQuiet Try.prog F.impl_nearSet [.one (.sl s), .one (.int .i64 x)] m (.one (.int .i64 (near (pk net) x))) := by
  obtain ⟨ref, off, len⟩ := s
  obtain rfl : len = net.length := hs.1
  rw [near_pk hN hx]
  have h6 := hN.six
  refine aqn T.impl_nearSet (by rfl) ?_
  repeat' (first | refine xA ?_ | refine xB ?_ | refine xC ?_ | refine xD ?_ | refine xE ?_ | refine xF ?_ | refine xG ?_ | refine xH ?_ | refine xI rfl ?_ | refine xJ ?_ | refine xK ?_ | refine xL ?_ | refine xM rfl ?_ | refine xN rfl ?_ | refine xO rfl ?_ | (first | refine xP rfl (fun hif => ?_) (fun hif => ?_) | refine xQ rfl (fun hif => ?_) (fun hif => ?_) | refine xR rfl (fun hif => ?_) (fun hif => ?_) | refine xS rfl (fun hif => ?_) (fun hif => ?_)) <;> try (first | contradiction | (exfalso; omega)) | (refine hK _ _ ?_; clear hK K) | (refine And.intro (by first | omega | assumption | (constructor <;> omega)) ?_) | (refine And.intro (fun hif => ?_) (fun hif => ?_) <;> try (first | contradiction | (exfalso; omega))) | ((first | refine xT fun K hK => ?_ | refine xU fun K hK => ?_ | refine yB (fun K hK => ?_) (fun K hK => ?_) | refine xV ?_ | refine yA ?_ | refine xW ?_ | refine xX ?_ | refine xY ?_ | refine xZ ?_) <;> simp only [↓awpOps, ↓awpKeep, ↓awpKeepF, ↓aop, ↓aopQ, ↓abin, ↓aun, ↓onSome_some, ↓Kont_at, ↓KM_at, ↓KV_at, ↓KU_at, refId_row, Frame.ev, Frame.evs, Frame.evOr, Frame.put, Frame.keep, get_nil, get_cons, argFrame, resOf, fillA, Vals.len, Vals.get, Vals.set, Vals.app, Vals.sub, Vals.take, Vals.ofAgg_cons, Vals.ofList, Vals.toInts, Vals.toBools, Vals.toSls, Vals.toStrs, Vals.zeros, Nat.reduceBEq, Nat.reduceAdd, Nat.reduceEqDiff, cond_true, cond_false, Option.map_some, Option.map_none, List.length_cons, List.length_nil, List.replicate, List.set_cons_zero, List.set_cons_succ, Nat.reduceLT, Bool.not_true, Bool.not_false, Int.toNat_natCast, inR, Nat.zero_add, Int.toNat_zero, reduceCtorEq, IntKind.bits, List.nil_append, List.cons_append, Nat.add_zero, Nat.sub_zero, noughts_len, List.map_cons, List.map_nil, zp, zu]) | refine And.intro ?_ (fun hif => (hif trivial).elim) | (intro hif; try (first | contradiction | (exfalso; omega))))
  refine awp_loop ?_
  refine ALoop.by [0, 1, 5, 6] (fun k : Nat => [(0, .one (.sl ⟨ref, off, net.length⟩)), (1, .one (.int .i64 x)), (5, .one (.int .i64 (nearTo net x k))), (6, .one (.int .i64 k))]) (fun _ => m) (fun k => k ≤ net.length) (fun k => net.length - k) 0 rfl rfl (Nat.zero_le _) ?_
  rintro k hk K1 hK1
  have hlt := nearTo_lt hN x k
  by_cases hkn : k < net.length
  · have hat := hs.2 k hkn
    rw [nrow_int hN hkn] at hat
    have hr := nrow_lt hN k
    have hb := bor_lor hlt hr
    have ht : nearTo net x (k + 1) = if x.testBit k = true then nearTo net x k ||| nrow net k else nearTo net x k := rfl
    have hp := impl_hasPlace (x : Int) k (by omega) (by omega) (by omega)
    rw [bit_nat] at hp
    cases hbx : x.testBit k with
    | true =>
      rw [hbx] at hp ht
      repeat' (first | refine xA ?_ | refine xB ?_ | refine xC ?_ | refine xD ?_ | refine xE ?_ | refine xF ?_ | refine xG ?_ | refine xH ?_ | refine xI rfl ?_ | refine xJ ?_ | refine xK ?_ | refine xL ?_ | refine xM rfl ?_ | refine xN rfl ?_ | refine xO rfl ?_ | (first | refine xP rfl (fun hif => ?_) (fun hif => ?_) | refine xQ rfl (fun hif => ?_) (fun hif => ?_) | refine xR rfl (fun hif => ?_) (fun hif => ?_) | refine xS rfl (fun hif => ?_) (fun hif => ?_)) <;> try (first | contradiction | (exfalso; omega)) | (refine hK _ _ ?_; clear hK K) | refine AQuiet.call (hp _) trivial ?_ | refine onSome_of hat ?_ | (refine And.intro (by first | omega | assumption | (constructor <;> omega)) ?_) | (refine And.intro (fun hif => ?_) (fun hif => ?_) <;> try (first | contradiction | (exfalso; omega))) | ((first | refine xT fun K hK => ?_ | refine xU fun K hK => ?_ | refine yB (fun K hK => ?_) (fun K hK => ?_) | refine xV ?_ | refine yA ?_ | refine xW ?_ | refine xX ?_ | refine xY ?_ | refine xZ ?_) <;> simp only [↓awpOps, ↓awpKeep, ↓awpKeepF, ↓aop, ↓aopQ, ↓abin, ↓aun, ↓onSome_some, ↓Kont_at, ↓KM_at, ↓KV_at, ↓KU_at, refId_row, Frame.ev, Frame.evs, Frame.evOr, Frame.put, Frame.keep, get_nil, get_cons, argFrame, resOf, fillA, Vals.len, Vals.get, Vals.set, Vals.app, Vals.sub, Vals.take, Vals.ofAgg_cons, Vals.ofList, Vals.toInts, Vals.toBools, Vals.toSls, Vals.toStrs, Vals.zeros, Nat.reduceBEq, Nat.reduceAdd, Nat.reduceEqDiff, cond_true, cond_false, Option.map_some, Option.map_none, List.length_cons, List.length_nil, List.replicate, List.set_cons_zero, List.set_cons_succ, Nat.reduceLT, Bool.not_true, Bool.not_false, Int.toNat_natCast, inR, Nat.zero_add, Int.toNat_zero, reduceCtorEq, IntKind.bits, List.nil_append, List.cons_append, Nat.add_zero, Nat.sub_zero, noughts_len, List.map_cons, List.map_nil, zp, zu]) | refine And.intro ?_ (fun hif => (hif trivial).elim) | (intro hif; try (first | contradiction | (exfalso; omega))))
      rw [hb]
      exact hK1 (k + 1) _ _ (by rw [ht, if_pos rfl]; rfl) rfl (by omega) (by omega)
    | false =>
      rw [hbx] at hp ht
      repeat' (first | refine xA ?_ | refine xB ?_ | refine xC ?_ | refine xD ?_ | refine xE ?_ | refine xF ?_ | refine xG ?_ | refine xH ?_ | refine xI rfl ?_ | refine xJ ?_ | refine xK ?_ | refine xL ?_ | refine xM rfl ?_ | refine xN rfl ?_ | refine xO rfl ?_ | (first | refine xP rfl (fun hif => ?_) (fun hif => ?_) | refine xQ rfl (fun hif => ?_) (fun hif => ?_) | refine xR rfl (fun hif => ?_) (fun hif => ?_) | refine xS rfl (fun hif => ?_) (fun hif => ?_)) <;> try (first | contradiction | (exfalso; omega)) | (refine hK _ _ ?_; clear hK K) | refine AQuiet.call (hp _) trivial ?_ | (refine And.intro (by first | omega | assumption | (constructor <;> omega)) ?_) | (refine And.intro (fun hif => ?_) (fun hif => ?_) <;> try (first | contradiction | (exfalso; omega))) | ((first | refine xT fun K hK => ?_ | refine xU fun K hK => ?_ | refine yB (fun K hK => ?_) (fun K hK => ?_) | refine xV ?_ | refine yA ?_ | refine xW ?_ | refine xX ?_ | refine xY ?_ | refine xZ ?_) <;> simp only [↓awpOps, ↓awpKeep, ↓awpKeepF, ↓aop, ↓aopQ, ↓abin, ↓aun, ↓onSome_some, ↓Kont_at, ↓KM_at, ↓KV_at, ↓KU_at, refId_row, Frame.ev, Frame.evs, Frame.evOr, Frame.put, Frame.keep, get_nil, get_cons, argFrame, resOf, fillA, Vals.len, Vals.get, Vals.set, Vals.app, Vals.sub, Vals.take, Vals.ofAgg_cons, Vals.ofList, Vals.toInts, Vals.toBools, Vals.toSls, Vals.toStrs, Vals.zeros, Nat.reduceBEq, Nat.reduceAdd, Nat.reduceEqDiff, cond_true, cond_false, Option.map_some, Option.map_none, List.length_cons, List.length_nil, List.replicate, List.set_cons_zero, List.set_cons_succ, Nat.reduceLT, Bool.not_true, Bool.not_false, Int.toNat_natCast, inR, Nat.zero_add, Int.toNat_zero, reduceCtorEq, IntKind.bits, List.nil_append, List.cons_append, Nat.add_zero, Nat.sub_zero, noughts_len, List.map_cons, List.map_nil, zp, zu]) | refine And.intro ?_ (fun hif => (hif trivial).elim) | (intro hif; try (first | contradiction | (exfalso; omega))))
      exact hK1 (k + 1) _ _ (by rw [ht, if_neg (by simp)]; rfl) rfl (by omega) (by omega)
  · obtain rfl : k = net.length := by omega
    repeat' (first | refine xA ?_ | refine xB ?_ | refine xC ?_ | refine xD ?_ | refine xE ?_ | refine xF ?_ | refine xG ?_ | refine xH ?_ | refine xI rfl ?_ | refine xJ ?_ | refine xK ?_ | refine xL ?_ | refine xM rfl ?_ | refine xN rfl ?_ | refine xO rfl ?_ | (first | refine xP rfl (fun hif => ?_) (fun hif => ?_) | refine xQ rfl (fun hif => ?_) (fun hif => ?_) | refine xR rfl (fun hif => ?_) (fun hif => ?_) | refine xS rfl (fun hif => ?_) (fun hif => ?_)) <;> try (first | contradiction | (exfalso; omega)) | (refine hK _ _ ?_; clear hK K) | (refine And.intro (by first | omega | assumption | (constructor <;> omega)) ?_) | (refine And.intro (fun hif => ?_) (fun hif => ?_) <;> try (first | contradiction | (exfalso; omega))) | ((first | refine xT fun K hK => ?_ | refine xU fun K hK => ?_ | refine yB (fun K hK => ?_) (fun K hK => ?_) | refine xV ?_ | refine yA ?_ | refine xW ?_ | refine xX ?_ | refine xY ?_ | refine xZ ?_) <;> simp only [↓awpOps, ↓awpKeep, ↓awpKeepF, ↓aop, ↓aopQ, ↓abin, ↓aun, ↓onSome_some, ↓Kont_at, ↓KM_at, ↓KV_at, ↓KU_at, refId_row, Frame.ev, Frame.evs, Frame.evOr, Frame.put, Frame.keep, get_nil, get_cons, argFrame, resOf, fillA, Vals.len, Vals.get, Vals.set, Vals.app, Vals.sub, Vals.take, Vals.ofAgg_cons, Vals.ofList, Vals.toInts, Vals.toBools, Vals.toSls, Vals.toStrs, Vals.zeros, Nat.reduceBEq, Nat.reduceAdd, Nat.reduceEqDiff, cond_true, cond_false, Option.map_some, Option.map_none, List.length_cons, List.length_nil, List.replicate, List.set_cons_zero, List.set_cons_succ, Nat.reduceLT, Bool.not_true, Bool.not_false, Int.toNat_natCast, inR, Nat.zero_add, Int.toNat_zero, reduceCtorEq, IntKind.bits, List.nil_append, List.cons_append, Nat.add_zero, Nat.sub_zero, noughts_len, List.map_cons, List.map_nil, zp, zu]) | refine And.intro ?_ (fun hif => (hif trivial).elim) | (intro hif; try (first | contradiction | (exfalso; omega))))
    (first | exact List.prefix_rfl | exact ⟨rfl, List.prefix_rfl⟩ | exact ⟨by simp, List.prefix_rfl⟩)

theorem impl_leastOf (x : Nat) (hx : x < 64) (m : Heap) : AQuiet Try.prog F.impl_leastOf [.one (.int .i64 x)] m (.one (.int .i64 (least x))) := by
  refine aqn T.impl_leastOf (by rfl) ?_
  have h := (least_int x hx).1
  rw [Int.zero_sub] at h
  repeat' (first | refine xA ?_ | refine xB ?_ | refine xC ?_ | refine xD ?_ | refine xE ?_ | refine xF ?_ | refine xG ?_ | refine xH ?_ | refine xI rfl ?_ | refine xJ ?_ | refine xK ?_ | refine xL ?_ | refine xM rfl ?_ | refine xN rfl ?_ | refine xO rfl ?_ | (first | refine xP rfl (fun hif => ?_) (fun hif => ?_) | refine xQ rfl (fun hif => ?_) (fun hif => ?_) | refine xR rfl (fun hif => ?_) (fun hif => ?_) | refine xS rfl (fun hif => ?_) (fun hif => ?_)) <;> try (first | contradiction | (exfalso; omega)) | (refine hK _ _ ?_; clear hK K) | (refine And.intro (by first | omega | assumption | (constructor <;> omega)) ?_) | (refine And.intro (fun hif => ?_) (fun hif => ?_) <;> try (first | contradiction | (exfalso; omega))) | ((first | refine xT fun K hK => ?_ | refine xU fun K hK => ?_ | refine yB (fun K hK => ?_) (fun K hK => ?_) | refine xV ?_ | refine yA ?_ | refine xW ?_ | refine xX ?_ | refine xY ?_ | refine xZ ?_) <;> simp only [↓awpOps, ↓awpKeep, ↓awpKeepF, ↓aop, ↓aopQ, ↓abin, ↓aun, ↓onSome_some, ↓Kont_at, ↓KM_at, ↓KV_at, ↓KU_at, refId_row, Frame.ev, Frame.evs, Frame.evOr, Frame.put, Frame.keep, get_nil, get_cons, argFrame, resOf, fillA, Vals.len, Vals.get, Vals.set, Vals.app, Vals.sub, Vals.take, Vals.ofAgg_cons, Vals.ofList, Vals.toInts, Vals.toBools, Vals.toSls, Vals.toStrs, Vals.zeros, Nat.reduceBEq, Nat.reduceAdd, Nat.reduceEqDiff, cond_true, cond_false, Option.map_some, Option.map_none, List.length_cons, List.length_nil, List.replicate, List.set_cons_zero, List.set_cons_succ, Nat.reduceLT, Bool.not_true, Bool.not_false, Int.toNat_natCast, inR, Nat.zero_add, Int.toNat_zero, reduceCtorEq, IntKind.bits, List.nil_append, List.cons_append, Nat.add_zero, Nat.sub_zero, noughts_len, List.map_cons, List.map_nil, zp, zu]) | refine And.intro ?_ (fun hif => (hif trivial).elim) | (intro hif; try (first | contradiction | (exfalso; omega))))
  rw [h]
  (first | exact List.prefix_rfl | exact ⟨rfl, List.prefix_rfl⟩ | exact ⟨by simp, List.prefix_rfl⟩)

theorem wv_zero (N e o w : Nat) : wv N 0 e o w = if w = 0 then e + 64 * o else 4096 := by
  show (bif Nat.beq w 0 then Nat.add e (Nat.mul 64 o) else 4096) = _
  cases w <;> rfl
theorem wv_succ (N f e o w : Nat) : wv N (f + 1) e o w = if w = 0 then e + 64 * o else
    wv N f (Nat.lor e (less (near N (less (near N w) (Nat.lor e o))) (Nat.lor e (Nat.lor o (less (near N w) (Nat.lor e o)))))) (Nat.lor o (less (near N w) (Nat.lor e o))) (less (near N (less (near N w) (Nat.lor e o))) (Nat.lor e (Nat.lor o (less (near N w) (Nat.lor e o))))) := by
  show (bif Nat.beq w 0 then Nat.add e (Nat.mul 64 o) else frc (less (near N w) (Nat.lor e o)) fun a => frc (Nat.lor o a) fun o1 => frc (less (near N a) (Nat.lor e o1)) fun w1 => frc (Nat.lor e w1) fun e1 => wv N f e1 o1 w1) = _
  simp only [frc_eq]
  cases w <;> rfl

theorem impl_wavesFrom {s : SV} {net : List Int} {x : Nat} {m : Heap} {K : XV → Heap → Prop} {R : Nat} (hs : IsInts .i64 m s net) (hN : NetOk net) (hx : x < 64) (hR : wv (pk net) 5 x 0 x = R) (hR2 : R < 4096)
    (hK : ∀ m' : Heap, m <+: m' → m'.wf → K (.tup [.int .i64 ((R % 64 : Nat) : Int), .int .i64 ((R / 64 : Nat) : Int)]) m') : ACalls Try.prog F.impl_wavesFrom [.one (.sl s), .one (.int .i64 x)] m K := by
  refine ACalls.wf fun hwf => ?_
  refine afn T.impl_wavesFrom (by rfl) ?_
  repeat' (first | refine xA ?_ | refine xB ?_ | refine xC ?_ | refine xD ?_ | refine xE ?_ | refine xF ?_ | refine xG ?_ | refine xH ?_ | refine xI rfl ?_ | refine xJ ?_ | refine xK ?_ | refine xL ?_ | refine xM rfl ?_ | refine xN rfl ?_ | refine xO rfl ?_ | (first | refine xP rfl (fun hif => ?_) (fun hif => ?_) | refine xQ rfl (fun hif => ?_) (fun hif => ?_) | refine xR rfl (fun hif => ?_) (fun hif => ?_) | refine xS rfl (fun hif => ?_) (fun hif => ?_)) <;> try (first | contradiction | (exfalso; omega)) | (refine hK _ _ ?_; clear hK K) | (refine And.intro (by first | omega | assumption | (constructor <;> omega)) ?_) | (refine And.intro (fun hif => ?_) (fun hif => ?_) <;> try (first | contradiction | (exfalso; omega))) | ((first | refine xT fun K hK => ?_ | refine xU fun K hK => ?_ | refine yB (fun K hK => ?_) (fun K hK => ?_) | refine xV ?_ | refine yA ?_ | refine xW ?_ | refine xX ?_ | refine xY ?_ | refine xZ ?_) <;> simp only [↓awpOps, ↓awpKeep, ↓awpKeepF, ↓aop, ↓aopQ, ↓abin, ↓aun, ↓onSome_some, ↓Kont_at, ↓KM_at, ↓KV_at, ↓KU_at, refId_row, Frame.ev, Frame.evs, Frame.evOr, Frame.put, Frame.keep, get_nil, get_cons, argFrame, resOf, fillA, Vals.len, Vals.get, Vals.set, Vals.app, Vals.sub, Vals.take, Vals.ofAgg_cons, Vals.ofList, Vals.toInts, Vals.toBools, Vals.toSls, Vals.toStrs, Vals.zeros, Nat.reduceBEq, Nat.reduceAdd, Nat.reduceEqDiff, cond_true, cond_false, Option.map_some, Option.map_none, List.length_cons, List.length_nil, List.replicate, List.set_cons_zero, List.set_cons_succ, Nat.reduceLT, Bool.not_true, Bool.not_false, Int.toNat_natCast, inR, Nat.zero_add, Int.toNat_zero, reduceCtorEq, IntKind.bits, List.nil_append, List.cons_append, Nat.add_zero, Nat.sub_zero, noughts_len, List.map_cons, List.map_nil, zp, zu]) | refine And.intro ?_ (fun hif => (hif trivial).elim) | (intro hif; try (first | contradiction | (exfalso; omega))))
  refine awp_loop ?_
  refine ALoop.by [0, 6, 7, 8] (fun a : Nat × Nat × Nat × Nat => [(0, .one (.sl s)), (6, .one (.int .i64 a.1)), (7, .one (.int .i64 a.2.1)), (8, .one (.int .i64 a.2.2.1))]) (fun _ => m) (fun a => a.1 < 64 ∧ a.2.1 < 64 ∧ a.2.2.1 < 64 ∧ wv (pk net) a.2.2.2 a.1 a.2.1 a.2.2.1 = R) (fun a => a.2.2.2) (x, 0, x, 5) rfl rfl ⟨hx, by show 0 < 64; decide, hx, hR⟩ ?_
  rintro ⟨e, o, w, f⟩ ⟨he, ho, hw, hv⟩ K1 hK1
  simp only at he ho hw hv
  by_cases h0 : w = 0
  · subst h0
    have hr : R = e + 64 * o := by
      cases f with
      | zero => rw [wv_zero, if_pos rfl] at hv; exact hv.symm
      | succ f => rw [wv_succ, if_pos rfl] at hv; exact hv.symm
    have e1 : R % 64 = e := by omega
    have e2 : R / 64 = o := by omega
    rw [e1, e2] at hK
    repeat' (first | refine xA ?_ | refine xB ?_ | refine xC ?_ | refine xD ?_ | refine xE ?_ | refine xF ?_ | refine xG ?_ | refine xH ?_ | refine xI rfl ?_ | refine xJ ?_ | refine xK ?_ | refine xL ?_ | refine xM rfl ?_ | refine xN rfl ?_ | refine xO rfl ?_ | (first | refine xP rfl (fun hif => ?_) (fun hif => ?_) | refine xQ rfl (fun hif => ?_) (fun hif => ?_) | refine xR rfl (fun hif => ?_) (fun hif => ?_) | refine xS rfl (fun hif => ?_) (fun hif => ?_)) <;> try (first | contradiction | (exfalso; omega)) | (refine hK _ _ ?_; clear hK K) | (refine And.intro (by first | omega | assumption | (constructor <;> omega)) ?_) | (refine And.intro (fun hif => ?_) (fun hif => ?_) <;> try (first | contradiction | (exfalso; omega))) | ((first | refine xT fun K hK => ?_ | refine xU fun K hK => ?_ | refine yB (fun K hK => ?_) (fun K hK => ?_) | refine xV ?_ | refine yA ?_ | refine xW ?_ | refine xX ?_ | refine xY ?_ | refine xZ ?_) <;> simp only [↓awpOps, ↓awpKeep, ↓awpKeepF, ↓aop, ↓aopQ, ↓abin, ↓aun, ↓onSome_some, ↓Kont_at, ↓KM_at, ↓KV_at, ↓KU_at, refId_row, Frame.ev, Frame.evs, Frame.evOr, Frame.put, Frame.keep, get_nil, get_cons, argFrame, resOf, fillA, Vals.len, Vals.get, Vals.set, Vals.app, Vals.sub, Vals.take, Vals.ofAgg_cons, Vals.ofList, Vals.toInts, Vals.toBools, Vals.toSls, Vals.toStrs, Vals.zeros, Nat.reduceBEq, Nat.reduceAdd, Nat.reduceEqDiff, cond_true, cond_false, Option.map_some, Option.map_none, List.length_cons, List.length_nil, List.replicate, List.set_cons_zero, List.set_cons_succ, Nat.reduceLT, Bool.not_true, Bool.not_false, Int.toNat_natCast, inR, Nat.zero_add, Int.toNat_zero, reduceCtorEq, IntKind.bits, List.nil_append, List.cons_append, Nat.add_zero, Nat.sub_zero, noughts_len, List.map_cons, List.map_nil, zp, zu]) | refine And.intro ?_ (fun hif => (hif trivial).elim) | (intro hif; try (first | contradiction | (exfalso; omega))))
    exact hK m List.prefix_rfl hwf
  · cases f with
    | zero => rw [wv_zero, if_neg h0] at hv; omega
    | succ f =>
      rw [wv_succ, if_neg h0] at hv
      have n1 : near (pk net) w < 64 := by rw [near_pk hN hw]; exact nearTo_lt hN _ _
      have l1 := lor_lt he ho
      have b1 := bor_lor he ho
      have a1 := less_lt (x := near (pk net) w) (Nat.lor e o) n1
      have d1 := bandNot_less n1 l1
      generalize hA : less (near (pk net) w) (Nat.lor e o) = A at hv a1 d1
      have l2 := lor_lt ho a1
      have b2 := bor_lor ho a1
      have n2 : near (pk net) A < 64 := by rw [near_pk hN a1]; exact nearTo_lt hN _ _
      have l3 := lor_lt he l2
      have b3 := bor_lor he l2
      have a2 := less_lt (x := near (pk net) A) (Nat.lor e (Nat.lor o A)) n2
      have d2 := bandNot_less n2 l3
      generalize hB : less (near (pk net) A) (Nat.lor e (Nat.lor o A)) = B at hv a2 d2
      have l4 := lor_lt he a2
      have b4 := bor_lor he a2
      repeat' (first | refine xA ?_ | refine xB ?_ | refine xC ?_ | refine xD ?_ | refine xE ?_ | refine xF ?_ | refine xG ?_ | refine xH ?_ | refine xI rfl ?_ | refine xJ ?_ | refine xK ?_ | refine xL ?_ | refine xM rfl ?_ | refine xN rfl ?_ | refine xO rfl ?_ | (first | refine xP rfl (fun hif => ?_) (fun hif => ?_) | refine xQ rfl (fun hif => ?_) (fun hif => ?_) | refine xR rfl (fun hif => ?_) (fun hif => ?_) | refine xS rfl (fun hif => ?_) (fun hif => ?_)) <;> try (first | contradiction | (exfalso; omega)) | (refine hK _ _ ?_; clear hK K) | refine AQuiet.call (impl_nearSet _ net w _ hs hN hw) trivial ?_ | refine AQuiet.call (impl_nearSet _ net A _ hs hN a1) trivial ?_ | rw [b1] | rw [d1] | rw [b2] | rw [b3] | rw [d2] | rw [b4] | (refine And.intro (by first | omega | assumption | (constructor <;> omega)) ?_) | (refine And.intro (fun hif => ?_) (fun hif => ?_) <;> try (first | contradiction | (exfalso; omega))) | ((first | refine xT fun K hK => ?_ | refine xU fun K hK => ?_ | refine yB (fun K hK => ?_) (fun K hK => ?_) | refine xV ?_ | refine yA ?_ | refine xW ?_ | refine xX ?_ | refine xY ?_ | refine xZ ?_) <;> simp only [↓awpOps, ↓awpKeep, ↓awpKeepF, ↓aop, ↓aopQ, ↓abin, ↓aun, ↓onSome_some, ↓Kont_at, ↓KM_at, ↓KV_at, ↓KU_at, refId_row, Frame.ev, Frame.evs, Frame.evOr, Frame.put, Frame.keep, get_nil, get_cons, argFrame, resOf, fillA, Vals.len, Vals.get, Vals.set, Vals.app, Vals.sub, Vals.take, Vals.ofAgg_cons, Vals.ofList, Vals.toInts, Vals.toBools, Vals.toSls, Vals.toStrs, Vals.zeros, Nat.reduceBEq, Nat.reduceAdd, Nat.reduceEqDiff, cond_true, cond_false, Option.map_some, Option.map_none, List.length_cons, List.length_nil, List.replicate, List.set_cons_zero, List.set_cons_succ, Nat.reduceLT, Bool.not_true, Bool.not_false, Int.toNat_natCast, inR, Nat.zero_add, Int.toNat_zero, reduceCtorEq, IntKind.bits, List.nil_append, List.cons_append, Nat.add_zero, Nat.sub_zero, noughts_len, List.map_cons, List.map_nil, zp, zu]) | refine And.intro ?_ (fun hif => (hif trivial).elim) | (intro hif; try (first | contradiction | (exfalso; omega))))
      exact hK1 (Nat.lor e B, Nat.lor o A, B, f) _ _ rfl rfl ⟨l4, l2, a2, hv⟩ (Nat.lt_succ_self _)

theorem pm_step (N f left n : Nat) (h : pm N f left n < 1000) : (left = 0 ∧ pm N f left n = n) ∨ (left ≠ 0 ∧ ∃ f', f = f' + 1 ∧ wv N 5 (least left) 0 (least left) < 4096 ∧ pm N f left n = pm N f' (less left (Nat.lor (wv N 5 (least left) 0 (least left) % 64) (wv N 5 (least left) 0 (least left) / 64))) (n + 1)) := by
  cases f with
  | zero =>
    have e : pm N 0 left n = bif Nat.beq left 0 then n else 1000 := rfl
    rw [e] at h ⊢
    cases left with
    | zero => exact .inl ⟨rfl, rfl⟩
    | succ l => exact absurd h (by show ¬ 1000 < 1000; decide)
  | succ f =>
    have e : pm N (f + 1) left n = bif Nat.beq left 0 then n else frc (least left) fun s => frc (wv N 5 s 0 s) fun R => bif Nat.ble 4096 R then 1000 else frc (less left (Nat.lor (Nat.mod R 64) (Nat.div R 64))) fun left1 => pm N f left1 (Nat.succ n) := rfl
    simp only [frc_eq] at e
    rw [e] at h ⊢
    cases left with
    | zero => exact .inl ⟨rfl, rfl⟩
    | succ l =>
      refine .inr ⟨Nat.succ_ne_zero l, f, rfl, ?_⟩
      rw [show Nat.beq (l + 1) 0 = false from rfl] at h ⊢
      simp only [cond_false] at h ⊢
      cases hb : Nat.ble 4096 (wv N 5 (least (l + 1)) 0 (least (l + 1))) with
      | true => rw [hb] at h; exact absurd h (by show ¬ 1000 < 1000; decide)
      | false =>
        refine ⟨?_, rfl⟩
        rcases Nat.lt_or_ge (wv N 5 (least (l + 1)) 0 (least (l + 1))) 4096 with h1 | h1
        · exact h1
        · rw [Nat.ble_eq_true_of_le h1] at hb; cases hb

/-- Into how many parts a net falls. -/
noncomputable def partMany (net : List Int) : Int := if NetOk net then (pm (pk net) 6 (2 ^ net.length - 1) 0 : Nat) else -1

theorem full_lt {n : Nat} (h : n ≤ 6) : 2 ^ n - 1 < 64 := by
  have : n = 0 ∨ n = 1 ∨ n = 2 ∨ n = 3 ∨ n = 4 ∨ n = 5 ∨ n = 6 := by omega
  rcases this with rfl | rfl | rfl | rfl | rfl | rfl | rfl <;> decide
theorem full_int {n : Nat} (h : n ≤ 6) : ((2 : Int) ^ n - 1) = ((2 ^ n - 1 : Nat) : Int) := by
  have : n = 0 ∨ n = 1 ∨ n = 2 ∨ n = 3 ∨ n = 4 ∨ n = 5 ∨ n = 6 := by omega
  rcases this with rfl | rfl | rfl | rfl | rfl | rfl | rfl <;> decide

theorem impl_PartMany (s : SV) (net : List Int) (m : Heap) (hs : IsInts .i64 m s net) : AQuiet Try.prog F.impl_PartMany [.one (.sl s)] m (.one (.int .i64 (partMany net))) := by
  by_cases hN : NetOk net
  · obtain ⟨ref, off, len⟩ := s
    obtain rfl : len = net.length := hs.1
    have h6 := hN.six
    obtain ⟨_, _, q2, _⟩ := fact_use (all_fact hN)
    rw [partMany, if_pos hN]
    have hfl := full_lt h6
    have hfi := full_int h6
    generalize hP : pm (pk net) 6 (2 ^ net.length - 1) 0 = P at q2
    have hap := impl_allPlaces net.length (by omega)
    rw [hfi] at hap
    generalize hF : 2 ^ net.length - 1 = full at hfl hP hap
    refine aqn T.impl_PartMany (by rfl) ?_
    repeat' (first | refine xA ?_ | refine xB ?_ | refine xC ?_ | refine xD ?_ | refine xE ?_ | refine xF ?_ | refine xG ?_ | refine xH ?_ | refine xI rfl ?_ | refine xJ ?_ | refine xK ?_ | refine xL ?_ | refine xM rfl ?_ | refine xN rfl ?_ | refine xO rfl ?_ | (first | refine xP rfl (fun hif => ?_) (fun hif => ?_) | refine xQ rfl (fun hif => ?_) (fun hif => ?_) | refine xR rfl (fun hif => ?_) (fun hif => ?_) | refine xS rfl (fun hif => ?_) (fun hif => ?_)) <;> try (first | contradiction | (exfalso; omega)) | (refine hK _ _ ?_; clear hK K) | refine AQuiet.call (impl_NetOk_b true hs (decide_eq_true hN)) trivial ?_ | refine AQuiet.call (hap _) trivial ?_ | (refine And.intro (by first | omega | assumption | (constructor <;> omega)) ?_) | (refine And.intro (fun hif => ?_) (fun hif => ?_) <;> try (first | contradiction | (exfalso; omega))) | ((first | refine xT fun K hK => ?_ | refine xU fun K hK => ?_ | refine yB (fun K hK => ?_) (fun K hK => ?_) | refine xV ?_ | refine yA ?_ | refine xW ?_ | refine xX ?_ | refine xY ?_ | refine xZ ?_) <;> simp only [↓awpOps, ↓awpKeep, ↓awpKeepF, ↓aop, ↓aopQ, ↓abin, ↓aun, ↓onSome_some, ↓Kont_at, ↓KM_at, ↓KV_at, ↓KU_at, refId_row, Frame.ev, Frame.evs, Frame.evOr, Frame.put, Frame.keep, get_nil, get_cons, argFrame, resOf, fillA, Vals.len, Vals.get, Vals.set, Vals.app, Vals.sub, Vals.take, Vals.ofAgg_cons, Vals.ofList, Vals.toInts, Vals.toBools, Vals.toSls, Vals.toStrs, Vals.zeros, Nat.reduceBEq, Nat.reduceAdd, Nat.reduceEqDiff, cond_true, cond_false, Option.map_some, Option.map_none, List.length_cons, List.length_nil, List.replicate, List.set_cons_zero, List.set_cons_succ, Nat.reduceLT, Bool.not_true, Bool.not_false, Int.toNat_natCast, inR, Nat.zero_add, Int.toNat_zero, reduceCtorEq, IntKind.bits, List.nil_append, List.cons_append, Nat.add_zero, Nat.sub_zero, noughts_len, List.map_cons, List.map_nil, zp, zu]) | refine And.intro ?_ (fun hif => (hif trivial).elim) | (intro hif; try (first | contradiction | (exfalso; omega))))
    refine awp_loop ?_
    refine ALoop.by [0, 3, 4] (fun a : Nat × Nat × Nat × Heap => [(0, .one (.sl ⟨ref, off, net.length⟩)), (3, .one (.int .i64 a.1)), (4, .one (.int .i64 a.2.1))]) (fun a => a.2.2.2) (fun a => a.2.1 < 64 ∧ pm (pk net) a.2.2.1 a.2.1 a.1 = P ∧ m <+: a.2.2.2) (fun a => a.2.2.1) (0, full, 6, m) rfl rfl ⟨hfl, hP, List.prefix_rfl⟩ ?_
    rintro ⟨n, left, f, m1⟩ ⟨hl, hp, hm⟩ K1 hK1
    simp only at hl hp hm
    rcases pm_step (pk net) f left n (by omega) with ⟨h0, e⟩ | ⟨h0, f', rfl, hR, e⟩
    · subst h0
      obtain rfl : P = n := by omega
      repeat' (first | refine xA ?_ | refine xB ?_ | refine xC ?_ | refine xD ?_ | refine xE ?_ | refine xF ?_ | refine xG ?_ | refine xH ?_ | refine xI rfl ?_ | refine xJ ?_ | refine xK ?_ | refine xL ?_ | refine xM rfl ?_ | refine xN rfl ?_ | refine xO rfl ?_ | (first | refine xP rfl (fun hif => ?_) (fun hif => ?_) | refine xQ rfl (fun hif => ?_) (fun hif => ?_) | refine xR rfl (fun hif => ?_) (fun hif => ?_) | refine xS rfl (fun hif => ?_) (fun hif => ?_)) <;> try (first | contradiction | (exfalso; omega)) | (refine hK _ _ ?_; clear hK K) | (refine And.intro (by first | omega | assumption | (constructor <;> omega)) ?_) | (refine And.intro (fun hif => ?_) (fun hif => ?_) <;> try (first | contradiction | (exfalso; omega))) | ((first | refine xT fun K hK => ?_ | refine xU fun K hK => ?_ | refine yB (fun K hK => ?_) (fun K hK => ?_) | refine xV ?_ | refine yA ?_ | refine xW ?_ | refine xX ?_ | refine xY ?_ | refine xZ ?_) <;> simp only [↓awpOps, ↓awpKeep, ↓awpKeepF, ↓aop, ↓aopQ, ↓abin, ↓aun, ↓onSome_some, ↓Kont_at, ↓KM_at, ↓KV_at, ↓KU_at, refId_row, Frame.ev, Frame.evs, Frame.evOr, Frame.put, Frame.keep, get_nil, get_cons, argFrame, resOf, fillA, Vals.len, Vals.get, Vals.set, Vals.app, Vals.sub, Vals.take, Vals.ofAgg_cons, Vals.ofList, Vals.toInts, Vals.toBools, Vals.toSls, Vals.toStrs, Vals.zeros, Nat.reduceBEq, Nat.reduceAdd, Nat.reduceEqDiff, cond_true, cond_false, Option.map_some, Option.map_none, List.length_cons, List.length_nil, List.replicate, List.set_cons_zero, List.set_cons_succ, Nat.reduceLT, Bool.not_true, Bool.not_false, Int.toNat_natCast, inR, Nat.zero_add, Int.toNat_zero, reduceCtorEq, IntKind.bits, List.nil_append, List.cons_append, Nat.add_zero, Nat.sub_zero, noughts_len, List.map_cons, List.map_nil, zp, zu]) | refine And.intro ?_ (fun hif => (hif trivial).elim) | (intro hif; try (first | contradiction | (exfalso; omega))))
      all_goals first | exact ⟨rfl, hm⟩ | exact hm
    · rw [hp] at e
      have hll := (least_int left hl).2
      generalize hRR : wv (pk net) 5 (least left) 0 (least left) = R at hR e
      have r1 : R % 64 < 64 := Nat.mod_lt _ (by decide)
      have r2 : R / 64 < 64 := by omega
      have b1 := bor_lor r1 r2
      have l1 := lor_lt r1 r2
      have d1 := bandNot_less hl l1
      have l2 := less_lt (Nat.lor (R % 64) (R / 64)) hl
      have hn : n < 1000 := by
        have : ∀ f left n, pm (pk net) f left n < 1000 → n ≤ pm (pk net) f left n := fun f => by
          induction f with
          | zero => intro left n h; rcases pm_step _ _ _ _ h with ⟨_, e⟩ | ⟨_, f', e, _⟩ <;> omega
          | succ f ih =>
            intro left n h
            rcases pm_step _ _ _ _ h with ⟨_, e⟩ | ⟨_, f', e, _, e2⟩
            · omega
            · obtain rfl : f' = f := by omega
              rw [e2] at h ⊢
              have := ih _ _ h
              omega
        have := this (f' + 1) left n (by omega)
        omega
      repeat' (first | refine xA ?_ | refine xB ?_ | refine xC ?_ | refine xD ?_ | refine xE ?_ | refine xF ?_ | refine xG ?_ | refine xH ?_ | refine xI rfl ?_ | refine xJ ?_ | refine xK ?_ | refine xL ?_ | refine xM rfl ?_ | refine xN rfl ?_ | refine xO rfl ?_ | (first | refine xP rfl (fun hif => ?_) (fun hif => ?_) | refine xQ rfl (fun hif => ?_) (fun hif => ?_) | refine xR rfl (fun hif => ?_) (fun hif => ?_) | refine xS rfl (fun hif => ?_) (fun hif => ?_)) <;> try (first | contradiction | (exfalso; omega)) | (refine hK _ _ ?_; clear hK K) | refine AQuiet.call (impl_leastOf left hl _) trivial ?_ | refine impl_wavesFrom (hs.pre hm) hN hll hRR hR fun m2 hm2 hw2 => ?_ | rw [b1] | rw [d1] | (refine And.intro (by first | omega | assumption | (constructor <;> omega)) ?_) | (refine And.intro (fun hif => ?_) (fun hif => ?_) <;> try (first | contradiction | (exfalso; omega))) | ((first | refine xT fun K hK => ?_ | refine xU fun K hK => ?_ | refine yB (fun K hK => ?_) (fun K hK => ?_) | refine xV ?_ | refine yA ?_ | refine xW ?_ | refine xX ?_ | refine xY ?_ | refine xZ ?_) <;> simp only [↓awpOps, ↓awpKeep, ↓awpKeepF, ↓aop, ↓aopQ, ↓abin, ↓aun, ↓onSome_some, ↓Kont_at, ↓KM_at, ↓KV_at, ↓KU_at, refId_row, Frame.ev, Frame.evs, Frame.evOr, Frame.put, Frame.keep, get_nil, get_cons, argFrame, resOf, fillA, Vals.len, Vals.get, Vals.set, Vals.app, Vals.sub, Vals.take, Vals.ofAgg_cons, Vals.ofList, Vals.toInts, Vals.toBools, Vals.toSls, Vals.toStrs, Vals.zeros, Nat.reduceBEq, Nat.reduceAdd, Nat.reduceEqDiff, cond_true, cond_false, Option.map_some, Option.map_none, List.length_cons, List.length_nil, List.replicate, List.set_cons_zero, List.set_cons_succ, Nat.reduceLT, Bool.not_true, Bool.not_false, Int.toNat_natCast, inR, Nat.zero_add, Int.toNat_zero, reduceCtorEq, IntKind.bits, List.nil_append, List.cons_append, Nat.add_zero, Nat.sub_zero, noughts_len, List.map_cons, List.map_nil, zp, zu]) | refine And.intro ?_ (fun hif => (hif trivial).elim) | (intro hif; try (first | contradiction | (exfalso; omega))))
      exact hK1 (n + 1, less left (Nat.lor (R % 64) (R / 64)), f', m2) _ _ rfl rfl ⟨l2, e.symm, hm.trans hm2⟩ (Nat.lt_succ_self _)
  · rw [partMany, if_neg hN]
    refine aqn T.impl_PartMany (by rfl) ?_
    repeat' (first | refine xA ?_ | refine xB ?_ | refine xC ?_ | refine xD ?_ | refine xE ?_ | refine xF ?_ | refine xG ?_ | refine xH ?_ | refine xI rfl ?_ | refine xJ ?_ | refine xK ?_ | refine xL ?_ | refine xM rfl ?_ | refine xN rfl ?_ | refine xO rfl ?_ | (first | refine xP rfl (fun hif => ?_) (fun hif => ?_) | refine xQ rfl (fun hif => ?_) (fun hif => ?_) | refine xR rfl (fun hif => ?_) (fun hif => ?_) | refine xS rfl (fun hif => ?_) (fun hif => ?_)) <;> try (first | contradiction | (exfalso; omega)) | (refine hK _ _ ?_; clear hK K) | refine AQuiet.call (impl_NetOk_b false hs (decide_eq_false hN)) trivial ?_ | (refine And.intro (by first | omega | assumption | (constructor <;> omega)) ?_) | (refine And.intro (fun hif => ?_) (fun hif => ?_) <;> try (first | contradiction | (exfalso; omega))) | ((first | refine xT fun K hK => ?_ | refine xU fun K hK => ?_ | refine yB (fun K hK => ?_) (fun K hK => ?_) | refine xV ?_ | refine yA ?_ | refine xW ?_ | refine xX ?_ | refine xY ?_ | refine xZ ?_) <;> simp only [↓awpOps, ↓awpKeep, ↓awpKeepF, ↓aop, ↓aopQ, ↓abin, ↓aun, ↓onSome_some, ↓Kont_at, ↓KM_at, ↓KV_at, ↓KU_at, refId_row, Frame.ev, Frame.evs, Frame.evOr, Frame.put, Frame.keep, get_nil, get_cons, argFrame, resOf, fillA, Vals.len, Vals.get, Vals.set, Vals.app, Vals.sub, Vals.take, Vals.ofAgg_cons, Vals.ofList, Vals.toInts, Vals.toBools, Vals.toSls, Vals.toStrs, Vals.zeros, Nat.reduceBEq, Nat.reduceAdd, Nat.reduceEqDiff, cond_true, cond_false, Option.map_some, Option.map_none, List.length_cons, List.length_nil, List.replicate, List.set_cons_zero, List.set_cons_succ, Nat.reduceLT, Bool.not_true, Bool.not_false, Int.toNat_natCast, inR, Nat.zero_add, Int.toNat_zero, reduceCtorEq, IntKind.bits, List.nil_append, List.cons_append, Nat.add_zero, Nat.sub_zero, noughts_len, List.map_cons, List.map_nil, zp, zu]) | refine And.intro ?_ (fun hif => (hif trivial).elim) | (intro hif; try (first | contradiction | (exfalso; omega))))
    (first | exact List.prefix_rfl | exact ⟨rfl, List.prefix_rfl⟩ | exact ⟨by simp, List.prefix_rfl⟩)

noncomputable def treeOk (net : List Int) : Bool := decide (NetOk net ∧ partMany net = 1 ∧ wiresOf net = (net.length : Int) - 1)

theorem impl_TreeOk (s : SV) (net : List Int) (m : Heap) (hs : IsInts .i64 m s net) : AQuiet Try.prog F.impl_TreeOk [.one (.sl s)] m (.one (.bool (treeOk net))) := by
  obtain ⟨ref, off, len⟩ := s
  obtain rfl : len = net.length := hs.1
  refine aqn T.impl_TreeOk (by rfl) ?_
  by_cases hN : NetOk net
  · have h6 := hN.six
    by_cases h1 : partMany net = 1
    · have e : treeOk net = decide (wiresOf net = (net.length : Int) - 1) := decide_eq_decide.2 ⟨fun h => h.2.2, fun h => ⟨hN, h1, h⟩⟩
      rw [e]
      repeat' (first | refine xA ?_ | refine xB ?_ | refine xC ?_ | refine xD ?_ | refine xE ?_ | refine xF ?_ | refine xG ?_ | refine xH ?_ | refine xI rfl ?_ | refine xJ ?_ | refine xK ?_ | refine xL ?_ | refine xM rfl ?_ | refine xN rfl ?_ | refine xO rfl ?_ | (first | refine xP rfl (fun hif => ?_) (fun hif => ?_) | refine xQ rfl (fun hif => ?_) (fun hif => ?_) | refine xR rfl (fun hif => ?_) (fun hif => ?_) | refine xS rfl (fun hif => ?_) (fun hif => ?_)) <;> try (first | contradiction | (exfalso; omega)) | (refine hK _ _ ?_; clear hK K) | refine AQuiet.call (impl_PartMany _ net _ hs) trivial ?_ | refine AQuiet.call (impl_WiresOf _ net _ hs) trivial ?_ | (refine And.intro (by first | omega | assumption | (constructor <;> omega)) ?_) | (refine And.intro (fun hif => ?_) (fun hif => ?_) <;> try (first | contradiction | (exfalso; omega))) | ((first | refine xT fun K hK => ?_ | refine xU fun K hK => ?_ | refine yB (fun K hK => ?_) (fun K hK => ?_) | refine xV ?_ | refine yA ?_ | refine xW ?_ | refine xX ?_ | refine xY ?_ | refine xZ ?_) <;> simp only [↓awpOps, ↓awpKeep, ↓awpKeepF, ↓aop, ↓aopQ, ↓abin, ↓aun, ↓onSome_some, ↓Kont_at, ↓KM_at, ↓KV_at, ↓KU_at, refId_row, Frame.ev, Frame.evs, Frame.evOr, Frame.put, Frame.keep, get_nil, get_cons, argFrame, resOf, fillA, Vals.len, Vals.get, Vals.set, Vals.app, Vals.sub, Vals.take, Vals.ofAgg_cons, Vals.ofList, Vals.toInts, Vals.toBools, Vals.toSls, Vals.toStrs, Vals.zeros, Nat.reduceBEq, Nat.reduceAdd, Nat.reduceEqDiff, cond_true, cond_false, Option.map_some, Option.map_none, List.length_cons, List.length_nil, List.replicate, List.set_cons_zero, List.set_cons_succ, Nat.reduceLT, Bool.not_true, Bool.not_false, Int.toNat_natCast, inR, Nat.zero_add, Int.toNat_zero, reduceCtorEq, IntKind.bits, List.nil_append, List.cons_append, Nat.add_zero, Nat.sub_zero, noughts_len, List.map_cons, List.map_nil, zp, zu]) | refine And.intro ?_ (fun hif => (hif trivial).elim) | (intro hif; try (first | contradiction | (exfalso; omega))))
      (first | exact List.prefix_rfl | exact ⟨rfl, List.prefix_rfl⟩ | exact ⟨by simp, List.prefix_rfl⟩)
    · have e : treeOk net = false := decide_eq_false fun h => h1 h.2.1
      rw [e]
      repeat' (first | refine xA ?_ | refine xB ?_ | refine xC ?_ | refine xD ?_ | refine xE ?_ | refine xF ?_ | refine xG ?_ | refine xH ?_ | refine xI rfl ?_ | refine xJ ?_ | refine xK ?_ | refine xL ?_ | refine xM rfl ?_ | refine xN rfl ?_ | refine xO rfl ?_ | (first | refine xP rfl (fun hif => ?_) (fun hif => ?_) | refine xQ rfl (fun hif => ?_) (fun hif => ?_) | refine xR rfl (fun hif => ?_) (fun hif => ?_) | refine xS rfl (fun hif => ?_) (fun hif => ?_)) <;> try (first | contradiction | (exfalso; omega)) | (refine hK _ _ ?_; clear hK K) | refine AQuiet.call (impl_PartMany _ net _ hs) trivial ?_ | refine AQuiet.call (impl_WiresOf _ net _ hs) trivial ?_ | (refine And.intro (by first | omega | assumption | (constructor <;> omega)) ?_) | (refine And.intro (fun hif => ?_) (fun hif => ?_) <;> try (first | contradiction | (exfalso; omega))) | ((first | refine xT fun K hK => ?_ | refine xU fun K hK => ?_ | refine yB (fun K hK => ?_) (fun K hK => ?_) | refine xV ?_ | refine yA ?_ | refine xW ?_ | refine xX ?_ | refine xY ?_ | refine xZ ?_) <;> simp only [↓awpOps, ↓awpKeep, ↓awpKeepF, ↓aop, ↓aopQ, ↓abin, ↓aun, ↓onSome_some, ↓Kont_at, ↓KM_at, ↓KV_at, ↓KU_at, refId_row, Frame.ev, Frame.evs, Frame.evOr, Frame.put, Frame.keep, get_nil, get_cons, argFrame, resOf, fillA, Vals.len, Vals.get, Vals.set, Vals.app, Vals.sub, Vals.take, Vals.ofAgg_cons, Vals.ofList, Vals.toInts, Vals.toBools, Vals.toSls, Vals.toStrs, Vals.zeros, Nat.reduceBEq, Nat.reduceAdd, Nat.reduceEqDiff, cond_true, cond_false, Option.map_some, Option.map_none, List.length_cons, List.length_nil, List.replicate, List.set_cons_zero, List.set_cons_succ, Nat.reduceLT, Bool.not_true, Bool.not_false, Int.toNat_natCast, inR, Nat.zero_add, Int.toNat_zero, reduceCtorEq, IntKind.bits, List.nil_append, List.cons_append, Nat.add_zero, Nat.sub_zero, noughts_len, List.map_cons, List.map_nil, zp, zu]) | refine And.intro ?_ (fun hif => (hif trivial).elim) | (intro hif; try (first | contradiction | (exfalso; omega))))
      (first | exact List.prefix_rfl | exact ⟨rfl, List.prefix_rfl⟩ | exact ⟨by simp, List.prefix_rfl⟩)
  · have e : treeOk net = false := decide_eq_false fun h => hN h.1
    have e1 : partMany net = -1 := by rw [partMany, if_neg hN]
    rw [e]
    repeat' (first | refine xA ?_ | refine xB ?_ | refine xC ?_ | refine xD ?_ | refine xE ?_ | refine xF ?_ | refine xG ?_ | refine xH ?_ | refine xI rfl ?_ | refine xJ ?_ | refine xK ?_ | refine xL ?_ | refine xM rfl ?_ | refine xN rfl ?_ | refine xO rfl ?_ | (first | refine xP rfl (fun hif => ?_) (fun hif => ?_) | refine xQ rfl (fun hif => ?_) (fun hif => ?_) | refine xR rfl (fun hif => ?_) (fun hif => ?_) | refine xS rfl (fun hif => ?_) (fun hif => ?_)) <;> try (first | contradiction | (exfalso; omega)) | (refine hK _ _ ?_; clear hK K) | refine AQuiet.call (impl_PartMany _ net _ hs) trivial ?_ | refine AQuiet.call (impl_WiresOf _ net _ hs) trivial ?_ | (refine And.intro (by first | omega | assumption | (constructor <;> omega)) ?_) | (refine And.intro (fun hif => ?_) (fun hif => ?_) <;> try (first | contradiction | (exfalso; omega))) | ((first | refine xT fun K hK => ?_ | refine xU fun K hK => ?_ | refine yB (fun K hK => ?_) (fun K hK => ?_) | refine xV ?_ | refine yA ?_ | refine xW ?_ | refine xX ?_ | refine xY ?_ | refine xZ ?_) <;> simp only [↓awpOps, ↓awpKeep, ↓awpKeepF, ↓aop, ↓aopQ, ↓abin, ↓aun, ↓onSome_some, ↓Kont_at, ↓KM_at, ↓KV_at, ↓KU_at, refId_row, Frame.ev, Frame.evs, Frame.evOr, Frame.put, Frame.keep, get_nil, get_cons, argFrame, resOf, fillA, Vals.len, Vals.get, Vals.set, Vals.app, Vals.sub, Vals.take, Vals.ofAgg_cons, Vals.ofList, Vals.toInts, Vals.toBools, Vals.toSls, Vals.toStrs, Vals.zeros, Nat.reduceBEq, Nat.reduceAdd, Nat.reduceEqDiff, cond_true, cond_false, Option.map_some, Option.map_none, List.length_cons, List.length_nil, List.replicate, List.set_cons_zero, List.set_cons_succ, Nat.reduceLT, Bool.not_true, Bool.not_false, Int.toNat_natCast, inR, Nat.zero_add, Int.toNat_zero, reduceCtorEq, IntKind.bits, List.nil_append, List.cons_append, Nat.add_zero, Nat.sub_zero, noughts_len, List.map_cons, List.map_nil, zp, zu]) | refine And.intro ?_ (fun hif => (hif trivial).elim) | (intro hif; try (first | contradiction | (exfalso; omega))))
    (first | exact List.prefix_rfl | exact ⟨rfl, List.prefix_rfl⟩ | exact ⟨by simp, List.prefix_rfl⟩)

end Go.Abs

/- Parts in the model: each function by a contract. Own work; no condition. -/
set_option maxRecDepth 100000
set_option linter.unusedSimpArgs false
set_option linter.unusedVariables false
namespace Go.Abs
open Go.Proofs
attribute [local irreducible] awp awpOps awpKeep KeepK awpKeepF KeepF aloop ALoop ACalls ACallq AQuiet retPost retPostA AExit.thn AExit.blk aApp aSt aStA
open Parts

theorem pt_succ (N f s : Nat) : pt N (f + 1) s = if Nat.lor s (near N s) = s then s else pt N f (Nat.lor s (near N s)) := by
  show (frc (Nat.lor s (near N s)) fun t => bif Nat.beq t s then s else pt N f t) = _
  rw [frc_eq]
  by_cases h : Nat.lor s (near N s) = s
  · rw [if_pos h, h]
    rw [show Nat.beq s s = true by simp]; rfl
  · rw [if_neg h]
    cases hb : Nat.beq (Nat.lor s (near N s)) s with
    | true => exact absurd (Nat.eq_of_beq_eq_true hb) h
    | false => rfl
theorem fixed_eq {N s : Nat} (h : fixed N s = true) : Nat.lor s (near N s) = s := Nat.eq_of_beq_eq_true h

theorem pow_lt64 {k : Nat} (h : k < 6) : 2 ^ k < 64 := by
  have : k = 0 ∨ k = 1 ∨ k = 2 ∨ k = 3 ∨ k = 4 ∨ k = 5 := by omega
  rcases this with rfl | rfl | rfl | rfl | rfl | rfl <;> decide
theorem cnt_step {N k : Nat} (h : cnt N (k + 1) < 1000) : first N k ≠ 2 ∧ cnt N (k + 1) = cnt N k + first N k := by
  have e : cnt N (k + 1) = frc (first N k) fun i => bif Nat.beq i 2 then 2000 else Nat.add (cnt N k) i := rfl
  rw [frc_eq] at e
  rw [e] at h ⊢
  cases hb : Nat.beq (first N k) 2 with
  | true => rw [hb] at h; exact absurd h (by show ¬ 2000 < 1000; decide)
  | false => exact ⟨fun c => (by rw [c] at hb; exact Bool.noConfusion hb), rfl⟩
theorem cnt_mono {N : Nat} : ∀ {n k : Nat}, cnt N n < 1000 → k ≤ n → cnt N k ≤ cnt N n
  | 0, k, _, hk => by rw [Nat.le_zero.1 hk]; exact Nat.le_refl _
  | n + 1, k, h, hk => by
    obtain ⟨_, e⟩ := cnt_step h
    by_cases e2 : k = n + 1
    · rw [e2]; exact Nat.le_refl _
    · have hn : cnt N n < 1000 := by omega
      have := cnt_mono hn (show k ≤ n by omega)
      omega
theorem first_two {N k : Nat} (h : first N k ≠ 2) : fixed N (pt N 6 (2 ^ k)) = true ∧ first N k = if Nat.land (pt N 6 (2 ^ k)) (2 ^ k - 1) = 0 then 1 else 0 := by
  have e : first N k = frc (Nat.pow 2 k) fun q => frc (pt N 6 q) fun C => bif fixed N C then (bif Nat.beq (Nat.land C (Nat.sub q 1)) 0 then 1 else 0) else 2 := rfl
  simp only [frc_eq] at e
  have e2 : Nat.pow 2 k = 2 ^ k := rfl
  rw [e2] at e
  cases hf : fixed N (pt N 6 (2 ^ k)) with
  | false => rw [hf] at e; exact absurd e h
  | true =>
    rw [hf] at e
    refine ⟨rfl, ?_⟩
    rw [e]
    cases hb : Nat.beq (Nat.land (pt N 6 (2 ^ k)) (Nat.sub (2 ^ k) 1)) 0 with
    | true => rw [if_pos (show Nat.land (pt N 6 (2 ^ k)) (2 ^ k - 1) = 0 from Nat.eq_of_beq_eq_true hb)]; rfl
    | false => rw [if_neg fun c => (by rw [show Nat.land (pt N 6 (2 ^ k)) (Nat.sub (2 ^ k) 1) = 0 from c] at hb; exact Bool.noConfusion hb)]; rfl

theorem pt_lt {net : List Int} (h : NetOk net) : ∀ f s, s < 64 → pt (pk net) f s < 64
  | 0, s, hs => hs
  | f + 1, s, hs => by
    rw [pt_succ]
    split
    · exact hs
    · refine pt_lt h f _ (lor_lt hs ?_)
      rw [near_pk h hs]; exact nearTo_lt h _ _

end Go.Abs
