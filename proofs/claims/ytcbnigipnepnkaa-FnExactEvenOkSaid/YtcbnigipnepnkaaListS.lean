/- Lists of lists: held against each other, marked, and what is held of the marks. Own work; no condition. -/
import Derived.Test.YtcbnigipnepnkaaMark
import Derived.Test.YtcbnigipnepnkaaWire3
set_option maxRecDepth 100000
set_option linter.unusedSimpArgs false
set_option linter.unusedVariables false
namespace Go.Abs
open Go.Proofs
attribute [local irreducible] awp awpOps aloop ALoop ACalls ACallq AQuiet retPost retPostA AExit.thn AExit.blk aApp aSt aStA

theorem laws_eqIntSS (s t : SV) (ll : List (List Int)) (m : Heap) (hs : IsRows .i64 m s ll) (ht : IsRows .i64 m t ll) (hl : ll.length ≤ 100000000) (hi : ∀ i, i < ll.length → (ll.getD i []).length ≤ 1000000) :
    AQuiet Try.prog F.laws_eqIntSS [.one (.sl s), .one (.sl t)] m (.one (.bool true)) := by
  obtain ⟨ls, hs1, hs2, hs3⟩ := hs
  obtain ⟨lt, ht1, ht2, ht3⟩ := ht
  obtain ⟨ref, off, len⟩ := s
  obtain rfl : len = ls.length := hs1.1
  obtain ⟨ref', off', len'⟩ := t
  obtain rfl : len' = lt.length := ht1.1
  refine aqn T.laws_eqIntSS (by rfl) ?_
  repeat' (first | refine awp_seq ?_ | refine awp_block ?_ | refine thn_n ?_ | refine thn_e ?_ | refine thn_r ?_ | refine blk_n ?_ | refine blk_r ?_ | refine blk_here ?_ | refine blk_on rfl ?_ | refine awp_skip ?_ | refine awp_exit ?_ | refine awp_ret ?_ | refine ret_one rfl ?_ | refine ret_many rfl ?_ | refine end_one rfl ?_ | (first | refine awp_if rfl (fun hif => ?_) (fun hif => ?_) | refine awp_nif rfl (fun hif => ?_) (fun hif => ?_) | refine awp_not rfl (fun hif => ?_) (fun hif => ?_) | refine awp_cond rfl (fun hif => ?_) (fun hif => ?_)) <;> try (first | contradiction | (exfalso; omega)) | (refine hK _ _ ?_; clear hK K) | (refine And.intro (by first | omega | assumption | (constructor <;> omega)) ?_) | (refine And.intro (fun hif => ?_) (fun hif => ?_) <;> try (first | contradiction | (exfalso; omega))) | ((first | refine awp_reg fun K hK => ?_ | refine ops_go ?_ | refine kont_go ?_ | refine kv_go ?_ | refine ku_go ?_); simp only [↓awpOps, ↓aop, ↓aopQ, ↓abin, ↓aun, ↓onSome_some, ↓Kont_at, ↓KM_at, ↓KV_at, ↓KU_at, refId_row, Int.one_mul, Frame.ev, Frame.evs, Frame.evOr, Frame.put, Frame.keep, get_nil, get_cons, argFrame, resOf, fillA, Vals.len, Vals.get, Vals.set, Vals.app, Vals.sub, Vals.take, Vals.ofAgg_cons, Vals.ofList, Vals.toInts, Vals.toBools, Vals.toSls, Vals.toStrs, Vals.zeros, Nat.reduceBEq, Nat.reduceAdd, Nat.reduceEqDiff, cond_true, cond_false, if_true, if_false, Option.map_some, Option.map_none, List.length_cons, List.length_nil, List.replicate, List.set_cons_zero, List.set_cons_succ, Nat.reduceLT, true_and, and_true, forall_const, true_implies, Bool.not_true, Bool.not_false, Bool.true_eq_false, Bool.false_eq_true, false_implies, decide_eq_true_eq, decide_eq_false_iff_not, Int.not_lt, Int.not_le, Int.toNat_natCast, inR, Nat.zero_add, Int.toNat_zero, reduceCtorEq, IntKind.bits, List.nil_append, List.cons_append, Nat.add_zero, implies_true, ite_self, Nat.zero_lt_succ, Nat.lt_add_one, Int.zero_sub, Nat.sub_zero, Int.ofNat_toNat, List.map_cons, List.map_nil, Bool.true_eq, Bool.not_eq_eq_eq_not]) | refine And.intro ?_ (fun hif => (hif trivial).elim) | (intro hif; try (first | contradiction | (exfalso; omega))))
  refine awp_loop ?_
  refine ALoop.by [0, 1, 5] (fun k : Nat => [(0, .one (.sl ⟨ref, off, ls.length⟩)), (1, .one (.sl ⟨ref', off', lt.length⟩)), (5, .one (.int .i64 k))]) (fun _ => m) (fun k => k ≤ ls.length) (fun k => ls.length - k) 0 rfl rfl (Nat.zero_le _) ?_
  rintro k hk K1 hK1
  repeat' (first | refine awp_seq ?_ | refine awp_block ?_ | refine thn_n ?_ | refine thn_e ?_ | refine thn_r ?_ | refine blk_n ?_ | refine blk_r ?_ | refine blk_here ?_ | refine blk_on rfl ?_ | refine awp_skip ?_ | refine awp_exit ?_ | refine awp_ret ?_ | refine ret_one rfl ?_ | refine ret_many rfl ?_ | refine end_one rfl ?_ | (first | refine awp_if rfl (fun hif => ?_) (fun hif => ?_) | refine awp_nif rfl (fun hif => ?_) (fun hif => ?_) | refine awp_not rfl (fun hif => ?_) (fun hif => ?_) | refine awp_cond rfl (fun hif => ?_) (fun hif => ?_)) <;> try (first | contradiction | (exfalso; omega)) | (refine hK _ _ ?_; clear hK K) | refine onSome_of (hs1.2 _ (by omega)) ?_ | refine onSome_of (ht1.2 _ (by omega)) ?_ | refine AQuiet.callq (laws_eqIntS_t _ _ _ _ (hs3 k (by omega)) (ht3 k (by omega)) (by have := hi k (by omega); omega)) trivial ?_ | (refine And.intro (by first | omega | assumption | (constructor <;> omega)) ?_) | (refine And.intro (fun hif => ?_) (fun hif => ?_) <;> try (first | contradiction | (exfalso; omega))) | ((first | refine awp_reg fun K hK => ?_ | refine ops_go ?_ | refine kont_go ?_ | refine kv_go ?_ | refine ku_go ?_); simp only [↓awpOps, ↓aop, ↓aopQ, ↓abin, ↓aun, ↓onSome_some, ↓Kont_at, ↓KM_at, ↓KV_at, ↓KU_at, refId_row, Int.one_mul, Frame.ev, Frame.evs, Frame.evOr, Frame.put, Frame.keep, get_nil, get_cons, argFrame, resOf, fillA, Vals.len, Vals.get, Vals.set, Vals.app, Vals.sub, Vals.take, Vals.ofAgg_cons, Vals.ofList, Vals.toInts, Vals.toBools, Vals.toSls, Vals.toStrs, Vals.zeros, Nat.reduceBEq, Nat.reduceAdd, Nat.reduceEqDiff, cond_true, cond_false, if_true, if_false, Option.map_some, Option.map_none, List.length_cons, List.length_nil, List.replicate, List.set_cons_zero, List.set_cons_succ, Nat.reduceLT, true_and, and_true, forall_const, true_implies, Bool.not_true, Bool.not_false, Bool.true_eq_false, Bool.false_eq_true, false_implies, decide_eq_true_eq, decide_eq_false_iff_not, Int.not_lt, Int.not_le, Int.toNat_natCast, inR, Nat.zero_add, Int.toNat_zero, reduceCtorEq, IntKind.bits, List.nil_append, List.cons_append, Nat.add_zero, implies_true, ite_self, Nat.zero_lt_succ, Nat.lt_add_one, Int.zero_sub, Nat.sub_zero, Int.ofNat_toNat, List.map_cons, List.map_nil, Bool.true_eq, Bool.not_eq_eq_eq_not]) | refine And.intro ?_ (fun hif => (hif trivial).elim) | (intro hif; try (first | contradiction | (exfalso; omega))))
  all_goals first | exact hK1 (k + 1) _ _ rfl rfl (by omega) (by omega) | exact ⟨rfl, List.prefix_rfl⟩ | exact List.prefix_rfl

/-- How many numbers the first i lists have. -/
def tot (ll : List (List Int)) : Nat → Nat
  | 0 => 0
  | i + 1 => tot ll i + (ll.getD i []).length
theorem tot_mono (ll : List (List Int)) : ∀ {i j : Nat}, i ≤ j → tot ll i ≤ tot ll j
  | i, 0, h => by rw [Nat.le_zero.1 h]; exact Nat.le_refl _
  | i, j + 1, h => by
    by_cases e : i = j + 1
    · rw [e]; exact Nat.le_refl _
    · exact Nat.le_trans (tot_mono ll (by omega : i ≤ j)) (Nat.le_add_right _ _)
/-- All numbers of a list of lists told on from k. -/
def marksL (k : Int) (ll : List (List Int)) : List (List Int) := (List.range ll.length).map fun i => marks (k + tot ll i) (ll.getD i []).length
theorem marksL_len (k : Int) (ll : List (List Int)) : (marksL k ll).length = ll.length := by simp [marksL]
theorem marksL_get (k : Int) {ll : List (List Int)} {i : Nat} (h : i < ll.length) : (marksL k ll).getD i [] = marks (k + tot ll i) (ll.getD i []).length := by simp [marksL, List.getD_eq_getElem?_getD, h]

/-- A list of lists of which each has a row of its own, in a memory that is sound. -/
structure LObj (a b : Nat) (m : Heap) (s : SV) (ll : List (List Int)) : Prop where
  wf : m.wf
  is : Lists a b m s ll

theorem LObj.rows {a b : Nat} {m : Heap} {s : SV} {ll : List (List Int)} (h : LObj a b m s ll) : IsRows .i64 m s ll := h.is.rows
theorem LObj.len {a b : Nat} {m : Heap} {s : SV} {ll : List (List Int)} (h : LObj a b m s ll) : s.len = ll.length := h.is.len

theorem LObj.grow {a b c d : Nat} {m m' : Heap} {s : SV} {ll : List (List Int)} (h : LObj a b m s ll) (g : Grow c d m m') (hd : b ≤ c ∨ d ≤ a) : LObj a b m' s ll := by
  obtain ⟨svs, f, h1, h2, h3⟩ := h.is
  refine ⟨g.wf, svs, f, ?_, h2, h3.keep (fun _ _ hr p1 p2 _ => g.keep _ _ hr (by omega)) (Nat.le_refl _) (Nat.le_refl _) (.inl rfl)⟩
  rcases h1 with e | ⟨id, e1, e2, e3⟩
  · exact .inl e
  · refine Acc.grow (.inr ⟨id, e1, e2, e3⟩) g ?_ (by have := h.wf id _ e2; have := get_lt e2; simp only at *; omega)
    rcases h2 with h2 | h2
    · rw [h2] at e1; cases e1
    · omega
theorem LObj.grow0 {a b : Nat} {m m' : Heap} {s : SV} {ll : List (List Int)} (h : LObj a b m s ll) (g : Grow 0 0 m m') : LObj a b m' s ll := h.grow g (.inr (Nat.zero_le _))

/-- One list of a list of lists is written anew. -/
theorem LObj.put {a b : Nat} {m m' : Heap} {s : SV} {ll ll' : List (List Int)} (h : LObj a b m s ll) {i id fi : Nat} (hi : i < ll.length) (hr : m[id]? = some ⟨Ty.int, fi, true, .ints .i64 (ll.getD i [])⟩) (hsv : ∀ svs, IsSls m s svs → svs.getD i SV.nil = ⟨.row id, 0, (ll.getD i []).length⟩)
    (g : Grow fi (fi + 1) m m') (hr' : m'[id]? = some ⟨Ty.int, fi, true, .ints .i64 (ll'.getD i [])⟩) (hl : ll'.length = ll.length) (hli : (ll'.getD i []).length = (ll.getD i []).length) (ho : ∀ j, j ≠ i → ll'.getD j [] = ll.getD j []) : LObj a b m' s ll' := by
  obtain ⟨svs, f, h1, h2, h3, h4⟩ := h.is
  have e0 := hsv svs ((h1.obj' h2).isSls)
  obtain ⟨id0, f0, p1, p2, p3, p4, p5, p6⟩ := h4 i hi
  rw [p4] at e0
  simp only [SV.mk.injEq, Ref.row.injEq, and_true] at e0
  obtain rfl := e0
  obtain rfl : f0 = fi := by rw [p5] at hr; simpa using hr
  have hne : ∀ (j idj fj : Nat) (v : Vals), j < ll.length → j ≠ i → svs.getD j SV.nil = ⟨.row idj, 0, (ll.getD j []).length⟩ → m[idj]? = some ⟨Ty.int, fj, true, v⟩ → (∀ k, k < j → famAt m (svs.getD k SV.nil) ≠ some fj) → fj ≠ f0 := fun j idj fj v hj hji q4 q5 q6 => by
    rcases Nat.lt_or_gt_of_ne hji with h | h
    · have := p6 j h
      rw [q4, famAt_row q5] at this
      exact fun c => this (by rw [c])
    · have := q6 i h
      rw [p4, famAt_row p5] at this
      exact fun c => this (by rw [c])
  have hfam : ∀ j, j < ll.length → famAt m' (svs.getD j SV.nil) = famAt m (svs.getD j SV.nil) := fun j hj => by
    obtain ⟨idj, fj, q1, q2, q3, q4, q5, q6⟩ := h4 j hj
    by_cases hji : j = i
    · subst hji
      rw [p4, famAt_row p5, famAt_row hr']
    · have := hne j idj fj _ hj hji q4 q5 q6
      rw [q4, famAt_row q5, famAt_row (g.keep _ _ q5 (by simp only; omega))]
  refine ⟨g.wf, svs, f, ?_, h2, by rw [hl]; exact h3, fun j hj => ?_⟩
  · rcases h1 with e | ⟨id, e1, e2, e3⟩
    · exact .inl e
    · exact Acc.grow (.inr ⟨id, e1, e2, e3⟩) g (by omega) (by have := h.wf id _ e2; have := get_lt e2; simp only at *; omega)
  · rw [hl] at hj
    by_cases hji : j = i
    · subst hji
      exact ⟨id0, f0, p1, p2, p3, by rw [p4, hli], hr', fun k hk => by rw [hfam k (by omega)]; exact p6 k hk⟩
    · obtain ⟨idj, fj, q1, q2, q3, q4, q5, q6⟩ := h4 j hj
      have hid := hne j idj fj _ hj hji q4 q5 q6
      rw [ho j hji]
      exact ⟨idj, fj, q1, q2, q3, q4, g.keep _ _ q5 (by simp only; omega), fun k hk => by rw [hfam k (by omega)]; exact q6 k hk⟩

/-- The first i lists marked. -/
def marked (k : Int) (ll : List (List Int)) (i : Nat) : List (List Int) := (List.range ll.length).map fun j => if j < i then marks (k + tot ll j) (ll.getD j []).length else ll.getD j []
theorem marked_len (k : Int) (ll : List (List Int)) (i : Nat) : (marked k ll i).length = ll.length := by simp [marked]
theorem marked_get (k : Int) {ll : List (List Int)} (i : Nat) {j : Nat} (h : j < ll.length) : (marked k ll i).getD j [] = if j < i then marks (k + tot ll j) (ll.getD j []).length else ll.getD j [] := by simp [marked, List.getD_eq_getElem?_getD, h]
theorem marked_zero (k : Int) (ll : List (List Int)) : marked k ll 0 = ll := by
  apply List.ext_getElem (by simp [marked])
  intro i h1 h2
  simp [marked, List.getD_eq_getElem?_getD, h2]
theorem marked_all (k : Int) (ll : List (List Int)) : marked k ll ll.length = marksL k ll := by
  apply List.ext_getElem (by simp [marked, marksL])
  intro i h1 h2
  have h3 : i < ll.length := by simpa [marked] using h1
  simp [marked, marksL, h3]

theorem laws_markIntSS {s : SV} {ll : List (List Int)} {m : Heap} {a b : Nat} {k : Int} {K : XV → Heap → Prop} (h : LObj a b m s ll) (hl : ll.length ≤ 100000000) (hi : ∀ i, i < ll.length → (ll.getD i []).length ≤ 1000000) (hk : 0 ≤ k ∧ k + (tot ll ll.length : Int) ≤ 1000000000)
    (hK : ∀ m' : Heap, Grow a b m m' → LObj a b m' s (marksL k ll) → K (.one (.int .i64 (k + (tot ll ll.length : Int)))) m') : ACalls Try.prog F.laws_markIntSS [.one (.sl s), .one (.int .i64 k)] m K := by
  have hsl := h.len
  obtain ⟨ref, off, len⟩ := s
  obtain rfl : len = ll.length := hsl
  refine afn T.laws_markIntSS (by rfl) ?_
  repeat' (first | refine awp_seq ?_ | refine awp_block ?_ | refine thn_n ?_ | refine thn_e ?_ | refine thn_r ?_ | refine blk_n ?_ | refine blk_r ?_ | refine blk_here ?_ | refine blk_on rfl ?_ | refine awp_skip ?_ | refine awp_exit ?_ | refine awp_ret ?_ | refine ret_one rfl ?_ | refine ret_many rfl ?_ | refine end_one rfl ?_ | (first | refine awp_if rfl (fun hif => ?_) (fun hif => ?_) | refine awp_nif rfl (fun hif => ?_) (fun hif => ?_) | refine awp_not rfl (fun hif => ?_) (fun hif => ?_) | refine awp_cond rfl (fun hif => ?_) (fun hif => ?_)) <;> try (first | contradiction | (exfalso; omega)) | (refine hK _ _ ?_; clear hK K) | (refine And.intro (by first | omega | assumption | (constructor <;> omega)) ?_) | (refine And.intro (fun hif => ?_) (fun hif => ?_) <;> try (first | contradiction | (exfalso; omega))) | ((first | refine awp_reg fun K hK => ?_ | refine ops_go ?_ | refine kont_go ?_ | refine kv_go ?_ | refine ku_go ?_); simp only [↓awpOps, ↓aop, ↓aopQ, ↓abin, ↓aun, ↓onSome_some, ↓Kont_at, ↓KM_at, ↓KV_at, ↓KU_at, refId_row, Int.one_mul, Frame.ev, Frame.evs, Frame.evOr, Frame.put, Frame.keep, get_nil, get_cons, argFrame, resOf, fillA, Vals.len, Vals.get, Vals.set, Vals.app, Vals.sub, Vals.take, Vals.ofAgg_cons, Vals.ofList, Vals.toInts, Vals.toBools, Vals.toSls, Vals.toStrs, Vals.zeros, Nat.reduceBEq, Nat.reduceAdd, Nat.reduceEqDiff, cond_true, cond_false, if_true, if_false, Option.map_some, Option.map_none, List.length_cons, List.length_nil, List.replicate, List.set_cons_zero, List.set_cons_succ, Nat.reduceLT, true_and, and_true, forall_const, true_implies, Bool.not_true, Bool.not_false, Bool.true_eq_false, Bool.false_eq_true, false_implies, decide_eq_true_eq, decide_eq_false_iff_not, Int.not_lt, Int.not_le, Int.toNat_natCast, inR, Nat.zero_add, Int.toNat_zero, reduceCtorEq, IntKind.bits, List.nil_append, List.cons_append, Nat.add_zero, implies_true, ite_self, Nat.zero_lt_succ, Nat.lt_add_one, Int.zero_sub, Nat.sub_zero, Int.ofNat_toNat, List.map_cons, List.map_nil, Bool.true_eq, Bool.not_eq_eq_eq_not]) | refine And.intro ?_ (fun hif => (hif trivial).elim) | (intro hif; try (first | contradiction | (exfalso; omega))))
  refine awp_loop ?_
  refine ALoop.by [0, 1, 5] (fun p : Nat × Heap => [(0, .one (.sl ⟨ref, off, ll.length⟩)), (1, .one (.int .i64 (k + (tot ll p.1 : Int)))), (5, .one (.int .i64 p.1))]) (fun p => p.2) (fun p => p.1 ≤ ll.length ∧ Grow a b m p.2 ∧ LObj a b p.2 ⟨ref, off, ll.length⟩ (marked k ll p.1)) (fun p => ll.length - p.1) (0, m) (by simp [Frame.keep, Frame.get, tot]) rfl ⟨Nat.zero_le _, Grow.refl h.wf _ _, by rw [marked_zero]; exact h⟩ ?_
  rintro ⟨i, m1⟩ ⟨hi1, hg, hL⟩ K1 hK1
  simp only at hi1 hg hL
  by_cases hlt : i < ll.length
  · have hmi := hi i hlt
    have ht1 := tot_mono ll (i := i + 1) (j := ll.length) (by omega)
    have hst : tot ll (i + 1) = tot ll i + (ll.getD i []).length := rfl
    have hLi := hL.is
    obtain ⟨svs, f, e1, e2, e3, e4⟩ := hLi
    obtain ⟨id, fi, p1, p2, p3, p4, p5, p6⟩ := e4 i (by rw [marked_len]; exact hlt)
    rw [marked_get _ _ hlt, if_neg (by omega)] at p4 p5
    have hat := ((e1.obj' e2).isSls).2 i (by rw [e3, marked_len]; exact hlt)
    rw [p4] at hat
    have hO : Obj Ty.int fi (fi + 1) m1 ⟨.row id, 0, (ll.getD i []).length⟩ (.ints .i64 (ll.getD i [])) := .inr ⟨id, fi, Nat.le_refl _, Nat.lt_succ_self _, rfl, p5⟩
    repeat' (first | refine awp_seq ?_ | refine awp_block ?_ | refine thn_n ?_ | refine thn_e ?_ | refine thn_r ?_ | refine blk_n ?_ | refine blk_r ?_ | refine blk_here ?_ | refine blk_on rfl ?_ | refine awp_skip ?_ | refine awp_exit ?_ | refine awp_ret ?_ | refine ret_one rfl ?_ | refine ret_many rfl ?_ | refine end_one rfl ?_ | (first | refine awp_if rfl (fun hif => ?_) (fun hif => ?_) | refine awp_nif rfl (fun hif => ?_) (fun hif => ?_) | refine awp_not rfl (fun hif => ?_) (fun hif => ?_) | refine awp_cond rfl (fun hif => ?_) (fun hif => ?_)) <;> try (first | contradiction | (exfalso; omega)) | (refine hK _ _ ?_; clear hK K) | refine onSome_of hat ?_ | refine laws_markIntS hg.wf hO (by omega) (by omega) fun m2 g2 o2 => ?_ | (refine And.intro (by first | omega | assumption | (constructor <;> omega)) ?_) | (refine And.intro (fun hif => ?_) (fun hif => ?_) <;> try (first | contradiction | (exfalso; omega))) | ((first | refine awp_reg fun K hK => ?_ | refine ops_go ?_ | refine kont_go ?_ | refine kv_go ?_ | refine ku_go ?_); simp only [↓awpOps, ↓aop, ↓aopQ, ↓abin, ↓aun, ↓onSome_some, ↓Kont_at, ↓KM_at, ↓KV_at, ↓KU_at, refId_row, Int.one_mul, Frame.ev, Frame.evs, Frame.evOr, Frame.put, Frame.keep, get_nil, get_cons, argFrame, resOf, fillA, Vals.len, Vals.get, Vals.set, Vals.app, Vals.sub, Vals.take, Vals.ofAgg_cons, Vals.ofList, Vals.toInts, Vals.toBools, Vals.toSls, Vals.toStrs, Vals.zeros, Nat.reduceBEq, Nat.reduceAdd, Nat.reduceEqDiff, cond_true, cond_false, if_true, if_false, Option.map_some, Option.map_none, List.length_cons, List.length_nil, List.replicate, List.set_cons_zero, List.set_cons_succ, Nat.reduceLT, true_and, and_true, forall_const, true_implies, Bool.not_true, Bool.not_false, Bool.true_eq_false, Bool.false_eq_true, false_implies, decide_eq_true_eq, decide_eq_false_iff_not, Int.not_lt, Int.not_le, Int.toNat_natCast, inR, Nat.zero_add, Int.toNat_zero, reduceCtorEq, IntKind.bits, List.nil_append, List.cons_append, Nat.add_zero, implies_true, ite_self, Nat.zero_lt_succ, Nat.lt_add_one, Int.zero_sub, Nat.sub_zero, Int.ofNat_toNat, List.map_cons, List.map_nil, Bool.true_eq, Bool.not_eq_eq_eq_not]) | refine And.intro ?_ (fun hif => (hif trivial).elim) | (intro hif; try (first | contradiction | (exfalso; omega))))
    have hw2 : marked k ll (i + 1) = (marked k ll (i + 1)) := rfl
    refine hK1 (i + 1, m2) _ _ (by simp only [Frame.keep, Frame.get, Nat.reduceBEq, cond_true, cond_false, tot, Int.natCast_add, Int.add_assoc]; rfl) rfl ⟨by simp only; omega, hg.trans (g2.mono p1 (by omega)), ?_⟩ (by simp only; omega)
    rcases o2 with ⟨q, _⟩ | ⟨id', f', q1, q2, q3, q4⟩
    · cases q
    · simp only [SV.mk.injEq, Ref.row.injEq, true_and] at q3
      obtain ⟨rfl, q3⟩ := q3
      obtain rfl : f' = fi := by omega
      refine hL.put (ll' := marked k ll (i + 1)) (i := i) (id := id) (fi := f') (by rw [marked_len]; exact hlt) (by rw [marked_get _ _ hlt, if_neg (by omega)]; exact p5) (fun svs' hsv => ?_) g2 (by rw [marked_get _ _ hlt, if_pos (by omega)]; exact q4) (by rw [marked_len, marked_len]) (by rw [marked_get _ _ hlt, marked_get _ _ hlt, if_pos (by omega), if_neg (by omega), marks_len]) (fun j hj => ?_)
      · have h5 := hsv.1
        simp only at h5
        have := hsv.2 i (by omega)
        rw [hat] at this
        simp only [Option.some.injEq, AV.sl.injEq] at this
        rw [← this, marked_get _ _ hlt, if_neg (by omega)]
      · by_cases hjl : j < ll.length
        · rw [marked_get _ _ hjl, marked_get _ _ hjl]
          by_cases h7 : j < i
          · rw [if_pos h7, if_pos (by omega)]
          · rw [if_neg h7, if_neg (by omega)]
        · rw [List.getD_eq_getElem?_getD, List.getD_eq_getElem?_getD, List.getElem?_eq_none (by rw [marked_len]; omega), List.getElem?_eq_none (by rw [marked_len]; omega)]
  · obtain rfl : i = ll.length := by omega
    repeat' (first | refine awp_seq ?_ | refine awp_block ?_ | refine thn_n ?_ | refine thn_e ?_ | refine thn_r ?_ | refine blk_n ?_ | refine blk_r ?_ | refine blk_here ?_ | refine blk_on rfl ?_ | refine awp_skip ?_ | refine awp_exit ?_ | refine awp_ret ?_ | refine ret_one rfl ?_ | refine ret_many rfl ?_ | refine end_one rfl ?_ | (first | refine awp_if rfl (fun hif => ?_) (fun hif => ?_) | refine awp_nif rfl (fun hif => ?_) (fun hif => ?_) | refine awp_not rfl (fun hif => ?_) (fun hif => ?_) | refine awp_cond rfl (fun hif => ?_) (fun hif => ?_)) <;> try (first | contradiction | (exfalso; omega)) | (refine hK _ _ ?_; clear hK K) | (refine And.intro (by first | omega | assumption | (constructor <;> omega)) ?_) | (refine And.intro (fun hif => ?_) (fun hif => ?_) <;> try (first | contradiction | (exfalso; omega))) | ((first | refine awp_reg fun K hK => ?_ | refine ops_go ?_ | refine kont_go ?_ | refine kv_go ?_ | refine ku_go ?_); simp only [↓awpOps, ↓aop, ↓aopQ, ↓abin, ↓aun, ↓onSome_some, ↓Kont_at, ↓KM_at, ↓KV_at, ↓KU_at, refId_row, Int.one_mul, Frame.ev, Frame.evs, Frame.evOr, Frame.put, Frame.keep, get_nil, get_cons, argFrame, resOf, fillA, Vals.len, Vals.get, Vals.set, Vals.app, Vals.sub, Vals.take, Vals.ofAgg_cons, Vals.ofList, Vals.toInts, Vals.toBools, Vals.toSls, Vals.toStrs, Vals.zeros, Nat.reduceBEq, Nat.reduceAdd, Nat.reduceEqDiff, cond_true, cond_false, if_true, if_false, Option.map_some, Option.map_none, List.length_cons, List.length_nil, List.replicate, List.set_cons_zero, List.set_cons_succ, Nat.reduceLT, true_and, and_true, forall_const, true_implies, Bool.not_true, Bool.not_false, Bool.true_eq_false, Bool.false_eq_true, false_implies, decide_eq_true_eq, decide_eq_false_iff_not, Int.not_lt, Int.not_le, Int.toNat_natCast, inR, Nat.zero_add, Int.toNat_zero, reduceCtorEq, IntKind.bits, List.nil_append, List.cons_append, Nat.add_zero, implies_true, ite_self, Nat.zero_lt_succ, Nat.lt_add_one, Int.zero_sub, Nat.sub_zero, Int.ofNat_toNat, List.map_cons, List.map_nil, Bool.true_eq, Bool.not_eq_eq_eq_not]) | refine And.intro ?_ (fun hif => (hif trivial).elim) | (intro hif; try (first | contradiction | (exfalso; omega))))
    rw [marked_all] at hL
    exact hK m1 hg hL

theorem laws_heldIntSS (s : SV) (ll : List (List Int)) (k : Int) (m : Heap) (hs : IsRows .i64 m s (marksL k ll)) (hl : ll.length ≤ 100000000) (hi : ∀ i, i < ll.length → (ll.getD i []).length ≤ 1000000) (hk : 0 ≤ k ∧ k + (tot ll ll.length : Int) ≤ 1000000000) :
    AQuiet Try.prog F.laws_heldIntSS [.one (.sl s), .one (.int .i64 k)] m (.one (.int .i64 (k + (tot ll ll.length : Int)))) := by
  obtain ⟨ls, hs1, hs2, hs3⟩ := hs
  rw [marksL_len] at hs2 hs3
  obtain ⟨ref, off, len⟩ := s
  obtain rfl : len = ls.length := hs1.1
  refine aqn T.laws_heldIntSS (by rfl) ?_
  repeat' (first | refine awp_seq ?_ | refine awp_block ?_ | refine thn_n ?_ | refine thn_e ?_ | refine thn_r ?_ | refine blk_n ?_ | refine blk_r ?_ | refine blk_here ?_ | refine blk_on rfl ?_ | refine awp_skip ?_ | refine awp_exit ?_ | refine awp_ret ?_ | refine ret_one rfl ?_ | refine ret_many rfl ?_ | refine end_one rfl ?_ | (first | refine awp_if rfl (fun hif => ?_) (fun hif => ?_) | refine awp_nif rfl (fun hif => ?_) (fun hif => ?_) | refine awp_not rfl (fun hif => ?_) (fun hif => ?_) | refine awp_cond rfl (fun hif => ?_) (fun hif => ?_)) <;> try (first | contradiction | (exfalso; omega)) | (refine hK _ _ ?_; clear hK K) | (refine And.intro (by first | omega | assumption | (constructor <;> omega)) ?_) | (refine And.intro (fun hif => ?_) (fun hif => ?_) <;> try (first | contradiction | (exfalso; omega))) | ((first | refine awp_reg fun K hK => ?_ | refine ops_go ?_ | refine kont_go ?_ | refine kv_go ?_ | refine ku_go ?_); simp only [↓awpOps, ↓aop, ↓aopQ, ↓abin, ↓aun, ↓onSome_some, ↓Kont_at, ↓KM_at, ↓KV_at, ↓KU_at, refId_row, Int.one_mul, Frame.ev, Frame.evs, Frame.evOr, Frame.put, Frame.keep, get_nil, get_cons, argFrame, resOf, fillA, Vals.len, Vals.get, Vals.set, Vals.app, Vals.sub, Vals.take, Vals.ofAgg_cons, Vals.ofList, Vals.toInts, Vals.toBools, Vals.toSls, Vals.toStrs, Vals.zeros, Nat.reduceBEq, Nat.reduceAdd, Nat.reduceEqDiff, cond_true, cond_false, if_true, if_false, Option.map_some, Option.map_none, List.length_cons, List.length_nil, List.replicate, List.set_cons_zero, List.set_cons_succ, Nat.reduceLT, true_and, and_true, forall_const, true_implies, Bool.not_true, Bool.not_false, Bool.true_eq_false, Bool.false_eq_true, false_implies, decide_eq_true_eq, decide_eq_false_iff_not, Int.not_lt, Int.not_le, Int.toNat_natCast, inR, Nat.zero_add, Int.toNat_zero, reduceCtorEq, IntKind.bits, List.nil_append, List.cons_append, Nat.add_zero, implies_true, ite_self, Nat.zero_lt_succ, Nat.lt_add_one, Int.zero_sub, Nat.sub_zero, Int.ofNat_toNat, List.map_cons, List.map_nil, Bool.true_eq, Bool.not_eq_eq_eq_not]) | refine And.intro ?_ (fun hif => (hif trivial).elim) | (intro hif; try (first | contradiction | (exfalso; omega))))
  refine awp_loop ?_
  refine ALoop.by [0, 1, 5] (fun p : Nat => [(0, .one (.sl ⟨ref, off, ls.length⟩)), (1, .one (.int .i64 (k + (tot ll p : Int)))), (5, .one (.int .i64 p))]) (fun p => m) (fun p => p ≤ ll.length) (fun p => ll.length - p) 0 (by simp [Frame.keep, Frame.get, tot]) rfl (Nat.zero_le _) ?_
  rintro i hi1 K1 hK1
  by_cases hlt : i < ll.length
  · have ht1 := tot_mono ll (i := i + 1) (j := ll.length) (by omega)
    have hst : tot ll (i + 1) = tot ll i + (ll.getD i []).length := rfl
    have h3 := hs3 i hlt
    rw [marksL_get _ hlt] at h3
    have hmi := hi i hlt
    repeat' (first | refine awp_seq ?_ | refine awp_block ?_ | refine thn_n ?_ | refine thn_e ?_ | refine thn_r ?_ | refine blk_n ?_ | refine blk_r ?_ | refine blk_here ?_ | refine blk_on rfl ?_ | refine awp_skip ?_ | refine awp_exit ?_ | refine awp_ret ?_ | refine ret_one rfl ?_ | refine ret_many rfl ?_ | refine end_one rfl ?_ | (first | refine awp_if rfl (fun hif => ?_) (fun hif => ?_) | refine awp_nif rfl (fun hif => ?_) (fun hif => ?_) | refine awp_not rfl (fun hif => ?_) (fun hif => ?_) | refine awp_cond rfl (fun hif => ?_) (fun hif => ?_)) <;> try (first | contradiction | (exfalso; omega)) | (refine hK _ _ ?_; clear hK K) | refine onSome_of (hs1.2 _ (by omega)) ?_ | refine AQuiet.call (laws_heldIntS _ _ _ _ h3 (by omega) (by omega)) trivial ?_ | (refine And.intro (by first | omega | assumption | (constructor <;> omega)) ?_) | (refine And.intro (fun hif => ?_) (fun hif => ?_) <;> try (first | contradiction | (exfalso; omega))) | ((first | refine awp_reg fun K hK => ?_ | refine ops_go ?_ | refine kont_go ?_ | refine kv_go ?_ | refine ku_go ?_); simp only [↓awpOps, ↓aop, ↓aopQ, ↓abin, ↓aun, ↓onSome_some, ↓Kont_at, ↓KM_at, ↓KV_at, ↓KU_at, refId_row, Int.one_mul, Frame.ev, Frame.evs, Frame.evOr, Frame.put, Frame.keep, get_nil, get_cons, argFrame, resOf, fillA, Vals.len, Vals.get, Vals.set, Vals.app, Vals.sub, Vals.take, Vals.ofAgg_cons, Vals.ofList, Vals.toInts, Vals.toBools, Vals.toSls, Vals.toStrs, Vals.zeros, Nat.reduceBEq, Nat.reduceAdd, Nat.reduceEqDiff, cond_true, cond_false, if_true, if_false, Option.map_some, Option.map_none, List.length_cons, List.length_nil, List.replicate, List.set_cons_zero, List.set_cons_succ, Nat.reduceLT, true_and, and_true, forall_const, true_implies, Bool.not_true, Bool.not_false, Bool.true_eq_false, Bool.false_eq_true, false_implies, decide_eq_true_eq, decide_eq_false_iff_not, Int.not_lt, Int.not_le, Int.toNat_natCast, inR, Nat.zero_add, Int.toNat_zero, reduceCtorEq, IntKind.bits, List.nil_append, List.cons_append, Nat.add_zero, implies_true, ite_self, Nat.zero_lt_succ, Nat.lt_add_one, Int.zero_sub, Nat.sub_zero, Int.ofNat_toNat, List.map_cons, List.map_nil, Bool.true_eq, Bool.not_eq_eq_eq_not]) | refine And.intro ?_ (fun hif => (hif trivial).elim) | (intro hif; try (first | contradiction | (exfalso; omega))))
    exact hK1 (i + 1) _ _ (by simp only [Frame.keep, Frame.get, Nat.reduceBEq, cond_true, cond_false, tot, Int.natCast_add, Int.add_assoc]; rfl) rfl (by omega) (by omega)
  · obtain rfl : i = ll.length := by omega
    repeat' (first | refine awp_seq ?_ | refine awp_block ?_ | refine thn_n ?_ | refine thn_e ?_ | refine thn_r ?_ | refine blk_n ?_ | refine blk_r ?_ | refine blk_here ?_ | refine blk_on rfl ?_ | refine awp_skip ?_ | refine awp_exit ?_ | refine awp_ret ?_ | refine ret_one rfl ?_ | refine ret_many rfl ?_ | refine end_one rfl ?_ | (first | refine awp_if rfl (fun hif => ?_) (fun hif => ?_) | refine awp_nif rfl (fun hif => ?_) (fun hif => ?_) | refine awp_not rfl (fun hif => ?_) (fun hif => ?_) | refine awp_cond rfl (fun hif => ?_) (fun hif => ?_)) <;> try (first | contradiction | (exfalso; omega)) | (refine hK _ _ ?_; clear hK K) | (refine And.intro (by first | omega | assumption | (constructor <;> omega)) ?_) | (refine And.intro (fun hif => ?_) (fun hif => ?_) <;> try (first | contradiction | (exfalso; omega))) | ((first | refine awp_reg fun K hK => ?_ | refine ops_go ?_ | refine kont_go ?_ | refine kv_go ?_ | refine ku_go ?_); simp only [↓awpOps, ↓aop, ↓aopQ, ↓abin, ↓aun, ↓onSome_some, ↓Kont_at, ↓KM_at, ↓KV_at, ↓KU_at, refId_row, Int.one_mul, Frame.ev, Frame.evs, Frame.evOr, Frame.put, Frame.keep, get_nil, get_cons, argFrame, resOf, fillA, Vals.len, Vals.get, Vals.set, Vals.app, Vals.sub, Vals.take, Vals.ofAgg_cons, Vals.ofList, Vals.toInts, Vals.toBools, Vals.toSls, Vals.toStrs, Vals.zeros, Nat.reduceBEq, Nat.reduceAdd, Nat.reduceEqDiff, cond_true, cond_false, if_true, if_false, Option.map_some, Option.map_none, List.length_cons, List.length_nil, List.replicate, List.set_cons_zero, List.set_cons_succ, Nat.reduceLT, true_and, and_true, forall_const, true_implies, Bool.not_true, Bool.not_false, Bool.true_eq_false, Bool.false_eq_true, false_implies, decide_eq_true_eq, decide_eq_false_iff_not, Int.not_lt, Int.not_le, Int.toNat_natCast, inR, Nat.zero_add, Int.toNat_zero, reduceCtorEq, IntKind.bits, List.nil_append, List.cons_append, Nat.add_zero, implies_true, ite_self, Nat.zero_lt_succ, Nat.lt_add_one, Int.zero_sub, Nat.sub_zero, Int.ofNat_toNat, List.map_cons, List.map_nil, Bool.true_eq, Bool.not_eq_eq_eq_not]) | refine And.intro ?_ (fun hif => (hif trivial).elim) | (intro hif; try (first | contradiction | (exfalso; omega))))
    (first | exact List.prefix_rfl | exact ⟨rfl, List.prefix_rfl⟩ | exact ⟨by simp, List.prefix_rfl⟩)

/-- A call that hands back a list of lists in new memory, and leaves all rows alone. -/
def ARetL (P : Program) (f : FuncId) (args : List XV) (m : Heap) (ll : List (List Int)) : Prop :=
  ACalls P f args m fun x m' => ∃ s', x = .one (.sl s') ∧ Grow 0 0 m m' ∧ LObj m.length m'.length m' s' ll
theorem ARetL.call {P : Program} {f : FuncId} {args : List XV} {m : Heap} {ll : List (List Int)} {K : XV → Heap → Prop} (h : ARetL P f args m ll) (hk : ∀ (s' : SV) (m' : Heap), Grow 0 0 m m' → LObj m.length m'.length m' s' ll → K (.one (.sl s')) m') : ACalls P f args m K :=
  ACalls.mono h fun _ m' ⟨s', hx, hg, ho⟩ => hx ▸ hk s' m' hg ho
theorem arln {P : Program} {f : FuncId} {n : Nat} {code : ACode} {res : List Nat} (ht : trFnC P f = some ⟨n, code, res⟩) {args : List XV} {m : Heap} {ll : List (List Int)} (hlen : Nat.ble args.length n = true)
    (h : m.wf → awp P code (retPost res fun x m' => ∃ s', x = .one (.sl s') ∧ Grow 0 0 m m' ∧ LObj m.length m'.length m' s' ll) (argFrame 0 args) m) : ARetL P f args m ll :=
  ACalls.wf fun hwf => afn ht hlen (h hwf)

theorem lobj_nil {m : Heap} (hwf : m.wf) (a b : Nat) : LObj a b m SV.nil [] := ⟨hwf, [], 0, .inl ⟨rfl, rfl⟩, .inl rfl, rfl, fun i hi => absurd hi (Nat.not_lt_zero _)⟩
theorem lobj_new {m : Heap} (hwf : m.wf) : LObj m.length (m.length + 1) (m ++ [⟨Ty.Sl_int, m.length, true, .sls []⟩]) ⟨.row m.length, 0, 0⟩ [] :=
  ⟨wf_push hwf (Nat.le_refl _), [], m.length, acc_new hwf _ _ rfl, .inr ⟨Nat.le_refl _, Nat.lt_succ_self _⟩, rfl, fun i hi => absurd hi (Nat.not_lt_zero _)⟩

theorem impl_spec_NetOk_t {s : SV} {net : List Int} {m : Heap} (hs : IsInts .i64 m s net) (hb : NetOk net) : AQuiet Try.prog F.spec_NetOk [.one (.sl s)] m (.one (.bool true)) := by have := spec_NetOk s net m hs; rw [decide_eq_true hb] at this; exact this
theorem impl_spec_NetOk_f {s : SV} {net : List Int} {m : Heap} (hs : IsInts .i64 m s net) (hb : ¬ NetOk net) : AQuiet Try.prog F.spec_NetOk [.one (.sl s)] m (.one (.bool false)) := by have := spec_NetOk s net m hs; rw [decide_eq_false hb] at this; exact this

theorem impl_WireList_r (s : SV) (net : List Int) (m : Heap) (hs : IsInts .i64 m s net) : ARetL Try.prog F.impl_WireList [.one (.sl s)] m (wireList net) := by
  by_cases hN : NetOk net
  · rw [wireList, if_pos hN]
    refine ACalls.wf fun hwf => impl_WireList_g hs hN fun s' m' hg hL => ⟨s', rfl, hg, hg.wf, hL⟩
  · rw [wireList, if_neg hN]
    refine arln T.impl_WireList (by rfl) fun hwf => ?_
    repeat' (first | refine awp_seq ?_ | refine awp_block ?_ | refine thn_n ?_ | refine thn_e ?_ | refine thn_r ?_ | refine blk_n ?_ | refine blk_r ?_ | refine blk_here ?_ | refine blk_on rfl ?_ | refine awp_skip ?_ | refine awp_exit ?_ | refine awp_ret ?_ | refine ret_one rfl ?_ | refine ret_many rfl ?_ | refine end_one rfl ?_ | (first | refine awp_if rfl (fun hif => ?_) (fun hif => ?_) | refine awp_nif rfl (fun hif => ?_) (fun hif => ?_) | refine awp_not rfl (fun hif => ?_) (fun hif => ?_) | refine awp_cond rfl (fun hif => ?_) (fun hif => ?_)) <;> try (first | contradiction | (exfalso; omega)) | (refine hK _ _ ?_; clear hK K) | refine AQuiet.call (impl_NetOk_b false hs (decide_eq_false hN)) trivial ?_ | (refine And.intro (by first | omega | assumption | (constructor <;> omega)) ?_) | (refine And.intro (fun hif => ?_) (fun hif => ?_) <;> try (first | contradiction | (exfalso; omega))) | ((first | refine awp_reg fun K hK => ?_ | refine ops_go ?_ | refine kont_go ?_ | refine kv_go ?_ | refine ku_go ?_); simp only [↓awpOps, ↓aop, ↓aopQ, ↓abin, ↓aun, ↓onSome_some, ↓Kont_at, ↓KM_at, ↓KV_at, ↓KU_at, refId_row, Int.one_mul, Frame.ev, Frame.evs, Frame.evOr, Frame.put, Frame.keep, get_nil, get_cons, argFrame, resOf, fillA, Vals.len, Vals.get, Vals.set, Vals.app, Vals.sub, Vals.take, Vals.ofAgg_cons, Vals.ofList, Vals.toInts, Vals.toBools, Vals.toSls, Vals.toStrs, Vals.zeros, Nat.reduceBEq, Nat.reduceAdd, Nat.reduceEqDiff, cond_true, cond_false, if_true, if_false, Option.map_some, Option.map_none, List.length_cons, List.length_nil, List.replicate, List.set_cons_zero, List.set_cons_succ, Nat.reduceLT, true_and, and_true, forall_const, true_implies, Bool.not_true, Bool.not_false, Bool.true_eq_false, Bool.false_eq_true, false_implies, decide_eq_true_eq, decide_eq_false_iff_not, Int.not_lt, Int.not_le, Int.toNat_natCast, inR, Nat.zero_add, Int.toNat_zero, reduceCtorEq, IntKind.bits, List.nil_append, List.cons_append, Nat.add_zero, implies_true, ite_self, Nat.zero_lt_succ, Nat.lt_add_one, Int.zero_sub, Nat.sub_zero, Int.ofNat_toNat, List.map_cons, List.map_nil, Bool.true_eq, Bool.not_eq_eq_eq_not]) | refine And.intro ?_ (fun hif => (hif trivial).elim) | (intro hif; try (first | contradiction | (exfalso; omega))))
    exact ⟨_, rfl, Grow.refl hwf _ _, lobj_nil hwf _ _⟩

theorem wireList_small (net : List Int) : (wireList net).length ≤ 100000000 ∧ (∀ i, i < (wireList net).length → ((wireList net).getD i []).length ≤ 1000000) ∧ (0 ≤ (1 : Int) ∧ (1 : Int) + (tot (wireList net) (wireList net).length : Int) ≤ 1000000000) := by
  have hl : (wireList net).length ≤ 36 := by
    unfold wireList
    split
    · rename_i h; exact Nat.le_trans (wiresTo_len net h.six net.length) (by have := h.six; omega)
    · simp
  have hi : ∀ i, i < (wireList net).length → ((wireList net).getD i []).length ≤ 2 := fun i hi => by
    unfold wireList at hi ⊢
    split
    · rename_i h
      rw [if_pos h] at hi
      obtain ⟨a, b, e, _⟩ := wire_at hi
      rw [e]; simp
    · rename_i h
      rw [if_neg h] at hi
      exact absurd hi (Nat.not_lt_zero _)
  have ht : ∀ i, i ≤ (wireList net).length → tot (wireList net) i ≤ 2 * i := fun i => by
    induction i with
    | zero => intro _; exact Nat.le_refl _
    | succ i ih => intro h; have h1 := ih (by omega); have h2 := hi i (by omega); unfold tot; omega
  refine ⟨by omega, fun i h => by have := hi i h; omega, by decide, ?_⟩
  have := ht _ (Nat.le_refl _)
  omega

end Go.Abs
