/- What draws a net and a row leaves some net and some row, whatever the code. Own work; no condition. -/
import Derived.Test.YtmiaggnlchfiiaaDraw2
import Derived.Test.YtmiaggnlchfiiaaGrow
set_option maxRecDepth 100000
set_option linter.unusedSimpArgs false
set_option linter.unusedVariables false
namespace Go.Abs
open Go.Proofs
attribute [local irreducible] awp awpOps aloop ALoop ACalls ACallq AQuiet retPost AExit.thn AExit.blk aApp aSt

theorem grow_set {m : Heap} {i : Nat} {r r' : Row} (hwf : m.wf) (h : m[i]? = some r) (hf : r'.fam = r.fam) (ho : r'.own = r.own) (hl : r'.vals.len ≤ r.vals.len) : Grow r.fam (r.fam + 1) m (m.set i r') := by
  have hil := get_lt h
  refine ⟨by rw [List.length_set]; exact Nat.le_refl _, fun j s hs hn => ?_, fun j s hj hs => ?_, fun j s hj hs => ?_, wf_set hwf (by rw [hf]; exact hwf i r h)⟩
  · rw [get_set_ne (fun e => by subst e; rw [h] at hs; cases hs; omega)]
    exact hs
  · by_cases e : i = j
    · subst e
      rw [get_set_self hil] at hs
      cases hs
      exact ⟨r, h, hf.symm, ho.symm, hl⟩
    · rw [get_set_ne e] at hs
      exact ⟨s, hs, rfl, rfl, Nat.le_refl _⟩
  · have := get_lt hs
    rw [List.length_set] at this
    omega

theorem IsRd.grow {m0 m m' : Heap} {rid c d : Nat} {b : SV} {bl : List Int} {p : Int} (h : IsRd m0 m rid b bl p) (hwf : m0.wf) (g : Grow c d m m') (hc : rid < c ∨ d ≤ rid) (h0 : m0.length ≤ c) : IsRd m0 m' rid b bl p := by
  refine ⟨g.pre h.pre hwf h0, h.le, g.keep rid _ h.row (by simp only [rdRow]; omega), fun j r hr ho hf => ?_, h.ints, h.low, h.len⟩
  by_cases hj : j < m.length
  · obtain ⟨r0, e1, e2, e3, _⟩ := g.old j r hj hr
    exact h.alone j r0 e1 (e3.trans ho) (e2.trans hf)
  · have := get_lt h.row
    rcases g.new j r (by omega) hr with h1 | h1 <;> omega

/-- A draw, what it changes told. -/
theorem pick_g {m0 m : Heap} {rid : Nat} {b : SV} {bl : List Int} {p n : Int} {K : XV → Heap → Prop} (h : IsRd m0 m rid b bl p) (hwf : m.wf) (hp : 0 ≤ p ∧ p < 1000000) (hn : n ≤ 1000000)
    (hK : ∀ (x : Int) (m' : Heap), 0 ≤ x → (x < n ∨ x = 0) → Grow rid (rid + 1) m m' → m'.length = m.length → IsRd m0 m' rid b bl (p + 1) → K (.one (.int .i64 x)) m') : ACalls Try.prog F.spec_l20Rd_pick [.one (.ptr rid 0), .one (.int .i64 n)] m K :=
  spec_pick h hp hn fun x h1 h2 => hK x _ h1 h2 (grow_set hwf h.row rfl rfl (Nat.le_refl _)) List.length_set (h.set _)

theorem odd_g {m0 m : Heap} {rid : Nat} {b : SV} {bl : List Int} {p n : Int} {K : XV → Heap → Prop} (h : IsRd m0 m rid b bl p) (hwf : m.wf) (hp : 0 ≤ p ∧ p < 1000000) (hn : 1 ≤ n ∧ n ≤ 1000000)
    (hK : ∀ (x : Bool) (m' : Heap), Grow rid (rid + 1) m m' → m'.length = m.length → IsRd m0 m' rid b bl (p + 1) → K (.one (.bool x)) m') : ACalls Try.prog F.spec_l20Rd_odd [.one (.ptr rid 0), .one (.int .i64 n)] m K :=
  spec_odd h hp hn fun x => hK x _ (grow_set hwf h.row rfl rfl (Nat.le_refl _)) List.length_set (h.set _)

/-- A slice of numbers in rows of families in a..b. -/
def Held (a b : Nat) (m : Heap) (s : SV) (l : List Int) : Prop :=
  s.len = l.length ∧ ∀ i, i < l.length → ∃ r, m[s.ref.id]? = some r ∧ a ≤ r.fam ∧ r.fam < b ∧ s.off + i < r.vals.len ∧ r.vals.get (s.off + i) = .int .i64 (l.getD i 0)
theorem Held.isInts {a b : Nat} {m : Heap} {s : SV} {l : List Int} (h : Held a b m s l) : IsInts .i64 m s l :=
  ⟨h.1, fun i hi => by obtain ⟨r, h1, _, _, h4, h5⟩ := h.2 i hi; rw [at_row h1 h4, h5]⟩
theorem Held.grow {a b c d : Nat} {m m' : Heap} {s : SV} {l : List Int} (h : Held a b m s l) (g : Grow c d m m') (hd : b ≤ c ∨ d ≤ a) : Held a b m' s l :=
  ⟨h.1, fun i hi => by obtain ⟨r, h1, h2, h3, h4⟩ := h.2 i hi; exact ⟨r, g.keep _ _ h1 (by omega), h2, h3, h4⟩⟩
theorem Held.mono {a b a' b' : Nat} {m : Heap} {s : SV} {l : List Int} (h : Held a b m s l) (ha : a' ≤ a) (hb : b ≤ b') : Held a' b' m s l :=
  ⟨h.1, fun i hi => by obtain ⟨r, h1, h2, h3, h4⟩ := h.2 i hi; exact ⟨r, h1, by omega, by omega, h4⟩⟩
theorem Obj.held {e : TypeId} {a b : Nat} {m : Heap} {s : SV} {l : List Int} (h : Obj e a b m s (.ints .i64 l)) : Held a b m s l := by
  refine ⟨h.len, fun i hi => ?_⟩
  rcases h with ⟨_, h0⟩ | ⟨id, f, h1, h2, rfl, h4⟩
  · simp only [Vals.len] at h0; omega
  · exact ⟨_, h4, h1, h2, by simp only [Vals.len]; omega, by simp [Vals.get]⟩
theorem Held.take {a b : Nat} {m : Heap} {s : SV} {l : List Int} (h : Held a b m s l) {n : Nat} (hn : n ≤ l.length) : Held a b m ⟨s.ref, s.off, n⟩ (l.take n) := by
  refine ⟨by simp only [List.length_take]; omega, fun i hi => ?_⟩
  rw [List.length_take] at hi
  obtain ⟨r, h1, h2, h3, h4, h5⟩ := h.2 i (by omega)
  refine ⟨r, h1, h2, h3, h4, ?_⟩
  rw [h5]
  simp only [List.getD_eq_getElem?_getD, List.getElem?_take]
  rw [if_pos (by omega)]

/-- A net and a row that were drawn, and the reader behind them. -/
structure Drawn2 (m0 m' : Heap) (rid : Nat) (b : SV) (bl : List Int) (p : Int) (s s' : SV) (net row : List Int) : Prop where
  rd : ∃ q, IsRd m0 m' rid b bl q ∧ p ≤ q ∧ q ≤ p + 300
  hnet : Held (rid + 1) m'.length m' s net
  hrow : Held (rid + 1) m'.length m' s' row
  wf : m'.wf
  six : net.length ≤ 6
  six' : row.length ≤ 6

theorem spec_l20Row {m0 m : Heap} {rid : Nat} {b : SV} {bl : List Int} {p n most : Int} {K : XV → Heap → Prop} (h : IsRd m0 m rid b bl p) (hwf0 : m0.wf) (hp : 0 ≤ p ∧ p < 800000) (hn : 1 ≤ n ∧ n ≤ 1000000) (hmost : 0 ≤ most ∧ most ≤ 100000) (hwf : m.wf)
    (hK : ∀ (s s' : SV) (m' : Heap) (net row : List Int), Drawn2 m0 m' rid b bl p s s' net row → K (.tup [.sl s, .sl s']) m') : ACalls Try.prog F.spec_l20Row [.one (.ptr rid 0), .one (.int .i64 n), .one (.int .i64 most)] m K := by
  refine afn T.spec_l20Row (by rfl) ?_
  repeat' (first | refine awp_seq ?_ | refine awp_block ?_ | refine thn_n ?_ | refine thn_e ?_ | refine thn_r ?_ | refine blk_n ?_ | refine blk_r ?_ | refine blk_here ?_ | refine blk_on rfl ?_ | refine awp_skip ?_ | refine awp_exit ?_ | refine awp_ret ?_ | refine ret_one rfl ?_ | refine ret_many rfl ?_ | refine end_one rfl ?_ | (first | refine awp_if rfl (fun hif => ?_) (fun hif => ?_) | refine awp_nif rfl (fun hif => ?_) (fun hif => ?_) | refine awp_not rfl (fun hif => ?_) (fun hif => ?_) | refine awp_cond rfl (fun hif => ?_) (fun hif => ?_)) <;> try (first | contradiction | (exfalso; omega)) | (refine hK _ _ ?_; clear hK K) | refine spec_l20Net h (by omega) hn hwf fun s1 m1 net hd => ?_ | (refine And.intro (by first | omega | assumption | (constructor <;> omega)) ?_) | (refine And.intro (fun hif => ?_) (fun hif => ?_) <;> try (first | contradiction | (exfalso; omega))) | ((first | refine awp_reg fun K hK => ?_ | refine ops_go ?_ | refine kont_go ?_ | refine kv_go ?_ | refine ku_go ?_); simp only [↓awpOps, ↓aop, ↓aopQ, ↓abin, ↓aun, ↓onSome_some, ↓Kont_at, ↓KM_at, ↓KV_at, ↓KU_at, refId_row, Int.one_mul, Frame.ev, Frame.evs, Frame.evOr, Frame.put, Frame.keep, get_nil, get_cons, argFrame, resOf, fillA, Vals.len, Vals.get, Vals.set, Vals.app, Vals.sub, Vals.take, Vals.ofList, Vals.toInts, Vals.toBools, Vals.toSls, Vals.toStrs, Vals.zeros, Nat.reduceBEq, Nat.reduceAdd, Nat.reduceEqDiff, cond_true, cond_false, if_true, if_false, Option.map_some, Option.map_none, List.length_cons, List.length_nil, List.replicate, List.set_cons_zero, List.set_cons_succ, Nat.reduceLT, true_and, and_true, forall_const, true_implies, Bool.not_true, Bool.not_false, Bool.true_eq_false, Bool.false_eq_true, false_implies, decide_eq_true_eq, decide_eq_false_iff_not, Int.not_lt, Int.not_le, Int.toNat_natCast, inR, Nat.zero_add, Int.toNat_zero, reduceCtorEq, IntKind.bits, List.nil_append, List.cons_append, Nat.add_zero, implies_true, ite_self, Nat.zero_lt_succ, Nat.lt_add_one, Int.zero_sub, Nat.sub_zero, Int.ofNat_toNat, List.map_cons, List.map_nil, Bool.true_eq, Bool.not_eq_eq_eq_not]) | (intro hif; try (first | contradiction | (exfalso; omega))))
  obtain ⟨q1, hR1, hq1, hq2⟩ := hd.rd
  obtain ⟨id, ho⟩ := hd.own
  have h6 := hd.six
  have hw1 := hd.wf
  have his := ho.is
  subst his
  have hN1 : Obj Ty.int id (id + 1) m1 ⟨.row id, 0, net.length⟩ (.ints .i64 net) := .inr ⟨id, id, Nat.le_refl _, Nat.lt_succ_self _, rfl, ho.row⟩
  have hrm := get_lt h.row
  have hidl := ho.le
  have hid1 := get_lt ho.row
  have hr1 := get_lt hR1.row
  have hle0 := h.pre.length_le
  have hg2 := Grow.push hw1 Ty.int true (.ints .i64 [])
  refine awp_loop ?_
  refine ALoop.by [0, 1, 2, 8, 9, 10] (fun a : Nat × Int × SV × Nat × List Int × Heap => [(0, .one (.ptr rid 0)), (1, .one (.int .i64 n)), (2, .one (.int .i64 most)), (8, .one (.sl ⟨.row id, 0, net.length⟩)), (9, .one (.sl a.2.2.1)), (10, .one (.int .i64 a.1))]) (fun a => a.2.2.2.2.2)
    (fun a => a.1 ≤ net.length ∧ (q1 ≤ a.2.1 ∧ a.2.1 ≤ q1 + a.1) ∧ IsRd m0 a.2.2.2.2.2 rid b bl a.2.1 ∧ Obj Ty.int id (id + 1) a.2.2.2.2.2 ⟨.row id, 0, net.length⟩ (.ints .i64 net) ∧ Acc Ty.int a.2.2.2.1 a.2.2.2.2.2 a.2.2.1 (.ints .i64 a.2.2.2.2.1) ∧ (m1.length ≤ a.2.2.2.1 ∧ a.2.2.2.1 < a.2.2.2.2.2.length) ∧ a.2.2.2.2.2.wf ∧ m1.length ≤ a.2.2.2.2.2.length ∧ a.2.2.2.2.1.length = a.1)
    (fun a => net.length - a.1) (0, q1, ⟨.row m1.length, 0, 0⟩, m1.length, [], m1 ++ [⟨Ty.int, m1.length, true, .ints .i64 []⟩]) rfl rfl
    ⟨Nat.zero_le _, by simp, hR1.grow hwf0 (hg2.any m1.length m1.length) (.inl hr1) (by omega), hN1.grow0 hg2, acc_new hw1 _ _ rfl, by simp, hg2.wf, by simp, rfl⟩ ?_
  rintro ⟨k, q, s2, f, l, m2⟩ ⟨hk, ⟨hqa, hqb⟩, hR2, hN2, hA2, ⟨hf1, hf2⟩, hw2, hl2, hlen⟩ K1 hK1
  simp only at hk hqa hqb hR2 hN2 hA2 hf1 hf2 hw2 hl2 hlen
  by_cases hlt : k < net.length
  · repeat' (first | refine awp_seq ?_ | refine awp_block ?_ | refine thn_n ?_ | refine thn_e ?_ | refine thn_r ?_ | refine blk_n ?_ | refine blk_r ?_ | refine blk_here ?_ | refine blk_on rfl ?_ | refine awp_skip ?_ | refine awp_exit ?_ | refine awp_ret ?_ | refine ret_one rfl ?_ | refine ret_many rfl ?_ | refine end_one rfl ?_ | (first | refine awp_if rfl (fun hif => ?_) (fun hif => ?_) | refine awp_nif rfl (fun hif => ?_) (fun hif => ?_) | refine awp_not rfl (fun hif => ?_) (fun hif => ?_) | refine awp_cond rfl (fun hif => ?_) (fun hif => ?_)) <;> try (first | contradiction | (exfalso; omega)) | (refine hK _ _ ?_; clear hK K) | refine pick_g hR2 hw2 (by omega) (by omega) fun x m3 hx0 hx hg3 hl3 hR3 => ?_ | refine app_int hg3.wf (hA2.grow hg3 (by omega) hf2) (by omega) fun s4 m4 f4 hp4 hg4 hA4 hf4 hl4 => ?_ | (refine And.intro (by first | omega | assumption | (constructor <;> omega)) ?_) | (refine And.intro (fun hif => ?_) (fun hif => ?_) <;> try (first | contradiction | (exfalso; omega))) | ((first | refine awp_reg fun K hK => ?_ | refine ops_go ?_ | refine kont_go ?_ | refine kv_go ?_ | refine ku_go ?_); simp only [↓awpOps, ↓aop, ↓aopQ, ↓abin, ↓aun, ↓onSome_some, ↓Kont_at, ↓KM_at, ↓KV_at, ↓KU_at, refId_row, Int.one_mul, Frame.ev, Frame.evs, Frame.evOr, Frame.put, Frame.keep, get_nil, get_cons, argFrame, resOf, fillA, Vals.len, Vals.get, Vals.set, Vals.app, Vals.sub, Vals.take, Vals.ofList, Vals.toInts, Vals.toBools, Vals.toSls, Vals.toStrs, Vals.zeros, Nat.reduceBEq, Nat.reduceAdd, Nat.reduceEqDiff, cond_true, cond_false, if_true, if_false, Option.map_some, Option.map_none, List.length_cons, List.length_nil, List.replicate, List.set_cons_zero, List.set_cons_succ, Nat.reduceLT, true_and, and_true, forall_const, true_implies, Bool.not_true, Bool.not_false, Bool.true_eq_false, Bool.false_eq_true, false_implies, decide_eq_true_eq, decide_eq_false_iff_not, Int.not_lt, Int.not_le, Int.toNat_natCast, inR, Nat.zero_add, Int.toNat_zero, reduceCtorEq, IntKind.bits, List.nil_append, List.cons_append, Nat.add_zero, implies_true, ite_self, Nat.zero_lt_succ, Nat.lt_add_one, Int.zero_sub, Nat.sub_zero, Int.ofNat_toNat, List.map_cons, List.map_nil, Bool.true_eq, Bool.not_eq_eq_eq_not]) | (intro hif; try (first | contradiction | (exfalso; omega))))
    have hg4' := hg4 f (f + 1) (.inr ⟨Nat.le_refl _, Nat.lt_succ_self _⟩)
    have hle4 := hp4.length_le
    refine hK1 (k + 1, q + 1, s4, f4, l ++ [x], m4) _ _ rfl rfl ⟨by simp only; omega, ⟨by simp only; omega, by simp only; omega⟩, hR3.grow hwf0 hg4' (by omega) (by omega), (hN2.grow hg3 (by omega)).grow hg4' (by omega), hA4, ⟨?_, hl4⟩, hg4'.wf, by simp only; omega, by simp only [List.length_append, List.length_cons, List.length_nil]; omega⟩ (by simp only; omega)
    show m1.length ≤ f4
    rcases hf4 with ⟨e, _⟩ | e <;> omega
  · obtain rfl : k = net.length := by omega
    have hO2 : Obj Ty.int f (f + 1) m2 s2 (.ints .i64 l) := hA2.obj (Nat.le_refl _) (Nat.lt_succ_self _)
    obtain ⟨r2, o2, n2⟩ := s2
    obtain rfl : n2 = l.length := hO2.len
    have fin : ∀ (m' : Heap) (s' : SV) (row : List Int) (q' : Int), IsRd m0 m' rid b bl q' → q ≤ q' → q' ≤ q + 3 → Obj Ty.int id (id + 1) m' ⟨.row id, 0, net.length⟩ (.ints .i64 net) → Held f (f + 1) m' s' row → m'.wf → m2.length ≤ m'.length → row.length ≤ 6 → K (.tup [.sl ⟨.row id, 0, net.length⟩, .sl s']) m' := fun m' s' row q' a1 a2 a3 a4 a5 a6 a7 a8 =>
      hK _ _ _ net row ⟨⟨q', a1, by omega, by omega⟩, a4.held.mono (by omega) (by omega), a5.mono (by omega) (by omega), a6, h6, a8⟩
    rcases hO2 with ⟨e0, h0⟩ | ⟨wid, f', ha', hb', hsv, hrow⟩
    · simp only [Vals.len] at h0
      obtain rfl : l = [] := List.eq_nil_of_length_eq_zero h0
      repeat' (first | refine awp_seq ?_ | refine awp_block ?_ | refine thn_n ?_ | refine thn_e ?_ | refine thn_r ?_ | refine blk_n ?_ | refine blk_r ?_ | refine blk_here ?_ | refine blk_on rfl ?_ | refine awp_skip ?_ | refine awp_exit ?_ | refine awp_ret ?_ | refine ret_one rfl ?_ | refine ret_many rfl ?_ | refine end_one rfl ?_ | (first | refine awp_if rfl (fun hif => ?_) (fun hif => ?_) | refine awp_nif rfl (fun hif => ?_) (fun hif => ?_) | refine awp_not rfl (fun hif => ?_) (fun hif => ?_) | refine awp_cond rfl (fun hif => ?_) (fun hif => ?_)) <;> try (first | contradiction | (exfalso; omega)) | (refine hK _ _ ?_; clear hK K) | refine odd_g hR2 hw2 (by omega) hn fun o m3 hg3 hl3 hR3 => ?_ | (refine And.intro (by first | omega | assumption | (constructor <;> omega)) ?_) | (refine And.intro (fun hif => ?_) (fun hif => ?_) <;> try (first | contradiction | (exfalso; omega))) | ((first | refine awp_reg fun K hK => ?_ | refine ops_go ?_ | refine kont_go ?_ | refine kv_go ?_ | refine ku_go ?_); simp only [↓awpOps, ↓aop, ↓aopQ, ↓abin, ↓aun, ↓onSome_some, ↓Kont_at, ↓KM_at, ↓KV_at, ↓KU_at, refId_row, Int.one_mul, Frame.ev, Frame.evs, Frame.evOr, Frame.put, Frame.keep, get_nil, get_cons, argFrame, resOf, fillA, Vals.len, Vals.get, Vals.set, Vals.app, Vals.sub, Vals.take, Vals.ofList, Vals.toInts, Vals.toBools, Vals.toSls, Vals.toStrs, Vals.zeros, Nat.reduceBEq, Nat.reduceAdd, Nat.reduceEqDiff, cond_true, cond_false, if_true, if_false, Option.map_some, Option.map_none, List.length_cons, List.length_nil, List.replicate, List.set_cons_zero, List.set_cons_succ, Nat.reduceLT, true_and, and_true, forall_const, true_implies, Bool.not_true, Bool.not_false, Bool.true_eq_false, Bool.false_eq_true, false_implies, decide_eq_true_eq, decide_eq_false_iff_not, Int.not_lt, Int.not_le, Int.toNat_natCast, inR, Nat.zero_add, Int.toNat_zero, reduceCtorEq, IntKind.bits, List.nil_append, List.cons_append, Nat.add_zero, implies_true, ite_self, Nat.zero_lt_succ, Nat.lt_add_one, Int.zero_sub, Nat.sub_zero, Int.ofNat_toNat, List.map_cons, List.map_nil, Bool.true_eq, Bool.not_eq_eq_eq_not]) | (intro hif; try (first | contradiction | (exfalso; omega))))
      all_goals first
        | (exfalso; simp only [List.length_nil] at *; omega)
        | exact fin _ _ [] _ hR3 (by omega) (by omega) (hN2.grow hg3 (by omega)) ⟨rfl, fun i hi => absurd hi (Nat.not_lt_zero _)⟩ hg3.wf (by omega) (by simp)
    · obtain rfl : f' = f := by omega
      simp only [SV.mk.injEq, Vals.len, and_true] at hsv
      obtain ⟨rfl, rfl⟩ := hsv
      have hH2 : Held f' (f' + 1) m2 ⟨.row wid, 0, l.length⟩ l := Obj.held (.inr ⟨wid, f', ha', hb', rfl, hrow⟩)
      have hkp : ∀ m', Grow rid (rid + 1) m2 m' → m'[wid]? = some ⟨Ty.int, f', true, .ints .i64 l⟩ := fun m' g => g.keep _ _ hrow (by simp only; omega)
      repeat' (first | refine awp_seq ?_ | refine awp_block ?_ | refine thn_n ?_ | refine thn_e ?_ | refine thn_r ?_ | refine blk_n ?_ | refine blk_r ?_ | refine blk_here ?_ | refine blk_on rfl ?_ | refine awp_skip ?_ | refine awp_exit ?_ | refine awp_ret ?_ | refine ret_one rfl ?_ | refine ret_many rfl ?_ | refine end_one rfl ?_ | (first | refine awp_if rfl (fun hif => ?_) (fun hif => ?_) | refine awp_nif rfl (fun hif => ?_) (fun hif => ?_) | refine awp_not rfl (fun hif => ?_) (fun hif => ?_) | refine awp_cond rfl (fun hif => ?_) (fun hif => ?_)) <;> try (first | contradiction | (exfalso; omega)) | (refine hK _ _ ?_; clear hK K) | refine odd_g hR2 hw2 (by omega) hn fun o m3 hg3 hl3 hR3 => ?_ | refine pick_g hR3 hg3.wf (by omega) (by omega) fun x m4 hx0 hx hg4 hl4 hR4 => ?_ | refine pick_g hR4 hg4.wf (by omega) (by omega) fun y m5 hy0 hy hg5 hl5 hR5 => ?_ | refine st_row hg5.wf (hkp _ ((hg3.trans hg4).trans hg5)) (by simp only [Vals.len]; omega) rfl fun m6 hg6 hl6 hr6 => ?_ | (refine And.intro (by first | omega | assumption | (constructor <;> omega)) ?_) | (refine And.intro (fun hif => ?_) (fun hif => ?_) <;> try (first | contradiction | (exfalso; omega))) | ((first | refine awp_reg fun K hK => ?_ | refine ops_go ?_ | refine kont_go ?_ | refine kv_go ?_ | refine ku_go ?_); simp only [↓awpOps, ↓aop, ↓aopQ, ↓abin, ↓aun, ↓onSome_some, ↓Kont_at, ↓KM_at, ↓KV_at, ↓KU_at, refId_row, Int.one_mul, Frame.ev, Frame.evs, Frame.evOr, Frame.put, Frame.keep, get_nil, get_cons, argFrame, resOf, fillA, Vals.len, Vals.get, Vals.set, Vals.app, Vals.sub, Vals.take, Vals.ofList, Vals.toInts, Vals.toBools, Vals.toSls, Vals.toStrs, Vals.zeros, Nat.reduceBEq, Nat.reduceAdd, Nat.reduceEqDiff, cond_true, cond_false, if_true, if_false, Option.map_some, Option.map_none, List.length_cons, List.length_nil, List.replicate, List.set_cons_zero, List.set_cons_succ, Nat.reduceLT, true_and, and_true, forall_const, true_implies, Bool.not_true, Bool.not_false, Bool.true_eq_false, Bool.false_eq_true, false_implies, decide_eq_true_eq, decide_eq_false_iff_not, Int.not_lt, Int.not_le, Int.toNat_natCast, inR, Nat.zero_add, Int.toNat_zero, reduceCtorEq, IntKind.bits, List.nil_append, List.cons_append, Nat.add_zero, implies_true, ite_self, Nat.zero_lt_succ, Nat.lt_add_one, Int.zero_sub, Nat.sub_zero, Int.ofNat_toNat, List.map_cons, List.map_nil, Bool.true_eq, Bool.not_eq_eq_eq_not]) | (intro hif; try (first | contradiction | (exfalso; omega))))
      all_goals first
        | exact fin _ _ l _ hR3 (by omega) (by omega) (hN2.grow hg3 (by omega)) (hH2.grow hg3 (by omega)) hg3.wf (by omega) (by omega)
        | (have hge : (1 : Int) ≤ l.length := by omega
           have ht := (hH2.grow (hg3.trans hg4) (by omega)).take (n := ((l.length : Int) - 1).toNat) (by omega)
           exact fin _ _ _ _ hR4 (by omega) (by omega) (hN2.grow (hg3.trans hg4) (by omega)) ht hg4.wf (by omega) (by rw [List.length_take]; omega))
        | exact fin _ _ _ _ (hR5.grow hwf0 hg6 (by omega) (by omega)) (by omega) (by omega) ((hN2.grow ((hg3.trans hg4).trans hg5) (by omega)).grow hg6 (by omega)) (Obj.held (.inr ⟨wid, f', Nat.le_refl _, Nat.lt_succ_self _, by simp [Vals.len], hr6⟩)) hg6.wf (by omega) (by rw [List.length_set]; omega)
        | skip

/-- A net and a row, drawn from the code. -/
theorem draw_row {s : SV} {l : List Int} {m : Heap} {K : XV → Heap → Prop} {n most : Int} (hn : 1 ≤ n ∧ n ≤ 1000000) (hmost : 0 ≤ most ∧ most ≤ 100000) (hs : IsInts .u8 m s l) (hw : ∀ i, 0 ≤ (l.getD i 0) ∧ (l.getD i 0) ≤ 255)
    (hK : ∀ (s1 s2 : SV) (m' : Heap) (net row : List Int), m <+: m' → m'.wf → IsInts .i64 m' s1 net → IsInts .i64 m' s2 row → net.length ≤ 6 → row.length ≤ 6 → K (.tup [.sl s1, .sl s2]) m') :
    ∀ (b : SV) (bl : List Int), IsRd m (m ++ [rdRow m.length b 0]) m.length b bl 0 → m.wf → ACalls Try.prog F.spec_l20Row [.one (.ptr m.length 0), .one (.int .i64 n), .one (.int .i64 most)] (m ++ [rdRow m.length b 0]) K := by
  intro b bl h hwf
  refine spec_l20Row h hwf ⟨Int.le_refl _, by decide⟩ hn hmost (wf_push hwf (Nat.le_refl _)) fun s1 s2 m' net row hd => ?_
  obtain ⟨q, hr, _⟩ := hd.rd
  exact hK s1 s2 m' net row hr.pre hd.wf hd.hnet.isInts hd.hrow.isInts hd.six hd.six'

end Go.Abs
