/- The wires of a net: WireList, WiresOf of both. Own work; no condition. -/
import Derived.Test.YtcbnigipnepnkaaLaws0
import Derived.Test.YtcbnigipnepnkaaSpec1
set_option maxRecDepth 100000
set_option linter.unusedSimpArgs false
set_option linter.unusedVariables false
namespace Go.Abs
open Go.Proofs
attribute [local irreducible] awp awpOps aloop ALoop ACalls ACallq AQuiet retPost retPostA AExit.thn AExit.blk aApp aSt aStA

/-- The wires from place k to places below j; those from places below k. -/
def wiresIn (net : List Int) (k : Nat) : Nat → List (List Int)
  | 0 => []
  | j + 1 => if k < j ∧ bit ((net.getD k 0)) j = true then wiresIn net k j ++ [[(k : Int), (j : Int)]] else wiresIn net k j
def wiresTo (net : List Int) : Nat → List (List Int)
  | 0 => []
  | k + 1 => wiresTo net k ++ wiresIn net k net.length
def wires (net : List Int) : List (List Int) := wiresTo net net.length

theorem wiresIn_nil (net : List Int) (k : Nat) : ∀ j, j ≤ k + 1 → wiresIn net k j = []
  | 0, _ => rfl
  | j + 1, h => by
    unfold wiresIn
    rw [if_neg (by omega)]
    exact wiresIn_nil net k j (by omega)
theorem wiresIn_len (net : List Int) (k : Nat) : ∀ j, (wiresIn net k j).length ≤ j
  | 0 => Nat.le_refl _
  | j + 1 => by
    have := wiresIn_len net k j
    unfold wiresIn
    split
    · rw [List.length_append]; simp only [List.length_cons, List.length_nil]; omega
    · omega
theorem wiresTo_len (net : List Int) (h6 : net.length ≤ 6) : ∀ k, (wiresTo net k).length ≤ 6 * k
  | 0 => Nat.le_refl _
  | k + 1 => by
    have h1 := wiresTo_len net h6 k
    have h2 := wiresIn_len net k net.length
    unfold wiresTo
    rw [List.length_append]; omega

theorem Owns.len {m : Heap} {s : SV} {e : TypeId} {v : Vals} (h : Owns m s e v) : s.len = v.len := by
  rcases h with ⟨rfl, h0⟩ | ⟨id, f, rfl, _, _⟩
  · exact h0.symm
  · rfl

theorem Owns.push {m : Heap} {s : SV} {e e' : TypeId} {v v' : Vals} {o : Bool} (hwf : m.wf) (h : Owns m s e v) : Owns (m ++ [⟨e', m.length, o, v'⟩]) s e v := by
  rcases h with h | ⟨id, f, rfl, hid, hfam⟩
  · exact .inl h
  · have hil : id < m.length := (List.getElem?_eq_some_iff.1 hid).1
    have hf : f ≤ id := hwf id _ hid
    refine .inr ⟨id, f, rfl, by rw [List.getElem?_append_left hil]; exact hid, fun j r hr ho hfe => ?_⟩
    rcases get_push hr with ⟨_, h2⟩ | ⟨_, rfl⟩
    · exact hfam j r h2 ho hfe
    · simp only at hfe; omega

/-- A list of lists of numbers, each in a row of its own, all of them new. -/
structure IsWires (n0 : Nat) (m : Heap) (s : SV) (ll : List (List Int)) : Prop where
  own : ∃ svs, Owns m s Ty.Sl_int (.sls svs) ∧ svs.length = ll.length ∧ ∀ i, i < ll.length → ∃ id, n0 ≤ id ∧ svs.getD i SV.nil = ⟨.row id, 0, (ll.getD i []).length⟩ ∧ m[id]? = some ⟨Ty.int, id, true, .ints .i64 (ll.getD i [])⟩

theorem IsWires.len {n0 : Nat} {m : Heap} {s : SV} {ll : List (List Int)} (h : IsWires n0 m s ll) : s.len = ll.length := by
  obtain ⟨svs, h1, h2, _⟩ := h.own
  rw [h1.len, ← h2]; rfl

theorem row_prefix {m m' : Heap} (h : m <+: m') {id : Nat} {r : Row} (hr : m[id]? = some r) : m'[id]? = some r := by
  obtain ⟨t, rfl⟩ := h
  rw [List.getElem?_append_left (List.getElem?_eq_some_iff.1 hr).1]
  exact hr

theorem getD_push {α : Type} (l : List α) (x d : α) (i : Nat) : (l ++ [x]).getD i d = if i < l.length then l.getD i d else if i = l.length then x else d := by
  simp only [List.getD_eq_getElem?_getD, List.getElem?_append]
  split
  · rfl
  · split
    · rename_i h; subst h; simp
    · rw [List.getElem?_eq_none (by simp; omega)]; rfl

/-- append([]int{a, b}) to such a list. -/
theorem app_wires {n0 : Nat} {m : Heap} {s : SV} {ll : List (List Int)} {l : List Int} {K : XV → Heap → Prop} (hn : n0 ≤ m.length) (hwf : m.wf) (h : IsWires n0 m s ll) (hll : ll.length < 1000000)
    (hK : ∀ (s' : SV) (m' : Heap), m <+: m' → m'.wf → IsWires n0 m' s' (ll ++ [l]) → K (.one (.sl s')) m') :
    aApp Ty.Sl_int s ⟨.row (List.length (m ++ [(⟨Ty.int, m.length, true, .ints .i64 l⟩ : Row)])), 0, 1⟩ (m ++ [⟨Ty.int, m.length, true, .ints .i64 l⟩] ++ [⟨Ty.Sl_int, List.length (m ++ [(⟨Ty.int, m.length, true, .ints .i64 l⟩ : Row)]), true, .sls [⟨.row m.length, 0, l.length⟩]⟩]) K := by
  obtain ⟨svs, h1, h2, h3⟩ := h.own
  have hw1 : Heap.wf (m ++ [⟨Ty.int, m.length, true, .ints .i64 l⟩]) := wf_push hwf (Nat.le_refl _)
  have o1 := Owns.push (e' := Ty.int) (v' := .ints .i64 l) (o := true) hwf h1
  have o2 := Owns.push (e' := Ty.Sl_int) (v' := .sls [⟨.row m.length, 0, l.length⟩]) (o := true) hw1 o1
  refine aApp_owns (t := .sls (svs ++ [⟨.row m.length, 0, l.length⟩])) (wf_push hw1 (Nat.le_refl _)) o2 rfl (get_last _ _) rfl (by simp [Vals.len]) (by simp only [Vals.len, List.length_cons, List.length_nil]; omega) rfl fun s' m' hp hw ho => ?_
  have hp1 : m ++ [⟨Ty.int, m.length, true, .ints .i64 l⟩] <+: m' := (prefix_push _ _).trans hp
  refine hK s' m' ((prefix_push _ _).trans hp1) hw ⟨svs ++ [⟨.row m.length, 0, l.length⟩], ho, by simp [h2], fun i hi => ?_⟩
  rw [getD_push, getD_push, h2]
  rw [List.length_append, List.length_cons, List.length_nil] at hi
  by_cases hlt : i < ll.length
  · rw [if_pos hlt, if_pos hlt]
    obtain ⟨id, g1, g2, g3⟩ := h3 i hlt
    exact ⟨id, g1, g2, row_prefix ((prefix_push _ _).trans hp1) g3⟩
  · rw [if_neg hlt, if_neg hlt, if_pos (by omega), if_pos (by omega)]
    exact ⟨m.length, hn, rfl, row_prefix hp1 (get_last _ _)⟩

theorem isWires_nil (n0 : Nat) (m : Heap) : IsWires n0 m SV.nil [] := ⟨⟨[], .inl ⟨rfl, rfl⟩, rfl, fun i hi => absurd hi (Nat.not_lt_zero _)⟩⟩

theorem impl_WireList {s : SV} {net : List Int} {m : Heap} {K : XV → Heap → Prop} (hs : IsInts .i64 m s net) (hok : NetOk net)
    (hK : ∀ (s' : SV) (m' : Heap), m <+: m' → m'.wf → IsWires m.length m' s' (wires net) → K (.one (.sl s')) m') : ACalls Try.prog F.impl_WireList [.one (.sl s)] m K := by
  obtain ⟨ref, off, len⟩ := s
  obtain rfl : len = net.length := hs.1
  refine ACalls.wf fun hwf => ?_
  refine afn T.impl_WireList (by rfl) ?_
  have h6 := hok.six
  have hp6 := pow_le6 h6
  repeat' (first | refine awp_seq ?_ | refine awp_block ?_ | refine thn_n ?_ | refine thn_e ?_ | refine thn_r ?_ | refine blk_n ?_ | refine blk_r ?_ | refine blk_here ?_ | refine blk_on rfl ?_ | refine awp_skip ?_ | refine awp_exit ?_ | refine awp_ret ?_ | refine ret_one rfl ?_ | refine ret_many rfl ?_ | refine end_one rfl ?_ | (first | refine awp_if rfl (fun hif => ?_) (fun hif => ?_) | refine awp_nif rfl (fun hif => ?_) (fun hif => ?_) | refine awp_not rfl (fun hif => ?_) (fun hif => ?_) | refine awp_cond rfl (fun hif => ?_) (fun hif => ?_)) <;> try (first | contradiction | (exfalso; omega)) | (refine hK _ _ ?_; clear hK K) | refine AQuiet.call (impl_NetOk_b true hs (decide_eq_true hok)) trivial ?_ | (refine And.intro (by first | omega | assumption | (constructor <;> omega)) ?_) | (refine And.intro (fun hif => ?_) (fun hif => ?_) <;> try (first | contradiction | (exfalso; omega))) | ((first | refine awp_reg fun K hK => ?_ | refine ops_go ?_ | refine kont_go ?_ | refine kv_go ?_ | refine ku_go ?_); simp only [↓awpOps, ↓aop, ↓aopQ, ↓abin, ↓aun, ↓onSome_some, ↓Kont_at, ↓KM_at, ↓KV_at, ↓KU_at, refId_row, Int.one_mul, Frame.ev, Frame.evs, Frame.evOr, Frame.put, Frame.keep, get_nil, get_cons, argFrame, resOf, fillA, Vals.len, Vals.get, Vals.set, Vals.app, Vals.sub, Vals.take, Vals.ofAgg_cons, Vals.ofList, Vals.toInts, Vals.toBools, Vals.toSls, Vals.toStrs, Vals.zeros, Nat.reduceBEq, Nat.reduceAdd, Nat.reduceEqDiff, cond_true, cond_false, if_true, if_false, Option.map_some, Option.map_none, List.length_cons, List.length_nil, List.replicate, List.set_cons_zero, List.set_cons_succ, Nat.reduceLT, true_and, and_true, forall_const, true_implies, Bool.not_true, Bool.not_false, Bool.true_eq_false, Bool.false_eq_true, false_implies, decide_eq_true_eq, decide_eq_false_iff_not, Int.not_lt, Int.not_le, Int.toNat_natCast, inR, Nat.zero_add, Int.toNat_zero, reduceCtorEq, IntKind.bits, List.nil_append, List.cons_append, Nat.add_zero, implies_true, ite_self, Nat.zero_lt_succ, Nat.lt_add_one, Int.zero_sub, Nat.sub_zero, Int.ofNat_toNat, List.map_cons, List.map_nil, Bool.true_eq, Bool.not_eq_eq_eq_not]) | refine And.intro ?_ (fun hif => (hif trivial).elim) | (intro hif; try (first | contradiction | (exfalso; omega))))
  refine awp_loop ?_
  refine ALoop.by [0, 3, 4] (fun a : Nat × SV × Heap => [(0, .one (.sl ⟨ref, off, net.length⟩)), (3, .one (.sl a.2.1)), (4, .one (.int .i64 a.1))]) (fun a => a.2.2) (fun a => a.1 ≤ net.length ∧ m <+: a.2.2 ∧ a.2.2.wf ∧ IsWires m.length a.2.2 a.2.1 (wiresTo net a.1)) (fun a => net.length - a.1) (0, SV.nil, m) rfl rfl ⟨Nat.zero_le _, List.prefix_rfl, hwf, isWires_nil _ _⟩ ?_
  rintro ⟨k, t, m1⟩ ⟨hk, hm1, hw1, hT⟩ K1 hK1
  simp only at hk hm1 hw1 hT
  repeat' (first | refine awp_seq ?_ | refine awp_block ?_ | refine thn_n ?_ | refine thn_e ?_ | refine thn_r ?_ | refine blk_n ?_ | refine blk_r ?_ | refine blk_here ?_ | refine blk_on rfl ?_ | refine awp_skip ?_ | refine awp_exit ?_ | refine awp_ret ?_ | refine ret_one rfl ?_ | refine ret_many rfl ?_ | refine end_one rfl ?_ | (first | refine awp_if rfl (fun hif => ?_) (fun hif => ?_) | refine awp_nif rfl (fun hif => ?_) (fun hif => ?_) | refine awp_not rfl (fun hif => ?_) (fun hif => ?_) | refine awp_cond rfl (fun hif => ?_) (fun hif => ?_)) <;> try (first | contradiction | (exfalso; omega)) | (refine hK _ _ ?_; clear hK K) | (refine And.intro (by first | omega | assumption | (constructor <;> omega)) ?_) | (refine And.intro (fun hif => ?_) (fun hif => ?_) <;> try (first | contradiction | (exfalso; omega))) | ((first | refine awp_reg fun K hK => ?_ | refine ops_go ?_ | refine kont_go ?_ | refine kv_go ?_ | refine ku_go ?_); simp only [↓awpOps, ↓aop, ↓aopQ, ↓abin, ↓aun, ↓onSome_some, ↓Kont_at, ↓KM_at, ↓KV_at, ↓KU_at, refId_row, Int.one_mul, Frame.ev, Frame.evs, Frame.evOr, Frame.put, Frame.keep, get_nil, get_cons, argFrame, resOf, fillA, Vals.len, Vals.get, Vals.set, Vals.app, Vals.sub, Vals.take, Vals.ofAgg_cons, Vals.ofList, Vals.toInts, Vals.toBools, Vals.toSls, Vals.toStrs, Vals.zeros, Nat.reduceBEq, Nat.reduceAdd, Nat.reduceEqDiff, cond_true, cond_false, if_true, if_false, Option.map_some, Option.map_none, List.length_cons, List.length_nil, List.replicate, List.set_cons_zero, List.set_cons_succ, Nat.reduceLT, true_and, and_true, forall_const, true_implies, Bool.not_true, Bool.not_false, Bool.true_eq_false, Bool.false_eq_true, false_implies, decide_eq_true_eq, decide_eq_false_iff_not, Int.not_lt, Int.not_le, Int.toNat_natCast, inR, Nat.zero_add, Int.toNat_zero, reduceCtorEq, IntKind.bits, List.nil_append, List.cons_append, Nat.add_zero, implies_true, ite_self, Nat.zero_lt_succ, Nat.lt_add_one, Int.zero_sub, Nat.sub_zero, Int.ofNat_toNat, List.map_cons, List.map_nil, Bool.true_eq, Bool.not_eq_eq_eq_not]) | refine And.intro ?_ (fun hif => (hif trivial).elim) | (intro hif; try (first | contradiction | (exfalso; omega))))
  · refine awp_loop ?_
    have hlt : k < net.length := by omega
    refine ALoop.by [0, 3, 4, 5] (fun a : Nat × SV × Heap => [(0, .one (.sl ⟨ref, off, net.length⟩)), (3, .one (.sl a.2.1)), (4, .one (.int .i64 k)), (5, .one (.int .i64 a.1))]) (fun a => a.2.2) (fun a => a.1 ≤ net.length ∧ k < a.1 ∧ m <+: a.2.2 ∧ a.2.2.wf ∧ IsWires m.length a.2.2 a.2.1 (wiresTo net k ++ wiresIn net k a.1)) (fun a => net.length - a.1) (k + 1, t, m1) rfl rfl ⟨by simp only; omega, by simp only; omega, hm1, hw1, by rw [wiresIn_nil net k _ (Nat.le_refl _), List.append_nil]; exact hT⟩ ?_
    rintro ⟨j, t2, m2⟩ ⟨hj, hkj, hm2, hw2, hT2⟩ K2 hK2
    simp only at hj hkj hm2 hw2 hT2
    have hs2 := hs.pre hm2
    have hl1 := wiresTo_len net h6 k
    have hl2 := wiresIn_len net k j
    have hl0 : m.length ≤ m2.length := hm2.length_le
    have hbl : (wiresTo net k ++ wiresIn net k j).length < 1000000 := by rw [List.length_append]; omega
    repeat' (first | refine awp_seq ?_ | refine awp_block ?_ | refine thn_n ?_ | refine thn_e ?_ | refine thn_r ?_ | refine blk_n ?_ | refine blk_r ?_ | refine blk_here ?_ | refine blk_on rfl ?_ | refine awp_skip ?_ | refine awp_exit ?_ | refine awp_ret ?_ | refine ret_one rfl ?_ | refine ret_many rfl ?_ | refine end_one rfl ?_ | (first | refine awp_if rfl (fun hif => ?_) (fun hif => ?_) | refine awp_nif rfl (fun hif => ?_) (fun hif => ?_) | refine awp_not rfl (fun hif => ?_) (fun hif => ?_) | refine awp_cond rfl (fun hif => ?_) (fun hif => ?_)) <;> try (first | contradiction | (exfalso; omega)) | (refine hK _ _ ?_; clear hK K) | refine onSome_of (hs2.2 _ (by omega)) ?_ | refine AQuiet.call (impl_hasPlace _ j (hok.low k hlt) (by have := hok.high k hlt; omega) (by omega) _) trivial ?_ | refine app_wires hl0 hw2 hT2 hbl fun s' m' hp3 hw3 hT3 => ?_ | (refine And.intro (by first | omega | assumption | (constructor <;> omega)) ?_) | (refine And.intro (fun hif => ?_) (fun hif => ?_) <;> try (first | contradiction | (exfalso; omega))) | ((first | refine awp_reg fun K hK => ?_ | refine ops_go ?_ | refine kont_go ?_ | refine kv_go ?_ | refine ku_go ?_); simp only [↓awpOps, ↓aop, ↓aopQ, ↓abin, ↓aun, ↓onSome_some, ↓Kont_at, ↓KM_at, ↓KV_at, ↓KU_at, refId_row, Int.one_mul, Frame.ev, Frame.evs, Frame.evOr, Frame.put, Frame.keep, get_nil, get_cons, argFrame, resOf, fillA, Vals.len, Vals.get, Vals.set, Vals.app, Vals.sub, Vals.take, Vals.ofAgg_cons, Vals.ofList, Vals.toInts, Vals.toBools, Vals.toSls, Vals.toStrs, Vals.zeros, Nat.reduceBEq, Nat.reduceAdd, Nat.reduceEqDiff, cond_true, cond_false, if_true, if_false, Option.map_some, Option.map_none, List.length_cons, List.length_nil, List.replicate, List.set_cons_zero, List.set_cons_succ, Nat.reduceLT, true_and, and_true, forall_const, true_implies, Bool.not_true, Bool.not_false, Bool.true_eq_false, Bool.false_eq_true, false_implies, decide_eq_true_eq, decide_eq_false_iff_not, Int.not_lt, Int.not_le, Int.toNat_natCast, inR, Nat.zero_add, Int.toNat_zero, reduceCtorEq, IntKind.bits, List.nil_append, List.cons_append, Nat.add_zero, implies_true, ite_self, Nat.zero_lt_succ, Nat.lt_add_one, Int.zero_sub, Nat.sub_zero, Int.ofNat_toNat, List.map_cons, List.map_nil, Bool.true_eq, Bool.not_eq_eq_eq_not]) | refine And.intro ?_ (fun hif => (hif trivial).elim) | (intro hif; try (first | contradiction | (exfalso; omega))))
    · refine hK2 (j + 1, s', m') _ _ rfl rfl ⟨by simp only; omega, by simp only; omega, hm2.trans hp3, hw3, ?_⟩ (by simp only; omega)
      simp only [wiresIn]
      rw [if_pos ⟨hkj, hif⟩, ← List.append_assoc]
      exact hT3
    · refine hK2 (j + 1, t2, m2) _ _ rfl rfl ⟨by simp only; omega, by simp only; omega, hm2, hw2, ?_⟩ (by simp only; omega)
      simp only [wiresIn]
      rw [if_neg fun h => by rw [h.2] at hif; exact Bool.noConfusion hif]
      exact hT2
    · refine hK1 (k + 1, t2, m2) _ _ rfl rfl ⟨by simp only; omega, hm2, hw2, ?_⟩ (by simp only; omega)
      obtain rfl : j = net.length := by omega
      exact hT2
  · obtain rfl : k = net.length := by omega
    exact hK t m1 hm1 hw1 hT

theorem spec_l1Wires {s : SV} {net : List Int} {m : Heap} {K : XV → Heap → Prop} (hs : IsInts .i64 m s net) (hok : NetOk net)
    (hK : ∀ (s' : SV) (m' : Heap), m <+: m' → m'.wf → IsWires m.length m' s' (wires net) → K (.one (.sl s')) m') : ACalls Try.prog F.spec_l1Wires [.one (.sl s)] m K := by
  obtain ⟨ref, off, len⟩ := s
  obtain rfl : len = net.length := hs.1
  refine ACalls.wf fun hwf => ?_
  refine afn T.spec_l1Wires (by rfl) ?_
  have h6 := hok.six
  have hp6 := pow_le6 h6
  repeat' (first | refine awp_seq ?_ | refine awp_block ?_ | refine thn_n ?_ | refine thn_e ?_ | refine thn_r ?_ | refine blk_n ?_ | refine blk_r ?_ | refine blk_here ?_ | refine blk_on rfl ?_ | refine awp_skip ?_ | refine awp_exit ?_ | refine awp_ret ?_ | refine ret_one rfl ?_ | refine ret_many rfl ?_ | refine end_one rfl ?_ | (first | refine awp_if rfl (fun hif => ?_) (fun hif => ?_) | refine awp_nif rfl (fun hif => ?_) (fun hif => ?_) | refine awp_not rfl (fun hif => ?_) (fun hif => ?_) | refine awp_cond rfl (fun hif => ?_) (fun hif => ?_)) <;> try (first | contradiction | (exfalso; omega)) | (refine hK _ _ ?_; clear hK K) | (refine And.intro (by first | omega | assumption | (constructor <;> omega)) ?_) | (refine And.intro (fun hif => ?_) (fun hif => ?_) <;> try (first | contradiction | (exfalso; omega))) | ((first | refine awp_reg fun K hK => ?_ | refine ops_go ?_ | refine kont_go ?_ | refine kv_go ?_ | refine ku_go ?_); simp only [↓awpOps, ↓aop, ↓aopQ, ↓abin, ↓aun, ↓onSome_some, ↓Kont_at, ↓KM_at, ↓KV_at, ↓KU_at, refId_row, Int.one_mul, Frame.ev, Frame.evs, Frame.evOr, Frame.put, Frame.keep, get_nil, get_cons, argFrame, resOf, fillA, Vals.len, Vals.get, Vals.set, Vals.app, Vals.sub, Vals.take, Vals.ofAgg_cons, Vals.ofList, Vals.toInts, Vals.toBools, Vals.toSls, Vals.toStrs, Vals.zeros, Nat.reduceBEq, Nat.reduceAdd, Nat.reduceEqDiff, cond_true, cond_false, if_true, if_false, Option.map_some, Option.map_none, List.length_cons, List.length_nil, List.replicate, List.set_cons_zero, List.set_cons_succ, Nat.reduceLT, true_and, and_true, forall_const, true_implies, Bool.not_true, Bool.not_false, Bool.true_eq_false, Bool.false_eq_true, false_implies, decide_eq_true_eq, decide_eq_false_iff_not, Int.not_lt, Int.not_le, Int.toNat_natCast, inR, Nat.zero_add, Int.toNat_zero, reduceCtorEq, IntKind.bits, List.nil_append, List.cons_append, Nat.add_zero, implies_true, ite_self, Nat.zero_lt_succ, Nat.lt_add_one, Int.zero_sub, Nat.sub_zero, Int.ofNat_toNat, List.map_cons, List.map_nil, Bool.true_eq, Bool.not_eq_eq_eq_not]) | refine And.intro ?_ (fun hif => (hif trivial).elim) | (intro hif; try (first | contradiction | (exfalso; omega))))
  refine awp_loop ?_
  have hW0 : IsWires m.length (m ++ [⟨Ty.Sl_int, m.length, true, .sls []⟩]) ⟨.row m.length, 0, 0⟩ (wiresTo net 0) := ⟨⟨[], owns_new hwf _ _, rfl, fun i hi => absurd hi (Nat.not_lt_zero _)⟩⟩
  refine ALoop.by [0, 3, 4] (fun a : Nat × SV × Heap => [(0, .one (.sl ⟨ref, off, net.length⟩)), (3, .one (.sl a.2.1)), (4, .one (.int .i64 a.1))]) (fun a => a.2.2) (fun a => a.1 ≤ net.length ∧ m <+: a.2.2 ∧ a.2.2.wf ∧ IsWires m.length a.2.2 a.2.1 (wiresTo net a.1)) (fun a => net.length - a.1) (0, ⟨.row m.length, 0, 0⟩, m ++ [⟨Ty.Sl_int, m.length, true, .sls []⟩]) rfl rfl ⟨Nat.zero_le _, prefix_push _ _, wf_push hwf (Nat.le_refl _), hW0⟩ ?_
  rintro ⟨k, t, m1⟩ ⟨hk, hm1, hw1, hT⟩ K1 hK1
  simp only at hk hm1 hw1 hT
  repeat' (first | refine awp_seq ?_ | refine awp_block ?_ | refine thn_n ?_ | refine thn_e ?_ | refine thn_r ?_ | refine blk_n ?_ | refine blk_r ?_ | refine blk_here ?_ | refine blk_on rfl ?_ | refine awp_skip ?_ | refine awp_exit ?_ | refine awp_ret ?_ | refine ret_one rfl ?_ | refine ret_many rfl ?_ | refine end_one rfl ?_ | (first | refine awp_if rfl (fun hif => ?_) (fun hif => ?_) | refine awp_nif rfl (fun hif => ?_) (fun hif => ?_) | refine awp_not rfl (fun hif => ?_) (fun hif => ?_) | refine awp_cond rfl (fun hif => ?_) (fun hif => ?_)) <;> try (first | contradiction | (exfalso; omega)) | (refine hK _ _ ?_; clear hK K) | (refine And.intro (by first | omega | assumption | (constructor <;> omega)) ?_) | (refine And.intro (fun hif => ?_) (fun hif => ?_) <;> try (first | contradiction | (exfalso; omega))) | ((first | refine awp_reg fun K hK => ?_ | refine ops_go ?_ | refine kont_go ?_ | refine kv_go ?_ | refine ku_go ?_); simp only [↓awpOps, ↓aop, ↓aopQ, ↓abin, ↓aun, ↓onSome_some, ↓Kont_at, ↓KM_at, ↓KV_at, ↓KU_at, refId_row, Int.one_mul, Frame.ev, Frame.evs, Frame.evOr, Frame.put, Frame.keep, get_nil, get_cons, argFrame, resOf, fillA, Vals.len, Vals.get, Vals.set, Vals.app, Vals.sub, Vals.take, Vals.ofAgg_cons, Vals.ofList, Vals.toInts, Vals.toBools, Vals.toSls, Vals.toStrs, Vals.zeros, Nat.reduceBEq, Nat.reduceAdd, Nat.reduceEqDiff, cond_true, cond_false, if_true, if_false, Option.map_some, Option.map_none, List.length_cons, List.length_nil, List.replicate, List.set_cons_zero, List.set_cons_succ, Nat.reduceLT, true_and, and_true, forall_const, true_implies, Bool.not_true, Bool.not_false, Bool.true_eq_false, Bool.false_eq_true, false_implies, decide_eq_true_eq, decide_eq_false_iff_not, Int.not_lt, Int.not_le, Int.toNat_natCast, inR, Nat.zero_add, Int.toNat_zero, reduceCtorEq, IntKind.bits, List.nil_append, List.cons_append, Nat.add_zero, implies_true, ite_self, Nat.zero_lt_succ, Nat.lt_add_one, Int.zero_sub, Nat.sub_zero, Int.ofNat_toNat, List.map_cons, List.map_nil, Bool.true_eq, Bool.not_eq_eq_eq_not]) | refine And.intro ?_ (fun hif => (hif trivial).elim) | (intro hif; try (first | contradiction | (exfalso; omega))))
  · refine awp_loop ?_
    have hlt : k < net.length := by omega
    refine ALoop.by [0, 3, 4, 5] (fun a : Nat × SV × Heap => [(0, .one (.sl ⟨ref, off, net.length⟩)), (3, .one (.sl a.2.1)), (4, .one (.int .i64 k)), (5, .one (.int .i64 a.1))]) (fun a => a.2.2) (fun a => a.1 ≤ net.length ∧ k < a.1 ∧ m <+: a.2.2 ∧ a.2.2.wf ∧ IsWires m.length a.2.2 a.2.1 (wiresTo net k ++ wiresIn net k a.1)) (fun a => net.length - a.1) (k + 1, t, m1) rfl rfl ⟨by simp only; omega, by simp only; omega, hm1, hw1, by rw [wiresIn_nil net k _ (Nat.le_refl _), List.append_nil]; exact hT⟩ ?_
    rintro ⟨j, t2, m2⟩ ⟨hj, hkj, hm2, hw2, hT2⟩ K2 hK2
    simp only at hj hkj hm2 hw2 hT2
    have hs2 := hs.pre hm2
    have hl1 := wiresTo_len net h6 k
    have hl2 := wiresIn_len net k j
    have hl0 : m.length ≤ m2.length := hm2.length_le
    have hbl : (wiresTo net k ++ wiresIn net k j).length < 1000000 := by rw [List.length_append]; omega
    have hd1 : 0 ≤ (net.getD k 0) / 2 ^ j := Int.ediv_nonneg (hok.low k hlt) (Int.le_of_lt (Int.pow_pos (by decide)))
    have hsh := shr_bit (j := j) (hok.low k hlt)
    repeat' (first | refine awp_seq ?_ | refine awp_block ?_ | refine thn_n ?_ | refine thn_e ?_ | refine thn_r ?_ | refine blk_n ?_ | refine blk_r ?_ | refine blk_here ?_ | refine blk_on rfl ?_ | refine awp_skip ?_ | refine awp_exit ?_ | refine awp_ret ?_ | refine ret_one rfl ?_ | refine ret_many rfl ?_ | refine end_one rfl ?_ | (first | refine awp_if rfl (fun hif => ?_) (fun hif => ?_) | refine awp_nif rfl (fun hif => ?_) (fun hif => ?_) | refine awp_not rfl (fun hif => ?_) (fun hif => ?_) | refine awp_cond rfl (fun hif => ?_) (fun hif => ?_)) <;> try (first | contradiction | (exfalso; omega)) | (refine hK _ _ ?_; clear hK K) | refine onSome_of (hs2.2 _ (by omega)) ?_ | refine app_wires hl0 hw2 hT2 hbl fun s' m' hp3 hw3 hT3 => ?_ | (refine And.intro (by first | omega | assumption | (constructor <;> omega)) ?_) | (refine And.intro (fun hif => ?_) (fun hif => ?_) <;> try (first | contradiction | (exfalso; omega))) | ((first | refine awp_reg fun K hK => ?_ | refine ops_go ?_ | refine kont_go ?_ | refine kv_go ?_ | refine ku_go ?_); simp only [↓awpOps, ↓aop, ↓aopQ, ↓abin, ↓aun, ↓onSome_some, ↓Kont_at, ↓KM_at, ↓KV_at, ↓KU_at, refId_row, Int.one_mul, Frame.ev, Frame.evs, Frame.evOr, Frame.put, Frame.keep, get_nil, get_cons, argFrame, resOf, fillA, Vals.len, Vals.get, Vals.set, Vals.app, Vals.sub, Vals.take, Vals.ofAgg_cons, Vals.ofList, Vals.toInts, Vals.toBools, Vals.toSls, Vals.toStrs, Vals.zeros, Nat.reduceBEq, Nat.reduceAdd, Nat.reduceEqDiff, cond_true, cond_false, if_true, if_false, Option.map_some, Option.map_none, List.length_cons, List.length_nil, List.replicate, List.set_cons_zero, List.set_cons_succ, Nat.reduceLT, true_and, and_true, forall_const, true_implies, Bool.not_true, Bool.not_false, Bool.true_eq_false, Bool.false_eq_true, false_implies, decide_eq_true_eq, decide_eq_false_iff_not, Int.not_lt, Int.not_le, Int.toNat_natCast, inR, Nat.zero_add, Int.toNat_zero, reduceCtorEq, IntKind.bits, List.nil_append, List.cons_append, Nat.add_zero, implies_true, ite_self, Nat.zero_lt_succ, Nat.lt_add_one, Int.zero_sub, Nat.sub_zero, Int.ofNat_toNat, List.map_cons, List.map_nil, Bool.true_eq, Bool.not_eq_eq_eq_not]) | refine And.intro ?_ (fun hif => (hif trivial).elim) | (intro hif; try (first | contradiction | (exfalso; omega))))
    · refine hK2 (j + 1, s', m') _ _ rfl rfl ⟨by simp only; omega, by simp only; omega, hm2.trans hp3, hw3, ?_⟩ (by simp only; omega)
      simp only [wiresIn]
      have hif' : bit ((net.getD k 0)) j = true := by
        cases hb : bit ((net.getD k 0)) j with
        | true => rfl
        | false => rw [hb, if_neg (by decide)] at hsh; omega
      rw [if_pos ⟨hkj, hif'⟩, ← List.append_assoc]
      exact hT3
    · refine hK2 (j + 1, t2, m2) _ _ rfl rfl ⟨by simp only; omega, by simp only; omega, hm2, hw2, ?_⟩ (by simp only; omega)
      simp only [wiresIn]
      rw [if_neg fun h => hif (by rw [hsh, if_pos h.2])]
      exact hT2
    · refine hK1 (k + 1, t2, m2) _ _ rfl rfl ⟨by simp only; omega, hm2, hw2, ?_⟩ (by simp only; omega)
      obtain rfl : j = net.length := by omega
      exact hT2
  · obtain rfl : k = net.length := by omega
    exact hK t m1 hm1 hw1 hT

def wiresOf (net : List Int) : Int := if NetOk net then (wires net).length else -1

theorem impl_WiresOf (s : SV) (net : List Int) (m : Heap) (hs : IsInts .i64 m s net) : AQuiet Try.prog F.impl_WiresOf [.one (.sl s)] m (.one (.int .i64 (wiresOf net))) := by
  refine aqn T.impl_WiresOf (by rfl) ?_
  repeat' (first | refine awp_seq ?_ | refine awp_block ?_ | refine thn_n ?_ | refine thn_e ?_ | refine thn_r ?_ | refine blk_n ?_ | refine blk_r ?_ | refine blk_here ?_ | refine blk_on rfl ?_ | refine awp_skip ?_ | refine awp_exit ?_ | refine awp_ret ?_ | refine ret_one rfl ?_ | refine ret_many rfl ?_ | refine end_one rfl ?_ | (first | refine awp_if rfl (fun hif => ?_) (fun hif => ?_) | refine awp_nif rfl (fun hif => ?_) (fun hif => ?_) | refine awp_not rfl (fun hif => ?_) (fun hif => ?_) | refine awp_cond rfl (fun hif => ?_) (fun hif => ?_)) <;> try (first | contradiction | (exfalso; omega)) | (refine hK _ _ ?_; clear hK K) | refine AQuiet.call (impl_NetOk _ net _ hs) trivial ?_ | (refine And.intro (by first | omega | assumption | (constructor <;> omega)) ?_) | (refine And.intro (fun hif => ?_) (fun hif => ?_) <;> try (first | contradiction | (exfalso; omega))) | ((first | refine awp_reg fun K hK => ?_ | refine ops_go ?_ | refine kont_go ?_ | refine kv_go ?_ | refine ku_go ?_); simp only [↓awpOps, ↓aop, ↓aopQ, ↓abin, ↓aun, ↓onSome_some, ↓Kont_at, ↓KM_at, ↓KV_at, ↓KU_at, refId_row, Int.one_mul, Frame.ev, Frame.evs, Frame.evOr, Frame.put, Frame.keep, get_nil, get_cons, argFrame, resOf, fillA, Vals.len, Vals.get, Vals.set, Vals.app, Vals.sub, Vals.take, Vals.ofAgg_cons, Vals.ofList, Vals.toInts, Vals.toBools, Vals.toSls, Vals.toStrs, Vals.zeros, Nat.reduceBEq, Nat.reduceAdd, Nat.reduceEqDiff, cond_true, cond_false, if_true, if_false, Option.map_some, Option.map_none, List.length_cons, List.length_nil, List.replicate, List.set_cons_zero, List.set_cons_succ, Nat.reduceLT, true_and, and_true, forall_const, true_implies, Bool.not_true, Bool.not_false, Bool.true_eq_false, Bool.false_eq_true, false_implies, decide_eq_true_eq, decide_eq_false_iff_not, Int.not_lt, Int.not_le, Int.toNat_natCast, inR, Nat.zero_add, Int.toNat_zero, reduceCtorEq, IntKind.bits, List.nil_append, List.cons_append, Nat.add_zero, implies_true, ite_self, Nat.zero_lt_succ, Nat.lt_add_one, Int.zero_sub, Nat.sub_zero, Int.ofNat_toNat, List.map_cons, List.map_nil, Bool.true_eq, Bool.not_eq_eq_eq_not]) | refine And.intro ?_ (fun hif => (hif trivial).elim) | (intro hif; try (first | contradiction | (exfalso; omega))))
  · refine ⟨?_, List.prefix_rfl⟩
    rw [wiresOf, if_neg hif]
  · have hN : NetOk net := by first | exact hif | exact Decidable.not_not.1 hif
    repeat' (first | refine awp_seq ?_ | refine awp_block ?_ | refine thn_n ?_ | refine thn_e ?_ | refine thn_r ?_ | refine blk_n ?_ | refine blk_r ?_ | refine blk_here ?_ | refine blk_on rfl ?_ | refine awp_skip ?_ | refine awp_exit ?_ | refine awp_ret ?_ | refine ret_one rfl ?_ | refine ret_many rfl ?_ | refine end_one rfl ?_ | (first | refine awp_if rfl (fun hif => ?_) (fun hif => ?_) | refine awp_nif rfl (fun hif => ?_) (fun hif => ?_) | refine awp_not rfl (fun hif => ?_) (fun hif => ?_) | refine awp_cond rfl (fun hif => ?_) (fun hif => ?_)) <;> try (first | contradiction | (exfalso; omega)) | (refine hK _ _ ?_; clear hK K) | refine impl_WireList hs hN fun s' m' hp hw hW => ?_ | (refine And.intro (by first | omega | assumption | (constructor <;> omega)) ?_) | (refine And.intro (fun hif => ?_) (fun hif => ?_) <;> try (first | contradiction | (exfalso; omega))) | ((first | refine awp_reg fun K hK => ?_ | refine ops_go ?_ | refine kont_go ?_ | refine kv_go ?_ | refine ku_go ?_); simp only [↓awpOps, ↓aop, ↓aopQ, ↓abin, ↓aun, ↓onSome_some, ↓Kont_at, ↓KM_at, ↓KV_at, ↓KU_at, refId_row, Int.one_mul, Frame.ev, Frame.evs, Frame.evOr, Frame.put, Frame.keep, get_nil, get_cons, argFrame, resOf, fillA, Vals.len, Vals.get, Vals.set, Vals.app, Vals.sub, Vals.take, Vals.ofAgg_cons, Vals.ofList, Vals.toInts, Vals.toBools, Vals.toSls, Vals.toStrs, Vals.zeros, Nat.reduceBEq, Nat.reduceAdd, Nat.reduceEqDiff, cond_true, cond_false, if_true, if_false, Option.map_some, Option.map_none, List.length_cons, List.length_nil, List.replicate, List.set_cons_zero, List.set_cons_succ, Nat.reduceLT, true_and, and_true, forall_const, true_implies, Bool.not_true, Bool.not_false, Bool.true_eq_false, Bool.false_eq_true, false_implies, decide_eq_true_eq, decide_eq_false_iff_not, Int.not_lt, Int.not_le, Int.toNat_natCast, inR, Nat.zero_add, Int.toNat_zero, reduceCtorEq, IntKind.bits, List.nil_append, List.cons_append, Nat.add_zero, implies_true, ite_self, Nat.zero_lt_succ, Nat.lt_add_one, Int.zero_sub, Nat.sub_zero, Int.ofNat_toNat, List.map_cons, List.map_nil, Bool.true_eq, Bool.not_eq_eq_eq_not]) | refine And.intro ?_ (fun hif => (hif trivial).elim) | (intro hif; try (first | contradiction | (exfalso; omega))))
    refine ⟨?_, hp⟩
    rw [wiresOf, if_pos hN, hW.len]

end Go.Abs
