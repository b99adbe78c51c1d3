/- Lists of wires in new memory. Own work; no condition. -/
import Derived.Test.YtcbnigipnepnkaaGrow
import Derived.Test.YtcbnigipnepnkaaWire2
set_option maxRecDepth 100000
set_option linter.unusedSimpArgs false
set_option linter.unusedVariables false
namespace Go.Abs
open Go.Proofs
attribute [local irreducible] awp awpOps aloop ALoop ACalls ACallq AQuiet retPost retPostA AExit.thn AExit.blk aApp aSt aStA

/-- The family of the row in which a slice lies. -/
def famAt (m : Heap) (s : SV) : Option Nat := (m[s.ref.id]?).map Row.fam
theorem famAt_row {m : Heap} {id o n : Nat} {r : Row} (h : m[id]? = some r) : famAt m ⟨.row id, o, n⟩ = some r.fam := by simp only [famAt, Ref.id, h, Option.map_some]

/-- Lists of numbers, each in a row of a family of its own, in a..b. -/
def Rows1 (a b : Nat) (m : Heap) (svs : List SV) (ll : List (List Int)) (no : Nat) : Prop :=
  svs.length = ll.length ∧ ∀ i, i < ll.length → ∃ id f, a ≤ f ∧ f < b ∧ f ≠ no ∧ svs.getD i SV.nil = ⟨.row id, 0, (ll.getD i []).length⟩ ∧ m[id]? = some ⟨Ty.int, f, true, .ints .i64 (ll.getD i [])⟩ ∧ ∀ j, j < i → famAt m (svs.getD j SV.nil) ≠ some f

def Lists (a b : Nat) (m : Heap) (s : SV) (ll : List (List Int)) : Prop := ∃ svs f, Acc Ty.Sl_int f m s (.sls svs) ∧ (s = SV.nil ∨ a ≤ f ∧ f < b) ∧ Rows1 a b m svs ll f

theorem Rows1.fam_at {a b no : Nat} {m m' : Heap} {svs : List SV} {ll : List (List Int)} (h : Rows1 a b m svs ll no) {j : Nat} (hj : j < ll.length) (hk : ∀ (id : Nat) (r : Row), m[id]? = some r → a ≤ r.fam → r.fam < b → r.fam ≠ no → m'[id]? = some r) :
    ∃ g, a ≤ g ∧ g < b ∧ g ≠ no ∧ famAt m (svs.getD j SV.nil) = some g ∧ famAt m' (svs.getD j SV.nil) = some g := by
  obtain ⟨id, f, h1, h2, h3, h4, h5, _⟩ := h.2 j hj
  rw [h4]
  exact ⟨f, h1, h2, h3, famAt_row h5, famAt_row (hk id _ h5 h1 h2 h3)⟩

theorem Rows1.keep {a b a' b' no no' : Nat} {m m' : Heap} {svs : List SV} {ll : List (List Int)} (h : Rows1 a b m svs ll no) (hk : ∀ (id : Nat) (r : Row), m[id]? = some r → a ≤ r.fam → r.fam < b → r.fam ≠ no → m'[id]? = some r) (ha : a' ≤ a) (hb : b ≤ b') (hno : no' = no ∨ b ≤ no' ∨ no' < a) : Rows1 a' b' m' svs ll no' :=
  ⟨h.1, fun i hi => by
    obtain ⟨id, f, h1, h2, h3, h4, h5, h6⟩ := h.2 i hi
    refine ⟨id, f, by omega, by omega, by omega, h4, hk id _ h5 h1 h2 h3, fun j hj => ?_⟩
    obtain ⟨g, _, _, _, g4, g5⟩ := h.fam_at (j := j) (by omega) hk
    rw [g5, ← g4]
    exact h6 j hj⟩

theorem Rows1.pre {a b a' b' no : Nat} {m m' : Heap} {svs : List SV} {ll : List (List Int)} (h : Rows1 a b m svs ll no) (hp : m <+: m') (ha : a' ≤ a) (hb : b ≤ b') : Rows1 a' b' m' svs ll no :=
  h.keep (fun _ _ hr _ _ _ => row_prefix hp hr) ha hb (.inl rfl)

theorem Acc.obj' {e : TypeId} {f a b : Nat} {m : Heap} {s : SV} {v : Vals} (h : Acc e f m s v) (hf : s = SV.nil ∨ a ≤ f ∧ f < b) : Obj e a b m s v := by
  rcases h with h | ⟨id, h3, h4, _⟩
  · exact .inl h
  · rcases hf with hf | hf
    · rw [hf] at h3; cases h3
    · exact .inr ⟨id, f, hf.1, hf.2, h3, h4⟩

theorem Lists.len {a b : Nat} {m : Heap} {s : SV} {ll : List (List Int)} (h : Lists a b m s ll) : s.len = ll.length := by
  obtain ⟨svs, f, h1, h2, h4, _⟩ := h
  rw [(h1.obj' h2).len, ← h4]; rfl

theorem Lists.rows {a b : Nat} {m : Heap} {s : SV} {ll : List (List Int)} (h : Lists a b m s ll) : IsRows .i64 m s ll := by
  obtain ⟨svs, f, h1, h2, h4, h5⟩ := h
  refine ⟨svs, (h1.obj' h2).isSls, h4, fun i hi => ?_⟩
  obtain ⟨id, g0, _, _, _, g4, g5, _⟩ := h5 i hi
  rw [g4]
  refine ⟨rfl, fun j hj => ?_⟩
  rw [Nat.zero_add]
  exact at_row g5 hj

/-- A list of lists to which is appended. -/
def LAcc (n0 : Nat) (m : Heap) (s : SV) (ll : List (List Int)) : Prop := ∃ svs f, Acc Ty.Sl_int f m s (.sls svs) ∧ (s = SV.nil ∨ n0 ≤ f ∧ f < m.length) ∧ Rows1 n0 m.length m svs ll f

theorem lacc_nil (n0 : Nat) (m : Heap) : LAcc n0 m SV.nil [] := ⟨[], 0, .inl ⟨rfl, rfl⟩, .inl rfl, rfl, fun i hi => absurd hi (Nat.not_lt_zero _)⟩
theorem lacc_new {m : Heap} (hwf : m.wf) {n0 : Nat} (hn : n0 ≤ m.length) : LAcc n0 (m ++ [⟨Ty.Sl_int, m.length, true, .sls []⟩]) ⟨.row m.length, 0, 0⟩ [] :=
  ⟨[], m.length, acc_new hwf _ _ rfl, .inr ⟨hn, by simp⟩, rfl, fun i hi => absurd hi (Nat.not_lt_zero _)⟩

theorem LAcc.lists {n0 : Nat} {m : Heap} {s : SV} {ll : List (List Int)} (h : LAcc n0 m s ll) : Lists n0 m.length m s ll := by
  obtain ⟨svs, f, h1, h2, h3⟩ := h
  exact ⟨svs, f, h1, h2, h3⟩

/-- append(list, []int{..}). -/
theorem app_lists {n0 : Nat} {m : Heap} {s : SV} {ll : List (List Int)} {l : List Int} {K : XV → Heap → Prop} (hn : n0 ≤ m.length) (hwf : m.wf) (h : LAcc n0 m s ll) (hll : ll.length < 1000000)
    (hK : ∀ (s' : SV) (m' : Heap), m <+: m' → Grow n0 m.length m m' → LAcc n0 m' s' (ll ++ [l]) → K (.one (.sl s')) m') :
    aApp Ty.Sl_int s ⟨.row (List.length (m ++ [(⟨Ty.int, m.length, true, .ints .i64 l⟩ : Row)])), 0, 1⟩ (m ++ [⟨Ty.int, m.length, true, .ints .i64 l⟩] ++ [⟨Ty.Sl_int, List.length (m ++ [(⟨Ty.int, m.length, true, .ints .i64 l⟩ : Row)]), true, .sls [⟨.row m.length, 0, l.length⟩]⟩]) K := by
  obtain ⟨svs, f, hA, hf, hR⟩ := h
  have g1 := Grow.push hwf Ty.int true (.ints .i64 l)
  have hA1 : Acc Ty.Sl_int f (m ++ [⟨Ty.int, m.length, true, .ints .i64 l⟩]) s (.sls svs) := by
    rcases hA with h | ⟨id, h1, h2, h3⟩
    · exact .inl h
    · exact Acc.grow0 (show Acc Ty.Sl_int f m s (.sls svs) from .inr ⟨id, h1, h2, h3⟩) g1 (by have := hwf id _ h2; have := get_lt h2; simp only at *; omega)
  refine app_sl g1.wf hA1 (by rw [hR.1]; omega) fun s' m' f' hp hg ha hf' hl => ?_
  have hp1 : m <+: m' := (prefix_push _ _).trans hp
  have hpl := hp.length_le
  rw [List.length_append, List.length_cons, List.length_nil] at hf' hpl
  have hfn : n0 ≤ f' ∧ (f' = f ∧ f < m.length ∨ m.length + 1 ≤ f') := by
    rcases hf' with ⟨rfl, h⟩ | h
    · rcases hf with h' | h'
      · exact absurd h' h
      · exact ⟨h'.1, .inl ⟨rfl, h'.2⟩⟩
    · exact ⟨by omega, .inr (by omega)⟩
  have hgr : Grow n0 m.length m m' := (g1.any _ _).trans (hg n0 m.length hf)
  refine hK s' m' hp1 hgr ⟨svs ++ [⟨.row m.length, 0, l.length⟩], f', ha, .inr ⟨hfn.1, hl⟩, by simp [hR.1], fun i hi => ?_⟩
  rw [getD_push, getD_push, hR.1]
  rw [List.length_append, List.length_cons, List.length_nil] at hi
  by_cases hlt : i < ll.length
  · rw [if_pos hlt, if_pos hlt]
    obtain ⟨id, g, h1, h2, h3, h4, h5, h6⟩ := hR.2 i hlt
    refine ⟨id, g, h1, by omega, ?_, h4, row_prefix hp1 h5, fun j hj => ?_⟩
    · rcases hfn.2 with ⟨rfl, _⟩ | h
      · exact h3
      · omega
    · rw [getD_push, hR.1, if_pos (by omega)]
      obtain ⟨gj, _, _, _, k4, k5⟩ := hR.fam_at (j := j) (m' := m') (by omega) (fun _ _ hr _ _ _ => row_prefix hp1 hr)
      rw [k5, ← k4]
      exact h6 j hj
  · rw [if_neg hlt, if_neg hlt, if_pos (by omega), if_pos (by omega)]
    refine ⟨m.length, m.length, hn, by omega, ?_, rfl, row_prefix hp (get_last _ _), fun j hj => ?_⟩
    · rcases hfn.2 with ⟨rfl, h⟩ | h <;> omega
    · rw [getD_push, hR.1, if_pos (by omega)]
      obtain ⟨gj, _, k2, _, k4, k5⟩ := hR.fam_at (j := j) (m' := m') (by omega) (fun _ _ hr _ _ _ => row_prefix hp1 hr)
      rw [k5]
      intro h
      injection h with e
      omega

theorem impl_WireList_g {s : SV} {net : List Int} {m : Heap} {K : XV → Heap → Prop} (hs : IsInts .i64 m s net) (hok : NetOk net)
    (hK : ∀ (s' : SV) (m' : Heap), Grow 0 0 m m' → Lists m.length m'.length m' s' (wires net) → K (.one (.sl s')) m') : ACalls Try.prog F.impl_WireList [.one (.sl s)] m K := by
  obtain ⟨ref, off, len⟩ := s
  obtain rfl : len = net.length := hs.1
  refine ACalls.wf fun hwf => ?_
  refine afn T.impl_WireList (by rfl) ?_
  have h6 := hok.six
  have hp6 := pow_le6 h6
  repeat' (first | refine awp_seq ?_ | refine awp_block ?_ | refine thn_n ?_ | refine thn_e ?_ | refine thn_r ?_ | refine blk_n ?_ | refine blk_r ?_ | refine blk_here ?_ | refine blk_on rfl ?_ | refine awp_skip ?_ | refine awp_exit ?_ | refine awp_ret ?_ | refine ret_one rfl ?_ | refine ret_many rfl ?_ | refine end_one rfl ?_ | (first | refine awp_if rfl (fun hif => ?_) (fun hif => ?_) | refine awp_nif rfl (fun hif => ?_) (fun hif => ?_) | refine awp_not rfl (fun hif => ?_) (fun hif => ?_) | refine awp_cond rfl (fun hif => ?_) (fun hif => ?_)) <;> try (first | contradiction | (exfalso; omega)) | (refine hK _ _ ?_; clear hK K) | refine AQuiet.call (impl_NetOk_b true hs (decide_eq_true hok)) trivial ?_ | (refine And.intro (by first | omega | assumption | (constructor <;> omega)) ?_) | (refine And.intro (fun hif => ?_) (fun hif => ?_) <;> try (first | contradiction | (exfalso; omega))) | ((first | refine awp_reg fun K hK => ?_ | refine ops_go ?_ | refine kont_go ?_ | refine kv_go ?_ | refine ku_go ?_); simp only [↓awpOps, ↓aop, ↓aopQ, ↓abin, ↓aun, ↓onSome_some, ↓Kont_at, ↓KM_at, ↓KV_at, ↓KU_at, refId_row, Int.one_mul, Frame.ev, Frame.evs, Frame.evOr, Frame.put, Frame.keep, get_nil, get_cons, argFrame, resOf, fillA, Vals.len, Vals.get, Vals.set, Vals.app, Vals.sub, Vals.take, Vals.ofAgg_cons, Vals.ofList, Vals.toInts, Vals.toBools, Vals.toSls, Vals.toStrs, Vals.zeros, Nat.reduceBEq, Nat.reduceAdd, Nat.reduceEqDiff, cond_true, cond_false, if_true, if_false, Option.map_some, Option.map_none, List.length_cons, List.length_nil, List.replicate, List.set_cons_zero, List.set_cons_succ, Nat.reduceLT, true_and, and_true, forall_const, true_implies, Bool.not_true, Bool.not_false, Bool.true_eq_false, Bool.false_eq_true, false_implies, decide_eq_true_eq, decide_eq_false_iff_not, Int.not_lt, Int.not_le, Int.toNat_natCast, inR, Nat.zero_add, Int.toNat_zero, reduceCtorEq, IntKind.bits, List.nil_append, List.cons_append, Nat.add_zero, implies_true, ite_self, Nat.zero_lt_succ, Nat.lt_add_one, Int.zero_sub, Nat.sub_zero, Int.ofNat_toNat, List.map_cons, List.map_nil, Bool.true_eq, Bool.not_eq_eq_eq_not]) | refine And.intro ?_ (fun hif => (hif trivial).elim) | (intro hif; try (first | contradiction | (exfalso; omega))))
  refine awp_loop ?_
  refine ALoop.by [0, 3, 4] (fun a : Nat × SV × Heap => [(0, .one (.sl ⟨ref, off, net.length⟩)), (3, .one (.sl a.2.1)), (4, .one (.int .i64 a.1))]) (fun a => a.2.2) (fun a => a.1 ≤ net.length ∧ m <+: a.2.2 ∧ Grow m.length a.2.2.length m a.2.2 ∧ LAcc m.length a.2.2 a.2.1 (wiresTo net a.1)) (fun a => net.length - a.1) (0, SV.nil, m) rfl rfl ⟨Nat.zero_le _, List.prefix_rfl, Grow.refl hwf _ _, lacc_nil _ _⟩ ?_
  rintro ⟨k, t, m1⟩ ⟨hk, hm1, hg1, hT⟩ K1 hK1
  simp only at hk hm1 hg1 hT
  repeat' (first | refine awp_seq ?_ | refine awp_block ?_ | refine thn_n ?_ | refine thn_e ?_ | refine thn_r ?_ | refine blk_n ?_ | refine blk_r ?_ | refine blk_here ?_ | refine blk_on rfl ?_ | refine awp_skip ?_ | refine awp_exit ?_ | refine awp_ret ?_ | refine ret_one rfl ?_ | refine ret_many rfl ?_ | refine end_one rfl ?_ | (first | refine awp_if rfl (fun hif => ?_) (fun hif => ?_) | refine awp_nif rfl (fun hif => ?_) (fun hif => ?_) | refine awp_not rfl (fun hif => ?_) (fun hif => ?_) | refine awp_cond rfl (fun hif => ?_) (fun hif => ?_)) <;> try (first | contradiction | (exfalso; omega)) | (refine hK _ _ ?_; clear hK K) | (refine And.intro (by first | omega | assumption | (constructor <;> omega)) ?_) | (refine And.intro (fun hif => ?_) (fun hif => ?_) <;> try (first | contradiction | (exfalso; omega))) | ((first | refine awp_reg fun K hK => ?_ | refine ops_go ?_ | refine kont_go ?_ | refine kv_go ?_ | refine ku_go ?_); simp only [↓awpOps, ↓aop, ↓aopQ, ↓abin, ↓aun, ↓onSome_some, ↓Kont_at, ↓KM_at, ↓KV_at, ↓KU_at, refId_row, Int.one_mul, Frame.ev, Frame.evs, Frame.evOr, Frame.put, Frame.keep, get_nil, get_cons, argFrame, resOf, fillA, Vals.len, Vals.get, Vals.set, Vals.app, Vals.sub, Vals.take, Vals.ofAgg_cons, Vals.ofList, Vals.toInts, Vals.toBools, Vals.toSls, Vals.toStrs, Vals.zeros, Nat.reduceBEq, Nat.reduceAdd, Nat.reduceEqDiff, cond_true, cond_false, if_true, if_false, Option.map_some, Option.map_none, List.length_cons, List.length_nil, List.replicate, List.set_cons_zero, List.set_cons_succ, Nat.reduceLT, true_and, and_true, forall_const, true_implies, Bool.not_true, Bool.not_false, Bool.true_eq_false, Bool.false_eq_true, false_implies, decide_eq_true_eq, decide_eq_false_iff_not, Int.not_lt, Int.not_le, Int.toNat_natCast, inR, Nat.zero_add, Int.toNat_zero, reduceCtorEq, IntKind.bits, List.nil_append, List.cons_append, Nat.add_zero, implies_true, ite_self, Nat.zero_lt_succ, Nat.lt_add_one, Int.zero_sub, Nat.sub_zero, Int.ofNat_toNat, List.map_cons, List.map_nil, Bool.true_eq, Bool.not_eq_eq_eq_not]) | refine And.intro ?_ (fun hif => (hif trivial).elim) | (intro hif; try (first | contradiction | (exfalso; omega))))
  · refine awp_loop ?_
    have hlt : k < net.length := by omega
    refine ALoop.by [0, 3, 4, 5] (fun a : Nat × SV × Heap => [(0, .one (.sl ⟨ref, off, net.length⟩)), (3, .one (.sl a.2.1)), (4, .one (.int .i64 k)), (5, .one (.int .i64 a.1))]) (fun a => a.2.2) (fun a => a.1 ≤ net.length ∧ k < a.1 ∧ m <+: a.2.2 ∧ Grow m.length a.2.2.length m a.2.2 ∧ LAcc m.length a.2.2 a.2.1 (wiresTo net k ++ wiresIn net k a.1)) (fun a => net.length - a.1) (k + 1, t, m1) rfl rfl ⟨by simp only; omega, by simp only; omega, hm1, hg1, by rw [wiresIn_nil net k _ (Nat.le_refl _), List.append_nil]; exact hT⟩ ?_
    rintro ⟨j, t2, m2⟩ ⟨hj, hkj, hm2, hg2, hT2⟩ K2 hK2
    simp only at hj hkj hm2 hg2 hT2
    have hs2 := hs.pre hm2
    have hl1 := wiresTo_len net h6 k
    have hl2 := wiresIn_len net k j
    have hl0 : m.length ≤ m2.length := hm2.length_le
    have hbl : (wiresTo net k ++ wiresIn net k j).length < 1000000 := by rw [List.length_append]; omega
    repeat' (first | refine awp_seq ?_ | refine awp_block ?_ | refine thn_n ?_ | refine thn_e ?_ | refine thn_r ?_ | refine blk_n ?_ | refine blk_r ?_ | refine blk_here ?_ | refine blk_on rfl ?_ | refine awp_skip ?_ | refine awp_exit ?_ | refine awp_ret ?_ | refine ret_one rfl ?_ | refine ret_many rfl ?_ | refine end_one rfl ?_ | (first | refine awp_if rfl (fun hif => ?_) (fun hif => ?_) | refine awp_nif rfl (fun hif => ?_) (fun hif => ?_) | refine awp_not rfl (fun hif => ?_) (fun hif => ?_) | refine awp_cond rfl (fun hif => ?_) (fun hif => ?_)) <;> try (first | contradiction | (exfalso; omega)) | (refine hK _ _ ?_; clear hK K) | refine onSome_of (hs2.2 _ (by omega)) ?_ | refine AQuiet.call (impl_hasPlace _ j (hok.low k hlt) (by have := hok.high k hlt; omega) (by omega) _) trivial ?_ | refine app_lists hl0 hg2.wf hT2 hbl fun s' m' hp3 hg3 hT3 => ?_ | (refine And.intro (by first | omega | assumption | (constructor <;> omega)) ?_) | (refine And.intro (fun hif => ?_) (fun hif => ?_) <;> try (first | contradiction | (exfalso; omega))) | ((first | refine awp_reg fun K hK => ?_ | refine ops_go ?_ | refine kont_go ?_ | refine kv_go ?_ | refine ku_go ?_); simp only [↓awpOps, ↓aop, ↓aopQ, ↓abin, ↓aun, ↓onSome_some, ↓Kont_at, ↓KM_at, ↓KV_at, ↓KU_at, refId_row, Int.one_mul, Frame.ev, Frame.evs, Frame.evOr, Frame.put, Frame.keep, get_nil, get_cons, argFrame, resOf, fillA, Vals.len, Vals.get, Vals.set, Vals.app, Vals.sub, Vals.take, Vals.ofAgg_cons, Vals.ofList, Vals.toInts, Vals.toBools, Vals.toSls, Vals.toStrs, Vals.zeros, Nat.reduceBEq, Nat.reduceAdd, Nat.reduceEqDiff, cond_true, cond_false, if_true, if_false, Option.map_some, Option.map_none, List.length_cons, List.length_nil, List.replicate, List.set_cons_zero, List.set_cons_succ, Nat.reduceLT, true_and, and_true, forall_const, true_implies, Bool.not_true, Bool.not_false, Bool.true_eq_false, Bool.false_eq_true, false_implies, decide_eq_true_eq, decide_eq_false_iff_not, Int.not_lt, Int.not_le, Int.toNat_natCast, inR, Nat.zero_add, Int.toNat_zero, reduceCtorEq, IntKind.bits, List.nil_append, List.cons_append, Nat.add_zero, implies_true, ite_self, Nat.zero_lt_succ, Nat.lt_add_one, Int.zero_sub, Nat.sub_zero, Int.ofNat_toNat, List.map_cons, List.map_nil, Bool.true_eq, Bool.not_eq_eq_eq_not]) | refine And.intro ?_ (fun hif => (hif trivial).elim) | (intro hif; try (first | contradiction | (exfalso; omega))))
    · refine hK2 (j + 1, s', m') _ _ rfl rfl ⟨by simp only; omega, by simp only; omega, hm2.trans hp3, (hg2.mono (Nat.le_refl _) hp3.length_le).trans (hg3.mono (Nat.le_refl _) hp3.length_le), ?_⟩ (by simp only; omega)
      simp only [wiresIn]
      rw [if_pos ⟨hkj, hif⟩, ← List.append_assoc]
      exact hT3
    · refine hK2 (j + 1, t2, m2) _ _ rfl rfl ⟨by simp only; omega, by simp only; omega, hm2, hg2, ?_⟩ (by simp only; omega)
      simp only [wiresIn]
      rw [if_neg fun h => by rw [h.2] at hif; exact Bool.noConfusion hif]
      exact hT2
    · refine hK1 (k + 1, t2, m2) _ _ rfl rfl ⟨by simp only; omega, hm2, hg2, ?_⟩ (by simp only; omega)
      obtain rfl : j = net.length := by omega
      exact hT2
  · obtain rfl : k = net.length := by omega
    exact hK t m1 (grow00 hm1 hg1) hT.lists

theorem spec_l1Wires_g {s : SV} {net : List Int} {m : Heap} {K : XV → Heap → Prop} (hs : IsInts .i64 m s net) (hok : NetOk net)
    (hK : ∀ (s' : SV) (m' : Heap), Grow 0 0 m m' → Lists m.length m'.length m' s' (wires net) → K (.one (.sl s')) m') : ACalls Try.prog F.spec_l1Wires [.one (.sl s)] m K := by
  obtain ⟨ref, off, len⟩ := s
  obtain rfl : len = net.length := hs.1
  refine ACalls.wf fun hwf => ?_
  refine afn T.spec_l1Wires (by rfl) ?_
  have h6 := hok.six
  have hp6 := pow_le6 h6
  repeat' (first | refine awp_seq ?_ | refine awp_block ?_ | refine thn_n ?_ | refine thn_e ?_ | refine thn_r ?_ | refine blk_n ?_ | refine blk_r ?_ | refine blk_here ?_ | refine blk_on rfl ?_ | refine awp_skip ?_ | refine awp_exit ?_ | refine awp_ret ?_ | refine ret_one rfl ?_ | refine ret_many rfl ?_ | refine end_one rfl ?_ | (first | refine awp_if rfl (fun hif => ?_) (fun hif => ?_) | refine awp_nif rfl (fun hif => ?_) (fun hif => ?_) | refine awp_not rfl (fun hif => ?_) (fun hif => ?_) | refine awp_cond rfl (fun hif => ?_) (fun hif => ?_)) <;> try (first | contradiction | (exfalso; omega)) | (refine hK _ _ ?_; clear hK K) | (refine And.intro (by first | omega | assumption | (constructor <;> omega)) ?_) | (refine And.intro (fun hif => ?_) (fun hif => ?_) <;> try (first | contradiction | (exfalso; omega))) | ((first | refine awp_reg fun K hK => ?_ | refine ops_go ?_ | refine kont_go ?_ | refine kv_go ?_ | refine ku_go ?_); simp only [↓awpOps, ↓aop, ↓aopQ, ↓abin, ↓aun, ↓onSome_some, ↓Kont_at, ↓KM_at, ↓KV_at, ↓KU_at, refId_row, Int.one_mul, Frame.ev, Frame.evs, Frame.evOr, Frame.put, Frame.keep, get_nil, get_cons, argFrame, resOf, fillA, Vals.len, Vals.get, Vals.set, Vals.app, Vals.sub, Vals.take, Vals.ofAgg_cons, Vals.ofList, Vals.toInts, Vals.toBools, Vals.toSls, Vals.toStrs, Vals.zeros, Nat.reduceBEq, Nat.reduceAdd, Nat.reduceEqDiff, cond_true, cond_false, if_true, if_false, Option.map_some, Option.map_none, List.length_cons, List.length_nil, List.replicate, List.set_cons_zero, List.set_cons_succ, Nat.reduceLT, true_and, and_true, forall_const, true_implies, Bool.not_true, Bool.not_false, Bool.true_eq_false, Bool.false_eq_true, false_implies, decide_eq_true_eq, decide_eq_false_iff_not, Int.not_lt, Int.not_le, Int.toNat_natCast, inR, Nat.zero_add, Int.toNat_zero, reduceCtorEq, IntKind.bits, List.nil_append, List.cons_append, Nat.add_zero, implies_true, ite_self, Nat.zero_lt_succ, Nat.lt_add_one, Int.zero_sub, Nat.sub_zero, Int.ofNat_toNat, List.map_cons, List.map_nil, Bool.true_eq, Bool.not_eq_eq_eq_not]) | refine And.intro ?_ (fun hif => (hif trivial).elim) | (intro hif; try (first | contradiction | (exfalso; omega))))
  refine awp_loop ?_
  have hG0 := Grow.push hwf Ty.Sl_int true (.sls [])
  refine ALoop.by [0, 3, 4] (fun a : Nat × SV × Heap => [(0, .one (.sl ⟨ref, off, net.length⟩)), (3, .one (.sl a.2.1)), (4, .one (.int .i64 a.1))]) (fun a => a.2.2) (fun a => a.1 ≤ net.length ∧ m <+: a.2.2 ∧ Grow m.length a.2.2.length m a.2.2 ∧ LAcc m.length a.2.2 a.2.1 (wiresTo net a.1)) (fun a => net.length - a.1) (0, ⟨.row m.length, 0, 0⟩, m ++ [⟨Ty.Sl_int, m.length, true, .sls []⟩]) rfl rfl ⟨Nat.zero_le _, prefix_push _ _, hG0.any _ _, lacc_new hwf (Nat.le_refl _)⟩ ?_
  rintro ⟨k, t, m1⟩ ⟨hk, hm1, hg1, hT⟩ K1 hK1
  simp only at hk hm1 hg1 hT
  repeat' (first | refine awp_seq ?_ | refine awp_block ?_ | refine thn_n ?_ | refine thn_e ?_ | refine thn_r ?_ | refine blk_n ?_ | refine blk_r ?_ | refine blk_here ?_ | refine blk_on rfl ?_ | refine awp_skip ?_ | refine awp_exit ?_ | refine awp_ret ?_ | refine ret_one rfl ?_ | refine ret_many rfl ?_ | refine end_one rfl ?_ | (first | refine awp_if rfl (fun hif => ?_) (fun hif => ?_) | refine awp_nif rfl (fun hif => ?_) (fun hif => ?_) | refine awp_not rfl (fun hif => ?_) (fun hif => ?_) | refine awp_cond rfl (fun hif => ?_) (fun hif => ?_)) <;> try (first | contradiction | (exfalso; omega)) | (refine hK _ _ ?_; clear hK K) | (refine And.intro (by first | omega | assumption | (constructor <;> omega)) ?_) | (refine And.intro (fun hif => ?_) (fun hif => ?_) <;> try (first | contradiction | (exfalso; omega))) | ((first | refine awp_reg fun K hK => ?_ | refine ops_go ?_ | refine kont_go ?_ | refine kv_go ?_ | refine ku_go ?_); simp only [↓awpOps, ↓aop, ↓aopQ, ↓abin, ↓aun, ↓onSome_some, ↓Kont_at, ↓KM_at, ↓KV_at, ↓KU_at, refId_row, Int.one_mul, Frame.ev, Frame.evs, Frame.evOr, Frame.put, Frame.keep, get_nil, get_cons, argFrame, resOf, fillA, Vals.len, Vals.get, Vals.set, Vals.app, Vals.sub, Vals.take, Vals.ofAgg_cons, Vals.ofList, Vals.toInts, Vals.toBools, Vals.toSls, Vals.toStrs, Vals.zeros, Nat.reduceBEq, Nat.reduceAdd, Nat.reduceEqDiff, cond_true, cond_false, if_true, if_false, Option.map_some, Option.map_none, List.length_cons, List.length_nil, List.replicate, List.set_cons_zero, List.set_cons_succ, Nat.reduceLT, true_and, and_true, forall_const, true_implies, Bool.not_true, Bool.not_false, Bool.true_eq_false, Bool.false_eq_true, false_implies, decide_eq_true_eq, decide_eq_false_iff_not, Int.not_lt, Int.not_le, Int.toNat_natCast, inR, Nat.zero_add, Int.toNat_zero, reduceCtorEq, IntKind.bits, List.nil_append, List.cons_append, Nat.add_zero, implies_true, ite_self, Nat.zero_lt_succ, Nat.lt_add_one, Int.zero_sub, Nat.sub_zero, Int.ofNat_toNat, List.map_cons, List.map_nil, Bool.true_eq, Bool.not_eq_eq_eq_not]) | refine And.intro ?_ (fun hif => (hif trivial).elim) | (intro hif; try (first | contradiction | (exfalso; omega))))
  · refine awp_loop ?_
    have hlt : k < net.length := by omega
    refine ALoop.by [0, 3, 4, 5] (fun a : Nat × SV × Heap => [(0, .one (.sl ⟨ref, off, net.length⟩)), (3, .one (.sl a.2.1)), (4, .one (.int .i64 k)), (5, .one (.int .i64 a.1))]) (fun a => a.2.2) (fun a => a.1 ≤ net.length ∧ k < a.1 ∧ m <+: a.2.2 ∧ Grow m.length a.2.2.length m a.2.2 ∧ LAcc m.length a.2.2 a.2.1 (wiresTo net k ++ wiresIn net k a.1)) (fun a => net.length - a.1) (k + 1, t, m1) rfl rfl ⟨by simp only; omega, by simp only; omega, hm1, hg1, by rw [wiresIn_nil net k _ (Nat.le_refl _), List.append_nil]; exact hT⟩ ?_
    rintro ⟨j, t2, m2⟩ ⟨hj, hkj, hm2, hg2, hT2⟩ K2 hK2
    simp only at hj hkj hm2 hg2 hT2
    have hs2 := hs.pre hm2
    have hl1 := wiresTo_len net h6 k
    have hl2 := wiresIn_len net k j
    have hl0 : m.length ≤ m2.length := hm2.length_le
    have hbl : (wiresTo net k ++ wiresIn net k j).length < 1000000 := by rw [List.length_append]; omega
    have hd1 : 0 ≤ (net.getD k 0) / 2 ^ j := Int.ediv_nonneg (hok.low k hlt) (Int.le_of_lt (Int.pow_pos (by decide)))
    have hsh := shr_bit (j := j) (hok.low k hlt)
    repeat' (first | refine awp_seq ?_ | refine awp_block ?_ | refine thn_n ?_ | refine thn_e ?_ | refine thn_r ?_ | refine blk_n ?_ | refine blk_r ?_ | refine blk_here ?_ | refine blk_on rfl ?_ | refine awp_skip ?_ | refine awp_exit ?_ | refine awp_ret ?_ | refine ret_one rfl ?_ | refine ret_many rfl ?_ | refine end_one rfl ?_ | (first | refine awp_if rfl (fun hif => ?_) (fun hif => ?_) | refine awp_nif rfl (fun hif => ?_) (fun hif => ?_) | refine awp_not rfl (fun hif => ?_) (fun hif => ?_) | refine awp_cond rfl (fun hif => ?_) (fun hif => ?_)) <;> try (first | contradiction | (exfalso; omega)) | (refine hK _ _ ?_; clear hK K) | refine onSome_of (hs2.2 _ (by omega)) ?_ | refine app_lists hl0 hg2.wf hT2 hbl fun s' m' hp3 hg3 hT3 => ?_ | (refine And.intro (by first | omega | assumption | (constructor <;> omega)) ?_) | (refine And.intro (fun hif => ?_) (fun hif => ?_) <;> try (first | contradiction | (exfalso; omega))) | ((first | refine awp_reg fun K hK => ?_ | refine ops_go ?_ | refine kont_go ?_ | refine kv_go ?_ | refine ku_go ?_); simp only [↓awpOps, ↓aop, ↓aopQ, ↓abin, ↓aun, ↓onSome_some, ↓Kont_at, ↓KM_at, ↓KV_at, ↓KU_at, refId_row, Int.one_mul, Frame.ev, Frame.evs, Frame.evOr, Frame.put, Frame.keep, get_nil, get_cons, argFrame, resOf, fillA, Vals.len, Vals.get, Vals.set, Vals.app, Vals.sub, Vals.take, Vals.ofAgg_cons, Vals.ofList, Vals.toInts, Vals.toBools, Vals.toSls, Vals.toStrs, Vals.zeros, Nat.reduceBEq, Nat.reduceAdd, Nat.reduceEqDiff, cond_true, cond_false, if_true, if_false, Option.map_some, Option.map_none, List.length_cons, List.length_nil, List.replicate, List.set_cons_zero, List.set_cons_succ, Nat.reduceLT, true_and, and_true, forall_const, true_implies, Bool.not_true, Bool.not_false, Bool.true_eq_false, Bool.false_eq_true, false_implies, decide_eq_true_eq, decide_eq_false_iff_not, Int.not_lt, Int.not_le, Int.toNat_natCast, inR, Nat.zero_add, Int.toNat_zero, reduceCtorEq, IntKind.bits, List.nil_append, List.cons_append, Nat.add_zero, implies_true, ite_self, Nat.zero_lt_succ, Nat.lt_add_one, Int.zero_sub, Nat.sub_zero, Int.ofNat_toNat, List.map_cons, List.map_nil, Bool.true_eq, Bool.not_eq_eq_eq_not]) | refine And.intro ?_ (fun hif => (hif trivial).elim) | (intro hif; try (first | contradiction | (exfalso; omega))))
    · refine hK2 (j + 1, s', m') _ _ rfl rfl ⟨by simp only; omega, by simp only; omega, hm2.trans hp3, (hg2.mono (Nat.le_refl _) hp3.length_le).trans (hg3.mono (Nat.le_refl _) hp3.length_le), ?_⟩ (by simp only; omega)
      simp only [wiresIn]
      have hif' : bit ((net.getD k 0)) j = true := by
        cases hb : bit ((net.getD k 0)) j with
        | true => rfl
        | false => rw [hb, if_neg (by decide)] at hsh; omega
      rw [if_pos ⟨hkj, hif'⟩, ← List.append_assoc]
      exact hT3
    · refine hK2 (j + 1, t2, m2) _ _ rfl rfl ⟨by simp only; omega, by simp only; omega, hm2, hg2, ?_⟩ (by simp only; omega)
      simp only [wiresIn]
      rw [if_neg fun h => hif (by rw [hsh, if_pos h.2])]
      exact hT2
    · refine hK1 (k + 1, t2, m2) _ _ rfl rfl ⟨by simp only; omega, hm2, hg2, ?_⟩ (by simp only; omega)
      obtain rfl : j = net.length := by omega
      exact hT2
  · obtain rfl : k = net.length := by omega
    exact hK t m1 (grow00 hm1 hg1) hT.lists

end Go.Abs
