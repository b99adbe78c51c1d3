/- The functions of the second chapter that ask of a row, each by a contract. Own work; no condition. -/
import Derived.Test.YtkhbihbljdhpbaaGrow
import Derived.Test.YtkhbihbljdhpbaaWire2
set_option maxRecDepth 100000
set_option linter.unusedSimpArgs false
set_option linter.unusedVariables false
namespace Go.Abs
open Go.Proofs
attribute [local irreducible] awp awpOps awpKeep KeepK awpKeepF KeepF aloop ALoop ACalls ACallq AQuiet retPost retPostA AExit.thn AExit.blk aApp aSt aStA

def Within (most : Int) (l : List Int) : Prop := ∀ k, k < l.length → 0 ≤ (l.getD k 0) ∧ (l.getD k 0) ≤ most
instance (most : Int) (l : List Int) : Decidable (Within most l) := by unfold Within; infer_instance
/-- A row of a net, with numbers in 0..most. -/
structure RowIn (most : Int) (net row : List Int) : Prop where
  ok : NetOk net
  len : row.length = net.length
  low : Within most row
theorem rowIn_iff (most : Int) (net row : List Int) : RowIn most net row ↔ (NetOk net ∧ row.length = net.length ∧ Within most row) := ⟨fun h => ⟨h.1, h.2, h.3⟩, fun h => ⟨h.1, h.2.1, h.2.2⟩⟩
instance (most : Int) (net row : List Int) : Decidable (RowIn most net row) := decidable_of_iff' _ (rowIn_iff most net row)
abbrev RowOk (net row : List Int) : Prop := RowIn 30 net row

theorem impl_isLabel (n : Int) (m : Heap) : AQuiet Try.prog F.impl_isLabel [.one (.int .i64 n)] m (.one (.bool (decide (0 ≤ n ∧ n ≤ 30)))) := by
  refine aqn T.impl_isLabel (by rfl) ?_
  repeat' (first | refine xA ?_ | refine xB ?_ | refine xC ?_ | refine xD ?_ | refine xE ?_ | refine xF ?_ | refine xG ?_ | refine xH ?_ | refine xI rfl ?_ | refine xJ ?_ | refine xK ?_ | refine xL ?_ | refine xM rfl ?_ | refine xN rfl ?_ | refine xO rfl ?_ | (first | refine xP rfl (fun hif => ?_) (fun hif => ?_) | refine xQ rfl (fun hif => ?_) (fun hif => ?_) | refine xR rfl (fun hif => ?_) (fun hif => ?_) | refine xS rfl (fun hif => ?_) (fun hif => ?_)) <;> try (first | contradiction | (exfalso; omega)) | (refine hK _ _ ?_; clear hK K) | (refine And.intro (by first | omega | assumption | (constructor <;> omega)) ?_) | (refine And.intro (fun hif => ?_) (fun hif => ?_) <;> try (first | contradiction | (exfalso; omega))) | ((first | refine xT fun K hK => ?_ | refine xU fun K hK => ?_ | refine yB (fun K hK => ?_) (fun K hK => ?_) | refine xV ?_ | refine yA ?_ | refine xW ?_ | refine xX ?_ | refine xY ?_ | refine xZ ?_) <;> simp only [↓awpOps, ↓awpKeep, ↓awpKeepF, ↓aop, ↓aopQ, ↓abin, ↓aun, ↓onSome_some, ↓Kont_at, ↓KM_at, ↓KV_at, ↓KU_at, refId_row, Frame.ev, Frame.evs, Frame.evOr, Frame.put, Frame.keep, get_nil, get_cons, argFrame, resOf, fillA, Vals.len, Vals.get, Vals.set, Vals.app, Vals.sub, Vals.take, Vals.ofAgg_cons, Vals.ofList, Vals.toInts, Vals.toBools, Vals.toSls, Vals.toStrs, Vals.zeros, Nat.reduceBEq, Nat.reduceAdd, Nat.reduceEqDiff, cond_true, cond_false, Option.map_some, Option.map_none, List.length_cons, List.length_nil, List.replicate, List.set_cons_zero, List.set_cons_succ, Nat.reduceLT, Bool.not_true, Bool.not_false, Int.toNat_natCast, inR, Nat.zero_add, Int.toNat_zero, reduceCtorEq, IntKind.bits, List.nil_append, List.cons_append, Nat.add_zero, Nat.sub_zero, noughts_len, List.map_cons, List.map_nil, zp, zu]) | refine And.intro ?_ (fun hif => (hif trivial).elim) | (intro hif; try (first | contradiction | (exfalso; omega))))
  · exact ⟨by simp [hif], List.prefix_rfl⟩
  · have h : ¬ (0 ≤ n ∧ n ≤ 30) := by omega
    exact ⟨by rw [decide_eq_false h], List.prefix_rfl⟩

theorem impl_allLabels (s : SV) (l : List Int) (m : Heap) (hs : IsInts .i64 m s l) (hl : l.length ≤ 1048576) : AQuiet Try.prog F.impl_allLabels [.one (.sl s)] m (.one (.bool (decide (Within 30 l)))) := by
  obtain ⟨ref, off, len⟩ := s
  obtain rfl : len = l.length := hs.1
  refine aqn T.impl_allLabels (by rfl) ?_
  repeat' (first | refine xA ?_ | refine xB ?_ | refine xC ?_ | refine xD ?_ | refine xE ?_ | refine xF ?_ | refine xG ?_ | refine xH ?_ | refine xI rfl ?_ | refine xJ ?_ | refine xK ?_ | refine xL ?_ | refine xM rfl ?_ | refine xN rfl ?_ | refine xO rfl ?_ | (first | refine xP rfl (fun hif => ?_) (fun hif => ?_) | refine xQ rfl (fun hif => ?_) (fun hif => ?_) | refine xR rfl (fun hif => ?_) (fun hif => ?_) | refine xS rfl (fun hif => ?_) (fun hif => ?_)) <;> try (first | contradiction | (exfalso; omega)) | (refine hK _ _ ?_; clear hK K) | (refine And.intro (by first | omega | assumption | (constructor <;> omega)) ?_) | (refine And.intro (fun hif => ?_) (fun hif => ?_) <;> try (first | contradiction | (exfalso; omega))) | ((first | refine xT fun K hK => ?_ | refine xU fun K hK => ?_ | refine yB (fun K hK => ?_) (fun K hK => ?_) | refine xV ?_ | refine yA ?_ | refine xW ?_ | refine xX ?_ | refine xY ?_ | refine xZ ?_) <;> simp only [↓awpOps, ↓awpKeep, ↓awpKeepF, ↓aop, ↓aopQ, ↓abin, ↓aun, ↓onSome_some, ↓Kont_at, ↓KM_at, ↓KV_at, ↓KU_at, refId_row, Frame.ev, Frame.evs, Frame.evOr, Frame.put, Frame.keep, get_nil, get_cons, argFrame, resOf, fillA, Vals.len, Vals.get, Vals.set, Vals.app, Vals.sub, Vals.take, Vals.ofAgg_cons, Vals.ofList, Vals.toInts, Vals.toBools, Vals.toSls, Vals.toStrs, Vals.zeros, Nat.reduceBEq, Nat.reduceAdd, Nat.reduceEqDiff, cond_true, cond_false, Option.map_some, Option.map_none, List.length_cons, List.length_nil, List.replicate, List.set_cons_zero, List.set_cons_succ, Nat.reduceLT, Bool.not_true, Bool.not_false, Int.toNat_natCast, inR, Nat.zero_add, Int.toNat_zero, reduceCtorEq, IntKind.bits, List.nil_append, List.cons_append, Nat.add_zero, Nat.sub_zero, noughts_len, List.map_cons, List.map_nil, zp, zu]) | refine And.intro ?_ (fun hif => (hif trivial).elim) | (intro hif; try (first | contradiction | (exfalso; omega))))
  refine awp_loop ?_
  refine ALoop.by [0, 3] (fun k : Nat => [(0, .one (.sl ⟨ref, off, l.length⟩)), (3, .one (.int .i64 k))]) (fun _ => m) (fun k => k ≤ l.length ∧ ∀ i, i < k → 0 ≤ (l.getD i 0) ∧ (l.getD i 0) ≤ 30) (fun k => l.length - k) 0 rfl rfl ⟨Nat.zero_le _, fun i hi => absurd hi (Nat.not_lt_zero _)⟩ ?_
  rintro k ⟨hk, hok⟩ K1 hK1
  repeat' (first | refine xA ?_ | refine xB ?_ | refine xC ?_ | refine xD ?_ | refine xE ?_ | refine xF ?_ | refine xG ?_ | refine xH ?_ | refine xI rfl ?_ | refine xJ ?_ | refine xK ?_ | refine xL ?_ | refine xM rfl ?_ | refine xN rfl ?_ | refine xO rfl ?_ | (first | refine xP rfl (fun hif => ?_) (fun hif => ?_) | refine xQ rfl (fun hif => ?_) (fun hif => ?_) | refine xR rfl (fun hif => ?_) (fun hif => ?_) | refine xS rfl (fun hif => ?_) (fun hif => ?_)) <;> try (first | contradiction | (exfalso; omega)) | (refine hK _ _ ?_; clear hK K) | refine onSome_of (hs.2 _ (by omega)) ?_ | refine AQuiet.call (impl_isLabel _ _) trivial ?_ | (refine And.intro (by first | omega | assumption | (constructor <;> omega)) ?_) | (refine And.intro (fun hif => ?_) (fun hif => ?_) <;> try (first | contradiction | (exfalso; omega))) | ((first | refine xT fun K hK => ?_ | refine xU fun K hK => ?_ | refine yB (fun K hK => ?_) (fun K hK => ?_) | refine xV ?_ | refine yA ?_ | refine xW ?_ | refine xX ?_ | refine xY ?_ | refine xZ ?_) <;> simp only [↓awpOps, ↓awpKeep, ↓awpKeepF, ↓aop, ↓aopQ, ↓abin, ↓aun, ↓onSome_some, ↓Kont_at, ↓KM_at, ↓KV_at, ↓KU_at, refId_row, Frame.ev, Frame.evs, Frame.evOr, Frame.put, Frame.keep, get_nil, get_cons, argFrame, resOf, fillA, Vals.len, Vals.get, Vals.set, Vals.app, Vals.sub, Vals.take, Vals.ofAgg_cons, Vals.ofList, Vals.toInts, Vals.toBools, Vals.toSls, Vals.toStrs, Vals.zeros, Nat.reduceBEq, Nat.reduceAdd, Nat.reduceEqDiff, cond_true, cond_false, Option.map_some, Option.map_none, List.length_cons, List.length_nil, List.replicate, List.set_cons_zero, List.set_cons_succ, Nat.reduceLT, Bool.not_true, Bool.not_false, Int.toNat_natCast, inR, Nat.zero_add, Int.toNat_zero, reduceCtorEq, IntKind.bits, List.nil_append, List.cons_append, Nat.add_zero, Nat.sub_zero, noughts_len, List.map_cons, List.map_nil, zp, zu]) | refine And.intro ?_ (fun hif => (hif trivial).elim) | (intro hif; try (first | contradiction | (exfalso; omega))))
  · refine ⟨?_, List.prefix_rfl⟩
    congr 2
    exact (decide_eq_false fun h => hif (h k (by omega))).symm
  · refine hK1 (k + 1) _ _ rfl rfl ⟨by omega, fun i hi => ?_⟩ (by omega)
    rcases Nat.lt_succ_iff_lt_or_eq.1 hi with h | rfl
    · exact hok i h
    · exact hif
  · refine ⟨?_, List.prefix_rfl⟩
    congr 2
    exact (decide_eq_true fun i hi => hok i (by omega)).symm

theorem rowIn_no_net {most : Int} {net row : List Int} (h : ¬ NetOk net) : decide (RowIn most net row) = false := decide_eq_false fun c => h c.ok
theorem rowIn_no_len {most : Int} {net row : List Int} (h : row.length ≠ net.length) : decide (RowIn most net row) = false := decide_eq_false fun c => h c.len
theorem rowIn_yes {most : Int} {net row : List Int} (h : NetOk net) (hl : row.length = net.length) : decide (RowIn most net row) = decide (Within most row) := decide_eq_decide.2 ⟨fun c => c.low, fun c => ⟨h, hl, c⟩⟩

theorem impl_RowOk (s t : SV) (net row : List Int) (m : Heap) (hs : IsInts .i64 m s net) (ht : IsInts .i64 m t row) : AQuiet Try.prog F.impl_RowOk [.one (.sl s), .one (.sl t)] m (.one (.bool (decide (RowOk net row)))) := by
  obtain ⟨ref, off, len⟩ := s
  obtain rfl : len = net.length := hs.1
  obtain ⟨ref', off', len'⟩ := t
  obtain rfl : len' = row.length := ht.1
  refine aqn T.impl_RowOk (by rfl) ?_
  by_cases hN : NetOk net
  · have h6 := hN.six
    by_cases hl : row.length = net.length
    · rw [rowIn_yes hN hl]
      repeat' (first | refine xA ?_ | refine xB ?_ | refine xC ?_ | refine xD ?_ | refine xE ?_ | refine xF ?_ | refine xG ?_ | refine xH ?_ | refine xI rfl ?_ | refine xJ ?_ | refine xK ?_ | refine xL ?_ | refine xM rfl ?_ | refine xN rfl ?_ | refine xO rfl ?_ | (first | refine xP rfl (fun hif => ?_) (fun hif => ?_) | refine xQ rfl (fun hif => ?_) (fun hif => ?_) | refine xR rfl (fun hif => ?_) (fun hif => ?_) | refine xS rfl (fun hif => ?_) (fun hif => ?_)) <;> try (first | contradiction | (exfalso; omega)) | (refine hK _ _ ?_; clear hK K) | refine AQuiet.call (impl_NetOk_b true hs (decide_eq_true hN)) trivial ?_ | refine AQuiet.call (impl_allLabels _ row _ ht (by omega)) trivial ?_ | (refine And.intro (by first | omega | assumption | (constructor <;> omega)) ?_) | (refine And.intro (fun hif => ?_) (fun hif => ?_) <;> try (first | contradiction | (exfalso; omega))) | ((first | refine xT fun K hK => ?_ | refine xU fun K hK => ?_ | refine yB (fun K hK => ?_) (fun K hK => ?_) | refine xV ?_ | refine yA ?_ | refine xW ?_ | refine xX ?_ | refine xY ?_ | refine xZ ?_) <;> simp only [↓awpOps, ↓awpKeep, ↓awpKeepF, ↓aop, ↓aopQ, ↓abin, ↓aun, ↓onSome_some, ↓Kont_at, ↓KM_at, ↓KV_at, ↓KU_at, refId_row, Frame.ev, Frame.evs, Frame.evOr, Frame.put, Frame.keep, get_nil, get_cons, argFrame, resOf, fillA, Vals.len, Vals.get, Vals.set, Vals.app, Vals.sub, Vals.take, Vals.ofAgg_cons, Vals.ofList, Vals.toInts, Vals.toBools, Vals.toSls, Vals.toStrs, Vals.zeros, Nat.reduceBEq, Nat.reduceAdd, Nat.reduceEqDiff, cond_true, cond_false, Option.map_some, Option.map_none, List.length_cons, List.length_nil, List.replicate, List.set_cons_zero, List.set_cons_succ, Nat.reduceLT, Bool.not_true, Bool.not_false, Int.toNat_natCast, inR, Nat.zero_add, Int.toNat_zero, reduceCtorEq, IntKind.bits, List.nil_append, List.cons_append, Nat.add_zero, Nat.sub_zero, noughts_len, List.map_cons, List.map_nil, zp, zu]) | refine And.intro ?_ (fun hif => (hif trivial).elim) | (intro hif; try (first | contradiction | (exfalso; omega))))
      (first | exact List.prefix_rfl | exact ⟨rfl, List.prefix_rfl⟩ | exact ⟨by simp, List.prefix_rfl⟩)
    · rw [rowIn_no_len hl]
      repeat' (first | refine xA ?_ | refine xB ?_ | refine xC ?_ | refine xD ?_ | refine xE ?_ | refine xF ?_ | refine xG ?_ | refine xH ?_ | refine xI rfl ?_ | refine xJ ?_ | refine xK ?_ | refine xL ?_ | refine xM rfl ?_ | refine xN rfl ?_ | refine xO rfl ?_ | (first | refine xP rfl (fun hif => ?_) (fun hif => ?_) | refine xQ rfl (fun hif => ?_) (fun hif => ?_) | refine xR rfl (fun hif => ?_) (fun hif => ?_) | refine xS rfl (fun hif => ?_) (fun hif => ?_)) <;> try (first | contradiction | (exfalso; omega)) | (refine hK _ _ ?_; clear hK K) | refine AQuiet.call (impl_NetOk_b true hs (decide_eq_true hN)) trivial ?_ | (refine And.intro (by first | omega | assumption | (constructor <;> omega)) ?_) | (refine And.intro (fun hif => ?_) (fun hif => ?_) <;> try (first | contradiction | (exfalso; omega))) | ((first | refine xT fun K hK => ?_ | refine xU fun K hK => ?_ | refine yB (fun K hK => ?_) (fun K hK => ?_) | refine xV ?_ | refine yA ?_ | refine xW ?_ | refine xX ?_ | refine xY ?_ | refine xZ ?_) <;> simp only [↓awpOps, ↓awpKeep, ↓awpKeepF, ↓aop, ↓aopQ, ↓abin, ↓aun, ↓onSome_some, ↓Kont_at, ↓KM_at, ↓KV_at, ↓KU_at, refId_row, Frame.ev, Frame.evs, Frame.evOr, Frame.put, Frame.keep, get_nil, get_cons, argFrame, resOf, fillA, Vals.len, Vals.get, Vals.set, Vals.app, Vals.sub, Vals.take, Vals.ofAgg_cons, Vals.ofList, Vals.toInts, Vals.toBools, Vals.toSls, Vals.toStrs, Vals.zeros, Nat.reduceBEq, Nat.reduceAdd, Nat.reduceEqDiff, cond_true, cond_false, Option.map_some, Option.map_none, List.length_cons, List.length_nil, List.replicate, List.set_cons_zero, List.set_cons_succ, Nat.reduceLT, Bool.not_true, Bool.not_false, Int.toNat_natCast, inR, Nat.zero_add, Int.toNat_zero, reduceCtorEq, IntKind.bits, List.nil_append, List.cons_append, Nat.add_zero, Nat.sub_zero, noughts_len, List.map_cons, List.map_nil, zp, zu]) | refine And.intro ?_ (fun hif => (hif trivial).elim) | (intro hif; try (first | contradiction | (exfalso; omega))))
      (first | exact List.prefix_rfl | exact ⟨rfl, List.prefix_rfl⟩ | exact ⟨by simp, List.prefix_rfl⟩)
  · rw [rowIn_no_net hN]
    repeat' (first | refine xA ?_ | refine xB ?_ | refine xC ?_ | refine xD ?_ | refine xE ?_ | refine xF ?_ | refine xG ?_ | refine xH ?_ | refine xI rfl ?_ | refine xJ ?_ | refine xK ?_ | refine xL ?_ | refine xM rfl ?_ | refine xN rfl ?_ | refine xO rfl ?_ | (first | refine xP rfl (fun hif => ?_) (fun hif => ?_) | refine xQ rfl (fun hif => ?_) (fun hif => ?_) | refine xR rfl (fun hif => ?_) (fun hif => ?_) | refine xS rfl (fun hif => ?_) (fun hif => ?_)) <;> try (first | contradiction | (exfalso; omega)) | (refine hK _ _ ?_; clear hK K) | refine AQuiet.call (impl_NetOk_b false hs (decide_eq_false hN)) trivial ?_ | (refine And.intro (by first | omega | assumption | (constructor <;> omega)) ?_) | (refine And.intro (fun hif => ?_) (fun hif => ?_) <;> try (first | contradiction | (exfalso; omega))) | ((first | refine xT fun K hK => ?_ | refine xU fun K hK => ?_ | refine yB (fun K hK => ?_) (fun K hK => ?_) | refine xV ?_ | refine yA ?_ | refine xW ?_ | refine xX ?_ | refine xY ?_ | refine xZ ?_) <;> simp only [↓awpOps, ↓awpKeep, ↓awpKeepF, ↓aop, ↓aopQ, ↓abin, ↓aun, ↓onSome_some, ↓Kont_at, ↓KM_at, ↓KV_at, ↓KU_at, refId_row, Frame.ev, Frame.evs, Frame.evOr, Frame.put, Frame.keep, get_nil, get_cons, argFrame, resOf, fillA, Vals.len, Vals.get, Vals.set, Vals.app, Vals.sub, Vals.take, Vals.ofAgg_cons, Vals.ofList, Vals.toInts, Vals.toBools, Vals.toSls, Vals.toStrs, Vals.zeros, Nat.reduceBEq, Nat.reduceAdd, Nat.reduceEqDiff, cond_true, cond_false, Option.map_some, Option.map_none, List.length_cons, List.length_nil, List.replicate, List.set_cons_zero, List.set_cons_succ, Nat.reduceLT, Bool.not_true, Bool.not_false, Int.toNat_natCast, inR, Nat.zero_add, Int.toNat_zero, reduceCtorEq, IntKind.bits, List.nil_append, List.cons_append, Nat.add_zero, Nat.sub_zero, noughts_len, List.map_cons, List.map_nil, zp, zu]) | refine And.intro ?_ (fun hif => (hif trivial).elim) | (intro hif; try (first | contradiction | (exfalso; omega))))
    (first | exact List.prefix_rfl | exact ⟨rfl, List.prefix_rfl⟩ | exact ⟨by simp, List.prefix_rfl⟩)

theorem spec_NetOk_b {s : SV} {net : List Int} {m : Heap} (b : Bool) (hs : IsInts .i64 m s net) (hb : decide (NetOk net) = b) : AQuiet Try.prog F.spec_NetOk [.one (.sl s)] m (.one (.bool b)) := hb ▸ spec_NetOk s net m hs

/-- No number comes twice. -/
def Once (l : List Int) : Prop := ∀ k, k < l.length → ∀ j, j < k → (l.getD j 0) ≠ (l.getD k 0)
instance (l : List Int) : Decidable (Once l) := by unfold Once; infer_instance

/-- The counts of the first k numbers. -/
def counts (row : List Int) (k : Nat) : List Int := (List.range 31).map fun n : Nat => (((row.take k).count (n : Int) : Nat) : Int)

theorem counts_len (row : List Int) (k : Nat) : (counts row k).length = 31 := by simp [counts]
theorem counts_get (row : List Int) (k n : Nat) (h : n < 31) : (counts row k).getD n 0 = ((row.take k).count (n : Int) : Nat) := by simp [counts, List.getD_eq_getElem?_getD, h]
theorem counts_set (row : List Int) {k : Nat} (hk : k < row.length) {n : Nat} (hn : row.getD k 0 = (n : Int)) (h31 : n < 31) : (counts row k).set n ((counts row k).getD n 0 + 1) = counts row (k + 1) := by
  have hg : row[k] = (n : Int) := by simpa [List.getD_eq_getElem?_getD, hk] using hn
  apply List.ext_getElem
  · simp [counts]
  · intro i h1 h2
    rw [List.getElem_set]
    have hi : i < 31 := by simpa [counts] using h2
    simp only [counts_get row k n h31]
    simp only [counts, List.getElem_map, List.getElem_range, List.take_succ_eq_append_getElem hk, List.count_append, hg]
    by_cases hni : n = i
    · subst hni
      simp
    · rw [if_neg hni]
      have : ([(n : Int)].count (i : Int)) = 0 := by
        rw [List.count_eq_zero]
        simp
        omega
      rw [this]
      simp

theorem count_take {row : List Int} {k : Nat} (hk : k < row.length) : ((row.take (k + 1)).count (row.getD k 0) > 1) ↔ ∃ j, j < k ∧ (row.getD j 0) = (row.getD k 0) := by
  have hg : row.getD k 0 = row[k] := by simp [List.getD_eq_getElem?_getD, hk]
  rw [List.take_succ_eq_append_getElem hk, List.count_append, hg, List.count_singleton_self]
  constructor
  · intro h
    have h0 : 0 < (row.take k).count row[k] := by omega
    obtain ⟨j, hj, he⟩ := List.getElem_of_mem (List.count_pos_iff.1 h0)
    rw [List.length_take] at hj
    refine ⟨j, by omega, ?_⟩
    rw [List.getElem_take] at he
    simp only [List.getD_eq_getElem?_getD, List.getElem?_eq_getElem (show j < row.length by omega), Option.getD_some]
    exact he
  · rintro ⟨j, hj, he⟩
    have : row[k] ∈ row.take k := by
      simp only [List.getD_eq_getElem?_getD, List.getElem?_eq_getElem (show j < row.length by omega), Option.getD_some] at he
      rw [← he]
      exact List.mem_take_iff_getElem.2 ⟨j, by omega, rfl⟩
    have := List.count_pos_iff.2 this
    omega

end Go.Abs

/- Rows that are made of rows: each function by a contract. Own work; no condition. -/
set_option maxRecDepth 100000
set_option linter.unusedSimpArgs false
set_option linter.unusedVariables false
namespace Go.Abs
open Go.Proofs
attribute [local irreducible] awp awpOps awpKeep KeepK awpKeepF KeepF aloop ALoop ACalls ACallq AQuiet retPost retPostA AExit.thn AExit.blk aApp aSt aStA

theorem getD_mapI {α : Type} (f : α → Int) (l : List α) (d : α) {i : Nat} (h : i < l.length) : (l.map f).getD i 0 = f (l.getD i d) := by
  simp [List.getD_eq_getElem?_getD, h]

/-- A wire of a list of wires, as memory has it. -/
theorem Lists.wire {a b : Nat} {m : Heap} {s : SV} {net : List Int} (h : Lists a b m s (wires net)) {i : Nat} (hi : i < (wires net).length) :
    ∃ x y wi : Nat, m.at (s.ref.id) (s.off + i) = some (.sl ⟨.row wi, 0, 2⟩) ∧ m.at wi 0 = some (.int .i64 x) ∧ m.at wi 1 = some (.int .i64 y) ∧ x < net.length ∧ x < y ∧ y < net.length ∧ bit ((net.getD x 0)) y = true ∧ (wires net).getD i [] = [(x : Int), (y : Int)] := by
  obtain ⟨svs, f, h1, h2, h4, h5⟩ := h
  obtain ⟨x, y, g1, g2, g3, g4, g5⟩ := wire_at hi
  obtain ⟨wi, gi, _, _, _, q1, q2, _⟩ := h5 i hi
  rw [g1] at q1 q2
  have h0 := ((h1.obj' h2).isSls).2 i (by omega)
  rw [q1] at h0
  exact ⟨x, y, wi, h0, at_row q2 (by simp [Vals.len]), at_row q2 (by simp [Vals.len]), g2, g3, g4, g5, g1⟩

def dist (a b : Int) : Int := if a < b then b - a else a - b

/-- What is made of the numbers at the ends of each wire. -/
def perWire (f : Int → Int → Int) (net row : List Int) : List Int := (wires net).map fun w => f (row.getD (w.getD 0 0).toNat 0) (row.getD (w.getD 1 0).toNat 0)
def diffs (net row : List Int) : List Int := if RowOk net row then perWire dist net row else []
def sums (net row : List Int) : List Int := if RowOk net row then perWire (· + ·) net row else []

theorem perWire_get (f : Int → Int → Int) {net row : List Int} {i : Nat} (hi : i < (wires net).length) {x y : Nat} (h : (wires net).getD i [] = [(x : Int), (y : Int)]) : (perWire f net row).getD i 0 = f ((row.getD x 0)) ((row.getD y 0)) := by
  rw [perWire, getD_mapI _ _ [] hi, h]
  simp
theorem perWire_len (f : Int → Int → Int) (net row : List Int) : (perWire f net row).length = (wires net).length := by simp [perWire]

theorem impl_distance (a b : Int) (ha : 0 ≤ a ∧ a ≤ 30) (hb : 0 ≤ b ∧ b ≤ 30) (m : Heap) : AQuiet Try.prog F.impl_distance [.one (.int .i64 a), .one (.int .i64 b)] m (.one (.int .i64 (dist a b))) := by
  refine aqn T.impl_distance (by rfl) ?_
  repeat' (first | refine xA ?_ | refine xB ?_ | refine xC ?_ | refine xD ?_ | refine xE ?_ | refine xF ?_ | refine xG ?_ | refine xH ?_ | refine xI rfl ?_ | refine xJ ?_ | refine xK ?_ | refine xL ?_ | refine xM rfl ?_ | refine xN rfl ?_ | refine xO rfl ?_ | (first | refine xP rfl (fun hif => ?_) (fun hif => ?_) | refine xQ rfl (fun hif => ?_) (fun hif => ?_) | refine xR rfl (fun hif => ?_) (fun hif => ?_) | refine xS rfl (fun hif => ?_) (fun hif => ?_)) <;> try (first | contradiction | (exfalso; omega)) | (refine hK _ _ ?_; clear hK K) | (refine And.intro (by first | omega | assumption | (constructor <;> omega)) ?_) | (refine And.intro (fun hif => ?_) (fun hif => ?_) <;> try (first | contradiction | (exfalso; omega))) | ((first | refine xT fun K hK => ?_ | refine xU fun K hK => ?_ | refine yB (fun K hK => ?_) (fun K hK => ?_) | refine xV ?_ | refine yA ?_ | refine xW ?_ | refine xX ?_ | refine xY ?_ | refine xZ ?_) <;> simp only [↓awpOps, ↓awpKeep, ↓awpKeepF, ↓aop, ↓aopQ, ↓abin, ↓aun, ↓onSome_some, ↓Kont_at, ↓KM_at, ↓KV_at, ↓KU_at, refId_row, Frame.ev, Frame.evs, Frame.evOr, Frame.put, Frame.keep, get_nil, get_cons, argFrame, resOf, fillA, Vals.len, Vals.get, Vals.set, Vals.app, Vals.sub, Vals.take, Vals.ofAgg_cons, Vals.ofList, Vals.toInts, Vals.toBools, Vals.toSls, Vals.toStrs, Vals.zeros, Nat.reduceBEq, Nat.reduceAdd, Nat.reduceEqDiff, cond_true, cond_false, Option.map_some, Option.map_none, List.length_cons, List.length_nil, List.replicate, List.set_cons_zero, List.set_cons_succ, Nat.reduceLT, Bool.not_true, Bool.not_false, Int.toNat_natCast, inR, Nat.zero_add, Int.toNat_zero, reduceCtorEq, IntKind.bits, List.nil_append, List.cons_append, Nat.add_zero, Nat.sub_zero, noughts_len, List.map_cons, List.map_nil, zp, zu]) | refine And.intro ?_ (fun hif => (hif trivial).elim) | (intro hif; try (first | contradiction | (exfalso; omega))))
  · exact ⟨by rw [dist, if_pos hif], List.prefix_rfl⟩
  · exact ⟨by rw [dist, if_neg (by omega)], List.prefix_rfl⟩

theorem away_dist (a b : Int) : max (a - b) (-(a - b)) = dist a b := by unfold dist; split <;> omega

theorem take_push (V : List Int) {k : Nat} (h : k < V.length) {z : Int} (hz : V.getD k 0 = z) : V.take k ++ [z] = V.take (k + 1) := by
  rw [List.take_succ_eq_append_getElem h, ← hz]
  simp [List.getD_eq_getElem?_getD, h]

end Go.Abs

/- Rows that are turned and moved: each function by a contract. Own work; no condition. -/
set_option maxRecDepth 100000
set_option linter.unusedSimpArgs false
set_option linter.unusedVariables false
namespace Go.Abs
open Go.Proofs
attribute [local irreducible] awp awpOps awpKeep KeepK awpKeepF KeepF aloop ALoop ACalls ACallq AQuiet retPost retPostA AExit.thn AExit.blk aApp aSt aStA

def turned (net row : List Int) (most : Int) : List Int := if (0 ≤ most ∧ most ≤ 30) ∧ RowIn most net row then row.map (fun z => most - z) else []
def moved (net row : List Int) (by' : Int) : List Int := if RowOk net row ∧ (-30 ≤ by' ∧ by' ≤ 30) ∧ Within 30 (row.map fun z => z + by') then row.map (fun z => z + by') else []

theorem map_get (f : Int → Int) {row : List Int} {k : Nat} (h : k < row.length) : (row.map f).getD k 0 = f ((row.getD k 0)) := getD_mapI f row 0 h

theorem within_turned {row : List Int} {most : Int} (hm : 0 ≤ most ∧ most ≤ 30) (h : Within 30 row) : Within 30 (row.map fun z => most - z) ↔ Within most row := by
  constructor
  · intro c k hk
    have h1 := c k (by simpa using hk)
    rw [map_get _ hk] at h1
    have := h k hk
    omega
  · intro c k hk
    rw [List.length_map] at hk
    rw [map_get _ hk]
    have := c k hk
    omega

theorem rowIn_30 {most : Int} {net row : List Int} (hm : most ≤ 30) (h : RowIn most net row) : RowOk net row := ⟨h.ok, h.len, fun k hk => by have := h.low k hk; omega⟩

theorem wires_len {net : List Int} (h : NetOk net) : (wires net).length ≤ 36 := Nat.le_trans (wiresTo_len net h.six net.length) (by have := h.six; omega)
theorem diffs_len (net row : List Int) : (diffs net row).length ≤ 1048576 := by
  unfold diffs
  split
  · rename_i h; rw [perWire_len]; have := wires_len h.ok; omega
  · simp
theorem sums_len (net row : List Int) : (sums net row).length ≤ 1048576 := by
  unfold sums
  split
  · rename_i h; rw [perWire_len]; have := wires_len h.ok; omega
  · simp
theorem turned_len (net row : List Int) (most : Int) : (turned net row most).length ≤ 1048576 := by
  unfold turned
  split
  · rename_i h; rw [List.length_map]; have := h.2.len; have := h.2.ok.six; omega
  · simp
theorem moved_len (net row : List Int) (b : Int) : (moved net row b).length ≤ 1048576 := by
  unfold moved
  split
  · rename_i h; rw [List.length_map]; have := h.1.len; have := h.1.ok.six; omega
  · simp

end Go.Abs

/- Rows that are turned and moved: what stays. Own work; no condition. -/
set_option maxRecDepth 100000
set_option linter.unusedSimpArgs false
set_option linter.unusedVariables false
namespace Go.Abs
open Go.Proofs
attribute [local irreducible] awp awpOps awpKeep KeepK awpKeepF KeepF aloop ALoop ACalls ACallq AQuiet retPost retPostA AExit.thn AExit.blk aApp aSt aStA

theorem perWire_congr {f g : Int → Int → Int} {net row row2 : List Int} (h : ∀ x y, x < net.length → y < net.length → f ((row2.getD x 0)) ((row2.getD y 0)) = g ((row.getD x 0)) ((row.getD y 0))) : perWire f net row2 = perWire g net row := by
  unfold perWire
  apply List.map_congr_left
  intro w hw
  obtain ⟨a, b, rfl, h1, h2, h3, _⟩ := mem_to hw
  simpa using h a b (by omega) h3

theorem turned_in {net row : List Int} {most : Int} (hm : 0 ≤ most ∧ most ≤ 30) (h : RowIn most net row) : turned net row most = row.map fun z => most - z := by rw [turned, if_pos ⟨hm, h⟩]
theorem rowIn_turned {net row : List Int} {most : Int} (h : RowIn most net row) : RowIn most net (row.map fun z => most - z) :=
  ⟨h.ok, by rw [List.length_map]; exact h.len, fun k hk => by rw [List.length_map] at hk; rw [map_get _ hk]; have := h.low k hk; omega⟩
theorem once_map {row : List Int} (f : Int → Int) (hf : ∀ a b, f a = f b → a = b) (h : Once row) : Once (row.map f) := by
  intro k hk j hj
  rw [List.length_map] at hk
  rw [map_get _ hk, map_get _ (by omega)]
  exact fun e => h k hk j hj (hf _ _ e)
theorem map_map_id {row : List Int} {f g : Int → Int} (h : ∀ z, g (f z) = z) : (row.map f).map g = row := by
  rw [List.map_map]
  conv => rhs; rw [← List.map_id row]
  exact List.map_congr_left fun z _ => h z
theorem diffs_turned {net row : List Int} (h : RowOk net row) : diffs net (row.map fun z => 30 - z) = diffs net row := by
  have hl := h.len
  rw [diffs, if_pos (rowIn_turned h), diffs, if_pos h]
  refine perWire_congr fun x y hx hy => ?_
  rw [map_get _ (by omega), map_get _ (by omega)]
  unfold dist
  split <;> split <;> omega
theorem diffs_zero {net row : List Int} (h : RowOk net row) (ho : Once row) : ¬ (0 : Int) ∈ diffs net row := by
  have hl := h.len
  rw [diffs, if_pos h]
  intro hm
  obtain ⟨w, hw, he⟩ := List.mem_map.1 hm
  obtain ⟨a, b, rfl, h1, h2, h3, _⟩ := mem_to hw
  have := ho b (by omega) a h2
  simp only [List.getD_cons_zero, List.getD_cons_succ, Int.toNat_natCast] at he
  unfold dist at he
  split at he <;> omega

theorem zeros_get (n k : Nat) : (List.replicate n (0 : Int)).getD k 0 = 0 := by
  rw [List.getD_eq_getElem?_getD, List.getElem?_replicate]
  split <;> rfl
theorem rowOk_zeros {net : List Int} (h : NetOk net) : RowOk net (List.replicate net.length 0) := ⟨h, by simp, fun k _ => by rw [zeros_get]; decide⟩

theorem diff_sum {net row : List Int} (h : RowOk net row) {k : Nat} (hk : k < (wires net).length) :
    ∃ d s : Int, (diffs net row).getD k 0 = d ∧ (sums net row).getD k 0 = s ∧ 0 ≤ d ∧ d ≤ s ∧ (s - d) % 2 = 0 ∧ s ≤ 60 := by
  have hl := h.len
  obtain ⟨x, y, g1, g2, g3, g4, _⟩ := wire_at hk
  have hx := h.low x (by omega)
  have hy := h.low y (by omega)
  refine ⟨_, _, by rw [diffs, if_pos h, perWire_get _ hk g1], by rw [sums, if_pos h, perWire_get _ hk g1], ?_⟩
  unfold dist
  split <;> omega

/-- Numbers, each as often as its place has neighbours. -/
def wsum (net row : List Int) (k : Nat) : Int := sig k fun k => (row.getD k 0) * (pc ((net.getD k 0)).toNat : Int)
theorem sums_sum {net row : List Int} (h : RowOk net row) : (sums net row).sum = wsum net row net.length := by
  have hN := h.ok
  rw [sums, if_pos h, perWire, wires_sum, wsum]
  rw [sig_congr (f := fun k => (row.getD k 0) * (pc ((net.getD k 0)).toNat : Int)) (g := fun k => sig net.length fun j => (row.getD k 0) * (nb net k j : Int)) fun k hk => by rw [pc_sig hN hk, sig_mul]]
  rw [sig_pairs (fun k j => (row.getD k 0) * (nb net k j : Int)) _ fun i hi => by rw [nb_own hN hi]; simp]
  refine sig_congr fun k hk => sig_congr fun j hj => ?_
  by_cases hkj : k < j
  · rw [if_pos hkj, nb_sym hN hj hk]
    simp only [List.getD_cons_zero, List.getD_cons_succ, Int.toNat_natCast]
    unfold nb
    cases hb : bit ((net.getD k 0)) j with
    | true => rw [if_pos ⟨hkj, rfl⟩]; simp
    | false => rw [if_neg (by simp)]; simp
  · rw [if_neg hkj, if_neg fun c => hkj c.1]
theorem psum_sums {net row : List Int} (h : RowOk net row) : psum (sums net row) (wires net).length = wsum net row net.length := by
  rw [← sums_sum h, ← psum_sum]
  congr 1
  rw [sums, if_pos h, perWire_len]

theorem sums_moved {net row : List Int} (h : RowOk net row) (h' : RowOk net (row.map fun z => z + 1)) {k : Nat} (hk : k < (wires net).length) : (sums net (row.map fun z => z + 1)).getD k 0 = (sums net row).getD k 0 + 2 := by
  have hl := h.len
  obtain ⟨x, y, g1, g2, g3, g4, _⟩ := wire_at hk
  rw [sums, if_pos h', sums, if_pos h, perWire_get _ hk g1, perWire_get _ hk g1, map_get _ (by omega), map_get _ (by omega)]
  omega

theorem turned_back {net row : List Int} {v : Int} (h : ¬ (turned net row v).length = 0) : RowOk net (turned net row v) ∧ turned net (turned net row v) v = row ∧ row.length ≤ 1048576 := by
  have hc : (0 ≤ v ∧ v ≤ 30) ∧ RowIn v net row := Decidable.byContradiction fun c => h (by rw [turned, if_neg c]; rfl)
  have hr := rowIn_turned hc.2
  refine ⟨?_, ?_, by have := hc.2.len; have := hc.2.ok.six; omega⟩
  · rw [turned_in hc.1 hc.2]; exact rowIn_30 hc.1.2 hr
  · rw [turned_in hc.1 hc.2, turned_in hc.1 hr, map_map_id fun z => by omega]
theorem moved_back {net row : List Int} {v : Int} (h : ¬ (moved net row v).length = 0) : RowOk net (moved net row v) ∧ moved net (moved net row v) (-v) = row ∧ row.length ≤ 1048576 := by
  have hc : RowOk net row ∧ (-30 ≤ v ∧ v ≤ 30) ∧ Within 30 (row.map fun z => z + v) := Decidable.byContradiction fun c => h (by rw [moved, if_neg c]; rfl)
  have e : moved net row v = row.map fun z => z + v := by rw [moved, if_pos hc]
  have hr : RowOk net (row.map fun z => z + v) := ⟨hc.1.ok, by rw [List.length_map]; exact hc.1.len, hc.2.2⟩
  have e2 : (row.map fun z => z + v).map (fun z => z + -v) = row := map_map_id fun z => by omega
  refine ⟨by rw [e]; exact hr, ?_, by have := hc.1.len; have := hc.1.ok.six; omega⟩
  rw [e, moved, if_pos ⟨hr, by omega, by rw [e2]; exact hc.1.low⟩, e2]

end Go.Abs
