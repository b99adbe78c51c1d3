/- The program's fifth chapter, by contracts. Own work; no condition. -/
import Derived.Test.YtigjlphflaiboaaAlpha1
import Derived.Test.YtigjlphflaiboaaImpl3
set_option maxRecDepth 100000
set_option linter.unusedSimpArgs false
set_option linter.unusedVariables false
namespace Go.Abs
open Go.Proofs
attribute [local irreducible] awp awpOps awpKeep KeepK aloop ALoop ACalls ACallq AQuiet retPost retPostA AExit.thn AExit.blk aApp aSt aStA

theorem turnedSides_len (net row : List Int) : (turnedSides net row).length ≤ 1048576 := by
  unfold turnedSides
  split
  · rename_i h
    have hG := (partedAt_use h).1
    have := hG.low.len
    have := hG.ok.six
    rw [List.length_map]
    omega
  · simp
theorem raisedRow_len (net row : List Int) (b : Int) : (raisedRow net row b).length ≤ 1048576 := by
  unfold raisedRow
  split
  · rename_i h
    have hG := (partedAt_use h.1).1
    have := hG.low.len
    have := hG.ok.six
    rw [List.length_map]
    omega
  · simp

theorem impl_lesserOf (a b : Int) (m : Heap) : AQuiet Try.prog F.impl_lesserOf [.one (.int .i64 a), .one (.int .i64 b)] m (.one (.int .i64 (min a b))) := by
  refine aqn T.impl_lesserOf (by rfl) ?_
  repeat' (first | refine xA ?_ | refine xB ?_ | refine xC ?_ | refine xD ?_ | refine xE ?_ | refine xF ?_ | refine xG ?_ | refine xH ?_ | refine xI rfl ?_ | refine xJ ?_ | refine xK ?_ | refine xL ?_ | refine xM rfl ?_ | refine xN rfl ?_ | refine xO rfl ?_ | (first | refine xP rfl (fun hif => ?_) (fun hif => ?_) | refine xQ rfl (fun hif => ?_) (fun hif => ?_) | refine xR rfl (fun hif => ?_) (fun hif => ?_) | refine xS rfl (fun hif => ?_) (fun hif => ?_)) <;> try (first | contradiction | (exfalso; omega)) | (refine hK _ _ ?_; clear hK K) | (refine And.intro (by first | omega | assumption | (constructor <;> omega)) ?_) | (refine And.intro (fun hif => ?_) (fun hif => ?_) <;> try (first | contradiction | (exfalso; omega))) | ((first | refine xT fun K hK => ?_ | refine xU fun K hK => ?_ | refine xV ?_ | refine xW ?_ | refine xX ?_ | refine xY ?_ | refine xZ ?_); simp only [↓awpOps, ↓awpKeep, ↓aop, ↓aopQ, ↓abin, ↓aun, ↓onSome_some, ↓Kont_at, ↓KM_at, ↓KV_at, ↓KU_at, refId_row, Frame.ev, Frame.evs, Frame.evOr, Frame.put, Frame.keep, get_nil, get_cons, argFrame, resOf, fillA, Vals.len, Vals.get, Vals.set, Vals.app, Vals.sub, Vals.take, Vals.ofAgg_cons, Vals.ofList, Vals.toInts, Vals.toBools, Vals.toSls, Vals.toStrs, Vals.zeros, Nat.reduceBEq, Nat.reduceAdd, Nat.reduceEqDiff, cond_true, cond_false, Option.map_some, Option.map_none, List.length_cons, List.length_nil, List.replicate, List.set_cons_zero, List.set_cons_succ, Nat.reduceLT, Bool.not_true, Bool.not_false, Int.toNat_natCast, inR, Nat.zero_add, Int.toNat_zero, reduceCtorEq, IntKind.bits, List.nil_append, List.cons_append, Nat.add_zero, Nat.sub_zero, noughts_len, List.map_cons, List.map_nil, zp, zu]) | refine And.intro ?_ (fun hif => (hif trivial).elim) | (intro hif; try (first | contradiction | (exfalso; omega))))
  · exact ⟨by rw [Int.min_eq_left (by omega)], List.prefix_rfl⟩
  · exact ⟨by rw [Int.min_eq_right (by omega)], List.prefix_rfl⟩
theorem impl_greaterOf (a b : Int) (m : Heap) : AQuiet Try.prog F.impl_greaterOf [.one (.int .i64 a), .one (.int .i64 b)] m (.one (.int .i64 (max a b))) := by
  refine aqn T.impl_greaterOf (by rfl) ?_
  repeat' (first | refine xA ?_ | refine xB ?_ | refine xC ?_ | refine xD ?_ | refine xE ?_ | refine xF ?_ | refine xG ?_ | refine xH ?_ | refine xI rfl ?_ | refine xJ ?_ | refine xK ?_ | refine xL ?_ | refine xM rfl ?_ | refine xN rfl ?_ | refine xO rfl ?_ | (first | refine xP rfl (fun hif => ?_) (fun hif => ?_) | refine xQ rfl (fun hif => ?_) (fun hif => ?_) | refine xR rfl (fun hif => ?_) (fun hif => ?_) | refine xS rfl (fun hif => ?_) (fun hif => ?_)) <;> try (first | contradiction | (exfalso; omega)) | (refine hK _ _ ?_; clear hK K) | (refine And.intro (by first | omega | assumption | (constructor <;> omega)) ?_) | (refine And.intro (fun hif => ?_) (fun hif => ?_) <;> try (first | contradiction | (exfalso; omega))) | ((first | refine xT fun K hK => ?_ | refine xU fun K hK => ?_ | refine xV ?_ | refine xW ?_ | refine xX ?_ | refine xY ?_ | refine xZ ?_); simp only [↓awpOps, ↓awpKeep, ↓aop, ↓aopQ, ↓abin, ↓aun, ↓onSome_some, ↓Kont_at, ↓KM_at, ↓KV_at, ↓KU_at, refId_row, Frame.ev, Frame.evs, Frame.evOr, Frame.put, Frame.keep, get_nil, get_cons, argFrame, resOf, fillA, Vals.len, Vals.get, Vals.set, Vals.app, Vals.sub, Vals.take, Vals.ofAgg_cons, Vals.ofList, Vals.toInts, Vals.toBools, Vals.toSls, Vals.toStrs, Vals.zeros, Nat.reduceBEq, Nat.reduceAdd, Nat.reduceEqDiff, cond_true, cond_false, Option.map_some, Option.map_none, List.length_cons, List.length_nil, List.replicate, List.set_cons_zero, List.set_cons_succ, Nat.reduceLT, Bool.not_true, Bool.not_false, Int.toNat_natCast, inR, Nat.zero_add, Int.toNat_zero, reduceCtorEq, IntKind.bits, List.nil_append, List.cons_append, Nat.add_zero, Nat.sub_zero, noughts_len, List.map_cons, List.map_nil, zp, zu]) | refine And.intro ?_ (fun hif => (hif trivial).elim) | (intro hif; try (first | contradiction | (exfalso; omega))))
  · exact ⟨by rw [Int.max_eq_left (by omega)], List.prefix_rfl⟩
  · exact ⟨by rw [Int.max_eq_right (by omega)], List.prefix_rfl⟩

/-- The least of the greater numbers of the first k wires. -/
def highTo (net row : List Int) : Nat → Int
  | 0 => 31
  | k + 1 => min (highTo net row k) (((perWire max net row).getD k 0))
theorem lowTo_step (net row : List Int) (k : Nat) : lowTo net row (k + 1) = max (lowTo net row k) (((perWire min net row).getD k 0)) := rfl
theorem highTo_step (net row : List Int) (k : Nat) : highTo net row (k + 1) = min (highTo net row k) (((perWire max net row).getD k 0)) := rfl
theorem highTo_gt {net row : List Int} {n : Int} (hn : n ≤ 30) : ∀ k, n < highTo net row k ↔ ∀ i, i < k → n < ((perWire max net row).getD i 0)
  | 0 => ⟨fun _ i hi => absurd hi (Nat.not_lt_zero _), fun _ => by show n < 31; omega⟩
  | k + 1 => by
    rw [highTo_step, Int.lt_min, highTo_gt hn k]
    constructor
    · rintro ⟨h1, h2⟩ i hi
      rcases Nat.lt_succ_iff_lt_or_eq.1 hi with c | rfl
      · exact h1 i c
      · exact h2
    · exact fun h => ⟨fun i hi => h i (by omega), h k (Nat.lt_succ_self _)⟩
theorem parted_iff {net row : List Int} (h30 : lowOf net row ≤ 30) : Parted net row (lowOf net row) ↔ lowOf net row < highTo net row (wires net).length := by
  rw [highTo_gt h30]
  exact ⟨fun h i hi => (h i hi).2, fun h i hi => ⟨lowTo_le net row hi, h i hi⟩⟩

theorem impl_GracefulOk_t {s t : SV} {net row : List Int} {m : Heap} (hs : IsInts .i64 m s net) (ht : IsInts .i64 m t row) (h : Grace net row) : AQuiet Try.prog F.impl_GracefulOk [.one (.sl s), .one (.sl t)] m (.one (.bool true)) := (impl_GracefulOk s t net row m hs ht).yes h
theorem impl_GracefulOk_f {s t : SV} {net row : List Int} {m : Heap} (hs : IsInts .i64 m s net) (ht : IsInts .i64 m t row) (h : ¬ Grace net row) : AQuiet Try.prog F.impl_GracefulOk [.one (.sl s), .one (.sl t)] m (.one (.bool false)) := (impl_GracefulOk s t net row m hs ht).no h

end Go.Abs
