/- A row that has begun, as the program keeps it: its contracts. Own work; no condition. -/
import Derived.Test.YtedainddipahaaaSpecG2
set_option maxRecDepth 100000
set_option linter.unusedSimpArgs false
set_option linter.unusedVariables false
namespace Go.Abs
open Go.Proofs
attribute [local irreducible] awp awpOps awpKeep KeepK awpKeepF KeepF aloop ALoop ACalls ACallq AQuiet retPost retPostA AExit.thn AExit.blk aApp aSt aStA

/-! ### Marks -/

theorem impl_markOf (p : Nat) (hp : p < 62) (m : Heap) : AQuiet Try.prog F.impl_markOf [.one (.int .i64 p)] m (.one (.int .i64 (2 ^ p))) := by
  refine aqn T.impl_markOf (by rfl) ?_
  have h1 := pow_bounds hp
  repeat' (first | refine xA ?_ | refine xB ?_ | refine xC ?_ | refine xD ?_ | refine xE ?_ | refine xF ?_ | refine xG ?_ | refine xH ?_ | refine xI rfl ?_ | refine xJ ?_ | refine xK ?_ | refine xL ?_ | refine xM rfl ?_ | refine xN rfl ?_ | refine xO rfl ?_ | (first | refine xP rfl (fun hif => ?_) (fun hif => ?_) | refine xQ rfl (fun hif => ?_) (fun hif => ?_) | refine xR rfl (fun hif => ?_) (fun hif => ?_) | refine xS rfl (fun hif => ?_) (fun hif => ?_)) <;> try (first | contradiction | (exfalso; omega)) | (refine hK _ _ ?_; clear hK K) | (refine And.intro (by first | omega | assumption | (constructor <;> omega)) ?_) | (refine And.intro (fun hif => ?_) (fun hif => ?_) <;> try (first | contradiction | (exfalso; omega))) | ((first | refine xT fun K hK => ?_ | refine xU fun K hK => ?_ | refine yB (fun K hK => ?_) (fun K hK => ?_) | refine xV ?_ | refine yA ?_ | refine xW ?_ | refine xX ?_ | refine xY ?_ | refine xZ ?_) <;> simp only [↓awpOps, ↓awpKeep, ↓awpKeepF, ↓aop, ↓aopQ, ↓abin, ↓aun, ↓onSome_some, ↓Kont_at, ↓KM_at, ↓KV_at, ↓KU_at, refId_row, Frame.ev, Frame.evs, Frame.evOr, Frame.put, Frame.keep, get_nil, get_cons, argFrame, resOf, fillA, Vals.len, Vals.get, Vals.set, Vals.app, Vals.sub, Vals.take, Vals.ofAgg_cons, Vals.ofList, Vals.toInts, Vals.toBools, Vals.toSls, Vals.toStrs, Vals.zeros, Nat.reduceBEq, Nat.reduceAdd, Nat.reduceEqDiff, cond_true, cond_false, Option.map_some, Option.map_none, List.length_cons, List.length_nil, List.replicate, List.set_cons_zero, List.set_cons_succ, Nat.reduceLT, Bool.not_true, Bool.not_false, Int.toNat_natCast, inR, Nat.zero_add, Int.toNat_zero, reduceCtorEq, IntKind.bits, List.nil_append, List.cons_append, Nat.add_zero, Nat.sub_zero, noughts_len, List.map_cons, List.map_nil, zp, zu]) | refine And.intro ?_ (fun hif => (hif trivial).elim) | (intro hif; try (first | contradiction | (exfalso; omega))))
  · (first | exact List.prefix_rfl | exact ⟨rfl, List.prefix_rfl⟩ | exact ⟨by simp, List.prefix_rfl⟩)

theorem impl_hasMark (n : Int) (p : Nat) (h0 : 0 ≤ n) (h1 : n < 4611686018427387904) (hp : p < 62) (m : Heap) : AQuiet Try.prog F.impl_hasMark [.one (.int .i64 n), .one (.int .i64 p)] m (.one (.bool (bit n p))) := by
  refine aqn T.impl_hasMark (by rfl) ?_
  repeat' (first | refine xA ?_ | refine xB ?_ | refine xC ?_ | refine xD ?_ | refine xE ?_ | refine xF ?_ | refine xG ?_ | refine xH ?_ | refine xI rfl ?_ | refine xJ ?_ | refine xK ?_ | refine xL ?_ | refine xM rfl ?_ | refine xN rfl ?_ | refine xO rfl ?_ | (first | refine xP rfl (fun hif => ?_) (fun hif => ?_) | refine xQ rfl (fun hif => ?_) (fun hif => ?_) | refine xR rfl (fun hif => ?_) (fun hif => ?_) | refine xS rfl (fun hif => ?_) (fun hif => ?_)) <;> try (first | contradiction | (exfalso; omega)) | (refine hK _ _ ?_; clear hK K) | refine AQuiet.call (impl_markOf p hp _) trivial ?_ | (refine And.intro (by first | omega | assumption | (constructor <;> omega)) ?_) | (refine And.intro (fun hif => ?_) (fun hif => ?_) <;> try (first | contradiction | (exfalso; omega))) | ((first | refine xT fun K hK => ?_ | refine xU fun K hK => ?_ | refine yB (fun K hK => ?_) (fun K hK => ?_) | refine xV ?_ | refine yA ?_ | refine xW ?_ | refine xX ?_ | refine xY ?_ | refine xZ ?_) <;> simp only [↓awpOps, ↓awpKeep, ↓awpKeepF, ↓aop, ↓aopQ, ↓abin, ↓aun, ↓onSome_some, ↓Kont_at, ↓KM_at, ↓KV_at, ↓KU_at, refId_row, Frame.ev, Frame.evs, Frame.evOr, Frame.put, Frame.keep, get_nil, get_cons, argFrame, resOf, fillA, Vals.len, Vals.get, Vals.set, Vals.app, Vals.sub, Vals.take, Vals.ofAgg_cons, Vals.ofList, Vals.toInts, Vals.toBools, Vals.toSls, Vals.toStrs, Vals.zeros, Nat.reduceBEq, Nat.reduceAdd, Nat.reduceEqDiff, cond_true, cond_false, Option.map_some, Option.map_none, List.length_cons, List.length_nil, List.replicate, List.set_cons_zero, List.set_cons_succ, Nat.reduceLT, Bool.not_true, Bool.not_false, Int.toNat_natCast, inR, Nat.zero_add, Int.toNat_zero, reduceCtorEq, IntKind.bits, List.nil_append, List.cons_append, Nat.add_zero, Nat.sub_zero, noughts_len, List.map_cons, List.map_nil, zp, zu]) | refine And.intro ?_ (fun hif => (hif trivial).elim) | (intro hif; try (first | contradiction | (exfalso; omega))))
  · rw [has_bit h0 h1 hp]
    exact ⟨rfl, List.prefix_rfl⟩

/-- The numbers of a row, marked. -/
def numsFrom (a : Nat) : List Int → Nat
  | [] => a
  | z :: l => numsFrom (a ||| 2 ^ z.toNat) l
def nums (row : List Int) : Nat := numsFrom 0 row

theorem numsFrom_push (n : Int) : ∀ (l : List Int) (a : Nat), numsFrom a (l ++ [n]) = numsFrom a l ||| 2 ^ n.toNat
  | [], a => rfl
  | z :: l, a => numsFrom_push n l _
theorem numsFrom_bit (v : Nat) : ∀ (l : List Int) (a : Nat), (numsFrom a l).testBit v = true ↔ a.testBit v = true ∨ ∃ i, i < l.length ∧ ((l.getD i 0)).toNat = v
  | [], a => by simp [numsFrom]
  | z :: l, a => by
    rw [numsFrom, numsFrom_bit v l, Nat.testBit_or, Bool.or_eq_true, Nat.testBit_two_pow, decide_eq_true_eq]
    constructor
    · rintro ((h | h) | ⟨i, h1, h2⟩)
      · exact .inl h
      · exact .inr ⟨0, by simp, h⟩
      · exact .inr ⟨i + 1, by simpa using h1, by simpa using h2⟩
    · rintro (h | ⟨i, h1, h2⟩)
      · exact .inl (.inl h)
      · cases i with
        | zero => exact .inl (.inr (by simpa using h2))
        | succ i => exact .inr ⟨i, by simpa using h1, by simpa using h2⟩
theorem nums_bit (row : List Int) (v : Nat) : (nums row).testBit v = true ↔ ∃ i, i < row.length ∧ ((row.getD i 0)).toNat = v := by
  rw [nums, numsFrom_bit]
  simp
theorem numsFrom_lt : ∀ (l : List Int) (a : Nat), a < 2147483648 → (∀ i, i < l.length → (l.getD i 0) ≤ 30) → numsFrom a l < 2147483648
  | [], a, h, _ => h
  | z :: l, a, h, hl => by
    refine numsFrom_lt l _ (Nat.or_lt_two_pow (n := 31) h (Nat.pow_lt_pow_right (by decide) ?_)) fun i hi => by have := hl (i + 1) (by simpa using hi); simpa using this
    have := hl 0 (by simp)
    simp only [List.getD_cons_zero] at this
    omega
theorem nums_lt {row : List Int} (h : ∀ i, i < row.length → (row.getD i 0) ≤ 30) : nums row < 2147483648 := numsFrom_lt row 0 (by decide) h

/-! ### The row that has begun -/

/-- Its cells: the row, how many places it has, the numbers and the differences that came. -/
def begunL (row : List Int) (came : Nat) : List Int := [row.getD 0 0, row.getD 1 0, row.getD 2 0, row.getD 3 0, row.getD 4 0, row.getD 5 0, (row.length : Int), (nums row : Int), (came : Int)]
theorem begunL_get (row : List Int) (came : Nat) {i : Nat} (h : i < 6) : (begunL row came).getD i 0 = (row.getD i 0) := by
  have : i = 0 ∨ i = 1 ∨ i = 2 ∨ i = 3 ∨ i = 4 ∨ i = 5 := by omega
  rcases this with rfl | rfl | rfl | rfl | rfl | rfl <;> rfl
theorem begunL_push (row : List Int) (n c0 c : Nat) (h : row.length < 6) : ((((begunL row c0).set row.length (n : Int)).set 6 ((row.length : Int) + 1)).set 7 ((nums row ||| 2 ^ n : Nat) : Int)).set 8 (c : Int) = begunL (row ++ [(n : Int)]) c := by
  have hn : nums (row ++ [(n : Int)]) = nums row ||| 2 ^ n := by rw [nums, numsFrom_push]; rfl
  have hl : (((row ++ [(n : Int)]).length : Nat) : Int) = (row.length : Int) + 1 := by simp
  unfold begunL
  rw [hn, hl]
  match row, h with
  | [], _ => rfl
  | [_], _ => rfl
  | [_, _], _ => rfl
  | [_, _, _], _ => rfl
  | [_, _, _, _], _ => rfl
  | [_, _, _, _, _], _ => rfl
theorem begunL_six (row : List Int) (c : Nat) (n : Int) (h : row.length < 6) : ((begunL row c).set row.length n).getD 6 0 = (row.length : Int) := by
  have : row.length = 0 ∨ row.length = 1 ∨ row.length = 2 ∨ row.length = 3 ∨ row.length = 4 ∨ row.length = 5 := by omega
  unfold begunL
  generalize row.length = k at *
  rcases this with rfl | rfl | rfl | rfl | rfl | rfl <;> rfl
theorem begunL_seven (row : List Int) (c : Nat) (n x : Int) (h : row.length < 6) : (((begunL row c).set row.length n).set 6 x).getD 7 0 = (nums row : Int) := by
  have : row.length = 0 ∨ row.length = 1 ∨ row.length = 2 ∨ row.length = 3 ∨ row.length = 4 ∨ row.length = 5 := by omega
  unfold begunL
  generalize row.length = k at *
  rcases this with rfl | rfl | rfl | rfl | rfl | rfl <;> rfl

/-- As a value. -/
def begunX (row : List Int) (came : Nat) : XV := .agg ((begunL row came).map (AV.int .i64))
theorem begunX_flat (row : List Int) (came : Nat) : (begunX row came).flat := flats_ints _ _
set_option maxHeartbeats 4000000 in
theorem impl_withNumber {row : List Int} {n c0 c : Nat} (m : Heap) (hl : row.length < 6) (hn : n ≤ 30) (hrow : ∀ i, i < row.length → 0 ≤ (row.getD i 0) ∧ (row.getD i 0) ≤ 30) :
    AQuiet Try.prog F.impl_withNumber [begunX row c0, .one (.int .i64 (n : Int)), .one (.int .i64 (c : Int))] m (begunX (row ++ [(n : Int)]) c) := by
  delta AQuiet
  refine ACalls.wf fun hwf => ?_
  have hnl := nums_lt fun i hi => (hrow i hi).2
  have e6 : (begunL row c0).getD 6 0 = (row.length : Int) := rfl
  have e7 := begunL_six row c0 (n : Int) hl
  have e8 := begunL_seven row c0 (n : Int) ((row.length : Int) + 1) hl
  have e9 := begunL_push row n c0 c hl
  have hagg : Vals.ofAgg ((begunL row c0).map (AV.int .i64)) = .ints .i64 (begunL row c0) := Vals.ofAgg_ints _ _ _
  have hagg2 : Vals.ofAgg ((begunL (row ++ [(n : Int)]) c).map (AV.int .i64)) = .ints .i64 (begunL (row ++ [(n : Int)]) c) := Vals.ofAgg_ints _ _ _
  have hLl : (begunL row c0).length = 9 := rfl
  have hml : ((begunL row c0).map (AV.int .i64)).length = 9 := rfl
  have hL2 : (begunL (row ++ [(n : Int)]) c).length = 9 := rfl
  have hm2 : ((begunL (row ++ [(n : Int)]) c).map (AV.int .i64)).length = 9 := rfl
  unfold begunX
  generalize begunL row c0 = L at *
  generalize begunL (row ++ [(n : Int)]) c = L' at *
  have g0 := Grow.push hwf Ty.impl_begun true (.ints .i64 L)
  have hor : borInt .i64 (nums row : Int) (2 ^ n) = ((nums row ||| 2 ^ n : Nat) : Int) := by
    rw [pow_nat]
    exact bor_nat _ _ (by omega) (Nat.lt_of_le_of_lt (Nat.pow_le_pow_right (by decide) hn) (by decide))
  refine afna T.impl_withNumber (by rfl) ?_
  have hrow0 : (m ++ [(⟨Ty.impl_begun, m.length, true, .ints .i64 L⟩ : Row)] ++ [⟨Ty.impl_begun, List.length (m ++ [(⟨Ty.impl_begun, m.length, true, .ints .i64 L⟩ : Row)]), true, .ints .i64 [0, 0, 0, 0, 0, 0, 0, 0, 0]⟩])[m.length]? = some ⟨Ty.impl_begun, m.length, true, .ints .i64 L⟩ := row_at_push (get_last _ _) _
  have hwf0 := (g0.trans (Grow.push g0.wf Ty.impl_begun true (.ints .i64 [0, 0, 0, 0, 0, 0, 0, 0, 0]))).wf
  have hres0 := get_last (m ++ [(⟨Ty.impl_begun, m.length, true, .ints .i64 L⟩ : Row)]) ⟨Ty.impl_begun, List.length (m ++ [(⟨Ty.impl_begun, m.length, true, .ints .i64 L⟩ : Row)]), true, .ints .i64 [0, 0, 0, 0, 0, 0, 0, 0, 0]⟩
  have hpre0 : m <+: m ++ [(⟨Ty.impl_begun, m.length, true, .ints .i64 L⟩ : Row)] ++ [⟨Ty.impl_begun, List.length (m ++ [(⟨Ty.impl_begun, m.length, true, .ints .i64 L⟩ : Row)]), true, .ints .i64 [0, 0, 0, 0, 0, 0, 0, 0, 0]⟩] := (prefix_push _ _).trans (prefix_push _ _)
  have a6 := at_row hrow0 (off := 6) (by simp only [Vals.len]; omega)
  simp only [Vals.get, e6] at a6
  repeat' (first | refine xA ?_ | refine xB ?_ | refine xC ?_ | refine xD ?_ | refine xE ?_ | refine xF ?_ | refine xG ?_ | refine xH ?_ | refine xI rfl ?_ | refine xJ ?_ | refine xK ?_ | refine xL ?_ | refine xM rfl ?_ | refine xN rfl ?_ | refine xO rfl ?_ | (first | refine xP rfl (fun hif => ?_) (fun hif => ?_) | refine xQ rfl (fun hif => ?_) (fun hif => ?_) | refine xR rfl (fun hif => ?_) (fun hif => ?_) | refine xS rfl (fun hif => ?_) (fun hif => ?_)) <;> try (first | contradiction | (exfalso; omega)) | (refine hK _ _ ?_; clear hK K) | rw [hagg] | refine onSome_of a6 ?_ | refine st_row hwf0 hrow0 (by simp only [Vals.len]; omega) rfl fun m1 g1 l1 r1 => ?_ | (refine And.intro (by first | omega | assumption | (constructor <;> omega)) ?_) | (refine And.intro (fun hif => ?_) (fun hif => ?_) <;> try (first | contradiction | (exfalso; omega))) | ((first | refine xT fun K hK => ?_ | refine xU fun K hK => ?_ | refine yB (fun K hK => ?_) (fun K hK => ?_) | refine xV ?_ | refine yA ?_ | refine xW ?_ | refine xX ?_ | refine xY ?_ | refine xZ ?_) <;> simp only [↓awpOps, ↓awpKeep, ↓awpKeepF, ↓aop, ↓aopQ, ↓abin, ↓aun, ↓onSome_some, ↓Kont_at, ↓KM_at, ↓KV_at, ↓KU_at, refId_row, Frame.ev, Frame.evs, Frame.evOr, Frame.put, Frame.keep, get_nil, get_cons, argFrame, resOf, fillA, Vals.len, Vals.get, Vals.set, Vals.app, Vals.sub, Vals.take, Vals.ofAgg_cons, Vals.ofList, Vals.toInts, Vals.toBools, Vals.toSls, Vals.toStrs, Vals.zeros, Nat.reduceBEq, Nat.reduceAdd, Nat.reduceEqDiff, cond_true, cond_false, Option.map_some, Option.map_none, List.length_cons, List.length_nil, List.replicate, List.set_cons_zero, List.set_cons_succ, Nat.reduceLT, Bool.not_true, Bool.not_false, Int.toNat_natCast, inR, Nat.zero_add, Int.toNat_zero, reduceCtorEq, IntKind.bits, List.nil_append, List.cons_append, Nat.add_zero, Nat.sub_zero, noughts_len, List.map_cons, List.map_nil, zp, zu]) | refine And.intro ?_ (fun hif => (hif trivial).elim) | (intro hif; try (first | contradiction | (exfalso; omega))))
  have a6' := at_row r1 (off := 6) (by simp only [Vals.len, List.length_set]; omega)
  simp only [Vals.get, e7] at a6'
  repeat' (first | refine xA ?_ | refine xB ?_ | refine xC ?_ | refine xD ?_ | refine xE ?_ | refine xF ?_ | refine xG ?_ | refine xH ?_ | refine xI rfl ?_ | refine xJ ?_ | refine xK ?_ | refine xL ?_ | refine xM rfl ?_ | refine xN rfl ?_ | refine xO rfl ?_ | (first | refine xP rfl (fun hif => ?_) (fun hif => ?_) | refine xQ rfl (fun hif => ?_) (fun hif => ?_) | refine xR rfl (fun hif => ?_) (fun hif => ?_) | refine xS rfl (fun hif => ?_) (fun hif => ?_)) <;> try (first | contradiction | (exfalso; omega)) | (refine hK _ _ ?_; clear hK K) | refine onSome_of a6' ?_ | refine st_row g1.wf r1 (by simp only [Vals.len, List.length_set]; omega) rfl fun m2 g2 l2 r2 => ?_ | (refine And.intro (by first | omega | assumption | (constructor <;> omega)) ?_) | (refine And.intro (fun hif => ?_) (fun hif => ?_) <;> try (first | contradiction | (exfalso; omega))) | ((first | refine xT fun K hK => ?_ | refine xU fun K hK => ?_ | refine yB (fun K hK => ?_) (fun K hK => ?_) | refine xV ?_ | refine yA ?_ | refine xW ?_ | refine xX ?_ | refine xY ?_ | refine xZ ?_) <;> simp only [↓awpOps, ↓awpKeep, ↓awpKeepF, ↓aop, ↓aopQ, ↓abin, ↓aun, ↓onSome_some, ↓Kont_at, ↓KM_at, ↓KV_at, ↓KU_at, refId_row, Frame.ev, Frame.evs, Frame.evOr, Frame.put, Frame.keep, get_nil, get_cons, argFrame, resOf, fillA, Vals.len, Vals.get, Vals.set, Vals.app, Vals.sub, Vals.take, Vals.ofAgg_cons, Vals.ofList, Vals.toInts, Vals.toBools, Vals.toSls, Vals.toStrs, Vals.zeros, Nat.reduceBEq, Nat.reduceAdd, Nat.reduceEqDiff, cond_true, cond_false, Option.map_some, Option.map_none, List.length_cons, List.length_nil, List.replicate, List.set_cons_zero, List.set_cons_succ, Nat.reduceLT, Bool.not_true, Bool.not_false, Int.toNat_natCast, inR, Nat.zero_add, Int.toNat_zero, reduceCtorEq, IntKind.bits, List.nil_append, List.cons_append, Nat.add_zero, Nat.sub_zero, noughts_len, List.map_cons, List.map_nil, zp, zu]) | refine And.intro ?_ (fun hif => (hif trivial).elim) | (intro hif; try (first | contradiction | (exfalso; omega))))
  have a7 := at_row r2 (off := 7) (by simp only [Vals.len, List.length_set]; omega)
  simp only [Vals.get, e8] at a7
  have hMo := impl_markOf n (by omega) m2
  repeat' (first | refine xA ?_ | refine xB ?_ | refine xC ?_ | refine xD ?_ | refine xE ?_ | refine xF ?_ | refine xG ?_ | refine xH ?_ | refine xI rfl ?_ | refine xJ ?_ | refine xK ?_ | refine xL ?_ | refine xM rfl ?_ | refine xN rfl ?_ | refine xO rfl ?_ | (first | refine xP rfl (fun hif => ?_) (fun hif => ?_) | refine xQ rfl (fun hif => ?_) (fun hif => ?_) | refine xR rfl (fun hif => ?_) (fun hif => ?_) | refine xS rfl (fun hif => ?_) (fun hif => ?_)) <;> try (first | contradiction | (exfalso; omega)) | (refine hK _ _ ?_; clear hK K) | refine onSome_of a7 ?_ | refine AQuiet.callq hMo trivial ?_ | rw [hor] | refine st_row g2.wf r2 (by simp only [Vals.len, List.length_set]; omega) rfl fun m3 g3 l3 r3 => ?_ | (refine And.intro (by first | omega | assumption | (constructor <;> omega)) ?_) | (refine And.intro (fun hif => ?_) (fun hif => ?_) <;> try (first | contradiction | (exfalso; omega))) | ((first | refine xT fun K hK => ?_ | refine xU fun K hK => ?_ | refine yB (fun K hK => ?_) (fun K hK => ?_) | refine xV ?_ | refine yA ?_ | refine xW ?_ | refine xX ?_ | refine xY ?_ | refine xZ ?_) <;> simp only [↓awpOps, ↓awpKeep, ↓awpKeepF, ↓aop, ↓aopQ, ↓abin, ↓aun, ↓onSome_some, ↓Kont_at, ↓KM_at, ↓KV_at, ↓KU_at, refId_row, Frame.ev, Frame.evs, Frame.evOr, Frame.put, Frame.keep, get_nil, get_cons, argFrame, resOf, fillA, Vals.len, Vals.get, Vals.set, Vals.app, Vals.sub, Vals.take, Vals.ofAgg_cons, Vals.ofList, Vals.toInts, Vals.toBools, Vals.toSls, Vals.toStrs, Vals.zeros, Nat.reduceBEq, Nat.reduceAdd, Nat.reduceEqDiff, cond_true, cond_false, Option.map_some, Option.map_none, List.length_cons, List.length_nil, List.replicate, List.set_cons_zero, List.set_cons_succ, Nat.reduceLT, Bool.not_true, Bool.not_false, Int.toNat_natCast, inR, Nat.zero_add, Int.toNat_zero, reduceCtorEq, IntKind.bits, List.nil_append, List.cons_append, Nat.add_zero, Nat.sub_zero, noughts_len, List.map_cons, List.map_nil, zp, zu]) | refine And.intro ?_ (fun hif => (hif trivial).elim) | (intro hif; try (first | contradiction | (exfalso; omega))))
  repeat' (first | refine xA ?_ | refine xB ?_ | refine xC ?_ | refine xD ?_ | refine xE ?_ | refine xF ?_ | refine xG ?_ | refine xH ?_ | refine xI rfl ?_ | refine xJ ?_ | refine xK ?_ | refine xL ?_ | refine xM rfl ?_ | refine xN rfl ?_ | refine xO rfl ?_ | (first | refine xP rfl (fun hif => ?_) (fun hif => ?_) | refine xQ rfl (fun hif => ?_) (fun hif => ?_) | refine xR rfl (fun hif => ?_) (fun hif => ?_) | refine xS rfl (fun hif => ?_) (fun hif => ?_)) <;> try (first | contradiction | (exfalso; omega)) | (refine hK _ _ ?_; clear hK K) | refine st_row g3.wf r3 (by simp only [Vals.len, List.length_set]; omega) rfl fun m4 g4 l4 r4 => ?_ | (refine And.intro (by first | omega | assumption | (constructor <;> omega)) ?_) | (refine And.intro (fun hif => ?_) (fun hif => ?_) <;> try (first | contradiction | (exfalso; omega))) | ((first | refine xT fun K hK => ?_ | refine xU fun K hK => ?_ | refine yB (fun K hK => ?_) (fun K hK => ?_) | refine xV ?_ | refine yA ?_ | refine xW ?_ | refine xX ?_ | refine xY ?_ | refine xZ ?_) <;> simp only [↓awpOps, ↓awpKeep, ↓awpKeepF, ↓aop, ↓aopQ, ↓abin, ↓aun, ↓onSome_some, ↓Kont_at, ↓KM_at, ↓KV_at, ↓KU_at, refId_row, Frame.ev, Frame.evs, Frame.evOr, Frame.put, Frame.keep, get_nil, get_cons, argFrame, resOf, fillA, Vals.len, Vals.get, Vals.set, Vals.app, Vals.sub, Vals.take, Vals.ofAgg_cons, Vals.ofList, Vals.toInts, Vals.toBools, Vals.toSls, Vals.toStrs, Vals.zeros, Nat.reduceBEq, Nat.reduceAdd, Nat.reduceEqDiff, cond_true, cond_false, Option.map_some, Option.map_none, List.length_cons, List.length_nil, List.replicate, List.set_cons_zero, List.set_cons_succ, Nat.reduceLT, Bool.not_true, Bool.not_false, Int.toNat_natCast, inR, Nat.zero_add, Int.toNat_zero, reduceCtorEq, IntKind.bits, List.nil_append, List.cons_append, Nat.add_zero, Nat.sub_zero, noughts_len, List.map_cons, List.map_nil, zp, zu]) | refine And.intro ?_ (fun hif => (hif trivial).elim) | (intro hif; try (first | contradiction | (exfalso; omega))))
  rw [e9] at r4
  have hc := cells_ints r4 hL2.symm
  have hres := g4.keep _ _ (g3.keep _ _ (g2.keep _ _ (g1.keep _ _ hres0 (by simp)) (by simp)) (by simp)) (by simp)
  have hp4 := g4.pre (g3.pre (g2.pre (g1.pre hpre0 hwf (Nat.le_refl _)) hwf (Nat.le_refl _)) hwf (Nat.le_refl _)) hwf (Nat.le_refl _)
  repeat' (first | refine xA ?_ | refine xB ?_ | refine xC ?_ | refine xD ?_ | refine xE ?_ | refine xF ?_ | refine xG ?_ | refine xH ?_ | refine xI rfl ?_ | refine xJ ?_ | refine xK ?_ | refine xL ?_ | refine xM rfl ?_ | refine xN rfl ?_ | refine xO rfl ?_ | (first | refine xP rfl (fun hif => ?_) (fun hif => ?_) | refine xQ rfl (fun hif => ?_) (fun hif => ?_) | refine xR rfl (fun hif => ?_) (fun hif => ?_) | refine xS rfl (fun hif => ?_) (fun hif => ?_)) <;> try (first | contradiction | (exfalso; omega)) | (refine hK _ _ ?_; clear hK K) | refine onCells_of hc ?_ | refine st_agg g4.wf hres hm2.symm rfl hagg2 fun m5 g5 l5 r5 => ?_ | refine ret_agg rfl (cells_ints r5 hL2.symm) ?_ | (refine And.intro (by first | omega | assumption | (constructor <;> omega)) ?_) | (refine And.intro (fun hif => ?_) (fun hif => ?_) <;> try (first | contradiction | (exfalso; omega))) | ((first | refine xT fun K hK => ?_ | refine xU fun K hK => ?_ | refine yB (fun K hK => ?_) (fun K hK => ?_) | refine xV ?_ | refine yA ?_ | refine xW ?_ | refine xX ?_ | refine xY ?_ | refine xZ ?_) <;> simp only [↓awpOps, ↓awpKeep, ↓awpKeepF, ↓aop, ↓aopQ, ↓abin, ↓aun, ↓onSome_some, ↓Kont_at, ↓KM_at, ↓KV_at, ↓KU_at, refId_row, Frame.ev, Frame.evs, Frame.evOr, Frame.put, Frame.keep, get_nil, get_cons, argFrame, resOf, fillA, Vals.len, Vals.get, Vals.set, Vals.app, Vals.sub, Vals.take, Vals.ofAgg_cons, Vals.ofList, Vals.toInts, Vals.toBools, Vals.toSls, Vals.toStrs, Vals.zeros, Nat.reduceBEq, Nat.reduceAdd, Nat.reduceEqDiff, cond_true, cond_false, Option.map_some, Option.map_none, List.length_cons, List.length_nil, List.replicate, List.set_cons_zero, List.set_cons_succ, Nat.reduceLT, Bool.not_true, Bool.not_false, Int.toNat_natCast, inR, Nat.zero_add, Int.toNat_zero, reduceCtorEq, IntKind.bits, List.nil_append, List.cons_append, Nat.add_zero, Nat.sub_zero, noughts_len, List.map_cons, List.map_nil, zp, zu]) | refine And.intro ?_ (fun hif => (hif trivial).elim) | (intro hif; try (first | contradiction | (exfalso; omega))))
  first | exact g5.pre hp4 hwf (by simp) | exact ⟨rfl, g5.pre hp4 hwf (by simp)⟩

end Go.Abs

/- The program's third chapter, by contracts. Own work; no condition. -/
set_option maxRecDepth 100000
set_option linter.unusedSimpArgs false
set_option linter.unusedVariables false
namespace Go.Abs
open Go.Proofs
attribute [local irreducible] awp awpOps awpKeep KeepK awpKeepF KeepF aloop ALoop ACalls ACallq AQuiet retPost retPostA AExit.thn AExit.blk aApp aSt aStA

theorem begunL_take (row : List Int) (c : Nat) (h : row.length ≤ 6) : (begunL row c).take row.length = row := by
  match row, h with
  | [], _ => rfl
  | [_], _ => rfl
  | [_, _], _ => rfl
  | [_, _, _], _ => rfl
  | [_, _, _, _], _ => rfl
  | [_, _, _, _, _], _ => rfl
  | [_, _, _, _, _, _], _ => rfl

/-- append(s, x[..xl]...): a part of a row. -/
theorem app_part {e : TypeId} {s : SV} {m : Heap} {K : XV → Heap → Prop} {l L : List Int} {f xi xl ex fx : Nat} {ox : Bool} (hwf : m.wf) (hs : Acc e f m s (.ints .i64 l)) (hne : s ≠ SV.nil) (hrx : m[xi]? = some ⟨ex, fx, ox, .ints .i64 L⟩) (hxl : xl ≤ L.length) (hlen : l.length + xl ≤ 1000000000)
    (hk : ∀ (s' : SV) (m' : Heap), m <+: m' → Grow f (f + 1) m m' → Acc e f m' s' (.ints .i64 (l ++ L.take xl)) → s' ≠ SV.nil → K (.one (.sl s')) m') : aApp e s ⟨.row xi, 0, xl⟩ m K := by
  rcases hs with ⟨e0, _⟩ | ⟨id, rfl, hid, hfam⟩
  · exact absurd e0 hne
  · have hfid := hwf id _ hid
    have hil := get_lt hid
    simp only at hfid
    have ht : (Vals.ints .i64 l).app ((Vals.ints .i64 L).sub 0 xl) = some (.ints .i64 (l ++ L.take xl)) := by simp [Vals.app, Vals.sub]
    simp only [aApp, hid, hrx, Nat.zero_add, Vals.take_len, ht]
    simp only [Vals.len] at hfam ⊢
    refine ⟨⟨hxl, by omega⟩, ⟨trivial, trivial, Nat.le_refl _, trivial⟩, ?_⟩
    rw [cutFam_self hfam]
    refine hk _ _ (prefix_push _ _) ⟨by simp, fun i r hr _ => row_at_push hr _, fun i r hi hr => ?_, fun i r hi hr => ?_, wf_push hwf (by omega)⟩ (.inr ⟨m.length, by simp [Vals.len, Nat.min_eq_left hxl], get_last _ _, fun j r hr ho hf => ?_⟩) (fun c => by cases c)
    · rcases get_push hr with ⟨_, h2⟩ | ⟨h1, _⟩
      · exact ⟨r, h2, rfl, rfl, Nat.le_refl _⟩
      · omega
    · rcases get_push hr with ⟨h1, _⟩ | ⟨_, rfl⟩
      · omega
      · exact .inr ⟨Nat.le_refl _, Nat.lt_succ_self _⟩
    · rcases get_push hr with ⟨_, h2⟩ | ⟨_, rfl⟩
      · have := hfam j r h2 ho hf; simp only [Vals.len, List.length_append]; omega
      · exact Nat.le_refl _

theorem ACalls_wf_q {P : Program} {f : FuncId} {args : List XV} {m : Heap} {v : XV} (h : m.wf → AQuiet P f args m v) : AQuiet P f args m v := by
  delta AQuiet at h ⊢
  exact ACalls.wf h
theorem begunX_nil : begunX [] 0 = .agg [.int .i64 0, .int .i64 0, .int .i64 0, .int .i64 0, .int .i64 0, .int .i64 0, .int .i64 0, .int .i64 0, .int .i64 0] := rfl
theorem impl_NetOk_t {s : SV} {net : List Int} {m : Heap} (hs : IsInts .i64 m s net) (hb : NetOk net) : AQuiet Try.prog F.impl_NetOk [.one (.sl s)] m (.one (.bool true)) := impl_NetOk_b true hs (decide_eq_true hb)
theorem impl_NetOk_f {s : SV} {net : List Int} {m : Heap} (hs : IsInts .i64 m s net) (hb : ¬ NetOk net) : AQuiet Try.prog F.impl_NetOk [.one (.sl s)] m (.one (.bool false)) := impl_NetOk_b false hs (decide_eq_false hb)
end Go.Abs
