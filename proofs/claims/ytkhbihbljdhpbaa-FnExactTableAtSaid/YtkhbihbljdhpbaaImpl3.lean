/- A row that has begun, as the program keeps it: its contracts. Own work; no condition. -/
import Derived.Test.YtkhbihbljdhpbaaSpecG2
set_option maxRecDepth 100000
set_option linter.unusedSimpArgs false
set_option linter.unusedVariables false
namespace Go.Abs
open Go.Proofs
attribute [local irreducible] awp awpOps awpKeep KeepK awpKeepF KeepF aloop ALoop ACalls ACallq AQuiet retPost retPostA AExit.thn AExit.blk aApp aSt aStA

/-! ### Marks -/

theorem impl_markOf (p : Nat) (hp : p < 62) (m : Heap) : AQuiet Try.prog F.impl_markOf [.one (.int .i64 p)] m (.one (.int .i64 (2 ^ p))) := by
  refine aqn T.impl_markOf (by rfl) ?_
  have h1 := pow_bounds hp
  repeat' (first | refine xA ?_ | refine xB ?_ | refine xC ?_ | refine xD ?_ | refine xE ?_ | refine xF ?_ | refine xG ?_ | refine xH ?_ | refine xI rfl ?_ | refine xJ ?_ | refine xK ?_ | refine xL ?_ | refine xM rfl ?_ | refine xN rfl ?_ | refine xO rfl ?_ | (first | refine xP rfl (fun hif => ?_) (fun hif => ?_) | refine xQ rfl (fun hif => ?_) (fun hif => ?_) | refine xR rfl (fun hif => ?_) (fun hif => ?_) | refine xS rfl (fun hif => ?_) (fun hif => ?_)) <;> try (first | contradiction | (exfalso; omega)) | (refine hK _ _ ?_; clear hK K) | (refine And.intro (by first | omega | assumption | (constructor <;> omega)) ?_) | (refine And.intro (fun hif => ?_) (fun hif => ?_) <;> try (first | contradiction | (exfalso; omega))) | ((first | refine xT fun K hK => ?_ | refine xU fun K hK => ?_ | refine yB (fun K hK => ?_) (fun K hK => ?_) | refine xV ?_ | refine yA ?_ | refine xW ?_ | refine xX ?_ | refine xY ?_ | refine xZ ?_) <;> simp only [↓awpOps, ↓awpKeep, ↓awpKeepF, ↓aop, ↓aopQ, ↓abin, ↓aun, ↓onSome_some, ↓Kont_at, ↓KM_at, ↓KV_at, ↓KU_at, refId_row, Frame.ev, Frame.evs, Frame.evOr, Frame.put, Frame.keep, get_nil, get_cons, argFrame, resOf, fillA, Vals.len, Vals.get, Vals.set, Vals.app, Vals.sub, Vals.take, Vals.ofAgg_cons, Vals.ofList, Vals.toInts, Vals.toBools, Vals.toSls, Vals.toStrs, Vals.zeros, Nat.reduceBEq, Nat.reduceAdd, Nat.reduceEqDiff, cond_true, cond_false, Option.map_some, Option.map_none, List.length_cons, List.length_nil, List.replicate, List.set_cons_zero, List.set_cons_succ, Nat.reduceLT, Bool.not_true, Bool.not_false, Int.toNat_natCast, inR, Nat.zero_add, Int.toNat_zero, reduceCtorEq, IntKind.bits, List.nil_append, List.cons_append, Nat.add_zero, Nat.sub_zero, noughts_len, List.map_cons, List.map_nil, zp, zu]) | refine And.intro ?_ (fun hif => (hif trivial).elim) | (intro hif; try (first | contradiction | (exfalso; omega))))
  · (first | exact List.prefix_rfl | exact ⟨rfl, List.prefix_rfl⟩ | exact ⟨by simp, List.prefix_rfl⟩)

theorem impl_hasMark (n : Int) (p : Nat) (h0 : 0 ≤ n) (h1 : n < 4611686018427387904) (hp : p < 62) (m : Heap) : AQuiet Try.prog F.impl_hasMark [.one (.int .i64 n), .one (.int .i64 p)] m (.one (.bool (bit n p))) := by
  refine aqn T.impl_hasMark (by rfl) ?_
  repeat' (first | refine xA ?_ | refine xB ?_ | refine xC ?_ | refine xD ?_ | refine xE ?_ | refine xF ?_ | refine xG ?_ | refine xH ?_ | refine xI rfl ?_ | refine xJ ?_ | refine xK ?_ | refine xL ?_ | refine xM rfl ?_ | refine xN rfl ?_ | refine xO rfl ?_ | (first | refine xP rfl (fun hif => ?_) (fun hif => ?_) | refine xQ rfl (fun hif => ?_) (fun hif => ?_) | refine xR rfl (fun hif => ?_) (fun hif => ?_) | refine xS rfl (fun hif => ?_) (fun hif => ?_)) <;> try (first | contradiction | (exfalso; omega)) | (refine hK _ _ ?_; clear hK K) | refine AQuiet.call (impl_markOf p hp _) trivial ?_ | (refine And.intro (by first | omega | assumption | (constructor <;> omega)) ?_) | (refine And.intro (fun hif => ?_) (fun hif => ?_) <;> try (first | contradiction | (exfalso; omega))) | ((first | refine xT fun K hK => ?_ | refine xU fun K hK => ?_ | refine yB (fun K hK => ?_) (fun K hK => ?_) | refine xV ?_ | refine yA ?_ | refine xW ?_ | refine xX ?_ | refine xY ?_ | refine xZ ?_) <;> simp only [↓awpOps, ↓awpKeep, ↓awpKeepF, ↓aop, ↓aopQ, ↓abin, ↓aun, ↓onSome_some, ↓Kont_at, ↓KM_at, ↓KV_at, ↓KU_at, refId_row, Frame.ev, Frame.evs, Frame.evOr, Frame.put, Frame.keep, get_nil, get_cons, argFrame, resOf, fillA, Vals.len, Vals.get, Vals.set, Vals.app, Vals.sub, Vals.take, Vals.ofAgg_cons, Vals.ofList, Vals.toInts, Vals.toBools, Vals.toSls, Vals.toStrs, Vals.zeros, Nat.reduceBEq, Nat.reduceAdd, Nat.reduceEqDiff, cond_true, cond_false, Option.map_some, Option.map_none, List.length_cons, List.length_nil, List.replicate, List.set_cons_zero, List.set_cons_succ, Nat.reduceLT, Bool.not_true, Bool.not_false, Int.toNat_natCast, inR, Nat.zero_add, Int.toNat_zero, reduceCtorEq, IntKind.bits, List.nil_append, List.cons_append, Nat.add_zero, Nat.sub_zero, noughts_len, List.map_cons, List.map_nil, zp, zu]) | refine And.intro ?_ (fun hif => (hif trivial).elim) | (intro hif; try (first | contradiction | (exfalso; omega))))
  · rw [has_bit h0 h1 hp]
    exact ⟨rfl, List.prefix_rfl⟩

/-- The numbers of a row, marked. -/
def numsFrom (a : Nat) : List Int → Nat
  | [] => a
  | z :: l => numsFrom (a ||| 2 ^ z.toNat) l
def nums (row : List Int) : Nat := numsFrom 0 row

theorem numsFrom_push (n : Int) : ∀ (l : List Int) (a : Nat), numsFrom a (l ++ [n]) = numsFrom a l ||| 2 ^ n.toNat
  | [], a => rfl
  | z :: l, a => numsFrom_push n l _
theorem numsFrom_bit (v : Nat) : ∀ (l : List Int) (a : Nat), (numsFrom a l).testBit v = true ↔ a.testBit v = true ∨ ∃ i, i < l.length ∧ ((l.getD i 0)).toNat = v
  | [], a => by simp [numsFrom]
  | z :: l, a => by
    rw [numsFrom, numsFrom_bit v l, Nat.testBit_or, Bool.or_eq_true, Nat.testBit_two_pow, decide_eq_true_eq]
    constructor
    · rintro ((h | h) | ⟨i, h1, h2⟩)
      · exact .inl h
      · exact .inr ⟨0, by simp, h⟩
      · exact .inr ⟨i + 1, by simpa using h1, by simpa using h2⟩
    · rintro (h | ⟨i, h1, h2⟩)
      · exact .inl (.inl h)
      · cases i with
        | zero => exact .inl (.inr (by simpa using h2))
        | succ i => exact .inr ⟨i, by simpa using h1, by simpa using h2⟩
theorem nums_bit (row : List Int) (v : Nat) : (nums row).testBit v = true ↔ ∃ i, i < row.length ∧ ((row.getD i 0)).toNat = v := by
  rw [nums, numsFrom_bit]
  simp
theorem numsFrom_lt : ∀ (l : List Int) (a : Nat), a < 2147483648 → (∀ i, i < l.length → (l.getD i 0) ≤ 30) → numsFrom a l < 2147483648
  | [], a, h, _ => h
  | z :: l, a, h, hl => by
    refine numsFrom_lt l _ (Nat.or_lt_two_pow (n := 31) h (Nat.pow_lt_pow_right (by decide) ?_)) fun i hi => by have := hl (i + 1) (by simpa using hi); simpa using this
    have := hl 0 (by simp)
    simp only [List.getD_cons_zero] at this
    omega
theorem nums_lt {row : List Int} (h : ∀ i, i < row.length → (row.getD i 0) ≤ 30) : nums row < 2147483648 := numsFrom_lt row 0 (by decide) h

theorem nums_fits {net row : List Int} {n came : Nat} (hrow : ∀ i, i < row.length → 0 ≤ (row.getD i 0)) (h : (nums row).testBit n = true) : fitsTo net row (n : Int) came row.length = none := by
  obtain ⟨i, h1, h2⟩ := (nums_bit row n).1 h
  cases hf : fitsTo net row (n : Int) came row.length with
  | none => rfl
  | some c => exact absurd (by have := hrow i h1; omega) ((fits_some hf).1 i h1)
theorem nums_new {row : List Int} {n : Nat} (h : (nums row).testBit n = false) : ∀ i, i < row.length → (row.getD i 0) ≠ (n : Int) := fun i hi e => by
  rw [(nums_bit row n).2 ⟨i, hi, by omega⟩] at h
  cases h

theorem dist_30 {a b : Int} (ha : 0 ≤ a ∧ a ≤ 30) (hb : 0 ≤ b ∧ b ≤ 30) : 0 ≤ dist a b ∧ dist a b ≤ 30 := by unfold dist; split <;> omega
theorem dist_turned (a b : Int) : dist a b = dist b a := by unfold dist; split <;> split <;> omega
theorem fits_lt31 {net row : List Int} {n : Int} {came : Nat} (hn : 0 ≤ n ∧ n ≤ 30) (hrow : ∀ i, i < row.length → 0 ≤ (row.getD i 0) ∧ (row.getD i 0) ≤ 30) (hc : came < 2147483648) : ∀ {k c : Nat}, k ≤ row.length → fitsTo net row n came k = some c → c < 2147483648
  | 0, c, _, h => by cases h; exact hc
  | k + 1, c, hk, h => by
    rw [fitsTo] at h
    cases hk0 : fitsTo net row n came k with
    | none => rw [hk0] at h; cases h
    | some c0 =>
      rw [hk0] at h
      simp only at h
      have ih := fits_lt31 hn hrow hc (by omega : k ≤ row.length) hk0
      split at h
      · cases h
      · split at h
        · split at h
          · cases h
          · cases h
            have hd := dist_30 (hrow k (by omega)) hn
            exact Nat.or_lt_two_pow (n := 31) ih (Nat.pow_lt_pow_right (by decide) (by omega))
        · cases h; exact ih

/-! ### The row that has begun -/

/-- Its cells: the row, how many places it has, the numbers and the differences that came. -/
def begunL (row : List Int) (came : Nat) : List Int := [row.getD 0 0, row.getD 1 0, row.getD 2 0, row.getD 3 0, row.getD 4 0, row.getD 5 0, (row.length : Int), (nums row : Int), (came : Int)]
theorem begunL_len (row : List Int) (came : Nat) : (begunL row came).length = 9 := rfl
theorem begunL_get (row : List Int) (came : Nat) {i : Nat} (h : i < 6) : (begunL row came).getD i 0 = (row.getD i 0) := by
  have : i = 0 ∨ i = 1 ∨ i = 2 ∨ i = 3 ∨ i = 4 ∨ i = 5 := by omega
  rcases this with rfl | rfl | rfl | rfl | rfl | rfl <;> rfl
theorem begunL_push (row : List Int) (n c0 c : Nat) (h : row.length < 6) : ((((begunL row c0).set row.length (n : Int)).set 6 ((row.length : Int) + 1)).set 7 ((nums row ||| 2 ^ n : Nat) : Int)).set 8 (c : Int) = begunL (row ++ [(n : Int)]) c := by
  have hn : nums (row ++ [(n : Int)]) = nums row ||| 2 ^ n := by rw [nums, numsFrom_push]; rfl
  have hl : (((row ++ [(n : Int)]).length : Nat) : Int) = (row.length : Int) + 1 := by simp
  unfold begunL
  rw [hn, hl]
  match row, h with
  | [], _ => rfl
  | [_], _ => rfl
  | [_, _], _ => rfl
  | [_, _, _], _ => rfl
  | [_, _, _, _], _ => rfl
  | [_, _, _, _, _], _ => rfl
theorem begunL_six (row : List Int) (c : Nat) (n : Int) (h : row.length < 6) : ((begunL row c).set row.length n).getD 6 0 = (row.length : Int) := by
  have : row.length = 0 ∨ row.length = 1 ∨ row.length = 2 ∨ row.length = 3 ∨ row.length = 4 ∨ row.length = 5 := by omega
  unfold begunL
  generalize row.length = k at *
  rcases this with rfl | rfl | rfl | rfl | rfl | rfl <;> rfl
theorem begunL_seven (row : List Int) (c : Nat) (n x : Int) (h : row.length < 6) : (((begunL row c).set row.length n).set 6 x).getD 7 0 = (nums row : Int) := by
  have : row.length = 0 ∨ row.length = 1 ∨ row.length = 2 ∨ row.length = 3 ∨ row.length = 4 ∨ row.length = 5 := by omega
  unfold begunL
  generalize row.length = k at *
  rcases this with rfl | rfl | rfl | rfl | rfl | rfl <;> rfl

/-- As a value. -/
def begunX (row : List Int) (came : Nat) : XV := .agg ((begunL row came).map (AV.int .i64))
theorem begunX_flat (row : List Int) (came : Nat) : (begunX row came).flat := flats_ints _ _
/-- What differencesWith hands back. -/
def diffX : Option Nat → XV
  | none => .tup [.int .i64 0, .bool false]
  | some c => .tup [.int .i64 c, .bool true]
theorem diffX_flat (o : Option Nat) : (diffX o).flat := by cases o <;> exact ⟨trivial, trivial, trivial⟩

set_option maxHeartbeats 4000000 in
theorem impl_differencesWith {s : SV} {net row : List Int} {n came : Nat} {m : Heap} (hs : IsInts .i64 m s net) (hN : NetOk net) (hl : row.length < net.length) (hn : n ≤ 30) (hrow : ∀ i, i < row.length → 0 ≤ (row.getD i 0) ∧ (row.getD i 0) ≤ 30) (hc : came < 2147483648) :
    AQuiet Try.prog F.impl_differencesWith [.one (.sl s), begunX row came, .one (.int .i64 (n : Int))] m (diffX (fitsTo net row n came row.length)) := by
  obtain ⟨ref, off, len⟩ := s
  obtain rfl : len = net.length := hs.1
  have h6 := hN.six
  have hnl := nums_lt fun i hi => (hrow i hi).2
  have hg0 : ∀ i, i < 6 → (begunL row came).getD i 0 = (row.getD i 0) := fun i hi => begunL_get row came hi
  have e6 : (begunL row came).getD 6 0 = (row.length : Int) := rfl
  have e7 : (begunL row came).getD 7 0 = (nums row : Int) := rfl
  have e8 : (begunL row came).getD 8 0 = (came : Int) := rfl
  have hagg : Vals.ofAgg ((begunL row came).map (AV.int .i64)) = .ints .i64 (begunL row came) := Vals.ofAgg_ints _ _ _
  have hLl : (begunL row came).length = 9 := rfl
  have hml : ((begunL row came).map (AV.int .i64)).length = 9 := rfl
  unfold begunX
  generalize begunL row came = L at *
  have hs1 := hs.pre (prefix_push m ⟨Ty.impl_begun, m.length, true, .ints .i64 L⟩)
  have hat : ∀ i, i < 9 → Heap.at (m ++ [⟨Ty.impl_begun, m.length, true, .ints .i64 L⟩]) m.length i = some (.int .i64 (L.getD i 0)) := fun i hi => at_row (get_last _ _) (by simp only [Vals.len]; omega)
  have a6 := hat 6 (by decide)
  have a7 := hat 7 (by decide)
  have a8 := hat 8 (by decide)
  rw [e6] at a6
  rw [e7] at a7
  rw [e8] at a8
  refine aqn T.impl_differencesWith (by rfl) ?_
  have hpm := prefix_push m ⟨Ty.impl_begun, m.length, true, .ints .i64 L⟩
  have hM := impl_hasMark (nums row : Int) n (by omega) (by omega) (by omega) (m ++ [⟨Ty.impl_begun, m.length, true, .ints .i64 L⟩])
  have hMb : bit (nums row : Int) n = (nums row).testBit n := by unfold bit; rfl
  rw [hMb] at hM
  cases hb0 : (nums row).testBit n with
  | true =>
    rw [hb0] at hM
    rw [nums_fits (fun i hi => (hrow i hi).1) hb0]
    repeat' (first | refine xA ?_ | refine xB ?_ | refine xC ?_ | refine xD ?_ | refine xE ?_ | refine xF ?_ | refine xG ?_ | refine xH ?_ | refine xI rfl ?_ | refine xJ ?_ | refine xK ?_ | refine xL ?_ | refine xM rfl ?_ | refine xN rfl ?_ | refine xO rfl ?_ | (first | refine xP rfl (fun hif => ?_) (fun hif => ?_) | refine xQ rfl (fun hif => ?_) (fun hif => ?_) | refine xR rfl (fun hif => ?_) (fun hif => ?_) | refine xS rfl (fun hif => ?_) (fun hif => ?_)) <;> try (first | contradiction | (exfalso; omega)) | (refine hK _ _ ?_; clear hK K) | rw [hagg] | refine onSome_of a7 ?_ | refine AQuiet.call hM trivial ?_ | (refine And.intro (by first | omega | assumption | (constructor <;> omega)) ?_) | (refine And.intro (fun hif => ?_) (fun hif => ?_) <;> try (first | contradiction | (exfalso; omega))) | ((first | refine xT fun K hK => ?_ | refine xU fun K hK => ?_ | refine yB (fun K hK => ?_) (fun K hK => ?_) | refine xV ?_ | refine yA ?_ | refine xW ?_ | refine xX ?_ | refine xY ?_ | refine xZ ?_) <;> simp only [↓awpOps, ↓awpKeep, ↓awpKeepF, ↓aop, ↓aopQ, ↓abin, ↓aun, ↓onSome_some, ↓Kont_at, ↓KM_at, ↓KV_at, ↓KU_at, refId_row, Frame.ev, Frame.evs, Frame.evOr, Frame.put, Frame.keep, get_nil, get_cons, argFrame, resOf, fillA, Vals.len, Vals.get, Vals.set, Vals.app, Vals.sub, Vals.take, Vals.ofAgg_cons, Vals.ofList, Vals.toInts, Vals.toBools, Vals.toSls, Vals.toStrs, Vals.zeros, Nat.reduceBEq, Nat.reduceAdd, Nat.reduceEqDiff, cond_true, cond_false, Option.map_some, Option.map_none, List.length_cons, List.length_nil, List.replicate, List.set_cons_zero, List.set_cons_succ, Nat.reduceLT, Bool.not_true, Bool.not_false, Int.toNat_natCast, inR, Nat.zero_add, Int.toNat_zero, reduceCtorEq, IntKind.bits, List.nil_append, List.cons_append, Nat.add_zero, Nat.sub_zero, noughts_len, List.map_cons, List.map_nil, zp, zu]) | refine And.intro ?_ (fun hif => (hif trivial).elim) | (intro hif; try (first | contradiction | (exfalso; omega))))
    first | exact hpm | exact ⟨rfl, hpm⟩
  | false =>
    rw [hb0] at hM
    have hnew := nums_new hb0
    repeat' (first | refine xA ?_ | refine xB ?_ | refine xC ?_ | refine xD ?_ | refine xE ?_ | refine xF ?_ | refine xG ?_ | refine xH ?_ | refine xI rfl ?_ | refine xJ ?_ | refine xK ?_ | refine xL ?_ | refine xM rfl ?_ | refine xN rfl ?_ | refine xO rfl ?_ | (first | refine xP rfl (fun hif => ?_) (fun hif => ?_) | refine xQ rfl (fun hif => ?_) (fun hif => ?_) | refine xR rfl (fun hif => ?_) (fun hif => ?_) | refine xS rfl (fun hif => ?_) (fun hif => ?_)) <;> try (first | contradiction | (exfalso; omega)) | (refine hK _ _ ?_; clear hK K) | rw [hagg] | refine onSome_of a7 ?_ | refine AQuiet.call hM trivial ?_ | refine onSome_of a8 ?_ | (refine And.intro (by first | omega | assumption | (constructor <;> omega)) ?_) | (refine And.intro (fun hif => ?_) (fun hif => ?_) <;> try (first | contradiction | (exfalso; omega))) | ((first | refine xT fun K hK => ?_ | refine xU fun K hK => ?_ | refine yB (fun K hK => ?_) (fun K hK => ?_) | refine xV ?_ | refine yA ?_ | refine xW ?_ | refine xX ?_ | refine xY ?_ | refine xZ ?_) <;> simp only [↓awpOps, ↓awpKeep, ↓awpKeepF, ↓aop, ↓aopQ, ↓abin, ↓aun, ↓onSome_some, ↓Kont_at, ↓KM_at, ↓KV_at, ↓KU_at, refId_row, Frame.ev, Frame.evs, Frame.evOr, Frame.put, Frame.keep, get_nil, get_cons, argFrame, resOf, fillA, Vals.len, Vals.get, Vals.set, Vals.app, Vals.sub, Vals.take, Vals.ofAgg_cons, Vals.ofList, Vals.toInts, Vals.toBools, Vals.toSls, Vals.toStrs, Vals.zeros, Nat.reduceBEq, Nat.reduceAdd, Nat.reduceEqDiff, cond_true, cond_false, Option.map_some, Option.map_none, List.length_cons, List.length_nil, List.replicate, List.set_cons_zero, List.set_cons_succ, Nat.reduceLT, Bool.not_true, Bool.not_false, Int.toNat_natCast, inR, Nat.zero_add, Int.toNat_zero, reduceCtorEq, IntKind.bits, List.nil_append, List.cons_append, Nat.add_zero, Nat.sub_zero, noughts_len, List.map_cons, List.map_nil, zp, zu]) | refine And.intro ?_ (fun hif => (hif trivial).elim) | (intro hif; try (first | contradiction | (exfalso; omega))))
    refine awp_loop ?_
    refine ALoop.by [0, 2, 4, 8, 9] (fun a : Nat × Nat => [(0, .one (.sl ⟨ref, off, net.length⟩)), (2, .one (.int .i64 n)), (4, .one (.ptr m.length 0)), (8, .one (.int .i64 a.2)), (9, .one (.int .i64 a.1))]) (fun _ => m ++ [⟨Ty.impl_begun, m.length, true, .ints .i64 L⟩]) (fun a => a.1 ≤ row.length ∧ fitsTo net row n came a.1 = some a.2) (fun a => row.length - a.1) (0, came) rfl rfl ⟨Nat.zero_le _, rfl⟩ ?_
    rintro ⟨k, c⟩ ⟨hk, hf⟩ K1 hK1
    simp only at hk hf
    have hc31 := fits_lt31 (by omega) hrow hc hk hf
    by_cases hlt : k < row.length
    · have hna := hs1.2 row.length hl
      have hnb := hN.small hl
      have hP := impl_hasPlace ((net.getD row.length 0)) k (by omega) (by omega) (by omega) (m ++ [⟨Ty.impl_begun, m.length, true, .ints .i64 L⟩])
      have hrk := hrow k hlt
      have ak := hat k (by omega)
      rw [hg0 k (by omega)] at ak
      have hstep : fitsTo net row n came (k + 1) = if bit ((net.getD row.length 0)) k = true then (if c.testBit (dist ((row.getD k 0)) n).toNat = true then none else some (c ||| 2 ^ (dist ((row.getD k 0)) n).toNat)) else some c := by rw [fitsTo, hf]; simp only; rw [if_neg (hnew k hlt)]
      have hD := impl_distance (n : Int) ((row.getD k 0)) (by omega) hrk (m ++ [⟨Ty.impl_begun, m.length, true, .ints .i64 L⟩])
      rw [dist_turned, ← dist_nat] at hD
      have hds := dist_30 hrk (show 0 ≤ (n : Int) ∧ (n : Int) ≤ 30 by omega)
      have hdl : (dist ((row.getD k 0)) n).toNat ≤ 30 := by omega
      generalize (dist ((row.getD k 0)) n).toNat = d at hstep hD hdl
      clear hds
      have hM2 := impl_hasMark (c : Int) d (by omega) (by omega) (by omega) (m ++ [⟨Ty.impl_begun, m.length, true, .ints .i64 L⟩])
      have hMo := impl_markOf d (by omega) (m ++ [⟨Ty.impl_begun, m.length, true, .ints .i64 L⟩])
      have hMb2 : bit (c : Int) d = c.testBit d := by unfold bit; rfl
      rw [hMb2] at hM2
      have hor : borInt .i64 (c : Int) (2 ^ d) = ((c ||| 2 ^ d : Nat) : Int) := by
        rw [pow_nat]
        exact bor_nat _ _ (by omega) (Nat.lt_of_le_of_lt (Nat.pow_le_pow_right (by decide) hdl) (by decide))
      cases hb : bit ((net.getD row.length 0)) k with
      | false =>
        rw [hb] at hP
        rw [hb, if_neg (by simp)] at hstep
        repeat' (first | refine xA ?_ | refine xB ?_ | refine xC ?_ | refine xD ?_ | refine xE ?_ | refine xF ?_ | refine xG ?_ | refine xH ?_ | refine xI rfl ?_ | refine xJ ?_ | refine xK ?_ | refine xL ?_ | refine xM rfl ?_ | refine xN rfl ?_ | refine xO rfl ?_ | (first | refine xP rfl (fun hif => ?_) (fun hif => ?_) | refine xQ rfl (fun hif => ?_) (fun hif => ?_) | refine xR rfl (fun hif => ?_) (fun hif => ?_) | refine xS rfl (fun hif => ?_) (fun hif => ?_)) <;> try (first | contradiction | (exfalso; omega)) | (refine hK _ _ ?_; clear hK K) | refine onSome_of a6 ?_ | refine onSome_of hna ?_ | refine AQuiet.call hP trivial ?_ | (refine And.intro (by first | omega | assumption | (constructor <;> omega)) ?_) | (refine And.intro (fun hif => ?_) (fun hif => ?_) <;> try (first | contradiction | (exfalso; omega))) | ((first | refine xT fun K hK => ?_ | refine xU fun K hK => ?_ | refine yB (fun K hK => ?_) (fun K hK => ?_) | refine xV ?_ | refine yA ?_ | refine xW ?_ | refine xX ?_ | refine xY ?_ | refine xZ ?_) <;> simp only [↓awpOps, ↓awpKeep, ↓awpKeepF, ↓aop, ↓aopQ, ↓abin, ↓aun, ↓onSome_some, ↓Kont_at, ↓KM_at, ↓KV_at, ↓KU_at, refId_row, Frame.ev, Frame.evs, Frame.evOr, Frame.put, Frame.keep, get_nil, get_cons, argFrame, resOf, fillA, Vals.len, Vals.get, Vals.set, Vals.app, Vals.sub, Vals.take, Vals.ofAgg_cons, Vals.ofList, Vals.toInts, Vals.toBools, Vals.toSls, Vals.toStrs, Vals.zeros, Nat.reduceBEq, Nat.reduceAdd, Nat.reduceEqDiff, cond_true, cond_false, Option.map_some, Option.map_none, List.length_cons, List.length_nil, List.replicate, List.set_cons_zero, List.set_cons_succ, Nat.reduceLT, Bool.not_true, Bool.not_false, Int.toNat_natCast, inR, Nat.zero_add, Int.toNat_zero, reduceCtorEq, IntKind.bits, List.nil_append, List.cons_append, Nat.add_zero, Nat.sub_zero, noughts_len, List.map_cons, List.map_nil, zp, zu]) | refine And.intro ?_ (fun hif => (hif trivial).elim) | (intro hif; try (first | contradiction | (exfalso; omega))))
        all_goals exact hK1 (k + 1, c) _ _ rfl rfl ⟨by simp only; omega, hstep⟩ (by simp only; omega)
      | true =>
        rw [hb] at hP
        rw [hb, if_pos rfl] at hstep
        cases htb : c.testBit d with
        | true =>
          rw [htb] at hM2
          rw [htb, if_pos rfl] at hstep
          repeat' (first | refine xA ?_ | refine xB ?_ | refine xC ?_ | refine xD ?_ | refine xE ?_ | refine xF ?_ | refine xG ?_ | refine xH ?_ | refine xI rfl ?_ | refine xJ ?_ | refine xK ?_ | refine xL ?_ | refine xM rfl ?_ | refine xN rfl ?_ | refine xO rfl ?_ | (first | refine xP rfl (fun hif => ?_) (fun hif => ?_) | refine xQ rfl (fun hif => ?_) (fun hif => ?_) | refine xR rfl (fun hif => ?_) (fun hif => ?_) | refine xS rfl (fun hif => ?_) (fun hif => ?_)) <;> try (first | contradiction | (exfalso; omega)) | (refine hK _ _ ?_; clear hK K) | refine onSome_of a6 ?_ | refine onSome_of hna ?_ | refine onSome_of ak ?_ | refine AQuiet.call hP trivial ?_ | refine AQuiet.call hD trivial ?_ | refine AQuiet.call hM2 trivial ?_ | (refine And.intro (by first | omega | assumption | (constructor <;> omega)) ?_) | (refine And.intro (fun hif => ?_) (fun hif => ?_) <;> try (first | contradiction | (exfalso; omega))) | ((first | refine xT fun K hK => ?_ | refine xU fun K hK => ?_ | refine yB (fun K hK => ?_) (fun K hK => ?_) | refine xV ?_ | refine yA ?_ | refine xW ?_ | refine xX ?_ | refine xY ?_ | refine xZ ?_) <;> simp only [↓awpOps, ↓awpKeep, ↓awpKeepF, ↓aop, ↓aopQ, ↓abin, ↓aun, ↓onSome_some, ↓Kont_at, ↓KM_at, ↓KV_at, ↓KU_at, refId_row, Frame.ev, Frame.evs, Frame.evOr, Frame.put, Frame.keep, get_nil, get_cons, argFrame, resOf, fillA, Vals.len, Vals.get, Vals.set, Vals.app, Vals.sub, Vals.take, Vals.ofAgg_cons, Vals.ofList, Vals.toInts, Vals.toBools, Vals.toSls, Vals.toStrs, Vals.zeros, Nat.reduceBEq, Nat.reduceAdd, Nat.reduceEqDiff, cond_true, cond_false, Option.map_some, Option.map_none, List.length_cons, List.length_nil, List.replicate, List.set_cons_zero, List.set_cons_succ, Nat.reduceLT, Bool.not_true, Bool.not_false, Int.toNat_natCast, inR, Nat.zero_add, Int.toNat_zero, reduceCtorEq, IntKind.bits, List.nil_append, List.cons_append, Nat.add_zero, Nat.sub_zero, noughts_len, List.map_cons, List.map_nil, zp, zu]) | refine And.intro ?_ (fun hif => (hif trivial).elim) | (intro hif; try (first | contradiction | (exfalso; omega))))
          exact ⟨by rw [fits_mono hstep (by omega)]; rfl, hpm⟩
        | false =>
          rw [htb] at hM2
          rw [htb, if_neg (by simp)] at hstep
          repeat' (first | refine xA ?_ | refine xB ?_ | refine xC ?_ | refine xD ?_ | refine xE ?_ | refine xF ?_ | refine xG ?_ | refine xH ?_ | refine xI rfl ?_ | refine xJ ?_ | refine xK ?_ | refine xL ?_ | refine xM rfl ?_ | refine xN rfl ?_ | refine xO rfl ?_ | (first | refine xP rfl (fun hif => ?_) (fun hif => ?_) | refine xQ rfl (fun hif => ?_) (fun hif => ?_) | refine xR rfl (fun hif => ?_) (fun hif => ?_) | refine xS rfl (fun hif => ?_) (fun hif => ?_)) <;> try (first | contradiction | (exfalso; omega)) | (refine hK _ _ ?_; clear hK K) | refine onSome_of a6 ?_ | refine onSome_of hna ?_ | refine onSome_of ak ?_ | refine AQuiet.call hP trivial ?_ | refine AQuiet.call hD trivial ?_ | refine AQuiet.call hM2 trivial ?_ | refine AQuiet.call hMo trivial ?_ | rw [hor] | (refine And.intro (by first | omega | assumption | (constructor <;> omega)) ?_) | (refine And.intro (fun hif => ?_) (fun hif => ?_) <;> try (first | contradiction | (exfalso; omega))) | ((first | refine xT fun K hK => ?_ | refine xU fun K hK => ?_ | refine yB (fun K hK => ?_) (fun K hK => ?_) | refine xV ?_ | refine yA ?_ | refine xW ?_ | refine xX ?_ | refine xY ?_ | refine xZ ?_) <;> simp only [↓awpOps, ↓awpKeep, ↓awpKeepF, ↓aop, ↓aopQ, ↓abin, ↓aun, ↓onSome_some, ↓Kont_at, ↓KM_at, ↓KV_at, ↓KU_at, refId_row, Frame.ev, Frame.evs, Frame.evOr, Frame.put, Frame.keep, get_nil, get_cons, argFrame, resOf, fillA, Vals.len, Vals.get, Vals.set, Vals.app, Vals.sub, Vals.take, Vals.ofAgg_cons, Vals.ofList, Vals.toInts, Vals.toBools, Vals.toSls, Vals.toStrs, Vals.zeros, Nat.reduceBEq, Nat.reduceAdd, Nat.reduceEqDiff, cond_true, cond_false, Option.map_some, Option.map_none, List.length_cons, List.length_nil, List.replicate, List.set_cons_zero, List.set_cons_succ, Nat.reduceLT, Bool.not_true, Bool.not_false, Int.toNat_natCast, inR, Nat.zero_add, Int.toNat_zero, reduceCtorEq, IntKind.bits, List.nil_append, List.cons_append, Nat.add_zero, Nat.sub_zero, noughts_len, List.map_cons, List.map_nil, zp, zu]) | refine And.intro ?_ (fun hif => (hif trivial).elim) | (intro hif; try (first | contradiction | (exfalso; omega))))
          all_goals exact hK1 (k + 1, _) _ _ rfl rfl ⟨by simp only; omega, hstep⟩ (by simp only; omega)
    · obtain rfl : k = row.length := by omega
      repeat' (first | refine xA ?_ | refine xB ?_ | refine xC ?_ | refine xD ?_ | refine xE ?_ | refine xF ?_ | refine xG ?_ | refine xH ?_ | refine xI rfl ?_ | refine xJ ?_ | refine xK ?_ | refine xL ?_ | refine xM rfl ?_ | refine xN rfl ?_ | refine xO rfl ?_ | (first | refine xP rfl (fun hif => ?_) (fun hif => ?_) | refine xQ rfl (fun hif => ?_) (fun hif => ?_) | refine xR rfl (fun hif => ?_) (fun hif => ?_) | refine xS rfl (fun hif => ?_) (fun hif => ?_)) <;> try (first | contradiction | (exfalso; omega)) | (refine hK _ _ ?_; clear hK K) | refine onSome_of a6 ?_ | (refine And.intro (by first | omega | assumption | (constructor <;> omega)) ?_) | (refine And.intro (fun hif => ?_) (fun hif => ?_) <;> try (first | contradiction | (exfalso; omega))) | ((first | refine xT fun K hK => ?_ | refine xU fun K hK => ?_ | refine yB (fun K hK => ?_) (fun K hK => ?_) | refine xV ?_ | refine yA ?_ | refine xW ?_ | refine xX ?_ | refine xY ?_ | refine xZ ?_) <;> simp only [↓awpOps, ↓awpKeep, ↓awpKeepF, ↓aop, ↓aopQ, ↓abin, ↓aun, ↓onSome_some, ↓Kont_at, ↓KM_at, ↓KV_at, ↓KU_at, refId_row, Frame.ev, Frame.evs, Frame.evOr, Frame.put, Frame.keep, get_nil, get_cons, argFrame, resOf, fillA, Vals.len, Vals.get, Vals.set, Vals.app, Vals.sub, Vals.take, Vals.ofAgg_cons, Vals.ofList, Vals.toInts, Vals.toBools, Vals.toSls, Vals.toStrs, Vals.zeros, Nat.reduceBEq, Nat.reduceAdd, Nat.reduceEqDiff, cond_true, cond_false, Option.map_some, Option.map_none, List.length_cons, List.length_nil, List.replicate, List.set_cons_zero, List.set_cons_succ, Nat.reduceLT, Bool.not_true, Bool.not_false, Int.toNat_natCast, inR, Nat.zero_add, Int.toNat_zero, reduceCtorEq, IntKind.bits, List.nil_append, List.cons_append, Nat.add_zero, Nat.sub_zero, noughts_len, List.map_cons, List.map_nil, zp, zu]) | refine And.intro ?_ (fun hif => (hif trivial).elim) | (intro hif; try (first | contradiction | (exfalso; omega))))
      exact ⟨by rw [hf]; rfl, hpm⟩

set_option maxHeartbeats 4000000 in
theorem impl_withNumber {row : List Int} {n c0 c : Nat} (m : Heap) (hl : row.length < 6) (hn : n ≤ 30) (hrow : ∀ i, i < row.length → 0 ≤ (row.getD i 0) ∧ (row.getD i 0) ≤ 30) :
    AQuiet Try.prog F.impl_withNumber [begunX row c0, .one (.int .i64 (n : Int)), .one (.int .i64 (c : Int))] m (begunX (row ++ [(n : Int)]) c) := by
  delta AQuiet
  refine ACalls.wf fun hwf => ?_
  have hnl := nums_lt fun i hi => (hrow i hi).2
  have e6 : (begunL row c0).getD 6 0 = (row.length : Int) := rfl
  have e7 := begunL_six row c0 (n : Int) hl
  have e8 := begunL_seven row c0 (n : Int) ((row.length : Int) + 1) hl
  have e9 := begunL_push row n c0 c hl
  have hagg : Vals.ofAgg ((begunL row c0).map (AV.int .i64)) = .ints .i64 (begunL row c0) := Vals.ofAgg_ints _ _ _
  have hagg2 : Vals.ofAgg ((begunL (row ++ [(n : Int)]) c).map (AV.int .i64)) = .ints .i64 (begunL (row ++ [(n : Int)]) c) := Vals.ofAgg_ints _ _ _
  have hLl : (begunL row c0).length = 9 := rfl
  have hml : ((begunL row c0).map (AV.int .i64)).length = 9 := rfl
  have hL2 : (begunL (row ++ [(n : Int)]) c).length = 9 := rfl
  have hm2 : ((begunL (row ++ [(n : Int)]) c).map (AV.int .i64)).length = 9 := rfl
  unfold begunX
  generalize begunL row c0 = L at *
  generalize begunL (row ++ [(n : Int)]) c = L' at *
  have g0 := Grow.push hwf Ty.impl_begun true (.ints .i64 L)
  have hor : borInt .i64 (nums row : Int) (2 ^ n) = ((nums row ||| 2 ^ n : Nat) : Int) := by
    rw [pow_nat]
    exact bor_nat _ _ (by omega) (Nat.lt_of_le_of_lt (Nat.pow_le_pow_right (by decide) hn) (by decide))
  refine afna T.impl_withNumber (by rfl) ?_
  have hrow0 : (m ++ [(⟨Ty.impl_begun, m.length, true, .ints .i64 L⟩ : Row)] ++ [⟨Ty.impl_begun, List.length (m ++ [(⟨Ty.impl_begun, m.length, true, .ints .i64 L⟩ : Row)]), true, .ints .i64 [0, 0, 0, 0, 0, 0, 0, 0, 0]⟩])[m.length]? = some ⟨Ty.impl_begun, m.length, true, .ints .i64 L⟩ := row_at_push (get_last _ _) _
  have hwf0 := (g0.trans (Grow.push g0.wf Ty.impl_begun true (.ints .i64 [0, 0, 0, 0, 0, 0, 0, 0, 0]))).wf
  have hres0 := get_last (m ++ [(⟨Ty.impl_begun, m.length, true, .ints .i64 L⟩ : Row)]) ⟨Ty.impl_begun, List.length (m ++ [(⟨Ty.impl_begun, m.length, true, .ints .i64 L⟩ : Row)]), true, .ints .i64 [0, 0, 0, 0, 0, 0, 0, 0, 0]⟩
  have hpre0 : m <+: m ++ [(⟨Ty.impl_begun, m.length, true, .ints .i64 L⟩ : Row)] ++ [⟨Ty.impl_begun, List.length (m ++ [(⟨Ty.impl_begun, m.length, true, .ints .i64 L⟩ : Row)]), true, .ints .i64 [0, 0, 0, 0, 0, 0, 0, 0, 0]⟩] := (prefix_push _ _).trans (prefix_push _ _)
  have a6 := at_row hrow0 (off := 6) (by simp only [Vals.len]; omega)
  simp only [Vals.get, e6] at a6
  repeat' (first | refine xA ?_ | refine xB ?_ | refine xC ?_ | refine xD ?_ | refine xE ?_ | refine xF ?_ | refine xG ?_ | refine xH ?_ | refine xI rfl ?_ | refine xJ ?_ | refine xK ?_ | refine xL ?_ | refine xM rfl ?_ | refine xN rfl ?_ | refine xO rfl ?_ | (first | refine xP rfl (fun hif => ?_) (fun hif => ?_) | refine xQ rfl (fun hif => ?_) (fun hif => ?_) | refine xR rfl (fun hif => ?_) (fun hif => ?_) | refine xS rfl (fun hif => ?_) (fun hif => ?_)) <;> try (first | contradiction | (exfalso; omega)) | (refine hK _ _ ?_; clear hK K) | rw [hagg] | refine onSome_of a6 ?_ | refine st_row hwf0 hrow0 (by simp only [Vals.len]; omega) rfl fun m1 g1 l1 r1 => ?_ | (refine And.intro (by first | omega | assumption | (constructor <;> omega)) ?_) | (refine And.intro (fun hif => ?_) (fun hif => ?_) <;> try (first | contradiction | (exfalso; omega))) | ((first | refine xT fun K hK => ?_ | refine xU fun K hK => ?_ | refine yB (fun K hK => ?_) (fun K hK => ?_) | refine xV ?_ | refine yA ?_ | refine xW ?_ | refine xX ?_ | refine xY ?_ | refine xZ ?_) <;> simp only [↓awpOps, ↓awpKeep, ↓awpKeepF, ↓aop, ↓aopQ, ↓abin, ↓aun, ↓onSome_some, ↓Kont_at, ↓KM_at, ↓KV_at, ↓KU_at, refId_row, Frame.ev, Frame.evs, Frame.evOr, Frame.put, Frame.keep, get_nil, get_cons, argFrame, resOf, fillA, Vals.len, Vals.get, Vals.set, Vals.app, Vals.sub, Vals.take, Vals.ofAgg_cons, Vals.ofList, Vals.toInts, Vals.toBools, Vals.toSls, Vals.toStrs, Vals.zeros, Nat.reduceBEq, Nat.reduceAdd, Nat.reduceEqDiff, cond_true, cond_false, Option.map_some, Option.map_none, List.length_cons, List.length_nil, List.replicate, List.set_cons_zero, List.set_cons_succ, Nat.reduceLT, Bool.not_true, Bool.not_false, Int.toNat_natCast, inR, Nat.zero_add, Int.toNat_zero, reduceCtorEq, IntKind.bits, List.nil_append, List.cons_append, Nat.add_zero, Nat.sub_zero, noughts_len, List.map_cons, List.map_nil, zp, zu]) | refine And.intro ?_ (fun hif => (hif trivial).elim) | (intro hif; try (first | contradiction | (exfalso; omega))))
  have a6' := at_row r1 (off := 6) (by simp only [Vals.len, List.length_set]; omega)
  simp only [Vals.get, e7] at a6'
  repeat' (first | refine xA ?_ | refine xB ?_ | refine xC ?_ | refine xD ?_ | refine xE ?_ | refine xF ?_ | refine xG ?_ | refine xH ?_ | refine xI rfl ?_ | refine xJ ?_ | refine xK ?_ | refine xL ?_ | refine xM rfl ?_ | refine xN rfl ?_ | refine xO rfl ?_ | (first | refine xP rfl (fun hif => ?_) (fun hif => ?_) | refine xQ rfl (fun hif => ?_) (fun hif => ?_) | refine xR rfl (fun hif => ?_) (fun hif => ?_) | refine xS rfl (fun hif => ?_) (fun hif => ?_)) <;> try (first | contradiction | (exfalso; omega)) | (refine hK _ _ ?_; clear hK K) | refine onSome_of a6' ?_ | refine st_row g1.wf r1 (by simp only [Vals.len, List.length_set]; omega) rfl fun m2 g2 l2 r2 => ?_ | (refine And.intro (by first | omega | assumption | (constructor <;> omega)) ?_) | (refine And.intro (fun hif => ?_) (fun hif => ?_) <;> try (first | contradiction | (exfalso; omega))) | ((first | refine xT fun K hK => ?_ | refine xU fun K hK => ?_ | refine yB (fun K hK => ?_) (fun K hK => ?_) | refine xV ?_ | refine yA ?_ | refine xW ?_ | refine xX ?_ | refine xY ?_ | refine xZ ?_) <;> simp only [↓awpOps, ↓awpKeep, ↓awpKeepF, ↓aop, ↓aopQ, ↓abin, ↓aun, ↓onSome_some, ↓Kont_at, ↓KM_at, ↓KV_at, ↓KU_at, refId_row, Frame.ev, Frame.evs, Frame.evOr, Frame.put, Frame.keep, get_nil, get_cons, argFrame, resOf, fillA, Vals.len, Vals.get, Vals.set, Vals.app, Vals.sub, Vals.take, Vals.ofAgg_cons, Vals.ofList, Vals.toInts, Vals.toBools, Vals.toSls, Vals.toStrs, Vals.zeros, Nat.reduceBEq, Nat.reduceAdd, Nat.reduceEqDiff, cond_true, cond_false, Option.map_some, Option.map_none, List.length_cons, List.length_nil, List.replicate, List.set_cons_zero, List.set_cons_succ, Nat.reduceLT, Bool.not_true, Bool.not_false, Int.toNat_natCast, inR, Nat.zero_add, Int.toNat_zero, reduceCtorEq, IntKind.bits, List.nil_append, List.cons_append, Nat.add_zero, Nat.sub_zero, noughts_len, List.map_cons, List.map_nil, zp, zu]) | refine And.intro ?_ (fun hif => (hif trivial).elim) | (intro hif; try (first | contradiction | (exfalso; omega))))
  have a7 := at_row r2 (off := 7) (by simp only [Vals.len, List.length_set]; omega)
  simp only [Vals.get, e8] at a7
  have hMo := impl_markOf n (by omega) m2
  repeat' (first | refine xA ?_ | refine xB ?_ | refine xC ?_ | refine xD ?_ | refine xE ?_ | refine xF ?_ | refine xG ?_ | refine xH ?_ | refine xI rfl ?_ | refine xJ ?_ | refine xK ?_ | refine xL ?_ | refine xM rfl ?_ | refine xN rfl ?_ | refine xO rfl ?_ | (first | refine xP rfl (fun hif => ?_) (fun hif => ?_) | refine xQ rfl (fun hif => ?_) (fun hif => ?_) | refine xR rfl (fun hif => ?_) (fun hif => ?_) | refine xS rfl (fun hif => ?_) (fun hif => ?_)) <;> try (first | contradiction | (exfalso; omega)) | (refine hK _ _ ?_; clear hK K) | refine onSome_of a7 ?_ | refine AQuiet.callq hMo trivial ?_ | rw [hor] | refine st_row g2.wf r2 (by simp only [Vals.len, List.length_set]; omega) rfl fun m3 g3 l3 r3 => ?_ | (refine And.intro (by first | omega | assumption | (constructor <;> omega)) ?_) | (refine And.intro (fun hif => ?_) (fun hif => ?_) <;> try (first | contradiction | (exfalso; omega))) | ((first | refine xT fun K hK => ?_ | refine xU fun K hK => ?_ | refine yB (fun K hK => ?_) (fun K hK => ?_) | refine xV ?_ | refine yA ?_ | refine xW ?_ | refine xX ?_ | refine xY ?_ | refine xZ ?_) <;> simp only [↓awpOps, ↓awpKeep, ↓awpKeepF, ↓aop, ↓aopQ, ↓abin, ↓aun, ↓onSome_some, ↓Kont_at, ↓KM_at, ↓KV_at, ↓KU_at, refId_row, Frame.ev, Frame.evs, Frame.evOr, Frame.put, Frame.keep, get_nil, get_cons, argFrame, resOf, fillA, Vals.len, Vals.get, Vals.set, Vals.app, Vals.sub, Vals.take, Vals.ofAgg_cons, Vals.ofList, Vals.toInts, Vals.toBools, Vals.toSls, Vals.toStrs, Vals.zeros, Nat.reduceBEq, Nat.reduceAdd, Nat.reduceEqDiff, cond_true, cond_false, Option.map_some, Option.map_none, List.length_cons, List.length_nil, List.replicate, List.set_cons_zero, List.set_cons_succ, Nat.reduceLT, Bool.not_true, Bool.not_false, Int.toNat_natCast, inR, Nat.zero_add, Int.toNat_zero, reduceCtorEq, IntKind.bits, List.nil_append, List.cons_append, Nat.add_zero, Nat.sub_zero, noughts_len, List.map_cons, List.map_nil, zp, zu]) | refine And.intro ?_ (fun hif => (hif trivial).elim) | (intro hif; try (first | contradiction | (exfalso; omega))))
  repeat' (first | refine xA ?_ | refine xB ?_ | refine xC ?_ | refine xD ?_ | refine xE ?_ | refine xF ?_ | refine xG ?_ | refine xH ?_ | refine xI rfl ?_ | refine xJ ?_ | refine xK ?_ | refine xL ?_ | refine xM rfl ?_ | refine xN rfl ?_ | refine xO rfl ?_ | (first | refine xP rfl (fun hif => ?_) (fun hif => ?_) | refine xQ rfl (fun hif => ?_) (fun hif => ?_) | refine xR rfl (fun hif => ?_) (fun hif => ?_) | refine xS rfl (fun hif => ?_) (fun hif => ?_)) <;> try (first | contradiction | (exfalso; omega)) | (refine hK _ _ ?_; clear hK K) | refine st_row g3.wf r3 (by simp only [Vals.len, List.length_set]; omega) rfl fun m4 g4 l4 r4 => ?_ | (refine And.intro (by first | omega | assumption | (constructor <;> omega)) ?_) | (refine And.intro (fun hif => ?_) (fun hif => ?_) <;> try (first | contradiction | (exfalso; omega))) | ((first | refine xT fun K hK => ?_ | refine xU fun K hK => ?_ | refine yB (fun K hK => ?_) (fun K hK => ?_) | refine xV ?_ | refine yA ?_ | refine xW ?_ | refine xX ?_ | refine xY ?_ | refine xZ ?_) <;> simp only [↓awpOps, ↓awpKeep, ↓awpKeepF, ↓aop, ↓aopQ, ↓abin, ↓aun, ↓onSome_some, ↓Kont_at, ↓KM_at, ↓KV_at, ↓KU_at, refId_row, Frame.ev, Frame.evs, Frame.evOr, Frame.put, Frame.keep, get_nil, get_cons, argFrame, resOf, fillA, Vals.len, Vals.get, Vals.set, Vals.app, Vals.sub, Vals.take, Vals.ofAgg_cons, Vals.ofList, Vals.toInts, Vals.toBools, Vals.toSls, Vals.toStrs, Vals.zeros, Nat.reduceBEq, Nat.reduceAdd, Nat.reduceEqDiff, cond_true, cond_false, Option.map_some, Option.map_none, List.length_cons, List.length_nil, List.replicate, List.set_cons_zero, List.set_cons_succ, Nat.reduceLT, Bool.not_true, Bool.not_false, Int.toNat_natCast, inR, Nat.zero_add, Int.toNat_zero, reduceCtorEq, IntKind.bits, List.nil_append, List.cons_append, Nat.add_zero, Nat.sub_zero, noughts_len, List.map_cons, List.map_nil, zp, zu]) | refine And.intro ?_ (fun hif => (hif trivial).elim) | (intro hif; try (first | contradiction | (exfalso; omega))))
  rw [e9] at r4
  have hc := cells_ints r4 hL2.symm
  have hres := g4.keep _ _ (g3.keep _ _ (g2.keep _ _ (g1.keep _ _ hres0 (by simp)) (by simp)) (by simp)) (by simp)
  have hp4 := g4.pre (g3.pre (g2.pre (g1.pre hpre0 hwf (Nat.le_refl _)) hwf (Nat.le_refl _)) hwf (Nat.le_refl _)) hwf (Nat.le_refl _)
  repeat' (first | refine xA ?_ | refine xB ?_ | refine xC ?_ | refine xD ?_ | refine xE ?_ | refine xF ?_ | refine xG ?_ | refine xH ?_ | refine xI rfl ?_ | refine xJ ?_ | refine xK ?_ | refine xL ?_ | refine xM rfl ?_ | refine xN rfl ?_ | refine xO rfl ?_ | (first | refine xP rfl (fun hif => ?_) (fun hif => ?_) | refine xQ rfl (fun hif => ?_) (fun hif => ?_) | refine xR rfl (fun hif => ?_) (fun hif => ?_) | refine xS rfl (fun hif => ?_) (fun hif => ?_)) <;> try (first | contradiction | (exfalso; omega)) | (refine hK _ _ ?_; clear hK K) | refine onCells_of hc ?_ | refine st_agg g4.wf hres hm2.symm rfl hagg2 fun m5 g5 l5 r5 => ?_ | refine ret_agg rfl (cells_ints r5 hL2.symm) ?_ | (refine And.intro (by first | omega | assumption | (constructor <;> omega)) ?_) | (refine And.intro (fun hif => ?_) (fun hif => ?_) <;> try (first | contradiction | (exfalso; omega))) | ((first | refine xT fun K hK => ?_ | refine xU fun K hK => ?_ | refine yB (fun K hK => ?_) (fun K hK => ?_) | refine xV ?_ | refine yA ?_ | refine xW ?_ | refine xX ?_ | refine xY ?_ | refine xZ ?_) <;> simp only [↓awpOps, ↓awpKeep, ↓awpKeepF, ↓aop, ↓aopQ, ↓abin, ↓aun, ↓onSome_some, ↓Kont_at, ↓KM_at, ↓KV_at, ↓KU_at, refId_row, Frame.ev, Frame.evs, Frame.evOr, Frame.put, Frame.keep, get_nil, get_cons, argFrame, resOf, fillA, Vals.len, Vals.get, Vals.set, Vals.app, Vals.sub, Vals.take, Vals.ofAgg_cons, Vals.ofList, Vals.toInts, Vals.toBools, Vals.toSls, Vals.toStrs, Vals.zeros, Nat.reduceBEq, Nat.reduceAdd, Nat.reduceEqDiff, cond_true, cond_false, Option.map_some, Option.map_none, List.length_cons, List.length_nil, List.replicate, List.set_cons_zero, List.set_cons_succ, Nat.reduceLT, Bool.not_true, Bool.not_false, Int.toNat_natCast, inR, Nat.zero_add, Int.toNat_zero, reduceCtorEq, IntKind.bits, List.nil_append, List.cons_append, Nat.add_zero, Nat.sub_zero, noughts_len, List.map_cons, List.map_nil, zp, zu]) | refine And.intro ?_ (fun hif => (hif trivial).elim) | (intro hif; try (first | contradiction | (exfalso; omega))))
  first | exact g5.pre hp4 hwf (by simp) | exact ⟨rfl, g5.pre hp4 hwf (by simp)⟩

end Go.Abs

/- The program's third chapter, by contracts. Own work; no condition. -/
set_option maxRecDepth 100000
set_option linter.unusedSimpArgs false
set_option linter.unusedVariables false
namespace Go.Abs
open Go.Proofs
attribute [local irreducible] awp awpOps awpKeep KeepK awpKeepF KeepF aloop ALoop ACalls ACallq AQuiet retPost retPostA AExit.thn AExit.blk aApp aSt aStA

theorem came_lt {net row : List Int} {came : Nat} (hrow : ∀ i, i < row.length → 0 ≤ (row.getD i 0) ∧ (row.getD i 0) ≤ 30) (h : Came net row came) : came < 2147483648 :=
  Nat.lt_pow_two_of_testBit (n := 31) came fun v hv => by
    cases hb : came.testBit v with
    | false => rfl
    | true =>
      obtain ⟨a, b, h1, h2, _, h4⟩ := (h v).1 hb
      have := dist_30 (hrow a (by omega)) (hrow b h2)
      omega

theorem begunL_take (row : List Int) (c : Nat) (h : row.length ≤ 6) : (begunL row c).take row.length = row := by
  match row, h with
  | [], _ => rfl
  | [_], _ => rfl
  | [_, _], _ => rfl
  | [_, _, _], _ => rfl
  | [_, _, _, _], _ => rfl
  | [_, _, _, _, _], _ => rfl
  | [_, _, _, _, _, _], _ => rfl

/-- append(s, x[..xl]...): a part of a row. -/
theorem app_part {e : TypeId} {s : SV} {m : Heap} {K : XV → Heap → Prop} {l L : List Int} {f xi xl ex fx : Nat} {ox : Bool} (hwf : m.wf) (hs : Acc e f m s (.ints .i64 l)) (hne : s ≠ SV.nil) (hrx : m[xi]? = some ⟨ex, fx, ox, .ints .i64 L⟩) (hxl : xl ≤ L.length) (hlen : l.length + xl ≤ 1000000000)
    (hk : ∀ (s' : SV) (m' : Heap), m <+: m' → Grow f (f + 1) m m' → Acc e f m' s' (.ints .i64 (l ++ L.take xl)) → s' ≠ SV.nil → K (.one (.sl s')) m') : aApp e s ⟨.row xi, 0, xl⟩ m K := by
  rcases hs with ⟨e0, _⟩ | ⟨id, rfl, hid, hfam⟩
  · exact absurd e0 hne
  · have hfid := hwf id _ hid
    have hil := get_lt hid
    simp only at hfid
    have ht : (Vals.ints .i64 l).app ((Vals.ints .i64 L).sub 0 xl) = some (.ints .i64 (l ++ L.take xl)) := by simp [Vals.app, Vals.sub]
    simp only [aApp, hid, hrx, Nat.zero_add, Vals.take_len, ht]
    simp only [Vals.len] at hfam ⊢
    refine ⟨⟨hxl, by omega⟩, ⟨trivial, trivial, Nat.le_refl _, trivial⟩, ?_⟩
    rw [cutFam_self hfam]
    refine hk _ _ (prefix_push _ _) ⟨by simp, fun i r hr _ => row_at_push hr _, fun i r hi hr => ?_, fun i r hi hr => ?_, wf_push hwf (by omega)⟩ (.inr ⟨m.length, by simp [Vals.len, Nat.min_eq_left hxl], get_last _ _, fun j r hr ho hf => ?_⟩) (fun c => by cases c)
    · rcases get_push hr with ⟨_, h2⟩ | ⟨h1, _⟩
      · exact ⟨r, h2, rfl, rfl, Nat.le_refl _⟩
      · omega
    · rcases get_push hr with ⟨h1, _⟩ | ⟨_, rfl⟩
      · omega
      · exact .inr ⟨Nat.le_refl _, Nat.lt_succ_self _⟩
    · rcases get_push hr with ⟨_, h2⟩ | ⟨_, rfl⟩
      · have := hfam j r h2 ho hf; simp only [Vals.len, List.length_append]; omega
      · exact Nat.le_refl _

theorem getD_left {α : Type} {l r : List α} {d : α} {i : Nat} (h : i < l.length) : (l ++ r).getD i d = l.getD i d := by simp only [List.getD_eq_getElem?_getD, List.getElem?_append_left h]
theorem getD_right {α : Type} {l r : List α} {d : α} {i : Nat} (h : l.length ≤ i) : (l ++ r).getD i d = r.getD (i - l.length) d := by simp only [List.getD_eq_getElem?_getD, List.getElem?_append_right h]

/-- append(out, more...), both of lists in families of their own. -/
theorem app_lists2 {n0 c : Nat} {m : Heap} {s x : SV} {ll rr : List (List Int)} {K : XV → Heap → Prop} (hwf : m.wf) (h : Lists n0 c m s ll) (hx : Lists c m.length m x rr) (hc : n0 ≤ c) (hcl : c ≤ m.length) (hlen : ll.length + rr.length ≤ 1000000000)
    (hK : ∀ (s' : SV) (m' : Heap), m <+: m' → Grow n0 m.length m m' → LAcc n0 m' s' (ll ++ rr) → K (.one (.sl s')) m') : aApp Ty.Sl_int s x m K := by
  obtain ⟨svs, f, hA, hf, hR⟩ := h
  obtain ⟨usvs, g, hB, hg, hS⟩ := hx
  have hl := hR.1
  have hul := hS.1
  have hmore : ∀ (m' : Heap) (f' : Nat), m <+: m' → (n0 ≤ f' ∧ f' < c ∧ f' = f ∨ m.length ≤ f') → m.length ≤ m'.length → Rows1 n0 m'.length m' (svs ++ usvs) (ll ++ rr) f' := by
    intro m' f' hp hf' hle
    refine ⟨by rw [List.length_append, List.length_append, hl, hul], fun i hi => ?_⟩
    rw [List.length_append] at hi
    by_cases hlt : i < ll.length
    · rw [getD_left (l := svs) (by omega), getD_left (l := ll) hlt]
      obtain ⟨id, fi, h1, h2, h3, h4, h5, h6⟩ := hR.2 i hlt
      refine ⟨id, fi, h1, by omega, by omega, h4, row_prefix hp h5, fun j hj => ?_⟩
      rw [getD_left (l := svs) (by omega)]
      obtain ⟨gj, _, _, _, k4, k5⟩ := hR.fam_at (j := j) (m' := m') (by omega) (fun _ _ hr _ _ _ => row_prefix hp hr)
      rw [k5, ← k4]
      exact h6 j hj
    · rw [getD_right (l := svs) (by omega), getD_right (l := ll) (by omega), hl]
      obtain ⟨id, fi, h1, h2, h3, h4, h5, h6⟩ := hS.2 (i - ll.length) (by omega)
      refine ⟨id, fi, by omega, by omega, by omega, h4, row_prefix hp h5, fun j hj => ?_⟩
      by_cases hjl : j < ll.length
      · rw [getD_left (l := svs) (by omega)]
        obtain ⟨gj, _, k2, _, k4, k5⟩ := hR.fam_at (j := j) (m' := m') (by omega) (fun _ _ hr _ _ _ => row_prefix hp hr)
        rw [k5]
        intro e
        injection e with e
        omega
      · rw [getD_right (l := svs) (by omega), hl]
        obtain ⟨gj, _, _, _, k4, k5⟩ := hS.fam_at (j := j - ll.length) (m' := m') (by omega) (fun _ _ hr _ _ _ => row_prefix hp hr)
        rw [k5, ← k4]
        exact h6 _ (by omega)
  rcases hB with ⟨rfl, h0⟩ | ⟨xi, rfl, hxr, hxf⟩
  · simp only [Vals.len] at h0
    have er : rr = [] := List.eq_nil_of_length_eq_zero (by omega)
    have eu : usvs = [] := List.eq_nil_of_length_eq_zero h0
    subst er eu
    rw [List.append_nil] at hK
    rcases hA with ⟨rfl, hv0⟩ | ⟨id, rfl, hid, hfam⟩
    · simp only [aApp]
      exact hK _ m List.prefix_rfl (Grow.refl hwf _ _) ⟨svs, f, .inl ⟨rfl, hv0⟩, .inl rfl, hR.keep (fun _ _ hr _ _ _ => hr) (Nat.le_refl _) hcl (.inl rfl)⟩
    · have hf2 : n0 ≤ f ∧ f < c := hf.resolve_left (fun e => by cases e)
      simp only [aApp, hid]
      exact ⟨⟨trivial, trivial, Nat.le_refl _⟩, hK _ m List.prefix_rfl (Grow.refl hwf _ _) ⟨svs, f, .inr ⟨id, rfl, hid, hfam⟩, .inr ⟨hf2.1, by omega⟩, hR.keep (fun _ _ hr _ _ _ => hr) (Nat.le_refl _) hcl (.inl rfl)⟩⟩
  · rcases hA with ⟨rfl, hv0⟩ | ⟨id, rfl, hid, hfam⟩
    · simp only [Vals.len] at hv0
      have el : ll = [] := List.eq_nil_of_length_eq_zero (by omega)
      have es : svs = [] := List.eq_nil_of_length_eq_zero hv0
      subst el es
      simp only [aApp, hxr, Nat.zero_add, Vals.sub_len]
      simp only [Vals.len]
      refine ⟨⟨Nat.le_refl _, by omega⟩, fun hz => ?_, fun hpos => ?_⟩
      · have er : rr = [] := List.eq_nil_of_length_eq_zero (by omega)
        subst er
        exact hK _ m List.prefix_rfl (Grow.refl hwf _ _) (lacc_nil _ _)
      · have hp := prefix_push m ⟨Ty.Sl_int, m.length, true, .sls usvs⟩
        exact hK _ _ hp ((Grow.push hwf _ _ _).any _ _) ⟨usvs, m.length, acc_new hwf _ _ rfl, .inr ⟨by omega, by simp⟩, hmore _ _ hp (.inr (Nat.le_refl _)) (by simp)⟩
    · have hf2 : n0 ≤ f ∧ f < c := hf.resolve_left (fun e => by cases e)
      have hfid := hwf id _ hid
      have hil := get_lt hid
      simp only at hfid
      have ht : (Vals.sls svs).app (.sls usvs) = some (.sls (svs ++ usvs)) := rfl
      simp only [aApp, hid, hxr, Nat.zero_add, Vals.sub_len, Vals.take_len, ht]
      simp only [Vals.len] at hfam ⊢
      refine ⟨⟨Nat.le_refl _, by omega⟩, ⟨trivial, trivial, Nat.le_refl _, trivial⟩, ?_⟩
      rw [cutFam_self hfam]
      have hp := prefix_push m ⟨Ty.Sl_int, f, true, .sls (svs ++ usvs)⟩
      refine hK _ _ hp ⟨by simp, fun i r hr _ => row_at_push hr _, fun i r hi hr => ?_, fun i r hi hr => ?_, wf_push hwf (by omega)⟩ ⟨svs ++ usvs, f, .inr ⟨m.length, by simp [Vals.len], get_last _ _, fun j r hr ho hf => ?_⟩, .inr ⟨hf2.1, by simp; omega⟩, hmore _ _ hp (.inl ⟨hf2.1, hf2.2, rfl⟩) (by simp)⟩
      · rcases get_push hr with ⟨_, h2⟩ | ⟨h1, _⟩
        · exact ⟨r, h2, rfl, rfl, Nat.le_refl _⟩
        · omega
      · rcases get_push hr with ⟨h1, _⟩ | ⟨_, rfl⟩
        · omega
        · exact .inr ⟨hf2.1, by simp only; omega⟩
      · rcases get_push hr with ⟨_, h2⟩ | ⟨_, rfl⟩
        · have := hfam j r h2 ho hf; simp only [Vals.len, List.length_append]; omega
        · exact Nat.le_refl _

theorem ACalls_wf_q {P : Program} {f : FuncId} {args : List XV} {m : Heap} {v : XV} (h : m.wf → AQuiet P f args m v) : AQuiet P f args m v := by
  delta AQuiet at h ⊢
  exact ACalls.wf h
theorem begunX_nil : begunX [] 0 = .agg [.int .i64 0, .int .i64 0, .int .i64 0, .int .i64 0, .int .i64 0, .int .i64 0, .int .i64 0, .int .i64 0, .int .i64 0] := rfl
theorem impl_NetOk_t {s : SV} {net : List Int} {m : Heap} (hs : IsInts .i64 m s net) (hb : NetOk net) : AQuiet Try.prog F.impl_NetOk [.one (.sl s)] m (.one (.bool true)) := impl_NetOk_b true hs (decide_eq_true hb)
theorem impl_NetOk_f {s : SV} {net : List Int} {m : Heap} (hs : IsInts .i64 m s net) (hb : ¬ NetOk net) : AQuiet Try.prog F.impl_NetOk [.one (.sl s)] m (.one (.bool false)) := impl_NetOk_b false hs (decide_eq_false hb)
theorem impl_WiresOf_q {s : SV} {net : List Int} {m : Heap} (hs : IsInts .i64 m s net) (hN : NetOk net) : AQuiet Try.prog F.impl_WiresOf [.one (.sl s)] m (.one (.int .i64 (qOf net))) := by
  have h := impl_WiresOf s net m hs
  rwa [show wiresOf net = (qOf net : Int) by rw [wiresOf, if_pos hN]; rfl] at h

set_option maxHeartbeats 4000000 in
theorem impl_GracefulOk (s t : SV) (net row : List Int) (m : Heap) (hs : IsInts .i64 m s net) (ht : IsInts .i64 m t row) : AQuiet Try.prog F.impl_GracefulOk [.one (.sl s), .one (.sl t)] m (.one (.bool (decide (Grace net row)))) := by
  have hI := impl_RowOk s t net row m hs ht
  refine ACalls_wf_q fun hwf => ?_
  by_cases hR : RowOk net row
  · rw [decide_eq_true hR] at hI
    have hN := hR.ok
    have hlen := hR.len
    have hrow30 := hR.low
    have h6 := hN.six
    have hq := qOf_le hN
    obtain ⟨ref, off, len⟩ := s
    obtain rfl : len = net.length := hs.1
    obtain ⟨ref', off', len'⟩ := t
    obtain rfl : len' = row.length := ht.1
    have hWq := impl_WiresOf_q hs hN
    have hg0 := Grow.push hwf Ty.impl_begun true (.ints .i64 [0, 0, 0, 0, 0, 0, 0, 0, 0])
    have hz : Vals.ofAgg [.int .i64 0, .int .i64 0, .int .i64 0, .int .i64 0, .int .i64 0, .int .i64 0, .int .i64 0, .int .i64 0, .int .i64 0] = .ints .i64 (begunL [] 0) := rfl
    refine aqn T.impl_GracefulOk (by rfl) ?_
    repeat' (first | refine xA ?_ | refine xB ?_ | refine xC ?_ | refine xD ?_ | refine xE ?_ | refine xF ?_ | refine xG ?_ | refine xH ?_ | refine xI rfl ?_ | refine xJ ?_ | refine xK ?_ | refine xL ?_ | refine xM rfl ?_ | refine xN rfl ?_ | refine xO rfl ?_ | (first | refine xP rfl (fun hif => ?_) (fun hif => ?_) | refine xQ rfl (fun hif => ?_) (fun hif => ?_) | refine xR rfl (fun hif => ?_) (fun hif => ?_) | refine xS rfl (fun hif => ?_) (fun hif => ?_)) <;> try (first | contradiction | (exfalso; omega)) | (refine hK _ _ ?_; clear hK K) | refine AQuiet.call hI trivial ?_ | refine AQuiet.call hWq trivial ?_ | refine st_agg hg0.wf (get_last _ _) rfl rfl hz fun m1 g1 l1 r1 => ?_ | (refine And.intro (by first | omega | assumption | (constructor <;> omega)) ?_) | (refine And.intro (fun hif => ?_) (fun hif => ?_) <;> try (first | contradiction | (exfalso; omega))) | ((first | refine xT fun K hK => ?_ | refine xU fun K hK => ?_ | refine yB (fun K hK => ?_) (fun K hK => ?_) | refine xV ?_ | refine yA ?_ | refine xW ?_ | refine xX ?_ | refine xY ?_ | refine xZ ?_) <;> simp only [↓awpOps, ↓awpKeep, ↓awpKeepF, ↓aop, ↓aopQ, ↓abin, ↓aun, ↓onSome_some, ↓Kont_at, ↓KM_at, ↓KV_at, ↓KU_at, refId_row, Frame.ev, Frame.evs, Frame.evOr, Frame.put, Frame.keep, get_nil, get_cons, argFrame, resOf, fillA, Vals.len, Vals.get, Vals.set, Vals.app, Vals.sub, Vals.take, Vals.ofAgg_cons, Vals.ofList, Vals.toInts, Vals.toBools, Vals.toSls, Vals.toStrs, Vals.zeros, Nat.reduceBEq, Nat.reduceAdd, Nat.reduceEqDiff, cond_true, cond_false, Option.map_some, Option.map_none, List.length_cons, List.length_nil, List.replicate, List.set_cons_zero, List.set_cons_succ, Nat.reduceLT, Bool.not_true, Bool.not_false, Int.toNat_natCast, inR, Nat.zero_add, Int.toNat_zero, reduceCtorEq, IntKind.bits, List.nil_append, List.cons_append, Nat.add_zero, Nat.sub_zero, noughts_len, List.map_cons, List.map_nil, zp, zu]) | refine And.intro ?_ (fun hif => (hif trivial).elim) | (intro hif; try (first | contradiction | (exfalso; omega))))
    have hp1 := g1.pre (prefix_push _ _) hwf (Nat.le_refl _)
    refine awp_loop ?_
    refine ALoop.by [0, 1, 5, 6, 7] (fun a : Nat × Nat × Heap => [(0, .one (.sl ⟨ref, off, net.length⟩)), (1, .one (.sl ⟨ref', off', row.length⟩)), (5, .one (.int .i64 (qOf net))), (6, .one (.ptr m.length 0)), (7, .one (.int .i64 a.1))]) (fun a => a.2.2)
      (fun a => a.1 ≤ row.length ∧ Way net (qOf net) (row.take a.1) a.2.1 ∧ m <+: a.2.2 ∧ a.2.2.wf ∧ a.2.2[m.length]? = some ⟨Ty.impl_begun, m.length, true, .ints .i64 (begunL (row.take a.1) a.2.1)⟩) (fun a => row.length - a.1) (0, 0, m1) rfl rfl ⟨Nat.zero_le _, way_nil net _, hp1, g1.wf, r1⟩ ?_
    rintro ⟨k, came, mo⟩ ⟨hk, hW, hpo, hwo, hro⟩ K1 hK1
    simp only at hk hW hpo hwo hro
    have hso := hs.pre hpo
    have hto := ht.pre hpo
    by_cases hlt : k < row.length
    · have hat := hto.2 k hlt
      have hv := hrow30 k hlt
      have hrl : (row.take k).length = k := by rw [List.length_take]; omega
      have hsplit : row = row.take k ++ (row.getD k 0) :: row.drop (k + 1) := by
        rw [List.getD_eq_getElem?_getD, List.getElem?_eq_getElem hlt]
        simp
      have hnx : row.take (k + 1) = row.take k ++ [(row.getD k 0)] := by
        rw [List.take_add_one, List.getD_eq_getElem?_getD, List.getElem?_eq_getElem hlt]
        rfl
      obtain ⟨n, hn⟩ := Int.eq_ofNat_of_zero_le hv.1
      have hn30 : n ≤ 30 := by omega
      rw [hn] at hat hnx hsplit
      have hrow : ∀ i, i < (row.take k).length → 0 ≤ (row.take k).getD i 0 ∧ (row.take k).getD i 0 ≤ 30 := fun i hi => by have := hW.low i hi; omega
      have hcl := came_lt hrow hW.came
      have hcs := cells_ints hro (n := 9) rfl
      have hD : AQuiet Try.prog F.impl_differencesWith [.one (.sl ⟨ref, off, net.length⟩), .agg ((begunL (row.take k) came).map (AV.int .i64)), .one (.int .i64 (n : Int))] mo (diffX (fitsTo net (row.take k) n came (row.take k).length)) := impl_differencesWith hso hN (by omega) hn30 hrow hcl
      have hWn : ∀ c : Nat, AQuiet Try.prog F.impl_withNumber [.agg ((begunL (row.take k) came).map (AV.int .i64)), .one (.int .i64 (n : Int)), .one (.int .i64 (c : Int))] mo (.agg ((begunL (row.take k ++ [(n : Int)]) c).map (AV.int .i64))) := fun c => impl_withNumber mo (by omega) hn30 hrow
      have hlow0 : ¬ ((n : Int) ≤ (qOf net : Int)) → decide (Grace net row) = false := fun hgt => decide_eq_false fun h => by have := (h.low.low k hlt).2; omega
      have hno : fitsTo net (row.take k) n came (row.take k).length = none → decide (Grace net row) = false := fun hf => decide_eq_false fun h => by
        have hG := (grace_dd hN hlen h.low.low).1 h
        rw [hsplit] at hG
        exact hW.none hf hG
      cases hf : fitsTo net (row.take k) (n : Int) came (row.take k).length with
      | none =>
        rw [hf] at hD
        rw [hno hf]
        simp only [diffX] at hD
        generalize begunL (row.take k) came = L at *
        clear hno hlow0
        by_cases hle : (n : Int) ≤ (qOf net : Int)
        · repeat' (first | refine xA ?_ | refine xB ?_ | refine xC ?_ | refine xD ?_ | refine xE ?_ | refine xF ?_ | refine xG ?_ | refine xH ?_ | refine xI rfl ?_ | refine xJ ?_ | refine xK ?_ | refine xL ?_ | refine xM rfl ?_ | refine xN rfl ?_ | refine xO rfl ?_ | (first | refine xP rfl (fun hif => ?_) (fun hif => ?_) | refine xQ rfl (fun hif => ?_) (fun hif => ?_) | refine xR rfl (fun hif => ?_) (fun hif => ?_) | refine xS rfl (fun hif => ?_) (fun hif => ?_)) <;> try (first | contradiction | (exfalso; omega)) | (refine hK _ _ ?_; clear hK K) | refine onCells_of hcs ?_ | refine onSome_of hat ?_ | refine AQuiet.callq hD (diffX_flat none) ?_ | (refine And.intro (by first | omega | assumption | (constructor <;> omega)) ?_) | (refine And.intro (fun hif => ?_) (fun hif => ?_) <;> try (first | contradiction | (exfalso; omega))) | ((first | refine xT fun K hK => ?_ | refine xU fun K hK => ?_ | refine yB (fun K hK => ?_) (fun K hK => ?_) | refine xV ?_ | refine yA ?_ | refine xW ?_ | refine xX ?_ | refine xY ?_ | refine xZ ?_) <;> simp only [↓awpOps, ↓awpKeep, ↓awpKeepF, ↓aop, ↓aopQ, ↓abin, ↓aun, ↓onSome_some, ↓Kont_at, ↓KM_at, ↓KV_at, ↓KU_at, refId_row, Frame.ev, Frame.evs, Frame.evOr, Frame.put, Frame.keep, get_nil, get_cons, argFrame, resOf, fillA, Vals.len, Vals.get, Vals.set, Vals.app, Vals.sub, Vals.take, Vals.ofAgg_cons, Vals.ofList, Vals.toInts, Vals.toBools, Vals.toSls, Vals.toStrs, Vals.zeros, Nat.reduceBEq, Nat.reduceAdd, Nat.reduceEqDiff, cond_true, cond_false, Option.map_some, Option.map_none, List.length_cons, List.length_nil, List.replicate, List.set_cons_zero, List.set_cons_succ, Nat.reduceLT, Bool.not_true, Bool.not_false, Int.toNat_natCast, inR, Nat.zero_add, Int.toNat_zero, reduceCtorEq, IntKind.bits, List.nil_append, List.cons_append, Nat.add_zero, Nat.sub_zero, noughts_len, List.map_cons, List.map_nil, zp, zu]) | refine And.intro ?_ (fun hif => (hif trivial).elim) | (intro hif; try (first | contradiction | (exfalso; omega))))
          all_goals first | exact hpo | exact ⟨rfl, hpo⟩
        · repeat' (first | refine xA ?_ | refine xB ?_ | refine xC ?_ | refine xD ?_ | refine xE ?_ | refine xF ?_ | refine xG ?_ | refine xH ?_ | refine xI rfl ?_ | refine xJ ?_ | refine xK ?_ | refine xL ?_ | refine xM rfl ?_ | refine xN rfl ?_ | refine xO rfl ?_ | (first | refine xP rfl (fun hif => ?_) (fun hif => ?_) | refine xQ rfl (fun hif => ?_) (fun hif => ?_) | refine xR rfl (fun hif => ?_) (fun hif => ?_) | refine xS rfl (fun hif => ?_) (fun hif => ?_)) <;> try (first | contradiction | (exfalso; omega)) | (refine hK _ _ ?_; clear hK K) | refine onCells_of hcs ?_ | refine onSome_of hat ?_ | refine AQuiet.callq hD (diffX_flat none) ?_ | (refine And.intro (by first | omega | assumption | (constructor <;> omega)) ?_) | (refine And.intro (fun hif => ?_) (fun hif => ?_) <;> try (first | contradiction | (exfalso; omega))) | ((first | refine xT fun K hK => ?_ | refine xU fun K hK => ?_ | refine yB (fun K hK => ?_) (fun K hK => ?_) | refine xV ?_ | refine yA ?_ | refine xW ?_ | refine xX ?_ | refine xY ?_ | refine xZ ?_) <;> simp only [↓awpOps, ↓awpKeep, ↓awpKeepF, ↓aop, ↓aopQ, ↓abin, ↓aun, ↓onSome_some, ↓Kont_at, ↓KM_at, ↓KV_at, ↓KU_at, refId_row, Frame.ev, Frame.evs, Frame.evOr, Frame.put, Frame.keep, get_nil, get_cons, argFrame, resOf, fillA, Vals.len, Vals.get, Vals.set, Vals.app, Vals.sub, Vals.take, Vals.ofAgg_cons, Vals.ofList, Vals.toInts, Vals.toBools, Vals.toSls, Vals.toStrs, Vals.zeros, Nat.reduceBEq, Nat.reduceAdd, Nat.reduceEqDiff, cond_true, cond_false, Option.map_some, Option.map_none, List.length_cons, List.length_nil, List.replicate, List.set_cons_zero, List.set_cons_succ, Nat.reduceLT, Bool.not_true, Bool.not_false, Int.toNat_natCast, inR, Nat.zero_add, Int.toNat_zero, reduceCtorEq, IntKind.bits, List.nil_append, List.cons_append, Nat.add_zero, Nat.sub_zero, noughts_len, List.map_cons, List.map_nil, zp, zu]) | refine And.intro ?_ (fun hif => (hif trivial).elim) | (intro hif; try (first | contradiction | (exfalso; omega))))
          all_goals first | exact hpo | exact ⟨rfl, hpo⟩
      | some c =>
        rw [hf] at hD
        simp only [diffX] at hD
        have hw := hWn c
        rw [← hnx] at hw
        have hpush := fun hle : (n : Int) ≤ (qOf net : Int) => hW.push (n := (n : Int)) ⟨by omega, hle⟩ hf
        rw [← hnx] at hpush
        have hagg2 : Vals.ofAgg ((begunL (row.take (k + 1)) c).map (AV.int .i64)) = .ints .i64 (begunL (row.take (k + 1)) c) := Vals.ofAgg_ints _ _ _
        have hm2 : ((begunL (row.take (k + 1)) c).map (AV.int .i64)).length = 9 := rfl
        have hL9 : (begunL (row.take k) came).length = 9 := rfl
        have hnext : ∀ m2 : Heap, m <+: m2 → m2.wf → Way net (qOf net) (row.take (k + 1)) c → m2[m.length]? = some ⟨Ty.impl_begun, m.length, true, .ints .i64 (begunL (row.take (k + 1)) c)⟩ → (fun a : Nat × Nat × Heap => a.1 ≤ row.length ∧ Way net (qOf net) (row.take a.1) a.2.1 ∧ m <+: a.2.2 ∧ a.2.2.wf ∧ a.2.2[m.length]? = some ⟨Ty.impl_begun, m.length, true, .ints .i64 (begunL (row.take a.1) a.2.1)⟩) (k + 1, c, m2) := fun m2 q1 q2 q3 q4 => ⟨hlt, q3, q1, q2, q4⟩
        generalize begunL (row.take k) came = L at *
        generalize begunL (row.take (k + 1)) c = L' at *
        by_cases hle : (n : Int) ≤ (qOf net : Int)
        · repeat' (first | refine xA ?_ | refine xB ?_ | refine xC ?_ | refine xD ?_ | refine xE ?_ | refine xF ?_ | refine xG ?_ | refine xH ?_ | refine xI rfl ?_ | refine xJ ?_ | refine xK ?_ | refine xL ?_ | refine xM rfl ?_ | refine xN rfl ?_ | refine xO rfl ?_ | (first | refine xP rfl (fun hif => ?_) (fun hif => ?_) | refine xQ rfl (fun hif => ?_) (fun hif => ?_) | refine xR rfl (fun hif => ?_) (fun hif => ?_) | refine xS rfl (fun hif => ?_) (fun hif => ?_)) <;> try (first | contradiction | (exfalso; omega)) | (refine hK _ _ ?_; clear hK K) | refine onCells_of hcs ?_ | refine onSome_of hat ?_ | refine AQuiet.callq hD (diffX_flat (some c)) ?_ | refine AQuiet.call hw (flats_ints _ _) ?_ | refine st_agg hwo hro hm2.symm hL9 hagg2 fun m2 g2 l2 r2 => ?_ | (refine And.intro (by first | omega | assumption | (constructor <;> omega)) ?_) | (refine And.intro (fun hif => ?_) (fun hif => ?_) <;> try (first | contradiction | (exfalso; omega))) | ((first | refine xT fun K hK => ?_ | refine xU fun K hK => ?_ | refine yB (fun K hK => ?_) (fun K hK => ?_) | refine xV ?_ | refine yA ?_ | refine xW ?_ | refine xX ?_ | refine xY ?_ | refine xZ ?_) <;> simp only [↓awpOps, ↓awpKeep, ↓awpKeepF, ↓aop, ↓aopQ, ↓abin, ↓aun, ↓onSome_some, ↓Kont_at, ↓KM_at, ↓KV_at, ↓KU_at, refId_row, Frame.ev, Frame.evs, Frame.evOr, Frame.put, Frame.keep, get_nil, get_cons, argFrame, resOf, fillA, Vals.len, Vals.get, Vals.set, Vals.app, Vals.sub, Vals.take, Vals.ofAgg_cons, Vals.ofList, Vals.toInts, Vals.toBools, Vals.toSls, Vals.toStrs, Vals.zeros, Nat.reduceBEq, Nat.reduceAdd, Nat.reduceEqDiff, cond_true, cond_false, Option.map_some, Option.map_none, List.length_cons, List.length_nil, List.replicate, List.set_cons_zero, List.set_cons_succ, Nat.reduceLT, Bool.not_true, Bool.not_false, Int.toNat_natCast, inR, Nat.zero_add, Int.toNat_zero, reduceCtorEq, IntKind.bits, List.nil_append, List.cons_append, Nat.add_zero, Nat.sub_zero, noughts_len, List.map_cons, List.map_nil, zp, zu]) | refine And.intro ?_ (fun hif => (hif trivial).elim) | (intro hif; try (first | contradiction | (exfalso; omega))))
          all_goals exact hK1 (k + 1, c, m2) _ _ rfl rfl (hnext m2 (g2.pre hpo hwf (Nat.le_refl _)) g2.wf (hpush hle) r2) (by simp only; omega)
        · rw [hlow0 hle]
          repeat' (first | refine xA ?_ | refine xB ?_ | refine xC ?_ | refine xD ?_ | refine xE ?_ | refine xF ?_ | refine xG ?_ | refine xH ?_ | refine xI rfl ?_ | refine xJ ?_ | refine xK ?_ | refine xL ?_ | refine xM rfl ?_ | refine xN rfl ?_ | refine xO rfl ?_ | (first | refine xP rfl (fun hif => ?_) (fun hif => ?_) | refine xQ rfl (fun hif => ?_) (fun hif => ?_) | refine xR rfl (fun hif => ?_) (fun hif => ?_) | refine xS rfl (fun hif => ?_) (fun hif => ?_)) <;> try (first | contradiction | (exfalso; omega)) | (refine hK _ _ ?_; clear hK K) | refine onCells_of hcs ?_ | refine onSome_of hat ?_ | refine AQuiet.callq hD (diffX_flat (some c)) ?_ | (refine And.intro (by first | omega | assumption | (constructor <;> omega)) ?_) | (refine And.intro (fun hif => ?_) (fun hif => ?_) <;> try (first | contradiction | (exfalso; omega))) | ((first | refine xT fun K hK => ?_ | refine xU fun K hK => ?_ | refine yB (fun K hK => ?_) (fun K hK => ?_) | refine xV ?_ | refine yA ?_ | refine xW ?_ | refine xX ?_ | refine xY ?_ | refine xZ ?_) <;> simp only [↓awpOps, ↓awpKeep, ↓awpKeepF, ↓aop, ↓aopQ, ↓abin, ↓aun, ↓onSome_some, ↓Kont_at, ↓KM_at, ↓KV_at, ↓KU_at, refId_row, Frame.ev, Frame.evs, Frame.evOr, Frame.put, Frame.keep, get_nil, get_cons, argFrame, resOf, fillA, Vals.len, Vals.get, Vals.set, Vals.app, Vals.sub, Vals.take, Vals.ofAgg_cons, Vals.ofList, Vals.toInts, Vals.toBools, Vals.toSls, Vals.toStrs, Vals.zeros, Nat.reduceBEq, Nat.reduceAdd, Nat.reduceEqDiff, cond_true, cond_false, Option.map_some, Option.map_none, List.length_cons, List.length_nil, List.replicate, List.set_cons_zero, List.set_cons_succ, Nat.reduceLT, Bool.not_true, Bool.not_false, Int.toNat_natCast, inR, Nat.zero_add, Int.toNat_zero, reduceCtorEq, IntKind.bits, List.nil_append, List.cons_append, Nat.add_zero, Nat.sub_zero, noughts_len, List.map_cons, List.map_nil, zp, zu]) | refine And.intro ?_ (fun hif => (hif trivial).elim) | (intro hif; try (first | contradiction | (exfalso; omega))))
          all_goals first | exact hpo | exact ⟨rfl, hpo⟩
    · obtain rfl : k = row.length := by omega
      rw [List.take_length] at hW
      rw [decide_eq_true ((grace_dd hN hlen hW.low).2 ⟨hW.once, hW.dd⟩)]
      repeat' (first | refine xA ?_ | refine xB ?_ | refine xC ?_ | refine xD ?_ | refine xE ?_ | refine xF ?_ | refine xG ?_ | refine xH ?_ | refine xI rfl ?_ | refine xJ ?_ | refine xK ?_ | refine xL ?_ | refine xM rfl ?_ | refine xN rfl ?_ | refine xO rfl ?_ | (first | refine xP rfl (fun hif => ?_) (fun hif => ?_) | refine xQ rfl (fun hif => ?_) (fun hif => ?_) | refine xR rfl (fun hif => ?_) (fun hif => ?_) | refine xS rfl (fun hif => ?_) (fun hif => ?_)) <;> try (first | contradiction | (exfalso; omega)) | (refine hK _ _ ?_; clear hK K) | (refine And.intro (by first | omega | assumption | (constructor <;> omega)) ?_) | (refine And.intro (fun hif => ?_) (fun hif => ?_) <;> try (first | contradiction | (exfalso; omega))) | ((first | refine xT fun K hK => ?_ | refine xU fun K hK => ?_ | refine yB (fun K hK => ?_) (fun K hK => ?_) | refine xV ?_ | refine yA ?_ | refine xW ?_ | refine xX ?_ | refine xY ?_ | refine xZ ?_) <;> simp only [↓awpOps, ↓awpKeep, ↓awpKeepF, ↓aop, ↓aopQ, ↓abin, ↓aun, ↓onSome_some, ↓Kont_at, ↓KM_at, ↓KV_at, ↓KU_at, refId_row, Frame.ev, Frame.evs, Frame.evOr, Frame.put, Frame.keep, get_nil, get_cons, argFrame, resOf, fillA, Vals.len, Vals.get, Vals.set, Vals.app, Vals.sub, Vals.take, Vals.ofAgg_cons, Vals.ofList, Vals.toInts, Vals.toBools, Vals.toSls, Vals.toStrs, Vals.zeros, Nat.reduceBEq, Nat.reduceAdd, Nat.reduceEqDiff, cond_true, cond_false, Option.map_some, Option.map_none, List.length_cons, List.length_nil, List.replicate, List.set_cons_zero, List.set_cons_succ, Nat.reduceLT, Bool.not_true, Bool.not_false, Int.toNat_natCast, inR, Nat.zero_add, Int.toNat_zero, reduceCtorEq, IntKind.bits, List.nil_append, List.cons_append, Nat.add_zero, Nat.sub_zero, noughts_len, List.map_cons, List.map_nil, zp, zu]) | refine And.intro ?_ (fun hif => (hif trivial).elim) | (intro hif; try (first | contradiction | (exfalso; omega))))
      all_goals first | exact hpo | exact ⟨rfl, hpo⟩
  · rw [decide_eq_false fun h : Grace net row => hR h.rowOk]
    rw [decide_eq_false hR] at hI
    refine aqn T.impl_GracefulOk (by rfl) ?_
    repeat' (first | refine xA ?_ | refine xB ?_ | refine xC ?_ | refine xD ?_ | refine xE ?_ | refine xF ?_ | refine xG ?_ | refine xH ?_ | refine xI rfl ?_ | refine xJ ?_ | refine xK ?_ | refine xL ?_ | refine xM rfl ?_ | refine xN rfl ?_ | refine xO rfl ?_ | (first | refine xP rfl (fun hif => ?_) (fun hif => ?_) | refine xQ rfl (fun hif => ?_) (fun hif => ?_) | refine xR rfl (fun hif => ?_) (fun hif => ?_) | refine xS rfl (fun hif => ?_) (fun hif => ?_)) <;> try (first | contradiction | (exfalso; omega)) | (refine hK _ _ ?_; clear hK K) | refine AQuiet.call hI trivial ?_ | (refine And.intro (by first | omega | assumption | (constructor <;> omega)) ?_) | (refine And.intro (fun hif => ?_) (fun hif => ?_) <;> try (first | contradiction | (exfalso; omega))) | ((first | refine xT fun K hK => ?_ | refine xU fun K hK => ?_ | refine yB (fun K hK => ?_) (fun K hK => ?_) | refine xV ?_ | refine yA ?_ | refine xW ?_ | refine xX ?_ | refine xY ?_ | refine xZ ?_) <;> simp only [↓awpOps, ↓awpKeep, ↓awpKeepF, ↓aop, ↓aopQ, ↓abin, ↓aun, ↓onSome_some, ↓Kont_at, ↓KM_at, ↓KV_at, ↓KU_at, refId_row, Frame.ev, Frame.evs, Frame.evOr, Frame.put, Frame.keep, get_nil, get_cons, argFrame, resOf, fillA, Vals.len, Vals.get, Vals.set, Vals.app, Vals.sub, Vals.take, Vals.ofAgg_cons, Vals.ofList, Vals.toInts, Vals.toBools, Vals.toSls, Vals.toStrs, Vals.zeros, Nat.reduceBEq, Nat.reduceAdd, Nat.reduceEqDiff, cond_true, cond_false, Option.map_some, Option.map_none, List.length_cons, List.length_nil, List.replicate, List.set_cons_zero, List.set_cons_succ, Nat.reduceLT, Bool.not_true, Bool.not_false, Int.toNat_natCast, inR, Nat.zero_add, Int.toNat_zero, reduceCtorEq, IntKind.bits, List.nil_append, List.cons_append, Nat.add_zero, Nat.sub_zero, noughts_len, List.map_cons, List.map_nil, zp, zu]) | refine And.intro ?_ (fun hif => (hif trivial).elim) | (intro hif; try (first | contradiction | (exfalso; omega))))
    (first | exact List.prefix_rfl | exact ⟨rfl, List.prefix_rfl⟩ | exact ⟨by simp, List.prefix_rfl⟩)

end Go.Abs
