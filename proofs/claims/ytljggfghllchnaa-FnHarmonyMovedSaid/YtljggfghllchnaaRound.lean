/- A row on a ring that has begun, as the program keeps it: its contracts. Own work; no condition. -/
import Derived.Test.YtljggfghllchnaaImpl3
import Derived.Test.YtljggfghllchnaaSpecH4
set_option maxRecDepth 100000
set_option linter.unusedSimpArgs false
set_option linter.unusedVariables false
namespace Go.Abs
open Go.Proofs
attribute [local irreducible] awp awpOps awpKeep KeepK awpKeepF KeepF aloop ALoop ACalls ACallq AQuiet retPost retPostA AExit.thn AExit.blk aApp aSt aStA

/-! ### Pairs alike -/

theorem mayT_range (net : List Int) : mayT net = 0 ∨ mayT net = 1 := by unfold mayT; split <;> simp
theorem twice_nonneg (row : List Int) : 0 ≤ twice row := sig_nonneg fun i _ => sig_nonneg fun i _ => by split <;> decide
def alike (row : List Int) (n : Int) : Int := sig row.length fun j => if (row.getD j 0) = n then 1 else 0
theorem twice_push (row : List Int) (n : Int) : twice (row ++ [n]) = twice row + alike row n := by
  unfold twice alike
  rw [List.length_append, List.length_cons, List.length_nil, sig_succ]
  congr 1
  · refine sig_congr fun k hk => sig_congr fun j hj => ?_
    rw [push_l row n (by omega : j < row.length), push_l row n (by omega : k < row.length)]
  · refine sig_congr fun j hj => ?_
    rw [push_l row n (by omega : j < row.length), push_at]
theorem alike_zero {row : List Int} {n : Int} (h : ∀ i, i < row.length → (row.getD i 0) ≠ n) : alike row n = 0 := by
  unfold alike
  rw [show (sig row.length fun j => if (row.getD j 0) = n then (1 : Int) else 0) = sig row.length fun _ => 0 from sig_congr fun i hi => if_neg (h i hi), sig_none]
theorem alike_some {row : List Int} {n : Int} {i : Nat} (hi : i < row.length) (h : (row.getD i 0) = n) : 1 ≤ alike row n := by
  have key : ∀ k, i < k → k ≤ row.length → 1 ≤ sig k fun j => if (row.getD j 0) = n then (1 : Int) else 0 := fun k => by
    induction k with
    | zero => intro c _; omega
    | succ k ih =>
      intro c hk
      rw [sig_succ]
      rcases Nat.lt_succ_iff_lt_or_eq.1 c with c | rfl
      · have := ih c (by omega)
        split <;> omega
      · have : 0 ≤ sig i fun j => if (row.getD j 0) = n then (1 : Int) else 0 := sig_nonneg fun i _ => by split <;> decide
        rw [if_pos h]
        omega
  exact key _ hi (Nat.le_refl _)
theorem alike_once {row : List Int} (n : Int) (h : Once row) : alike row n ≤ 1 := by
  have key : ∀ k, k ≤ row.length → (sig k fun j => if (row.getD j 0) = n then (1 : Int) else 0) ≤ 0 ∨ (sig k fun j => if (row.getD j 0) = n then (1 : Int) else 0) ≤ 1 ∧ ∃ i, i < k ∧ (row.getD i 0) = n := fun k => by
    induction k with
    | zero => intro _; exact .inl (Int.le_refl _)
    | succ k ih =>
      intro hk
      rw [sig_succ]
      rcases ih (by omega) with e | ⟨e, i, h1, h2⟩
      · by_cases c : (row.getD k 0) = n
        · rw [if_pos c]; exact .inr ⟨by omega, k, Nat.lt_succ_self _, c⟩
        · rw [if_neg c]; exact .inl (by omega)
      · rw [if_neg fun c => h k (by omega) i h1 (by rw [h2, c])]
        exact .inr ⟨by omega, i, by omega, h2⟩
  unfold alike
  rcases key _ (Nat.le_refl _) with e | e <;> omega

/-- What is left of the pairs, behind a number. -/
def leftP (row : List Int) (p n : Nat) : Nat := if (nums row).testBit n = true then p - 1 else p
theorem pairs_step {net row : List Int} {p n : Nat} (hrow : ∀ i, i < row.length → 0 ≤ (row.getD i 0)) (hp : twice row + (p : Int) = mayT net) :
    (decide (twice (row ++ [(n : Int)]) ≤ mayT net) = decide (¬ ((nums row).testBit n = true ∧ p = 0))) ∧ (¬ ((nums row).testBit n = true ∧ p = 0) → twice (row ++ [(n : Int)]) + (leftP row p n : Int) = mayT net) := by
  have h0 := twice_nonneg row
  have h1 := mayT_range net
  rw [twice_push]
  unfold leftP
  by_cases hb : (nums row).testBit n = true
  · obtain ⟨i, hi, e⟩ := (nums_bit row n).1 hb
    have hs := alike_some hi (show (row.getD i 0) = (n : Int) by have := hrow i hi; omega)
    rw [if_pos hb]
    by_cases hz : p = 0
    · exact ⟨decide_eq_decide.2 ⟨fun h => by omega, fun h => absurd ⟨hb, hz⟩ h⟩, fun h => absurd ⟨hb, hz⟩ h⟩
    · have ho := alike_once (n : Int) (twice_zero (row := row) (by omega))
      exact ⟨decide_eq_decide.2 ⟨fun _ h => hz h.2, fun _ => by omega⟩, fun _ => by omega⟩
  · have hn := alike_zero (nums_new (row := row) (n := n) (Bool.eq_false_iff.2 hb))
    rw [if_neg hb, hn]
    exact ⟨decide_eq_decide.2 ⟨fun _ h => hb h.1, fun _ => by omega⟩, fun _ => by omega⟩
/-! ### The remainders that come with a number -/

noncomputable def remF (net : List Int) (q : Nat) (row : List Int) (n : Int) (came : Nat) (ok : Bool) : Option Nat := if (runH net q row n came ok row.length).2 = true then some (runH net q row n came ok row.length).1 else none
theorem runH_false (net : List Int) (q : Nat) (row : List Int) (n : Int) (came : Nat) {k l : Nat} {ok : Bool} (hkl : k ≤ l) (h : (runH net q row n came ok k).2 = false) : (runH net q row n came ok l).2 = false := by
  cases hc : (runH net q row n came ok l).2 with
  | false => rfl
  | true =>
    obtain ⟨h1, h2⟩ := (runH_ok net q row n came ok l).1 hc
    rw [(runH_ok net q row n came ok k).2 ⟨h1, fun i hi hb => h2 i (by omega) hb⟩] at h
    cases h

/-! ### The row that has begun -/

def roundL (row : List Int) (q p came : Nat) : List Int := [row.getD 0 0, row.getD 1 0, row.getD 2 0, row.getD 3 0, row.getD 4 0, row.getD 5 0, (row.length : Int), (q : Int), (p : Int), (nums row : Int), (came : Int)]
theorem roundL_get (row : List Int) (q p came : Nat) {i : Nat} (h : i < 6) : (roundL row q p came).getD i 0 = (row.getD i 0) := by
  have : i = 0 ∨ i = 1 ∨ i = 2 ∨ i = 3 ∨ i = 4 ∨ i = 5 := by omega
  rcases this with rfl | rfl | rfl | rfl | rfl | rfl <;> rfl
theorem roundL_push (row : List Int) (q p n c0 c : Nat) (h : row.length < 6) : ((((roundL row q p c0).set row.length (n : Int)).set 6 ((row.length : Int) + 1)).set 9 ((nums row ||| 2 ^ n : Nat) : Int)).set 10 (c : Int) = roundL (row ++ [(n : Int)]) q p c := by
  have hn : nums (row ++ [(n : Int)]) = nums row ||| 2 ^ n := by rw [nums, numsFrom_push]; rfl
  have hl : (((row ++ [(n : Int)]).length : Nat) : Int) = (row.length : Int) + 1 := by simp
  unfold roundL
  rw [hn, hl]
  match row, h with
  | [], _ => rfl
  | [_], _ => rfl
  | [_, _], _ => rfl
  | [_, _, _], _ => rfl
  | [_, _, _, _], _ => rfl
  | [_, _, _, _, _], _ => rfl
theorem roundL_six (row : List Int) (q p c : Nat) (n : Int) (h : row.length < 6) : ((roundL row q p c).set row.length n).getD 6 0 = (row.length : Int) := by
  have : row.length = 0 ∨ row.length = 1 ∨ row.length = 2 ∨ row.length = 3 ∨ row.length = 4 ∨ row.length = 5 := by omega
  unfold roundL
  generalize row.length = k at *
  rcases this with rfl | rfl | rfl | rfl | rfl | rfl <;> rfl
theorem roundL_nine (row : List Int) (q p c : Nat) (n x : Int) (h : row.length < 6) : (((roundL row q p c).set row.length n).set 6 x).getD 9 0 = (nums row : Int) := by
  have : row.length = 0 ∨ row.length = 1 ∨ row.length = 2 ∨ row.length = 3 ∨ row.length = 4 ∨ row.length = 5 := by omega
  unfold roundL
  generalize row.length = k at *
  rcases this with rfl | rfl | rfl | rfl | rfl | rfl <;> rfl
theorem roundL_take (row : List Int) (q p c : Nat) (h : row.length ≤ 6) : (roundL row q p c).take row.length = row := by
  match row, h with
  | [], _ => rfl
  | [_], _ => rfl
  | [_, _], _ => rfl
  | [_, _, _], _ => rfl
  | [_, _, _, _], _ => rfl
  | [_, _, _, _, _], _ => rfl
  | [_, _, _, _, _, _], _ => rfl

/-- As a value. -/
def roundX (row : List Int) (q p came : Nat) : XV := .agg ((roundL row q p came).map (AV.int .i64))
theorem roundX_flat (row : List Int) (q p came : Nat) : (roundX row q p came).flat := flats_ints _ _

set_option maxHeartbeats 8000000 in
theorem impl_remaindersWith {s : SV} {net row : List Int} {q p n came : Nat} {m : Heap} (hs : IsInts .i64 m s net) (hN : NetOk net) (hl : row.length < net.length) (hq : 0 < q) (h15 : q ≤ 15) (hn : n < q) (hrow : ∀ i, i < row.length → 0 ≤ (row.getD i 0) ∧ (row.getD i 0) ≤ 15) (hc : came < 32768) :
    AQuiet Try.prog F.impl_remaindersWith [.one (.sl s), roundX row q p came, .one (.int .i64 (n : Int))] m (diffX (remF net q row n came (decide (¬ ((nums row).testBit n = true ∧ p = 0))))) := by
  obtain ⟨ref, off, len⟩ := s
  obtain rfl : len = net.length := hs.1
  have h6 := hN.six
  have hnl := nums_lt fun i hi => (show (row.getD i 0) ≤ 30 by have := hrow i hi; omega)
  have hg0 : ∀ i, i < 6 → (roundL row q p came).getD i 0 = (row.getD i 0) := fun i hi => roundL_get row q p came hi
  have e6 : (roundL row q p came).getD 6 0 = (row.length : Int) := rfl
  have e7 : (roundL row q p came).getD 7 0 = (q : Int) := rfl
  have e8 : (roundL row q p came).getD 8 0 = (p : Int) := rfl
  have e9 : (roundL row q p came).getD 9 0 = (nums row : Int) := rfl
  have e10 : (roundL row q p came).getD 10 0 = (came : Int) := rfl
  have hagg : Vals.ofAgg ((roundL row q p came).map (AV.int .i64)) = .ints .i64 (roundL row q p came) := Vals.ofAgg_ints _ _ _
  have hLl : (roundL row q p came).length = 11 := rfl
  have hml : ((roundL row q p came).map (AV.int .i64)).length = 11 := rfl
  unfold roundX
  generalize roundL row q p came = L at *
  have hs1 := hs.pre (prefix_push m ⟨Ty.impl_begunRound, m.length, true, .ints .i64 L⟩)
  have hat : ∀ i, i < 11 → Heap.at (m ++ [⟨Ty.impl_begunRound, m.length, true, .ints .i64 L⟩]) m.length i = some (.int .i64 (L.getD i 0)) := fun i hi => at_row (get_last _ _) (by simp only [Vals.len]; omega)
  have a6 := hat 6 (by decide)
  have a7 := hat 7 (by decide)
  have a8 := hat 8 (by decide)
  have a9 := hat 9 (by decide)
  have a10 := hat 10 (by decide)
  rw [e6] at a6
  rw [e7] at a7
  rw [e8] at a8
  rw [e9] at a9
  rw [e10] at a10
  refine aqn T.impl_remaindersWith (by rfl) ?_
  have hpm := prefix_push m ⟨Ty.impl_begunRound, m.length, true, .ints .i64 L⟩
  have hM := impl_hasMark (nums row : Int) n (by omega) (by omega) (by omega) (m ++ [⟨Ty.impl_begunRound, m.length, true, .ints .i64 L⟩])
  have hMb : bit (nums row : Int) n = (nums row).testBit n := by unfold bit; rfl
  rw [hMb] at hM
  by_cases hbad : (nums row).testBit n = true ∧ p = 0
  · have hnone : remF net q row n came (decide (¬ ((nums row).testBit n = true ∧ p = 0))) = none := by
      rw [decide_eq_false (fun h => h hbad), remF, if_neg]
      intro h
      have := ((runH_ok net q row n came false row.length).1 h).1
      cases this
    rw [hnone]
    obtain ⟨hb0, hp0⟩ := hbad
    rw [hb0] at hM
    repeat' (first | refine xA ?_ | refine xB ?_ | refine xC ?_ | refine xD ?_ | refine xE ?_ | refine xF ?_ | refine xG ?_ | refine xH ?_ | refine xI rfl ?_ | refine xJ ?_ | refine xK ?_ | refine xL ?_ | refine xM rfl ?_ | refine xN rfl ?_ | refine xO rfl ?_ | (first | refine xP rfl (fun hif => ?_) (fun hif => ?_) | refine xQ rfl (fun hif => ?_) (fun hif => ?_) | refine xR rfl (fun hif => ?_) (fun hif => ?_) | refine xS rfl (fun hif => ?_) (fun hif => ?_)) <;> try (first | contradiction | (exfalso; omega)) | (refine hK _ _ ?_; clear hK K) | rw [hagg] | refine onSome_of a9 ?_ | refine onSome_of a8 ?_ | refine AQuiet.call hM trivial ?_ | (refine And.intro (by first | omega | assumption | (constructor <;> omega)) ?_) | (refine And.intro (fun hif => ?_) (fun hif => ?_) <;> try (first | contradiction | (exfalso; omega))) | ((first | refine xT fun K hK => ?_ | refine xU fun K hK => ?_ | refine yB (fun K hK => ?_) (fun K hK => ?_) | refine xV ?_ | refine yA ?_ | refine xW ?_ | refine xX ?_ | refine xY ?_ | refine xZ ?_) <;> simp only [↓awpOps, ↓awpKeep, ↓awpKeepF, ↓aop, ↓aopQ, ↓abin, ↓aun, ↓onSome_some, ↓Kont_at, ↓KM_at, ↓KV_at, ↓KU_at, refId_row, Frame.ev, Frame.evs, Frame.evOr, Frame.put, Frame.keep, get_nil, get_cons, argFrame, resOf, fillA, Vals.len, Vals.get, Vals.set, Vals.app, Vals.sub, Vals.take, Vals.ofAgg_cons, Vals.ofList, Vals.toInts, Vals.toBools, Vals.toSls, Vals.toStrs, Vals.zeros, Nat.reduceBEq, Nat.reduceAdd, Nat.reduceEqDiff, cond_true, cond_false, Option.map_some, Option.map_none, List.length_cons, List.length_nil, List.replicate, List.set_cons_zero, List.set_cons_succ, Nat.reduceLT, Bool.not_true, Bool.not_false, Int.toNat_natCast, inR, Nat.zero_add, Int.toNat_zero, reduceCtorEq, IntKind.bits, List.nil_append, List.cons_append, Nat.add_zero, Nat.sub_zero, noughts_len, List.map_cons, List.map_nil, zp, zu]) | refine And.intro ?_ (fun hif => (hif trivial).elim) | (intro hif; try (first | contradiction | (exfalso; omega))))
    all_goals first | exact hpm | exact ⟨rfl, hpm⟩
  · rw [decide_eq_true hbad]
    have hcase : ∃ b : Bool, (nums row).testBit n = b ∧ (b = true → ¬ ((p : Int) = 0)) := ⟨_, rfl, fun h hz => hbad ⟨h, by omega⟩⟩
    obtain ⟨b, hb, hbp⟩ := hcase
    rw [hb] at hM
    clear hbad hb hMb
    cases b
    all_goals
      try have hbp := hbp rfl
      repeat' (first | refine xA ?_ | refine xB ?_ | refine xC ?_ | refine xD ?_ | refine xE ?_ | refine xF ?_ | refine xG ?_ | refine xH ?_ | refine xI rfl ?_ | refine xJ ?_ | refine xK ?_ | refine xL ?_ | refine xM rfl ?_ | refine xN rfl ?_ | refine xO rfl ?_ | (first | refine xP rfl (fun hif => ?_) (fun hif => ?_) | refine xQ rfl (fun hif => ?_) (fun hif => ?_) | refine xR rfl (fun hif => ?_) (fun hif => ?_) | refine xS rfl (fun hif => ?_) (fun hif => ?_)) <;> try (first | contradiction | (exfalso; omega)) | (refine hK _ _ ?_; clear hK K) | rw [hagg] | refine onSome_of a9 ?_ | refine onSome_of a8 ?_ | refine onSome_of a10 ?_ | refine AQuiet.call hM trivial ?_ | (refine And.intro (by first | omega | assumption | (constructor <;> omega)) ?_) | (refine And.intro (fun hif => ?_) (fun hif => ?_) <;> try (first | contradiction | (exfalso; omega))) | ((first | refine xT fun K hK => ?_ | refine xU fun K hK => ?_ | refine yB (fun K hK => ?_) (fun K hK => ?_) | refine xV ?_ | refine yA ?_ | refine xW ?_ | refine xX ?_ | refine xY ?_ | refine xZ ?_) <;> simp only [↓awpOps, ↓awpKeep, ↓awpKeepF, ↓aop, ↓aopQ, ↓abin, ↓aun, ↓onSome_some, ↓Kont_at, ↓KM_at, ↓KV_at, ↓KU_at, refId_row, Frame.ev, Frame.evs, Frame.evOr, Frame.put, Frame.keep, get_nil, get_cons, argFrame, resOf, fillA, Vals.len, Vals.get, Vals.set, Vals.app, Vals.sub, Vals.take, Vals.ofAgg_cons, Vals.ofList, Vals.toInts, Vals.toBools, Vals.toSls, Vals.toStrs, Vals.zeros, Nat.reduceBEq, Nat.reduceAdd, Nat.reduceEqDiff, cond_true, cond_false, Option.map_some, Option.map_none, List.length_cons, List.length_nil, List.replicate, List.set_cons_zero, List.set_cons_succ, Nat.reduceLT, Bool.not_true, Bool.not_false, Int.toNat_natCast, inR, Nat.zero_add, Int.toNat_zero, reduceCtorEq, IntKind.bits, List.nil_append, List.cons_append, Nat.add_zero, Nat.sub_zero, noughts_len, List.map_cons, List.map_nil, zp, zu]) | refine And.intro ?_ (fun hif => (hif trivial).elim) | (intro hif; try (first | contradiction | (exfalso; omega))))
      refine awp_loop ?_
      refine ALoop.by [0, 2, 4, 8, 9] (fun k : Nat => [(0, .one (.sl ⟨ref, off, net.length⟩)), (2, .one (.int .i64 n)), (4, .one (.ptr m.length 0)), (8, .one (.int .i64 (runH net q row n came true k).1)), (9, .one (.int .i64 k))]) (fun _ => m ++ [⟨Ty.impl_begunRound, m.length, true, .ints .i64 L⟩]) (fun k => k ≤ row.length ∧ (runH net q row n came true k).2 = true) (fun k => row.length - k) 0 rfl rfl ⟨Nat.zero_le _, rfl⟩ ?_
      rintro k ⟨hk, hf⟩ K1 hK1
      have hlt15 := runH_lt net hq h15 row (n : Int) hc true k
      by_cases hlt : k < row.length
      · have hna := hs1.2 row.length hl
        have hnb := hN.small hl
        have hP := impl_hasPlace ((net.getD row.length 0)) k (by omega) (by omega) (by omega) (m ++ [⟨Ty.impl_begunRound, m.length, true, .ints .i64 L⟩])
        have hrk := hrow k hlt
        have ak := hat k (by omega)
        rw [hg0 k (by omega)] at ak
        have hstep : runH net q row n came true (k + 1) = if bit ((net.getD row.length 0)) k = true then ((runH net q row n came true k).1 ||| 2 ^ rs q ((row.getD k 0)) n, (runH net q row n came true k).2 && !((runH net q row n came true k).1.testBit (rs q ((row.getD k 0)) n))) else runH net q row n came true k := rfl
        have hend : (runH net q row n came true (k + 1)).2 = false → remF net q row n came true = none := fun h => by rw [remF, if_neg]; rw [runH_false net q row n came (by omega) h]; exact Bool.noConfusion
        have hrsn := rs_nat hq ((row.getD k 0)) n
        rw [Int.add_comm] at hrsn
        have hrsl := rs_lt hq ((row.getD k 0)) n
        rw [hf, Bool.true_and] at hstep
        generalize rs q ((row.getD k 0)) n = d at hstep hrsn hrsl
        generalize hR : runH net q row n came true (k + 1) = R at hstep hend
        obtain ⟨c, hcv⟩ : ∃ c, (runH net q row n came true k).1 = c := ⟨_, rfl⟩
        have hM2 := impl_hasMark (c : Int) d (by omega) (by omega) (by omega) (m ++ [⟨Ty.impl_begunRound, m.length, true, .ints .i64 L⟩])
        have hMo := impl_markOf d (by omega) (m ++ [⟨Ty.impl_begunRound, m.length, true, .ints .i64 L⟩])
        have hMb2 : bit (c : Int) d = c.testBit d := by unfold bit; rfl
        rw [hMb2] at hM2
        have hor : borInt .i64 (c : Int) (2 ^ d) = ((c ||| 2 ^ d : Nat) : Int) := by
          rw [pow_nat]
          exact bor_nat _ _ (by omega) (Nat.lt_of_le_of_lt (Nat.pow_le_pow_right (by decide) (show d ≤ 15 by omega)) (by decide))
        rw [hcv] at hstep hlt15
        rw [hcv]
        cases hbk : bit ((net.getD row.length 0)) k with
        | false =>
          rw [hbk] at hP
          rw [hbk, if_neg (by simp)] at hstep
          repeat' (first | refine xA ?_ | refine xB ?_ | refine xC ?_ | refine xD ?_ | refine xE ?_ | refine xF ?_ | refine xG ?_ | refine xH ?_ | refine xI rfl ?_ | refine xJ ?_ | refine xK ?_ | refine xL ?_ | refine xM rfl ?_ | refine xN rfl ?_ | refine xO rfl ?_ | (first | refine xP rfl (fun hif => ?_) (fun hif => ?_) | refine xQ rfl (fun hif => ?_) (fun hif => ?_) | refine xR rfl (fun hif => ?_) (fun hif => ?_) | refine xS rfl (fun hif => ?_) (fun hif => ?_)) <;> try (first | contradiction | (exfalso; omega)) | (refine hK _ _ ?_; clear hK K) | refine onSome_of a6 ?_ | refine onSome_of hna ?_ | refine AQuiet.call hP trivial ?_ | (refine And.intro (by first | omega | assumption | (constructor <;> omega)) ?_) | (refine And.intro (fun hif => ?_) (fun hif => ?_) <;> try (first | contradiction | (exfalso; omega))) | ((first | refine xT fun K hK => ?_ | refine xU fun K hK => ?_ | refine yB (fun K hK => ?_) (fun K hK => ?_) | refine xV ?_ | refine yA ?_ | refine xW ?_ | refine xX ?_ | refine xY ?_ | refine xZ ?_) <;> simp only [↓awpOps, ↓awpKeep, ↓awpKeepF, ↓aop, ↓aopQ, ↓abin, ↓aun, ↓onSome_some, ↓Kont_at, ↓KM_at, ↓KV_at, ↓KU_at, refId_row, Frame.ev, Frame.evs, Frame.evOr, Frame.put, Frame.keep, get_nil, get_cons, argFrame, resOf, fillA, Vals.len, Vals.get, Vals.set, Vals.app, Vals.sub, Vals.take, Vals.ofAgg_cons, Vals.ofList, Vals.toInts, Vals.toBools, Vals.toSls, Vals.toStrs, Vals.zeros, Nat.reduceBEq, Nat.reduceAdd, Nat.reduceEqDiff, cond_true, cond_false, Option.map_some, Option.map_none, List.length_cons, List.length_nil, List.replicate, List.set_cons_zero, List.set_cons_succ, Nat.reduceLT, Bool.not_true, Bool.not_false, Int.toNat_natCast, inR, Nat.zero_add, Int.toNat_zero, reduceCtorEq, IntKind.bits, List.nil_append, List.cons_append, Nat.add_zero, Nat.sub_zero, noughts_len, List.map_cons, List.map_nil, zp, zu]) | refine And.intro ?_ (fun hif => (hif trivial).elim) | (intro hif; try (first | contradiction | (exfalso; omega))))
          all_goals exact hK1 (k + 1) _ _ (by rw [hR, hstep, hcv]; rfl) rfl ⟨by omega, by rw [hR, hstep]; exact hf⟩ (by omega)
        | true =>
          rw [hbk] at hP
          rw [hbk, if_pos rfl] at hstep
          cases htb : c.testBit d with
          | true =>
            rw [htb] at hM2
            rw [htb] at hstep
            rw [hend (by rw [hstep]; rfl)]
            repeat' (first | refine xA ?_ | refine xB ?_ | refine xC ?_ | refine xD ?_ | refine xE ?_ | refine xF ?_ | refine xG ?_ | refine xH ?_ | refine xI rfl ?_ | refine xJ ?_ | refine xK ?_ | refine xL ?_ | refine xM rfl ?_ | refine xN rfl ?_ | refine xO rfl ?_ | (first | refine xP rfl (fun hif => ?_) (fun hif => ?_) | refine xQ rfl (fun hif => ?_) (fun hif => ?_) | refine xR rfl (fun hif => ?_) (fun hif => ?_) | refine xS rfl (fun hif => ?_) (fun hif => ?_)) <;> try (first | contradiction | (exfalso; omega)) | (refine hK _ _ ?_; clear hK K) | refine onSome_of a6 ?_ | refine onSome_of hna ?_ | refine onSome_of ak ?_ | refine onSome_of a7 ?_ | rw [← hrsn] | refine AQuiet.call hP trivial ?_ | refine AQuiet.call hM2 trivial ?_ | (refine And.intro (by first | omega | assumption | (constructor <;> omega)) ?_) | (refine And.intro (fun hif => ?_) (fun hif => ?_) <;> try (first | contradiction | (exfalso; omega))) | ((first | refine xT fun K hK => ?_ | refine xU fun K hK => ?_ | refine yB (fun K hK => ?_) (fun K hK => ?_) | refine xV ?_ | refine yA ?_ | refine xW ?_ | refine xX ?_ | refine xY ?_ | refine xZ ?_) <;> simp only [↓awpOps, ↓awpKeep, ↓awpKeepF, ↓aop, ↓aopQ, ↓abin, ↓aun, ↓onSome_some, ↓Kont_at, ↓KM_at, ↓KV_at, ↓KU_at, refId_row, Frame.ev, Frame.evs, Frame.evOr, Frame.put, Frame.keep, get_nil, get_cons, argFrame, resOf, fillA, Vals.len, Vals.get, Vals.set, Vals.app, Vals.sub, Vals.take, Vals.ofAgg_cons, Vals.ofList, Vals.toInts, Vals.toBools, Vals.toSls, Vals.toStrs, Vals.zeros, Nat.reduceBEq, Nat.reduceAdd, Nat.reduceEqDiff, cond_true, cond_false, Option.map_some, Option.map_none, List.length_cons, List.length_nil, List.replicate, List.set_cons_zero, List.set_cons_succ, Nat.reduceLT, Bool.not_true, Bool.not_false, Int.toNat_natCast, inR, Nat.zero_add, Int.toNat_zero, reduceCtorEq, IntKind.bits, List.nil_append, List.cons_append, Nat.add_zero, Nat.sub_zero, noughts_len, List.map_cons, List.map_nil, zp, zu]) | refine And.intro ?_ (fun hif => (hif trivial).elim) | (intro hif; try (first | contradiction | (exfalso; omega))))
            all_goals first | exact hpm | exact ⟨rfl, hpm⟩
          | false =>
            rw [htb] at hM2
            rw [htb] at hstep
            repeat' (first | refine xA ?_ | refine xB ?_ | refine xC ?_ | refine xD ?_ | refine xE ?_ | refine xF ?_ | refine xG ?_ | refine xH ?_ | refine xI rfl ?_ | refine xJ ?_ | refine xK ?_ | refine xL ?_ | refine xM rfl ?_ | refine xN rfl ?_ | refine xO rfl ?_ | (first | refine xP rfl (fun hif => ?_) (fun hif => ?_) | refine xQ rfl (fun hif => ?_) (fun hif => ?_) | refine xR rfl (fun hif => ?_) (fun hif => ?_) | refine xS rfl (fun hif => ?_) (fun hif => ?_)) <;> try (first | contradiction | (exfalso; omega)) | (refine hK _ _ ?_; clear hK K) | refine onSome_of a6 ?_ | refine onSome_of hna ?_ | refine onSome_of ak ?_ | refine onSome_of a7 ?_ | rw [← hrsn] | refine AQuiet.call hP trivial ?_ | refine AQuiet.call hM2 trivial ?_ | refine AQuiet.call hMo trivial ?_ | rw [hor] | (refine And.intro (by first | omega | assumption | (constructor <;> omega)) ?_) | (refine And.intro (fun hif => ?_) (fun hif => ?_) <;> try (first | contradiction | (exfalso; omega))) | ((first | refine xT fun K hK => ?_ | refine xU fun K hK => ?_ | refine yB (fun K hK => ?_) (fun K hK => ?_) | refine xV ?_ | refine yA ?_ | refine xW ?_ | refine xX ?_ | refine xY ?_ | refine xZ ?_) <;> simp only [↓awpOps, ↓awpKeep, ↓awpKeepF, ↓aop, ↓aopQ, ↓abin, ↓aun, ↓onSome_some, ↓Kont_at, ↓KM_at, ↓KV_at, ↓KU_at, refId_row, Frame.ev, Frame.evs, Frame.evOr, Frame.put, Frame.keep, get_nil, get_cons, argFrame, resOf, fillA, Vals.len, Vals.get, Vals.set, Vals.app, Vals.sub, Vals.take, Vals.ofAgg_cons, Vals.ofList, Vals.toInts, Vals.toBools, Vals.toSls, Vals.toStrs, Vals.zeros, Nat.reduceBEq, Nat.reduceAdd, Nat.reduceEqDiff, cond_true, cond_false, Option.map_some, Option.map_none, List.length_cons, List.length_nil, List.replicate, List.set_cons_zero, List.set_cons_succ, Nat.reduceLT, Bool.not_true, Bool.not_false, Int.toNat_natCast, inR, Nat.zero_add, Int.toNat_zero, reduceCtorEq, IntKind.bits, List.nil_append, List.cons_append, Nat.add_zero, Nat.sub_zero, noughts_len, List.map_cons, List.map_nil, zp, zu]) | refine And.intro ?_ (fun hif => (hif trivial).elim) | (intro hif; try (first | contradiction | (exfalso; omega))))
            all_goals exact hK1 (k + 1) _ _ (by rw [hR, hstep]; rfl) rfl ⟨by omega, by rw [hR, hstep]; rfl⟩ (by omega)
      · obtain rfl : k = row.length := by omega
        have hsome : remF net q row n came true = some (runH net q row n came true row.length).1 := if_pos hf
        rw [hsome]
        repeat' (first | refine xA ?_ | refine xB ?_ | refine xC ?_ | refine xD ?_ | refine xE ?_ | refine xF ?_ | refine xG ?_ | refine xH ?_ | refine xI rfl ?_ | refine xJ ?_ | refine xK ?_ | refine xL ?_ | refine xM rfl ?_ | refine xN rfl ?_ | refine xO rfl ?_ | (first | refine xP rfl (fun hif => ?_) (fun hif => ?_) | refine xQ rfl (fun hif => ?_) (fun hif => ?_) | refine xR rfl (fun hif => ?_) (fun hif => ?_) | refine xS rfl (fun hif => ?_) (fun hif => ?_)) <;> try (first | contradiction | (exfalso; omega)) | (refine hK _ _ ?_; clear hK K) | refine onSome_of a6 ?_ | (refine And.intro (by first | omega | assumption | (constructor <;> omega)) ?_) | (refine And.intro (fun hif => ?_) (fun hif => ?_) <;> try (first | contradiction | (exfalso; omega))) | ((first | refine xT fun K hK => ?_ | refine xU fun K hK => ?_ | refine yB (fun K hK => ?_) (fun K hK => ?_) | refine xV ?_ | refine yA ?_ | refine xW ?_ | refine xX ?_ | refine xY ?_ | refine xZ ?_) <;> simp only [↓awpOps, ↓awpKeep, ↓awpKeepF, ↓aop, ↓aopQ, ↓abin, ↓aun, ↓onSome_some, ↓Kont_at, ↓KM_at, ↓KV_at, ↓KU_at, refId_row, Frame.ev, Frame.evs, Frame.evOr, Frame.put, Frame.keep, get_nil, get_cons, argFrame, resOf, fillA, Vals.len, Vals.get, Vals.set, Vals.app, Vals.sub, Vals.take, Vals.ofAgg_cons, Vals.ofList, Vals.toInts, Vals.toBools, Vals.toSls, Vals.toStrs, Vals.zeros, Nat.reduceBEq, Nat.reduceAdd, Nat.reduceEqDiff, cond_true, cond_false, Option.map_some, Option.map_none, List.length_cons, List.length_nil, List.replicate, List.set_cons_zero, List.set_cons_succ, Nat.reduceLT, Bool.not_true, Bool.not_false, Int.toNat_natCast, inR, Nat.zero_add, Int.toNat_zero, reduceCtorEq, IntKind.bits, List.nil_append, List.cons_append, Nat.add_zero, Nat.sub_zero, noughts_len, List.map_cons, List.map_nil, zp, zu]) | refine And.intro ?_ (fun hif => (hif trivial).elim) | (intro hif; try (first | contradiction | (exfalso; omega))))
        all_goals first | exact hpm | exact ⟨rfl, hpm⟩

set_option maxHeartbeats 8000000 in
theorem impl_withRemainders {row : List Int} {q p n c0 c : Nat} (m : Heap) (hl : row.length < 6) (hn : n ≤ 30) (hp : p ≤ 1) (hrow : ∀ i, i < row.length → 0 ≤ (row.getD i 0) ∧ (row.getD i 0) ≤ 30) (hok : ¬ ((nums row).testBit n = true ∧ p = 0)) :
    AQuiet Try.prog F.impl_withRemainders [roundX row q p c0, .one (.int .i64 (n : Int)), .one (.int .i64 (c : Int))] m (roundX (row ++ [(n : Int)]) q (leftP row p n) c) := by
  delta AQuiet
  refine ACalls.wf fun hwf => ?_
  have hnl := nums_lt fun i hi => (hrow i hi).2
  have e8 : (roundL row q p c0).getD 8 0 = (p : Int) := rfl
  have e9' : (roundL row q p c0).getD 9 0 = (nums row : Int) := rfl
  have hset : (nums row).testBit n = true → (roundL row q p c0).set 8 ((p : Int) - 1) = roundL row q (leftP row p n) c0 := fun h => by
    have : ((p : Int) - 1) = ((p - 1 : Nat) : Int) := by have : ¬ p = 0 := fun z => hok ⟨h, z⟩; omega
    rw [this, leftP, if_pos h]
    rfl
  have hno : ¬ (nums row).testBit n = true → leftP row p n = p := fun h => if_neg h
  have e6 : (roundL row q (leftP row p n) c0).getD 6 0 = (row.length : Int) := rfl
  have e7 := roundL_six row q (leftP row p n) c0 (n : Int) hl
  have e9 := roundL_nine row q (leftP row p n) c0 (n : Int) ((row.length : Int) + 1) hl
  have e10 := roundL_push row q (leftP row p n) n c0 c hl
  have hagg : Vals.ofAgg ((roundL row q p c0).map (AV.int .i64)) = .ints .i64 (roundL row q p c0) := Vals.ofAgg_ints _ _ _
  have hagg2 : Vals.ofAgg ((roundL (row ++ [(n : Int)]) q (leftP row p n) c).map (AV.int .i64)) = .ints .i64 (roundL (row ++ [(n : Int)]) q (leftP row p n) c) := Vals.ofAgg_ints _ _ _
  have hLl : (roundL row q p c0).length = 11 := rfl
  have hml : ((roundL row q p c0).map (AV.int .i64)).length = 11 := rfl
  have hL1 : (roundL row q (leftP row p n) c0).length = 11 := rfl
  have hL2 : (roundL (row ++ [(n : Int)]) q (leftP row p n) c).length = 11 := rfl
  have hm2 : ((roundL (row ++ [(n : Int)]) q (leftP row p n) c).map (AV.int .i64)).length = 11 := rfl
  have hzp : ¬ (nums row).testBit n = true → roundL row q p c0 = roundL row q (leftP row p n) c0 := fun h => by rw [hno h]
  unfold roundX
  generalize roundL row q p c0 = L0 at *
  generalize roundL row q (leftP row p n) c0 = L at *
  generalize roundL (row ++ [(n : Int)]) q (leftP row p n) c = L' at *
  have g0 := Grow.push hwf Ty.impl_begunRound true (.ints .i64 L0)
  have hor : borInt .i64 (nums row : Int) (2 ^ n) = ((nums row ||| 2 ^ n : Nat) : Int) := by
    rw [pow_nat]
    exact bor_nat _ _ (by omega) (Nat.lt_of_le_of_lt (Nat.pow_le_pow_right (by decide) hn) (by decide))
  refine afna T.impl_withRemainders (by rfl) ?_
  have hrow0 : (m ++ [(⟨Ty.impl_begunRound, m.length, true, .ints .i64 L0⟩ : Row)] ++ [⟨Ty.impl_begunRound, List.length (m ++ [(⟨Ty.impl_begunRound, m.length, true, .ints .i64 L0⟩ : Row)]), true, .ints .i64 [0, 0, 0, 0, 0, 0, 0, 0, 0, 0, 0]⟩])[m.length]? = some ⟨Ty.impl_begunRound, m.length, true, .ints .i64 L0⟩ := row_at_push (get_last _ _) _
  have hwf0 := (g0.trans (Grow.push g0.wf Ty.impl_begunRound true (.ints .i64 [0, 0, 0, 0, 0, 0, 0, 0, 0, 0, 0]))).wf
  have hres0 := get_last (m ++ [(⟨Ty.impl_begunRound, m.length, true, .ints .i64 L0⟩ : Row)]) ⟨Ty.impl_begunRound, List.length (m ++ [(⟨Ty.impl_begunRound, m.length, true, .ints .i64 L0⟩ : Row)]), true, .ints .i64 [0, 0, 0, 0, 0, 0, 0, 0, 0, 0, 0]⟩
  have hpre0 : m <+: m ++ [(⟨Ty.impl_begunRound, m.length, true, .ints .i64 L0⟩ : Row)] ++ [⟨Ty.impl_begunRound, List.length (m ++ [(⟨Ty.impl_begunRound, m.length, true, .ints .i64 L0⟩ : Row)]), true, .ints .i64 [0, 0, 0, 0, 0, 0, 0, 0, 0, 0, 0]⟩] := (prefix_push _ _).trans (prefix_push _ _)
  have a9 := at_row hrow0 (off := 9) (by simp only [Vals.len]; omega)
  have a8 := at_row hrow0 (off := 8) (by simp only [Vals.len]; omega)
  simp only [Vals.get, e9', e8] at a9 a8
  have hM := impl_hasMark (nums row : Int) n (by omega) (by omega) (by omega)
  have hMb : bit (nums row : Int) n = (nums row).testBit n := by unfold bit; rfl
  rw [hMb] at hM
  cases hb : (nums row).testBit n with
  | false =>
    rw [hb] at hM
    obtain rfl : L0 = L := hzp (by rw [hb]; exact Bool.noConfusion)
    repeat' (first | refine xA ?_ | refine xB ?_ | refine xC ?_ | refine xD ?_ | refine xE ?_ | refine xF ?_ | refine xG ?_ | refine xH ?_ | refine xI rfl ?_ | refine xJ ?_ | refine xK ?_ | refine xL ?_ | refine xM rfl ?_ | refine xN rfl ?_ | refine xO rfl ?_ | (first | refine xP rfl (fun hif => ?_) (fun hif => ?_) | refine xQ rfl (fun hif => ?_) (fun hif => ?_) | refine xR rfl (fun hif => ?_) (fun hif => ?_) | refine xS rfl (fun hif => ?_) (fun hif => ?_)) <;> try (first | contradiction | (exfalso; omega)) | (refine hK _ _ ?_; clear hK K) | rw [hagg] | refine onSome_of a9 ?_ | refine AQuiet.call (hM _) trivial ?_ | (refine And.intro (by first | omega | assumption | (constructor <;> omega)) ?_) | (refine And.intro (fun hif => ?_) (fun hif => ?_) <;> try (first | contradiction | (exfalso; omega))) | ((first | refine xT fun K hK => ?_ | refine xU fun K hK => ?_ | refine yB (fun K hK => ?_) (fun K hK => ?_) | refine xV ?_ | refine yA ?_ | refine xW ?_ | refine xX ?_ | refine xY ?_ | refine xZ ?_) <;> simp only [↓awpOps, ↓awpKeep, ↓awpKeepF, ↓aop, ↓aopQ, ↓abin, ↓aun, ↓onSome_some, ↓Kont_at, ↓KM_at, ↓KV_at, ↓KU_at, refId_row, Frame.ev, Frame.evs, Frame.evOr, Frame.put, Frame.keep, get_nil, get_cons, argFrame, resOf, fillA, Vals.len, Vals.get, Vals.set, Vals.app, Vals.sub, Vals.take, Vals.ofAgg_cons, Vals.ofList, Vals.toInts, Vals.toBools, Vals.toSls, Vals.toStrs, Vals.zeros, Nat.reduceBEq, Nat.reduceAdd, Nat.reduceEqDiff, cond_true, cond_false, Option.map_some, Option.map_none, List.length_cons, List.length_nil, List.replicate, List.set_cons_zero, List.set_cons_succ, Nat.reduceLT, Bool.not_true, Bool.not_false, Int.toNat_natCast, inR, Nat.zero_add, Int.toNat_zero, reduceCtorEq, IntKind.bits, List.nil_append, List.cons_append, Nat.add_zero, Nat.sub_zero, noughts_len, List.map_cons, List.map_nil, zp, zu]) | refine And.intro ?_ (fun hif => (hif trivial).elim) | (intro hif; try (first | contradiction | (exfalso; omega))))
    have r0 := hrow0
    have hp0 := hpre0
    have a6 := at_row r0 (off := 6) (by simp only [Vals.len, hL1]; omega)
    simp only [Vals.get, e6] at a6
    repeat' (first | refine xA ?_ | refine xB ?_ | refine xC ?_ | refine xD ?_ | refine xE ?_ | refine xF ?_ | refine xG ?_ | refine xH ?_ | refine xI rfl ?_ | refine xJ ?_ | refine xK ?_ | refine xL ?_ | refine xM rfl ?_ | refine xN rfl ?_ | refine xO rfl ?_ | (first | refine xP rfl (fun hif => ?_) (fun hif => ?_) | refine xQ rfl (fun hif => ?_) (fun hif => ?_) | refine xR rfl (fun hif => ?_) (fun hif => ?_) | refine xS rfl (fun hif => ?_) (fun hif => ?_)) <;> try (first | contradiction | (exfalso; omega)) | (refine hK _ _ ?_; clear hK K) | refine onSome_of a6 ?_ | refine st_row hwf0 r0 (by simp only [Vals.len]; omega) rfl fun m1 g1 l1 r1 => ?_ | (refine And.intro (by first | omega | assumption | (constructor <;> omega)) ?_) | (refine And.intro (fun hif => ?_) (fun hif => ?_) <;> try (first | contradiction | (exfalso; omega))) | ((first | refine xT fun K hK => ?_ | refine xU fun K hK => ?_ | refine yB (fun K hK => ?_) (fun K hK => ?_) | refine xV ?_ | refine yA ?_ | refine xW ?_ | refine xX ?_ | refine xY ?_ | refine xZ ?_) <;> simp only [↓awpOps, ↓awpKeep, ↓awpKeepF, ↓aop, ↓aopQ, ↓abin, ↓aun, ↓onSome_some, ↓Kont_at, ↓KM_at, ↓KV_at, ↓KU_at, refId_row, Frame.ev, Frame.evs, Frame.evOr, Frame.put, Frame.keep, get_nil, get_cons, argFrame, resOf, fillA, Vals.len, Vals.get, Vals.set, Vals.app, Vals.sub, Vals.take, Vals.ofAgg_cons, Vals.ofList, Vals.toInts, Vals.toBools, Vals.toSls, Vals.toStrs, Vals.zeros, Nat.reduceBEq, Nat.reduceAdd, Nat.reduceEqDiff, cond_true, cond_false, Option.map_some, Option.map_none, List.length_cons, List.length_nil, List.replicate, List.set_cons_zero, List.set_cons_succ, Nat.reduceLT, Bool.not_true, Bool.not_false, Int.toNat_natCast, inR, Nat.zero_add, Int.toNat_zero, reduceCtorEq, IntKind.bits, List.nil_append, List.cons_append, Nat.add_zero, Nat.sub_zero, noughts_len, List.map_cons, List.map_nil, zp, zu]) | refine And.intro ?_ (fun hif => (hif trivial).elim) | (intro hif; try (first | contradiction | (exfalso; omega))))
    have a6' := at_row r1 (off := 6) (by simp only [Vals.len, List.length_set]; omega)
    simp only [Vals.get, e7] at a6'
    repeat' (first | refine xA ?_ | refine xB ?_ | refine xC ?_ | refine xD ?_ | refine xE ?_ | refine xF ?_ | refine xG ?_ | refine xH ?_ | refine xI rfl ?_ | refine xJ ?_ | refine xK ?_ | refine xL ?_ | refine xM rfl ?_ | refine xN rfl ?_ | refine xO rfl ?_ | (first | refine xP rfl (fun hif => ?_) (fun hif => ?_) | refine xQ rfl (fun hif => ?_) (fun hif => ?_) | refine xR rfl (fun hif => ?_) (fun hif => ?_) | refine xS rfl (fun hif => ?_) (fun hif => ?_)) <;> try (first | contradiction | (exfalso; omega)) | (refine hK _ _ ?_; clear hK K) | refine onSome_of a6' ?_ | refine st_row g1.wf r1 (by simp only [Vals.len, List.length_set]; omega) rfl fun m2 g2 l2 r2 => ?_ | (refine And.intro (by first | omega | assumption | (constructor <;> omega)) ?_) | (refine And.intro (fun hif => ?_) (fun hif => ?_) <;> try (first | contradiction | (exfalso; omega))) | ((first | refine xT fun K hK => ?_ | refine xU fun K hK => ?_ | refine yB (fun K hK => ?_) (fun K hK => ?_) | refine xV ?_ | refine yA ?_ | refine xW ?_ | refine xX ?_ | refine xY ?_ | refine xZ ?_) <;> simp only [↓awpOps, ↓awpKeep, ↓awpKeepF, ↓aop, ↓aopQ, ↓abin, ↓aun, ↓onSome_some, ↓Kont_at, ↓KM_at, ↓KV_at, ↓KU_at, refId_row, Frame.ev, Frame.evs, Frame.evOr, Frame.put, Frame.keep, get_nil, get_cons, argFrame, resOf, fillA, Vals.len, Vals.get, Vals.set, Vals.app, Vals.sub, Vals.take, Vals.ofAgg_cons, Vals.ofList, Vals.toInts, Vals.toBools, Vals.toSls, Vals.toStrs, Vals.zeros, Nat.reduceBEq, Nat.reduceAdd, Nat.reduceEqDiff, cond_true, cond_false, Option.map_some, Option.map_none, List.length_cons, List.length_nil, List.replicate, List.set_cons_zero, List.set_cons_succ, Nat.reduceLT, Bool.not_true, Bool.not_false, Int.toNat_natCast, inR, Nat.zero_add, Int.toNat_zero, reduceCtorEq, IntKind.bits, List.nil_append, List.cons_append, Nat.add_zero, Nat.sub_zero, noughts_len, List.map_cons, List.map_nil, zp, zu]) | refine And.intro ?_ (fun hif => (hif trivial).elim) | (intro hif; try (first | contradiction | (exfalso; omega))))
    have a7 := at_row r2 (off := 9) (by simp only [Vals.len, List.length_set]; omega)
    simp only [Vals.get, e9] at a7
    have hMo := impl_markOf n (by omega) m2
    repeat' (first | refine xA ?_ | refine xB ?_ | refine xC ?_ | refine xD ?_ | refine xE ?_ | refine xF ?_ | refine xG ?_ | refine xH ?_ | refine xI rfl ?_ | refine xJ ?_ | refine xK ?_ | refine xL ?_ | refine xM rfl ?_ | refine xN rfl ?_ | refine xO rfl ?_ | (first | refine xP rfl (fun hif => ?_) (fun hif => ?_) | refine xQ rfl (fun hif => ?_) (fun hif => ?_) | refine xR rfl (fun hif => ?_) (fun hif => ?_) | refine xS rfl (fun hif => ?_) (fun hif => ?_)) <;> try (first | contradiction | (exfalso; omega)) | (refine hK _ _ ?_; clear hK K) | refine onSome_of a7 ?_ | refine AQuiet.callq hMo trivial ?_ | rw [hor] | refine st_row g2.wf r2 (by simp only [Vals.len, List.length_set]; omega) rfl fun m3 g3 l3 r3 => ?_ | (refine And.intro (by first | omega | assumption | (constructor <;> omega)) ?_) | (refine And.intro (fun hif => ?_) (fun hif => ?_) <;> try (first | contradiction | (exfalso; omega))) | ((first | refine xT fun K hK => ?_ | refine xU fun K hK => ?_ | refine yB (fun K hK => ?_) (fun K hK => ?_) | refine xV ?_ | refine yA ?_ | refine xW ?_ | refine xX ?_ | refine xY ?_ | refine xZ ?_) <;> simp only [↓awpOps, ↓awpKeep, ↓awpKeepF, ↓aop, ↓aopQ, ↓abin, ↓aun, ↓onSome_some, ↓Kont_at, ↓KM_at, ↓KV_at, ↓KU_at, refId_row, Frame.ev, Frame.evs, Frame.evOr, Frame.put, Frame.keep, get_nil, get_cons, argFrame, resOf, fillA, Vals.len, Vals.get, Vals.set, Vals.app, Vals.sub, Vals.take, Vals.ofAgg_cons, Vals.ofList, Vals.toInts, Vals.toBools, Vals.toSls, Vals.toStrs, Vals.zeros, Nat.reduceBEq, Nat.reduceAdd, Nat.reduceEqDiff, cond_true, cond_false, Option.map_some, Option.map_none, List.length_cons, List.length_nil, List.replicate, List.set_cons_zero, List.set_cons_succ, Nat.reduceLT, Bool.not_true, Bool.not_false, Int.toNat_natCast, inR, Nat.zero_add, Int.toNat_zero, reduceCtorEq, IntKind.bits, List.nil_append, List.cons_append, Nat.add_zero, Nat.sub_zero, noughts_len, List.map_cons, List.map_nil, zp, zu]) | refine And.intro ?_ (fun hif => (hif trivial).elim) | (intro hif; try (first | contradiction | (exfalso; omega))))
    repeat' (first | refine xA ?_ | refine xB ?_ | refine xC ?_ | refine xD ?_ | refine xE ?_ | refine xF ?_ | refine xG ?_ | refine xH ?_ | refine xI rfl ?_ | refine xJ ?_ | refine xK ?_ | refine xL ?_ | refine xM rfl ?_ | refine xN rfl ?_ | refine xO rfl ?_ | (first | refine xP rfl (fun hif => ?_) (fun hif => ?_) | refine xQ rfl (fun hif => ?_) (fun hif => ?_) | refine xR rfl (fun hif => ?_) (fun hif => ?_) | refine xS rfl (fun hif => ?_) (fun hif => ?_)) <;> try (first | contradiction | (exfalso; omega)) | (refine hK _ _ ?_; clear hK K) | refine st_row g3.wf r3 (by simp only [Vals.len, List.length_set]; omega) rfl fun m4 g4 l4 r4 => ?_ | (refine And.intro (by first | omega | assumption | (constructor <;> omega)) ?_) | (refine And.intro (fun hif => ?_) (fun hif => ?_) <;> try (first | contradiction | (exfalso; omega))) | ((first | refine xT fun K hK => ?_ | refine xU fun K hK => ?_ | refine yB (fun K hK => ?_) (fun K hK => ?_) | refine xV ?_ | refine yA ?_ | refine xW ?_ | refine xX ?_ | refine xY ?_ | refine xZ ?_) <;> simp only [↓awpOps, ↓awpKeep, ↓awpKeepF, ↓aop, ↓aopQ, ↓abin, ↓aun, ↓onSome_some, ↓Kont_at, ↓KM_at, ↓KV_at, ↓KU_at, refId_row, Frame.ev, Frame.evs, Frame.evOr, Frame.put, Frame.keep, get_nil, get_cons, argFrame, resOf, fillA, Vals.len, Vals.get, Vals.set, Vals.app, Vals.sub, Vals.take, Vals.ofAgg_cons, Vals.ofList, Vals.toInts, Vals.toBools, Vals.toSls, Vals.toStrs, Vals.zeros, Nat.reduceBEq, Nat.reduceAdd, Nat.reduceEqDiff, cond_true, cond_false, Option.map_some, Option.map_none, List.length_cons, List.length_nil, List.replicate, List.set_cons_zero, List.set_cons_succ, Nat.reduceLT, Bool.not_true, Bool.not_false, Int.toNat_natCast, inR, Nat.zero_add, Int.toNat_zero, reduceCtorEq, IntKind.bits, List.nil_append, List.cons_append, Nat.add_zero, Nat.sub_zero, noughts_len, List.map_cons, List.map_nil, zp, zu]) | refine And.intro ?_ (fun hif => (hif trivial).elim) | (intro hif; try (first | contradiction | (exfalso; omega))))
    rw [e10] at r4
    have hcc := cells_ints r4 hL2.symm
    have hres := g4.keep _ _ (g3.keep _ _ (g2.keep _ _ (g1.keep _ _ hres0 (by simp)) (by simp)) (by simp)) (by simp)
    have hp9 := g4.pre (g3.pre (g2.pre (g1.pre hp0 hwf (Nat.le_refl _)) hwf (Nat.le_refl _)) hwf (Nat.le_refl _)) hwf (Nat.le_refl _)
    repeat' (first | refine xA ?_ | refine xB ?_ | refine xC ?_ | refine xD ?_ | refine xE ?_ | refine xF ?_ | refine xG ?_ | refine xH ?_ | refine xI rfl ?_ | refine xJ ?_ | refine xK ?_ | refine xL ?_ | refine xM rfl ?_ | refine xN rfl ?_ | refine xO rfl ?_ | (first | refine xP rfl (fun hif => ?_) (fun hif => ?_) | refine xQ rfl (fun hif => ?_) (fun hif => ?_) | refine xR rfl (fun hif => ?_) (fun hif => ?_) | refine xS rfl (fun hif => ?_) (fun hif => ?_)) <;> try (first | contradiction | (exfalso; omega)) | (refine hK _ _ ?_; clear hK K) | refine onCells_of hcc ?_ | refine st_agg g4.wf hres hm2.symm rfl hagg2 fun m9 g9 l9 r9 => ?_ | refine ret_agg rfl (cells_ints r9 hL2.symm) ?_ | (refine And.intro (by first | omega | assumption | (constructor <;> omega)) ?_) | (refine And.intro (fun hif => ?_) (fun hif => ?_) <;> try (first | contradiction | (exfalso; omega))) | ((first | refine xT fun K hK => ?_ | refine xU fun K hK => ?_ | refine yB (fun K hK => ?_) (fun K hK => ?_) | refine xV ?_ | refine yA ?_ | refine xW ?_ | refine xX ?_ | refine xY ?_ | refine xZ ?_) <;> simp only [↓awpOps, ↓awpKeep, ↓awpKeepF, ↓aop, ↓aopQ, ↓abin, ↓aun, ↓onSome_some, ↓Kont_at, ↓KM_at, ↓KV_at, ↓KU_at, refId_row, Frame.ev, Frame.evs, Frame.evOr, Frame.put, Frame.keep, get_nil, get_cons, argFrame, resOf, fillA, Vals.len, Vals.get, Vals.set, Vals.app, Vals.sub, Vals.take, Vals.ofAgg_cons, Vals.ofList, Vals.toInts, Vals.toBools, Vals.toSls, Vals.toStrs, Vals.zeros, Nat.reduceBEq, Nat.reduceAdd, Nat.reduceEqDiff, cond_true, cond_false, Option.map_some, Option.map_none, List.length_cons, List.length_nil, List.replicate, List.set_cons_zero, List.set_cons_succ, Nat.reduceLT, Bool.not_true, Bool.not_false, Int.toNat_natCast, inR, Nat.zero_add, Int.toNat_zero, reduceCtorEq, IntKind.bits, List.nil_append, List.cons_append, Nat.add_zero, Nat.sub_zero, noughts_len, List.map_cons, List.map_nil, zp, zu]) | refine And.intro ?_ (fun hif => (hif trivial).elim) | (intro hif; try (first | contradiction | (exfalso; omega))))
    first | exact g9.pre hp9 hwf (by simp) | exact ⟨rfl, g9.pre hp9 hwf (by simp)⟩
  | true =>
    rw [hb] at hM
    have hset := hset hb
    repeat' (first | refine xA ?_ | refine xB ?_ | refine xC ?_ | refine xD ?_ | refine xE ?_ | refine xF ?_ | refine xG ?_ | refine xH ?_ | refine xI rfl ?_ | refine xJ ?_ | refine xK ?_ | refine xL ?_ | refine xM rfl ?_ | refine xN rfl ?_ | refine xO rfl ?_ | (first | refine xP rfl (fun hif => ?_) (fun hif => ?_) | refine xQ rfl (fun hif => ?_) (fun hif => ?_) | refine xR rfl (fun hif => ?_) (fun hif => ?_) | refine xS rfl (fun hif => ?_) (fun hif => ?_)) <;> try (first | contradiction | (exfalso; omega)) | (refine hK _ _ ?_; clear hK K) | rw [hagg] | refine onSome_of a9 ?_ | refine onSome_of a8 ?_ | refine AQuiet.call (hM _) trivial ?_ | refine st_row hwf0 hrow0 (by simp only [Vals.len]; omega) rfl fun m1 g1 l1 r1 => ?_ | (refine And.intro (by first | omega | assumption | (constructor <;> omega)) ?_) | (refine And.intro (fun hif => ?_) (fun hif => ?_) <;> try (first | contradiction | (exfalso; omega))) | ((first | refine xT fun K hK => ?_ | refine xU fun K hK => ?_ | refine yB (fun K hK => ?_) (fun K hK => ?_) | refine xV ?_ | refine yA ?_ | refine xW ?_ | refine xX ?_ | refine xY ?_ | refine xZ ?_) <;> simp only [↓awpOps, ↓awpKeep, ↓awpKeepF, ↓aop, ↓aopQ, ↓abin, ↓aun, ↓onSome_some, ↓Kont_at, ↓KM_at, ↓KV_at, ↓KU_at, refId_row, Frame.ev, Frame.evs, Frame.evOr, Frame.put, Frame.keep, get_nil, get_cons, argFrame, resOf, fillA, Vals.len, Vals.get, Vals.set, Vals.app, Vals.sub, Vals.take, Vals.ofAgg_cons, Vals.ofList, Vals.toInts, Vals.toBools, Vals.toSls, Vals.toStrs, Vals.zeros, Nat.reduceBEq, Nat.reduceAdd, Nat.reduceEqDiff, cond_true, cond_false, Option.map_some, Option.map_none, List.length_cons, List.length_nil, List.replicate, List.set_cons_zero, List.set_cons_succ, Nat.reduceLT, Bool.not_true, Bool.not_false, Int.toNat_natCast, inR, Nat.zero_add, Int.toNat_zero, reduceCtorEq, IntKind.bits, List.nil_append, List.cons_append, Nat.add_zero, Nat.sub_zero, noughts_len, List.map_cons, List.map_nil, zp, zu]) | refine And.intro ?_ (fun hif => (hif trivial).elim) | (intro hif; try (first | contradiction | (exfalso; omega))))
    rw [hset] at r1
    have hwf1 := g1.wf
    have hres1 := g1.keep _ _ hres0 (by simp)
    have hp1 := g1.pre hpre0 hwf (Nat.le_refl _)
    have a6 := at_row r1 (off := 6) (by simp only [Vals.len, hL1]; omega)
    simp only [Vals.get, e6] at a6
    repeat' (first | refine xA ?_ | refine xB ?_ | refine xC ?_ | refine xD ?_ | refine xE ?_ | refine xF ?_ | refine xG ?_ | refine xH ?_ | refine xI rfl ?_ | refine xJ ?_ | refine xK ?_ | refine xL ?_ | refine xM rfl ?_ | refine xN rfl ?_ | refine xO rfl ?_ | (first | refine xP rfl (fun hif => ?_) (fun hif => ?_) | refine xQ rfl (fun hif => ?_) (fun hif => ?_) | refine xR rfl (fun hif => ?_) (fun hif => ?_) | refine xS rfl (fun hif => ?_) (fun hif => ?_)) <;> try (first | contradiction | (exfalso; omega)) | (refine hK _ _ ?_; clear hK K) | refine onSome_of a6 ?_ | refine st_row hwf1 r1 (by simp only [Vals.len]; omega) rfl fun m2 g2 l2 r2 => ?_ | (refine And.intro (by first | omega | assumption | (constructor <;> omega)) ?_) | (refine And.intro (fun hif => ?_) (fun hif => ?_) <;> try (first | contradiction | (exfalso; omega))) | ((first | refine xT fun K hK => ?_ | refine xU fun K hK => ?_ | refine yB (fun K hK => ?_) (fun K hK => ?_) | refine xV ?_ | refine yA ?_ | refine xW ?_ | refine xX ?_ | refine xY ?_ | refine xZ ?_) <;> simp only [↓awpOps, ↓awpKeep, ↓awpKeepF, ↓aop, ↓aopQ, ↓abin, ↓aun, ↓onSome_some, ↓Kont_at, ↓KM_at, ↓KV_at, ↓KU_at, refId_row, Frame.ev, Frame.evs, Frame.evOr, Frame.put, Frame.keep, get_nil, get_cons, argFrame, resOf, fillA, Vals.len, Vals.get, Vals.set, Vals.app, Vals.sub, Vals.take, Vals.ofAgg_cons, Vals.ofList, Vals.toInts, Vals.toBools, Vals.toSls, Vals.toStrs, Vals.zeros, Nat.reduceBEq, Nat.reduceAdd, Nat.reduceEqDiff, cond_true, cond_false, Option.map_some, Option.map_none, List.length_cons, List.length_nil, List.replicate, List.set_cons_zero, List.set_cons_succ, Nat.reduceLT, Bool.not_true, Bool.not_false, Int.toNat_natCast, inR, Nat.zero_add, Int.toNat_zero, reduceCtorEq, IntKind.bits, List.nil_append, List.cons_append, Nat.add_zero, Nat.sub_zero, noughts_len, List.map_cons, List.map_nil, zp, zu]) | refine And.intro ?_ (fun hif => (hif trivial).elim) | (intro hif; try (first | contradiction | (exfalso; omega))))
    have a6' := at_row r2 (off := 6) (by simp only [Vals.len, List.length_set]; omega)
    simp only [Vals.get, e7] at a6'
    repeat' (first | refine xA ?_ | refine xB ?_ | refine xC ?_ | refine xD ?_ | refine xE ?_ | refine xF ?_ | refine xG ?_ | refine xH ?_ | refine xI rfl ?_ | refine xJ ?_ | refine xK ?_ | refine xL ?_ | refine xM rfl ?_ | refine xN rfl ?_ | refine xO rfl ?_ | (first | refine xP rfl (fun hif => ?_) (fun hif => ?_) | refine xQ rfl (fun hif => ?_) (fun hif => ?_) | refine xR rfl (fun hif => ?_) (fun hif => ?_) | refine xS rfl (fun hif => ?_) (fun hif => ?_)) <;> try (first | contradiction | (exfalso; omega)) | (refine hK _ _ ?_; clear hK K) | refine onSome_of a6' ?_ | refine st_row g2.wf r2 (by simp only [Vals.len, List.length_set]; omega) rfl fun m3 g3 l3 r3 => ?_ | (refine And.intro (by first | omega | assumption | (constructor <;> omega)) ?_) | (refine And.intro (fun hif => ?_) (fun hif => ?_) <;> try (first | contradiction | (exfalso; omega))) | ((first | refine xT fun K hK => ?_ | refine xU fun K hK => ?_ | refine yB (fun K hK => ?_) (fun K hK => ?_) | refine xV ?_ | refine yA ?_ | refine xW ?_ | refine xX ?_ | refine xY ?_ | refine xZ ?_) <;> simp only [↓awpOps, ↓awpKeep, ↓awpKeepF, ↓aop, ↓aopQ, ↓abin, ↓aun, ↓onSome_some, ↓Kont_at, ↓KM_at, ↓KV_at, ↓KU_at, refId_row, Frame.ev, Frame.evs, Frame.evOr, Frame.put, Frame.keep, get_nil, get_cons, argFrame, resOf, fillA, Vals.len, Vals.get, Vals.set, Vals.app, Vals.sub, Vals.take, Vals.ofAgg_cons, Vals.ofList, Vals.toInts, Vals.toBools, Vals.toSls, Vals.toStrs, Vals.zeros, Nat.reduceBEq, Nat.reduceAdd, Nat.reduceEqDiff, cond_true, cond_false, Option.map_some, Option.map_none, List.length_cons, List.length_nil, List.replicate, List.set_cons_zero, List.set_cons_succ, Nat.reduceLT, Bool.not_true, Bool.not_false, Int.toNat_natCast, inR, Nat.zero_add, Int.toNat_zero, reduceCtorEq, IntKind.bits, List.nil_append, List.cons_append, Nat.add_zero, Nat.sub_zero, noughts_len, List.map_cons, List.map_nil, zp, zu]) | refine And.intro ?_ (fun hif => (hif trivial).elim) | (intro hif; try (first | contradiction | (exfalso; omega))))
    have a7 := at_row r3 (off := 9) (by simp only [Vals.len, List.length_set]; omega)
    simp only [Vals.get, e9] at a7
    have hMo := impl_markOf n (by omega) m3
    repeat' (first | refine xA ?_ | refine xB ?_ | refine xC ?_ | refine xD ?_ | refine xE ?_ | refine xF ?_ | refine xG ?_ | refine xH ?_ | refine xI rfl ?_ | refine xJ ?_ | refine xK ?_ | refine xL ?_ | refine xM rfl ?_ | refine xN rfl ?_ | refine xO rfl ?_ | (first | refine xP rfl (fun hif => ?_) (fun hif => ?_) | refine xQ rfl (fun hif => ?_) (fun hif => ?_) | refine xR rfl (fun hif => ?_) (fun hif => ?_) | refine xS rfl (fun hif => ?_) (fun hif => ?_)) <;> try (first | contradiction | (exfalso; omega)) | (refine hK _ _ ?_; clear hK K) | refine onSome_of a7 ?_ | refine AQuiet.callq hMo trivial ?_ | rw [hor] | refine st_row g3.wf r3 (by simp only [Vals.len, List.length_set]; omega) rfl fun m4 g4 l4 r4 => ?_ | (refine And.intro (by first | omega | assumption | (constructor <;> omega)) ?_) | (refine And.intro (fun hif => ?_) (fun hif => ?_) <;> try (first | contradiction | (exfalso; omega))) | ((first | refine xT fun K hK => ?_ | refine xU fun K hK => ?_ | refine yB (fun K hK => ?_) (fun K hK => ?_) | refine xV ?_ | refine yA ?_ | refine xW ?_ | refine xX ?_ | refine xY ?_ | refine xZ ?_) <;> simp only [↓awpOps, ↓awpKeep, ↓awpKeepF, ↓aop, ↓aopQ, ↓abin, ↓aun, ↓onSome_some, ↓Kont_at, ↓KM_at, ↓KV_at, ↓KU_at, refId_row, Frame.ev, Frame.evs, Frame.evOr, Frame.put, Frame.keep, get_nil, get_cons, argFrame, resOf, fillA, Vals.len, Vals.get, Vals.set, Vals.app, Vals.sub, Vals.take, Vals.ofAgg_cons, Vals.ofList, Vals.toInts, Vals.toBools, Vals.toSls, Vals.toStrs, Vals.zeros, Nat.reduceBEq, Nat.reduceAdd, Nat.reduceEqDiff, cond_true, cond_false, Option.map_some, Option.map_none, List.length_cons, List.length_nil, List.replicate, List.set_cons_zero, List.set_cons_succ, Nat.reduceLT, Bool.not_true, Bool.not_false, Int.toNat_natCast, inR, Nat.zero_add, Int.toNat_zero, reduceCtorEq, IntKind.bits, List.nil_append, List.cons_append, Nat.add_zero, Nat.sub_zero, noughts_len, List.map_cons, List.map_nil, zp, zu]) | refine And.intro ?_ (fun hif => (hif trivial).elim) | (intro hif; try (first | contradiction | (exfalso; omega))))
    repeat' (first | refine xA ?_ | refine xB ?_ | refine xC ?_ | refine xD ?_ | refine xE ?_ | refine xF ?_ | refine xG ?_ | refine xH ?_ | refine xI rfl ?_ | refine xJ ?_ | refine xK ?_ | refine xL ?_ | refine xM rfl ?_ | refine xN rfl ?_ | refine xO rfl ?_ | (first | refine xP rfl (fun hif => ?_) (fun hif => ?_) | refine xQ rfl (fun hif => ?_) (fun hif => ?_) | refine xR rfl (fun hif => ?_) (fun hif => ?_) | refine xS rfl (fun hif => ?_) (fun hif => ?_)) <;> try (first | contradiction | (exfalso; omega)) | (refine hK _ _ ?_; clear hK K) | refine st_row g4.wf r4 (by simp only [Vals.len, List.length_set]; omega) rfl fun m5 g5 l5 r5 => ?_ | (refine And.intro (by first | omega | assumption | (constructor <;> omega)) ?_) | (refine And.intro (fun hif => ?_) (fun hif => ?_) <;> try (first | contradiction | (exfalso; omega))) | ((first | refine xT fun K hK => ?_ | refine xU fun K hK => ?_ | refine yB (fun K hK => ?_) (fun K hK => ?_) | refine xV ?_ | refine yA ?_ | refine xW ?_ | refine xX ?_ | refine xY ?_ | refine xZ ?_) <;> simp only [↓awpOps, ↓awpKeep, ↓awpKeepF, ↓aop, ↓aopQ, ↓abin, ↓aun, ↓onSome_some, ↓Kont_at, ↓KM_at, ↓KV_at, ↓KU_at, refId_row, Frame.ev, Frame.evs, Frame.evOr, Frame.put, Frame.keep, get_nil, get_cons, argFrame, resOf, fillA, Vals.len, Vals.get, Vals.set, Vals.app, Vals.sub, Vals.take, Vals.ofAgg_cons, Vals.ofList, Vals.toInts, Vals.toBools, Vals.toSls, Vals.toStrs, Vals.zeros, Nat.reduceBEq, Nat.reduceAdd, Nat.reduceEqDiff, cond_true, cond_false, Option.map_some, Option.map_none, List.length_cons, List.length_nil, List.replicate, List.set_cons_zero, List.set_cons_succ, Nat.reduceLT, Bool.not_true, Bool.not_false, Int.toNat_natCast, inR, Nat.zero_add, Int.toNat_zero, reduceCtorEq, IntKind.bits, List.nil_append, List.cons_append, Nat.add_zero, Nat.sub_zero, noughts_len, List.map_cons, List.map_nil, zp, zu]) | refine And.intro ?_ (fun hif => (hif trivial).elim) | (intro hif; try (first | contradiction | (exfalso; omega))))
    rw [e10] at r5
    have hcc := cells_ints r5 hL2.symm
    have hres := g5.keep _ _ (g4.keep _ _ (g3.keep _ _ (g2.keep _ _ hres1 (by simp)) (by simp)) (by simp)) (by simp)
    have hp9 := g5.pre (g4.pre (g3.pre (g2.pre hp1 hwf (Nat.le_refl _)) hwf (Nat.le_refl _)) hwf (Nat.le_refl _)) hwf (Nat.le_refl _)
    repeat' (first | refine xA ?_ | refine xB ?_ | refine xC ?_ | refine xD ?_ | refine xE ?_ | refine xF ?_ | refine xG ?_ | refine xH ?_ | refine xI rfl ?_ | refine xJ ?_ | refine xK ?_ | refine xL ?_ | refine xM rfl ?_ | refine xN rfl ?_ | refine xO rfl ?_ | (first | refine xP rfl (fun hif => ?_) (fun hif => ?_) | refine xQ rfl (fun hif => ?_) (fun hif => ?_) | refine xR rfl (fun hif => ?_) (fun hif => ?_) | refine xS rfl (fun hif => ?_) (fun hif => ?_)) <;> try (first | contradiction | (exfalso; omega)) | (refine hK _ _ ?_; clear hK K) | refine onCells_of hcc ?_ | refine st_agg g5.wf hres hm2.symm rfl hagg2 fun m9 g9 l9 r9 => ?_ | refine ret_agg rfl (cells_ints r9 hL2.symm) ?_ | (refine And.intro (by first | omega | assumption | (constructor <;> omega)) ?_) | (refine And.intro (fun hif => ?_) (fun hif => ?_) <;> try (first | contradiction | (exfalso; omega))) | ((first | refine xT fun K hK => ?_ | refine xU fun K hK => ?_ | refine yB (fun K hK => ?_) (fun K hK => ?_) | refine xV ?_ | refine yA ?_ | refine xW ?_ | refine xX ?_ | refine xY ?_ | refine xZ ?_) <;> simp only [↓awpOps, ↓awpKeep, ↓awpKeepF, ↓aop, ↓aopQ, ↓abin, ↓aun, ↓onSome_some, ↓Kont_at, ↓KM_at, ↓KV_at, ↓KU_at, refId_row, Frame.ev, Frame.evs, Frame.evOr, Frame.put, Frame.keep, get_nil, get_cons, argFrame, resOf, fillA, Vals.len, Vals.get, Vals.set, Vals.app, Vals.sub, Vals.take, Vals.ofAgg_cons, Vals.ofList, Vals.toInts, Vals.toBools, Vals.toSls, Vals.toStrs, Vals.zeros, Nat.reduceBEq, Nat.reduceAdd, Nat.reduceEqDiff, cond_true, cond_false, Option.map_some, Option.map_none, List.length_cons, List.length_nil, List.replicate, List.set_cons_zero, List.set_cons_succ, Nat.reduceLT, Bool.not_true, Bool.not_false, Int.toNat_natCast, inR, Nat.zero_add, Int.toNat_zero, reduceCtorEq, IntKind.bits, List.nil_append, List.cons_append, Nat.add_zero, Nat.sub_zero, noughts_len, List.map_cons, List.map_nil, zp, zu]) | refine And.intro ?_ (fun hif => (hif trivial).elim) | (intro hif; try (first | contradiction | (exfalso; omega))))
    first | exact g9.pre hp9 hwf (by simp) | exact ⟨rfl, g9.pre hp9 hwf (by simp)⟩

end Go.Abs
