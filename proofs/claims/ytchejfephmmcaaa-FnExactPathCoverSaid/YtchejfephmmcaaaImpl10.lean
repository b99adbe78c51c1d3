/- The program's tenth chapter, by contracts. Own work; no condition. -/
import Derived.Test.YtchejfephmmcaaaChan6
import Derived.Test.YtchejfephmmcaaaCover1
import Derived.Test.YtchejfephmmcaaaImpl9
import Derived.Test.YtchejfephmmcaaaSpecG2
set_option maxRecDepth 100000
set_option linter.unusedSimpArgs false
set_option linter.unusedVariables false
namespace Go.Abs
open Go.Proofs
attribute [local irreducible] awp awpOps awpKeep KeepK awpKeepF KeepF aloop ALoop ACalls ACallq AQuiet retPost retPostA AExit.thn AExit.blk aApp aSt aStA
open Parts

theorem first_short (net : List Int) : (chanFirst net).length ≤ 1048576 := by
  by_cases h : NetOk net
  · rw [(chanFirst_is h).1.len]; have := h.six; omega
  · rw [chanFirst, if_neg h]; simp
theorem greedy_short (net row : List Int) : (greedy net row).length ≤ 1048576 := by
  by_cases h : OrdOk net row
  · rw [(greedy_use h).2.1]; have := h.ok.six; omega
  · rw [greedy, if_neg h]; simp
theorem other_short (net : List Int) : (other net).length ≤ 1048576 := by
  by_cases h : NetOk net
  · rw [other_len h]; have := h.six; omega
  · rw [other, if_neg h]; simp

/-! ### What fits beside the places ahead -/

theorem land_com {net : List Int} (hN : NetOk net) {a b : Nat} (ha : a < net.length) (hb : b < net.length) : Nat.land (nrow net a) (nrow net b) ≠ 0 ↔ Com net a b := by
  have tb : ∀ k, (Nat.land (nrow net a) (nrow net b)).testBit k = ((nrow net a).testBit k && (nrow net b).testBit k) := fun k => Nat.testBit_and _ _ k
  constructor
  · intro h
    refine Classical.byContradiction fun c => h ?_
    refine Nat.eq_of_testBit_eq fun k => ?_
    rw [tb, Nat.zero_testBit]
    by_cases hk : k < net.length
    · cases h1 : (nrow net a).testBit k with
      | false => rfl
      | true =>
        cases h2 : (nrow net b).testBit k with
        | false => rfl
        | true => exact absurd ⟨k, hk, by rw [bit_nrow]; exact h1, by rw [hN.sym hk hb, bit_nrow]; exact h2⟩ c
    · rw [Nat.testBit_lt_two_pow (Nat.lt_of_lt_of_le (nrow_high hN ha) (Nat.pow_le_pow_right (by decide) (by omega)))]
      rfl
  · rintro ⟨k, hk, h1, h2⟩ e
    rw [hN.sym hk hb, bit_nrow] at h2
    rw [bit_nrow] at h1
    have := tb k
    rw [e, h1, h2, Nat.zero_testBit] at this
    cases this

/-- By how much the channels of two places differ at least. -/
def apart (net : List Int) (a b : Nat) : Int := if bit ((net.getD a 0)) b = true then 2 else if Nat.land (nrow net a) (nrow net b) ≠ 0 then 1 else 0
theorem apart_iff {net : List Int} (hN : NetOk net) {p k : Nat} (hp : p < net.length) (hk : k < net.length) (v r : Int) : ¬ dist v r < apart net p k ↔ ((bit ((net.getD p 0)) k = true → ¬ (-2 < r - v ∧ r - v < 2)) ∧ (Com net p k → r ≠ v)) := by
  have hc := land_com hN hp hk
  unfold apart dist
  by_cases hb : bit ((net.getD p 0)) k = true
  · rw [if_pos hb]
    constructor
    · intro h
      exact ⟨fun _ => by split at h <;> omega, fun _ e => by split at h <;> omega⟩
    · rintro ⟨h, _⟩
      have := h hb
      split <;> omega
  · rw [if_neg hb]
    by_cases hl : Nat.land (nrow net p) (nrow net k) ≠ 0
    · rw [if_pos hl]
      constructor
      · intro h
        exact ⟨fun c => absurd c hb, fun _ e => by split at h <;> omega⟩
      · rintro ⟨_, h⟩
        have := h (hc.1 hl)
        split <;> omega
    · rw [if_neg hl]
      constructor
      · intro _
        exact ⟨fun c => absurd c hb, fun c => absurd (hc.2 c) hl⟩
      · intro _
        split <;> omega
theorem fit_push (net row : List Int) (v : Int) : Fit net (row ++ [v]) (2 ^ row.length - 1) row.length v ↔ Fit net row (2 ^ row.length - 1) row.length v := by
  constructor
  · intro h k hk hG hkp
    have hkr : k < row.length := by rw [Nat.testBit_two_pow_sub_one] at hG; exact of_decide_eq_true hG
    have := h k hk hG hkp
    rw [push_l _ _ hkr] at this
    exact this
  · intro h k hk hG hkp
    have hkr : k < row.length := by rw [Nat.testBit_two_pow_sub_one] at hG; exact of_decide_eq_true hG
    rw [push_l _ _ hkr]
    exact h k hk hG hkp
theorem take_get {x : List Int} {n k : Nat} (h : k < n) : (x.take n).getD k 0 = (x.getD k 0) := by
  simp only [List.getD_eq_getElem?_getD, List.getElem?_take]
  rw [if_pos h]
theorem ch_fit {net x : List Int} {t : Int} (hx : Ch net x t) {p : Nat} (hp : p < net.length) : Fit net (x.take p) (2 ^ p - 1) p ((x.getD p 0)) := fun k hk hG hkp => by
  have hkr : k < p := by rw [Nat.testBit_two_pow_sub_one] at hG; exact of_decide_eq_true hG
  rw [take_get hkr]
  constructor
  · intro hb
    have := hx.near p k hp hk (Ne.symm hkp) hb
    omega
  · intro hc e
    exact hx.com p k hp hk (Ne.symm hkp) hc e.symm
theorem PCh.all {net row : List Int} (hN : NetOk net) (hl : row.length = net.length) (h : PCh net row 30) : ChOk net row :=
  ⟨hN, hl, fun k hk => h.low k (by omega), fun a b ha hb => h.near a b (by omega) (by omega), fun a b ha hb => h.com a b (by omega) (by omega)⟩

/-! ### The channels begun -/

def chanL (row : List Int) (G : Nat) : List Int := [row.getD 0 0, row.getD 1 0, row.getD 2 0, row.getD 3 0, row.getD 4 0, row.getD 5 0, (G : Int)]
theorem chanL_get (row : List Int) (G : Nat) {i : Nat} (h : i < 6) : (chanL row G).getD i 0 = (row.getD i 0) := by
  have : i = 0 ∨ i = 1 ∨ i = 2 ∨ i = 3 ∨ i = 4 ∨ i = 5 := by omega
  rcases this with rfl | rfl | rfl | rfl | rfl | rfl <;> rfl
theorem chanL_six (row : List Int) (G : Nat) (v : Int) {p : Nat} (h : p < 6) : ((chanL row G).set p v).getD 6 0 = (G : Int) := by
  have : p = 0 ∨ p = 1 ∨ p = 2 ∨ p = 3 ∨ p = 4 ∨ p = 5 := by omega
  rcases this with rfl | rfl | rfl | rfl | rfl | rfl <;> rfl
theorem chanL_push (row : List Int) (v : Int) (G x : Nat) (h : row.length < 6) : ((chanL row G).set row.length v).set 6 (x : Int) = chanL (row ++ [v]) x := by
  match row, h with
  | [], _ => rfl
  | [_], _ => rfl
  | [_, _], _ => rfl
  | [_, _, _], _ => rfl
  | [_, _, _, _], _ => rfl
  | [_, _, _, _, _], _ => rfl
theorem chanL_set (row : List Int) (v : Int) (G x : Nat) {p : Nat} (hp : p < row.length) (h : p < 6) : ((chanL row G).set p v).set 6 (x : Int) = chanL (row.set p v) x := by
  unfold chanL
  simp only [set_get hp]
  have : p = 0 ∨ p = 1 ∨ p = 2 ∨ p = 3 ∨ p = 4 ∨ p = 5 := by omega
  clear hp h
  rcases this with rfl | rfl | rfl | rfl | rfl | rfl <;> rfl
theorem chanL_take (row : List Int) (G : Nat) (h : row.length ≤ 6) : (chanL row G).take row.length = row := by
  match row, h with
  | [], _ => rfl
  | [_], _ => rfl
  | [_, _], _ => rfl
  | [_, _, _], _ => rfl
  | [_, _, _, _], _ => rfl
  | [_, _, _, _, _], _ => rfl
  | [_, _, _, _, _, _], _ => rfl
theorem full_next : ∀ r, r < 6 → (2 ^ r - 1 ||| 2 ^ r) = 2 ^ (r + 1) - 1 := by decide
theorem full_own (r : Nat) : (2 ^ r - 1).testBit r = false := by rw [Nat.testBit_two_pow_sub_one]; exact decide_eq_false (Nat.lt_irrefl _)

/-- As a value. -/
def chanX (row : List Int) (G : Nat) : XV := .agg ((chanL row G).map (AV.int .i64))
theorem chanX_flat (row : List Int) (G : Nat) : (chanX row G).flat := flats_ints _ _

/-! ### One more place -/

theorem impl_leastApart {s : SV} {net : List Int} {a b : Nat} {m : Heap} (hs : IsInts .i64 m s net) (hN : NetOk net) (ha : a < net.length) (hb : b < net.length) : AQuiet Try.prog F.impl_leastApart [.one (.sl s), .one (.int .i64 (a : Int)), .one (.int .i64 (b : Int))] m (.one (.int .i64 (apart net a b))) := by
  obtain ⟨ref, off, len⟩ := s
  obtain rfl : len = net.length := hs.1
  have h6 := hN.six
  have hna := hs.2 a ha
  have hnb := hs.2 b hb
  have hsa := hN.small ha
  have hP := impl_hasPlace ((net.getD a 0)) b (by omega) (by omega) (by omega) m
  have hband : bandInt .i64 ((net.getD a 0)) ((net.getD b 0)) = ((Nat.land (nrow net a) (nrow net b) : Nat) : Int) := by
    rw [nrow_int hN ha, nrow_int hN hb]
    exact band_land (nrow_lt hN _) (nrow_lt hN _)
  unfold apart
  refine aqn T.impl_leastApart (by rfl) ?_
  generalize Nat.land (nrow net a) (nrow net b) = w at *
  cases hb1 : bit ((net.getD a 0)) b with
  | true =>
    rw [hb1] at hP
    rw [if_pos rfl]
    repeat' (first | refine xA ?_ | refine xB ?_ | refine xC ?_ | refine xD ?_ | refine xE ?_ | refine xF ?_ | refine xG ?_ | refine xH ?_ | refine xI rfl ?_ | refine xJ ?_ | refine xK ?_ | refine xL ?_ | refine xM rfl ?_ | refine xN rfl ?_ | refine xO rfl ?_ | (first | refine xP rfl (fun hif => ?_) (fun hif => ?_) | refine xQ rfl (fun hif => ?_) (fun hif => ?_) | refine xR rfl (fun hif => ?_) (fun hif => ?_) | refine xS rfl (fun hif => ?_) (fun hif => ?_)) <;> try (first | contradiction | (exfalso; omega)) | (refine hK _ _ ?_; clear hK K) | refine onSome_of hna ?_ | refine AQuiet.call hP trivial ?_ | (refine And.intro (by first | omega | assumption | (constructor <;> omega)) ?_) | (refine And.intro (fun hif => ?_) (fun hif => ?_) <;> try (first | contradiction | (exfalso; omega))) | ((first | refine xT fun K hK => ?_ | refine xU fun K hK => ?_ | refine yB (fun K hK => ?_) (fun K hK => ?_) | refine xV ?_ | refine yA ?_ | refine xW ?_ | refine xX ?_ | refine xY ?_ | refine xZ ?_) <;> simp only [↓awpOps, ↓awpKeep, ↓awpKeepF, ↓aop, ↓aopQ, ↓abin, ↓aun, ↓onSome_some, ↓Kont_at, ↓KM_at, ↓KV_at, ↓KU_at, refId_row, Frame.ev, Frame.evs, Frame.evOr, Frame.put, Frame.keep, get_nil, get_cons, argFrame, resOf, fillA, Vals.len, Vals.get, Vals.set, Vals.app, Vals.sub, Vals.take, Vals.ofAgg_cons, Vals.ofList, Vals.toInts, Vals.toBools, Vals.toSls, Vals.toStrs, Vals.zeros, Nat.reduceBEq, Nat.reduceAdd, Nat.reduceEqDiff, cond_true, cond_false, Option.map_some, Option.map_none, List.length_cons, List.length_nil, List.replicate, List.set_cons_zero, List.set_cons_succ, Nat.reduceLT, Bool.not_true, Bool.not_false, Int.toNat_natCast, inR, Nat.zero_add, Int.toNat_zero, reduceCtorEq, IntKind.bits, List.nil_append, List.cons_append, Nat.add_zero, Nat.sub_zero, noughts_len, List.map_cons, List.map_nil, zp, zu]) | refine And.intro ?_ (fun hif => (hif trivial).elim) | (intro hif; try (first | contradiction | (exfalso; omega))))
    all_goals (first | exact List.prefix_rfl | exact ⟨rfl, List.prefix_rfl⟩ | exact ⟨by simp, List.prefix_rfl⟩)
  | false =>
    rw [hb1] at hP
    rw [if_neg (by decide)]
    by_cases hl : w = 0
    · rw [if_neg fun c => c hl]
      subst hl
      repeat' (first | refine xA ?_ | refine xB ?_ | refine xC ?_ | refine xD ?_ | refine xE ?_ | refine xF ?_ | refine xG ?_ | refine xH ?_ | refine xI rfl ?_ | refine xJ ?_ | refine xK ?_ | refine xL ?_ | refine xM rfl ?_ | refine xN rfl ?_ | refine xO rfl ?_ | (first | refine xP rfl (fun hif => ?_) (fun hif => ?_) | refine xQ rfl (fun hif => ?_) (fun hif => ?_) | refine xR rfl (fun hif => ?_) (fun hif => ?_) | refine xS rfl (fun hif => ?_) (fun hif => ?_)) <;> try (first | contradiction | (exfalso; omega)) | (refine hK _ _ ?_; clear hK K) | refine onSome_of hna ?_ | refine onSome_of hnb ?_ | refine AQuiet.call hP trivial ?_ | rw [hband] | (refine And.intro (by first | omega | assumption | (constructor <;> omega)) ?_) | (refine And.intro (fun hif => ?_) (fun hif => ?_) <;> try (first | contradiction | (exfalso; omega))) | ((first | refine xT fun K hK => ?_ | refine xU fun K hK => ?_ | refine yB (fun K hK => ?_) (fun K hK => ?_) | refine xV ?_ | refine yA ?_ | refine xW ?_ | refine xX ?_ | refine xY ?_ | refine xZ ?_) <;> simp only [↓awpOps, ↓awpKeep, ↓awpKeepF, ↓aop, ↓aopQ, ↓abin, ↓aun, ↓onSome_some, ↓Kont_at, ↓KM_at, ↓KV_at, ↓KU_at, refId_row, Frame.ev, Frame.evs, Frame.evOr, Frame.put, Frame.keep, get_nil, get_cons, argFrame, resOf, fillA, Vals.len, Vals.get, Vals.set, Vals.app, Vals.sub, Vals.take, Vals.ofAgg_cons, Vals.ofList, Vals.toInts, Vals.toBools, Vals.toSls, Vals.toStrs, Vals.zeros, Nat.reduceBEq, Nat.reduceAdd, Nat.reduceEqDiff, cond_true, cond_false, Option.map_some, Option.map_none, List.length_cons, List.length_nil, List.replicate, List.set_cons_zero, List.set_cons_succ, Nat.reduceLT, Bool.not_true, Bool.not_false, Int.toNat_natCast, inR, Nat.zero_add, Int.toNat_zero, reduceCtorEq, IntKind.bits, List.nil_append, List.cons_append, Nat.add_zero, Nat.sub_zero, noughts_len, List.map_cons, List.map_nil, zp, zu]) | refine And.intro ?_ (fun hif => (hif trivial).elim) | (intro hif; try (first | contradiction | (exfalso; omega))))
      all_goals (first | exact List.prefix_rfl | exact ⟨rfl, List.prefix_rfl⟩ | exact ⟨by simp, List.prefix_rfl⟩)
    · rw [if_pos hl]
      repeat' (first | refine xA ?_ | refine xB ?_ | refine xC ?_ | refine xD ?_ | refine xE ?_ | refine xF ?_ | refine xG ?_ | refine xH ?_ | refine xI rfl ?_ | refine xJ ?_ | refine xK ?_ | refine xL ?_ | refine xM rfl ?_ | refine xN rfl ?_ | refine xO rfl ?_ | (first | refine xP rfl (fun hif => ?_) (fun hif => ?_) | refine xQ rfl (fun hif => ?_) (fun hif => ?_) | refine xR rfl (fun hif => ?_) (fun hif => ?_) | refine xS rfl (fun hif => ?_) (fun hif => ?_)) <;> try (first | contradiction | (exfalso; omega)) | (refine hK _ _ ?_; clear hK K) | refine onSome_of hna ?_ | refine onSome_of hnb ?_ | refine AQuiet.call hP trivial ?_ | rw [hband] | (refine And.intro (by first | omega | assumption | (constructor <;> omega)) ?_) | (refine And.intro (fun hif => ?_) (fun hif => ?_) <;> try (first | contradiction | (exfalso; omega))) | ((first | refine xT fun K hK => ?_ | refine xU fun K hK => ?_ | refine yB (fun K hK => ?_) (fun K hK => ?_) | refine xV ?_ | refine yA ?_ | refine xW ?_ | refine xX ?_ | refine xY ?_ | refine xZ ?_) <;> simp only [↓awpOps, ↓awpKeep, ↓awpKeepF, ↓aop, ↓aopQ, ↓abin, ↓aun, ↓onSome_some, ↓Kont_at, ↓KM_at, ↓KV_at, ↓KU_at, refId_row, Frame.ev, Frame.evs, Frame.evOr, Frame.put, Frame.keep, get_nil, get_cons, argFrame, resOf, fillA, Vals.len, Vals.get, Vals.set, Vals.app, Vals.sub, Vals.take, Vals.ofAgg_cons, Vals.ofList, Vals.toInts, Vals.toBools, Vals.toSls, Vals.toStrs, Vals.zeros, Nat.reduceBEq, Nat.reduceAdd, Nat.reduceEqDiff, cond_true, cond_false, Option.map_some, Option.map_none, List.length_cons, List.length_nil, List.replicate, List.set_cons_zero, List.set_cons_succ, Nat.reduceLT, Bool.not_true, Bool.not_false, Int.toNat_natCast, inR, Nat.zero_add, Int.toNat_zero, reduceCtorEq, IntKind.bits, List.nil_append, List.cons_append, Nat.add_zero, Nat.sub_zero, noughts_len, List.map_cons, List.map_nil, zp, zu]) | refine And.intro ?_ (fun hif => (hif trivial).elim) | (intro hif; try (first | contradiction | (exfalso; omega))))
      all_goals (first | exact List.prefix_rfl | exact ⟨rfl, List.prefix_rfl⟩ | exact ⟨by simp, List.prefix_rfl⟩)

set_option maxHeartbeats 4000000 in
theorem impl_withChannel {row row2 : List Int} {G p : Nat} {v : Int} (m : Heap) (hp : p < 6) (hG : G < 64) (h : ((chanL row G).set p v).set 6 ((G ||| 2 ^ p : Nat) : Int) = chanL row2 (G ||| 2 ^ p)) :
    AQuiet Try.prog F.impl_withChannel [chanX row G, .one (.int .i64 (p : Int)), .one (.int .i64 v)] m (chanX row2 (G ||| 2 ^ p)) := by
  delta AQuiet
  refine ACalls.wf fun hwf => ?_
  have e6 := chanL_six row G v hp
  have hagg : Vals.ofAgg ((chanL row G).map (AV.int .i64)) = .ints .i64 (chanL row G) := Vals.ofAgg_ints _ _ _
  have hagg2 : Vals.ofAgg ((chanL row2 (G ||| 2 ^ p)).map (AV.int .i64)) = .ints .i64 (chanL row2 (G ||| 2 ^ p)) := Vals.ofAgg_ints _ _ _
  have hLl : (chanL row G).length = 7 := rfl
  have hml : ((chanL row G).map (AV.int .i64)).length = 7 := rfl
  have hL2 : (chanL row2 (G ||| 2 ^ p)).length = 7 := rfl
  have hm2 : ((chanL row2 (G ||| 2 ^ p)).map (AV.int .i64)).length = 7 := rfl
  have hor : borInt .i64 (G : Int) (2 ^ p) = ((G ||| 2 ^ p : Nat) : Int) := by
    have := pow_lt64 hp
    rw [pow_nat]
    exact bor_nat _ _ (by omega) (by omega)
  unfold chanX
  generalize chanL row G = L at *
  generalize chanL row2 (G ||| 2 ^ p) = L' at *
  generalize G ||| 2 ^ p = G' at *
  have g0 := Grow.push hwf Ty.impl_begunChannels true (.ints .i64 L)
  refine afna T.impl_withChannel (by rfl) ?_
  have hrow0 : (m ++ [(⟨Ty.impl_begunChannels, m.length, true, .ints .i64 L⟩ : Row)] ++ [⟨Ty.impl_begunChannels, List.length (m ++ [(⟨Ty.impl_begunChannels, m.length, true, .ints .i64 L⟩ : Row)]), true, .ints .i64 [0, 0, 0, 0, 0, 0, 0]⟩])[m.length]? = some ⟨Ty.impl_begunChannels, m.length, true, .ints .i64 L⟩ := row_at_push (get_last _ _) _
  have hwf0 := (g0.trans (Grow.push g0.wf Ty.impl_begunChannels true (.ints .i64 [0, 0, 0, 0, 0, 0, 0]))).wf
  have hres0 := get_last (m ++ [(⟨Ty.impl_begunChannels, m.length, true, .ints .i64 L⟩ : Row)]) ⟨Ty.impl_begunChannels, List.length (m ++ [(⟨Ty.impl_begunChannels, m.length, true, .ints .i64 L⟩ : Row)]), true, .ints .i64 [0, 0, 0, 0, 0, 0, 0]⟩
  have hpre0 : m <+: m ++ [(⟨Ty.impl_begunChannels, m.length, true, .ints .i64 L⟩ : Row)] ++ [⟨Ty.impl_begunChannels, List.length (m ++ [(⟨Ty.impl_begunChannels, m.length, true, .ints .i64 L⟩ : Row)]), true, .ints .i64 [0, 0, 0, 0, 0, 0, 0]⟩] := (prefix_push _ _).trans (prefix_push _ _)
  repeat' (first | refine xA ?_ | refine xB ?_ | refine xC ?_ | refine xD ?_ | refine xE ?_ | refine xF ?_ | refine xG ?_ | refine xH ?_ | refine xI rfl ?_ | refine xJ ?_ | refine xK ?_ | refine xL ?_ | refine xM rfl ?_ | refine xN rfl ?_ | refine xO rfl ?_ | (first | refine xP rfl (fun hif => ?_) (fun hif => ?_) | refine xQ rfl (fun hif => ?_) (fun hif => ?_) | refine xR rfl (fun hif => ?_) (fun hif => ?_) | refine xS rfl (fun hif => ?_) (fun hif => ?_)) <;> try (first | contradiction | (exfalso; omega)) | (refine hK _ _ ?_; clear hK K) | rw [hagg] | refine st_row hwf0 hrow0 (by simp only [Vals.len]; omega) rfl fun m1 g1 l1 r1 => ?_ | (refine And.intro (by first | omega | assumption | (constructor <;> omega)) ?_) | (refine And.intro (fun hif => ?_) (fun hif => ?_) <;> try (first | contradiction | (exfalso; omega))) | ((first | refine xT fun K hK => ?_ | refine xU fun K hK => ?_ | refine yB (fun K hK => ?_) (fun K hK => ?_) | refine xV ?_ | refine yA ?_ | refine xW ?_ | refine xX ?_ | refine xY ?_ | refine xZ ?_) <;> simp only [↓awpOps, ↓awpKeep, ↓awpKeepF, ↓aop, ↓aopQ, ↓abin, ↓aun, ↓onSome_some, ↓Kont_at, ↓KM_at, ↓KV_at, ↓KU_at, refId_row, Frame.ev, Frame.evs, Frame.evOr, Frame.put, Frame.keep, get_nil, get_cons, argFrame, resOf, fillA, Vals.len, Vals.get, Vals.set, Vals.app, Vals.sub, Vals.take, Vals.ofAgg_cons, Vals.ofList, Vals.toInts, Vals.toBools, Vals.toSls, Vals.toStrs, Vals.zeros, Nat.reduceBEq, Nat.reduceAdd, Nat.reduceEqDiff, cond_true, cond_false, Option.map_some, Option.map_none, List.length_cons, List.length_nil, List.replicate, List.set_cons_zero, List.set_cons_succ, Nat.reduceLT, Bool.not_true, Bool.not_false, Int.toNat_natCast, inR, Nat.zero_add, Int.toNat_zero, reduceCtorEq, IntKind.bits, List.nil_append, List.cons_append, Nat.add_zero, Nat.sub_zero, noughts_len, List.map_cons, List.map_nil, zp, zu]) | refine And.intro ?_ (fun hif => (hif trivial).elim) | (intro hif; try (first | contradiction | (exfalso; omega))))
  have a6 := at_row r1 (off := 6) (by simp only [Vals.len, List.length_set]; omega)
  simp only [Vals.get, e6] at a6
  have hPs := impl_placeSet p (by omega) m1
  repeat' (first | refine xA ?_ | refine xB ?_ | refine xC ?_ | refine xD ?_ | refine xE ?_ | refine xF ?_ | refine xG ?_ | refine xH ?_ | refine xI rfl ?_ | refine xJ ?_ | refine xK ?_ | refine xL ?_ | refine xM rfl ?_ | refine xN rfl ?_ | refine xO rfl ?_ | (first | refine xP rfl (fun hif => ?_) (fun hif => ?_) | refine xQ rfl (fun hif => ?_) (fun hif => ?_) | refine xR rfl (fun hif => ?_) (fun hif => ?_) | refine xS rfl (fun hif => ?_) (fun hif => ?_)) <;> try (first | contradiction | (exfalso; omega)) | (refine hK _ _ ?_; clear hK K) | refine onSome_of a6 ?_ | refine AQuiet.call hPs trivial ?_ | refine AQuiet.callq hPs trivial ?_ | rw [hor] | refine st_row g1.wf r1 (by simp only [Vals.len, List.length_set]; omega) rfl fun m2 g2 l2 r2 => ?_ | (refine And.intro (by first | omega | assumption | (constructor <;> omega)) ?_) | (refine And.intro (fun hif => ?_) (fun hif => ?_) <;> try (first | contradiction | (exfalso; omega))) | ((first | refine xT fun K hK => ?_ | refine xU fun K hK => ?_ | refine yB (fun K hK => ?_) (fun K hK => ?_) | refine xV ?_ | refine yA ?_ | refine xW ?_ | refine xX ?_ | refine xY ?_ | refine xZ ?_) <;> simp only [↓awpOps, ↓awpKeep, ↓awpKeepF, ↓aop, ↓aopQ, ↓abin, ↓aun, ↓onSome_some, ↓Kont_at, ↓KM_at, ↓KV_at, ↓KU_at, refId_row, Frame.ev, Frame.evs, Frame.evOr, Frame.put, Frame.keep, get_nil, get_cons, argFrame, resOf, fillA, Vals.len, Vals.get, Vals.set, Vals.app, Vals.sub, Vals.take, Vals.ofAgg_cons, Vals.ofList, Vals.toInts, Vals.toBools, Vals.toSls, Vals.toStrs, Vals.zeros, Nat.reduceBEq, Nat.reduceAdd, Nat.reduceEqDiff, cond_true, cond_false, Option.map_some, Option.map_none, List.length_cons, List.length_nil, List.replicate, List.set_cons_zero, List.set_cons_succ, Nat.reduceLT, Bool.not_true, Bool.not_false, Int.toNat_natCast, inR, Nat.zero_add, Int.toNat_zero, reduceCtorEq, IntKind.bits, List.nil_append, List.cons_append, Nat.add_zero, Nat.sub_zero, noughts_len, List.map_cons, List.map_nil, zp, zu]) | refine And.intro ?_ (fun hif => (hif trivial).elim) | (intro hif; try (first | contradiction | (exfalso; omega))))
  rw [h] at r2
  have hc := cells_ints r2 hL2.symm
  have hres := g2.keep _ _ (g1.keep _ _ hres0 (by simp)) (by simp)
  have hp2 := g2.pre (g1.pre hpre0 hwf (Nat.le_refl _)) hwf (Nat.le_refl _)
  repeat' (first | refine xA ?_ | refine xB ?_ | refine xC ?_ | refine xD ?_ | refine xE ?_ | refine xF ?_ | refine xG ?_ | refine xH ?_ | refine xI rfl ?_ | refine xJ ?_ | refine xK ?_ | refine xL ?_ | refine xM rfl ?_ | refine xN rfl ?_ | refine xO rfl ?_ | (first | refine xP rfl (fun hif => ?_) (fun hif => ?_) | refine xQ rfl (fun hif => ?_) (fun hif => ?_) | refine xR rfl (fun hif => ?_) (fun hif => ?_) | refine xS rfl (fun hif => ?_) (fun hif => ?_)) <;> try (first | contradiction | (exfalso; omega)) | (refine hK _ _ ?_; clear hK K) | refine onCells_of hc ?_ | refine st_agg g2.wf hres hm2.symm rfl hagg2 fun m5 g5 l5 r5 => ?_ | refine ret_agg rfl (cells_ints r5 hL2.symm) ?_ | (refine And.intro (by first | omega | assumption | (constructor <;> omega)) ?_) | (refine And.intro (fun hif => ?_) (fun hif => ?_) <;> try (first | contradiction | (exfalso; omega))) | ((first | refine xT fun K hK => ?_ | refine xU fun K hK => ?_ | refine yB (fun K hK => ?_) (fun K hK => ?_) | refine xV ?_ | refine yA ?_ | refine xW ?_ | refine xX ?_ | refine xY ?_ | refine xZ ?_) <;> simp only [↓awpOps, ↓awpKeep, ↓awpKeepF, ↓aop, ↓aopQ, ↓abin, ↓aun, ↓onSome_some, ↓Kont_at, ↓KM_at, ↓KV_at, ↓KU_at, refId_row, Frame.ev, Frame.evs, Frame.evOr, Frame.put, Frame.keep, get_nil, get_cons, argFrame, resOf, fillA, Vals.len, Vals.get, Vals.set, Vals.app, Vals.sub, Vals.take, Vals.ofAgg_cons, Vals.ofList, Vals.toInts, Vals.toBools, Vals.toSls, Vals.toStrs, Vals.zeros, Nat.reduceBEq, Nat.reduceAdd, Nat.reduceEqDiff, cond_true, cond_false, Option.map_some, Option.map_none, List.length_cons, List.length_nil, List.replicate, List.set_cons_zero, List.set_cons_succ, Nat.reduceLT, Bool.not_true, Bool.not_false, Int.toNat_natCast, inR, Nat.zero_add, Int.toNat_zero, reduceCtorEq, IntKind.bits, List.nil_append, List.cons_append, Nat.add_zero, Nat.sub_zero, noughts_len, List.map_cons, List.map_nil, zp, zu]) | refine And.intro ?_ (fun hif => (hif trivial).elim) | (intro hif; try (first | contradiction | (exfalso; omega))))
  first | exact g5.pre hp2 hwf (by simp) | exact ⟨rfl, g5.pre hp2 hwf (by simp)⟩

set_option maxHeartbeats 8000000 in
theorem impl_fitsIn {s : SV} {net row : List Int} {G p : Nat} {v : Int} {m : Heap} (hs : IsInts .i64 m s net) (hN : NetOk net) (hp : p < net.length) (hG : G < 64) (hGp : G.testBit p = false) (hv : 0 ≤ v ∧ v ≤ 30) (hr : ∀ k, k < net.length → G.testBit k = true → 0 ≤ (row.getD k 0) ∧ (row.getD k 0) ≤ 30) :
    AQuiet Try.prog F.impl_fitsIn [.one (.sl s), chanX row G, .one (.int .i64 (p : Int)), .one (.int .i64 v)] m (.one (.bool (decide (Fit net row G p v)))) := by
  obtain ⟨ref, off, len⟩ := s
  obtain rfl : len = net.length := hs.1
  have h6 := hN.six
  have hg0 : ∀ i, i < 6 → (chanL row G).getD i 0 = (row.getD i 0) := fun i hi => chanL_get row G hi
  have e6 : (chanL row G).getD 6 0 = (G : Int) := rfl
  have hagg : Vals.ofAgg ((chanL row G).map (AV.int .i64)) = .ints .i64 (chanL row G) := Vals.ofAgg_ints _ _ _
  have hLl : (chanL row G).length = 7 := rfl
  have hml : ((chanL row G).map (AV.int .i64)).length = 7 := rfl
  unfold chanX
  generalize chanL row G = L at *
  have hpm := prefix_push m ⟨Ty.impl_begunChannels, m.length, true, .ints .i64 L⟩
  have hs1 := hs.pre hpm
  have hat : ∀ i, i < 7 → Heap.at (m ++ [⟨Ty.impl_begunChannels, m.length, true, .ints .i64 L⟩]) m.length i = some (.int .i64 (L.getD i 0)) := fun i hi => at_row (get_last _ _) (by simp only [Vals.len]; omega)
  have a6 := hat 6 (by decide)
  rw [e6] at a6
  refine aqn T.impl_fitsIn (by rfl) ?_
  repeat' (first | refine xA ?_ | refine xB ?_ | refine xC ?_ | refine xD ?_ | refine xE ?_ | refine xF ?_ | refine xG ?_ | refine xH ?_ | refine xI rfl ?_ | refine xJ ?_ | refine xK ?_ | refine xL ?_ | refine xM rfl ?_ | refine xN rfl ?_ | refine xO rfl ?_ | (first | refine xP rfl (fun hif => ?_) (fun hif => ?_) | refine xQ rfl (fun hif => ?_) (fun hif => ?_) | refine xR rfl (fun hif => ?_) (fun hif => ?_) | refine xS rfl (fun hif => ?_) (fun hif => ?_)) <;> try (first | contradiction | (exfalso; omega)) | (refine hK _ _ ?_; clear hK K) | rw [hagg] | (refine And.intro (by first | omega | assumption | (constructor <;> omega)) ?_) | (refine And.intro (fun hif => ?_) (fun hif => ?_) <;> try (first | contradiction | (exfalso; omega))) | ((first | refine xT fun K hK => ?_ | refine xU fun K hK => ?_ | refine yB (fun K hK => ?_) (fun K hK => ?_) | refine xV ?_ | refine yA ?_ | refine xW ?_ | refine xX ?_ | refine xY ?_ | refine xZ ?_) <;> simp only [↓awpOps, ↓awpKeep, ↓awpKeepF, ↓aop, ↓aopQ, ↓abin, ↓aun, ↓onSome_some, ↓Kont_at, ↓KM_at, ↓KV_at, ↓KU_at, refId_row, Frame.ev, Frame.evs, Frame.evOr, Frame.put, Frame.keep, get_nil, get_cons, argFrame, resOf, fillA, Vals.len, Vals.get, Vals.set, Vals.app, Vals.sub, Vals.take, Vals.ofAgg_cons, Vals.ofList, Vals.toInts, Vals.toBools, Vals.toSls, Vals.toStrs, Vals.zeros, Nat.reduceBEq, Nat.reduceAdd, Nat.reduceEqDiff, cond_true, cond_false, Option.map_some, Option.map_none, List.length_cons, List.length_nil, List.replicate, List.set_cons_zero, List.set_cons_succ, Nat.reduceLT, Bool.not_true, Bool.not_false, Int.toNat_natCast, inR, Nat.zero_add, Int.toNat_zero, reduceCtorEq, IntKind.bits, List.nil_append, List.cons_append, Nat.add_zero, Nat.sub_zero, noughts_len, List.map_cons, List.map_nil, zp, zu]) | refine And.intro ?_ (fun hif => (hif trivial).elim) | (intro hif; try (first | contradiction | (exfalso; omega))))
  refine awp_loop ?_
  refine ALoop.by [0, 2, 3, 5, 9] (fun k : Nat => [(0, .one (.sl ⟨ref, off, net.length⟩)), (2, .one (.int .i64 (p : Int))), (3, .one (.int .i64 v)), (5, .one (.ptr m.length 0)), (9, .one (.int .i64 k))]) (fun _ => m ++ [⟨Ty.impl_begunChannels, m.length, true, .ints .i64 L⟩]) (fun k => k ≤ net.length ∧ FitTo net row G p v k) (fun k => net.length - k) 0 rfl rfl ⟨Nat.zero_le _, fun k hk => absurd hk (Nat.not_lt_zero _)⟩ ?_
  rintro k ⟨hk, hok⟩ K1 hK1
  by_cases hlt : k < net.length
  · have hP := impl_hasPlace (G : Int) k (by omega) (by omega) (by omega) (m ++ [⟨Ty.impl_begunChannels, m.length, true, .ints .i64 L⟩])
    rw [bit_nat] at hP
    have hst := fun h => hok.step (k := k) h
    have hno : ∀ (_ : ¬ FitTo net row G p v (k + 1)), decide (Fit net row G p v) = false := fun h => decide_eq_false fun c => h fun j hj => c j (by omega)
    cases g1 : G.testBit k with
    | false =>
      rw [g1] at hP
      have := hst fun c => by cases c.symm.trans g1
      repeat' (first | refine xA ?_ | refine xB ?_ | refine xC ?_ | refine xD ?_ | refine xE ?_ | refine xF ?_ | refine xG ?_ | refine xH ?_ | refine xI rfl ?_ | refine xJ ?_ | refine xK ?_ | refine xL ?_ | refine xM rfl ?_ | refine xN rfl ?_ | refine xO rfl ?_ | (first | refine xP rfl (fun hif => ?_) (fun hif => ?_) | refine xQ rfl (fun hif => ?_) (fun hif => ?_) | refine xR rfl (fun hif => ?_) (fun hif => ?_) | refine xS rfl (fun hif => ?_) (fun hif => ?_)) <;> try (first | contradiction | (exfalso; omega)) | (refine hK _ _ ?_; clear hK K) | refine onSome_of a6 ?_ | refine AQuiet.call hP trivial ?_ | refine AQuiet.callq hP trivial ?_ | (refine And.intro (by first | omega | assumption | (constructor <;> omega)) ?_) | (refine And.intro (fun hif => ?_) (fun hif => ?_) <;> try (first | contradiction | (exfalso; omega))) | ((first | refine xT fun K hK => ?_ | refine xU fun K hK => ?_ | refine yB (fun K hK => ?_) (fun K hK => ?_) | refine xV ?_ | refine yA ?_ | refine xW ?_ | refine xX ?_ | refine xY ?_ | refine xZ ?_) <;> simp only [↓awpOps, ↓awpKeep, ↓awpKeepF, ↓aop, ↓aopQ, ↓abin, ↓aun, ↓onSome_some, ↓Kont_at, ↓KM_at, ↓KV_at, ↓KU_at, refId_row, Frame.ev, Frame.evs, Frame.evOr, Frame.put, Frame.keep, get_nil, get_cons, argFrame, resOf, fillA, Vals.len, Vals.get, Vals.set, Vals.app, Vals.sub, Vals.take, Vals.ofAgg_cons, Vals.ofList, Vals.toInts, Vals.toBools, Vals.toSls, Vals.toStrs, Vals.zeros, Nat.reduceBEq, Nat.reduceAdd, Nat.reduceEqDiff, cond_true, cond_false, Option.map_some, Option.map_none, List.length_cons, List.length_nil, List.replicate, List.set_cons_zero, List.set_cons_succ, Nat.reduceLT, Bool.not_true, Bool.not_false, Int.toNat_natCast, inR, Nat.zero_add, Int.toNat_zero, reduceCtorEq, IntKind.bits, List.nil_append, List.cons_append, Nat.add_zero, Nat.sub_zero, noughts_len, List.map_cons, List.map_nil, zp, zu]) | refine And.intro ?_ (fun hif => (hif trivial).elim) | (intro hif; try (first | contradiction | (exfalso; omega))))
      all_goals exact hK1 (k + 1) _ _ rfl rfl ⟨by omega, this⟩ (by omega)
    | true =>
      rw [g1] at hP
      have hkp : k ≠ p := fun e => by rw [e, hGp] at g1; cases g1
      have hrk := hr k hlt g1
      have ak := hat k (by omega)
      rw [hg0 k (by omega)] at ak
      have cD := impl_distance v ((row.getD k 0)) hv hrk (m ++ [⟨Ty.impl_begunChannels, m.length, true, .ints .i64 L⟩])
      have cA := impl_leastApart hs1 hN hp hlt
      have hcl := apart_iff hN hp hlt v ((row.getD k 0))
      have hnx := fun c : ¬ dist v ((row.getD k 0)) < apart net p k => hst fun _ _ => hcl.1 c
      have hfl := fun c : dist v ((row.getD k 0)) < apart net p k => hno fun h => hcl.2 (h k (Nat.lt_succ_self _) g1 hkp) c
      obtain ⟨d, hd⟩ : ∃ d, dist v ((row.getD k 0)) = d := ⟨_, rfl⟩
      obtain ⟨ap, hap⟩ : ∃ ap, apart net p k = ap := ⟨_, rfl⟩
      rw [hd] at cD hnx hfl
      rw [hap] at cA hnx hfl
      clear hcl hst hno
      by_cases c : d < ap
      · rw [hfl c]
        repeat' (first | refine xA ?_ | refine xB ?_ | refine xC ?_ | refine xD ?_ | refine xE ?_ | refine xF ?_ | refine xG ?_ | refine xH ?_ | refine xI rfl ?_ | refine xJ ?_ | refine xK ?_ | refine xL ?_ | refine xM rfl ?_ | refine xN rfl ?_ | refine xO rfl ?_ | (first | refine xP rfl (fun hif => ?_) (fun hif => ?_) | refine xQ rfl (fun hif => ?_) (fun hif => ?_) | refine xR rfl (fun hif => ?_) (fun hif => ?_) | refine xS rfl (fun hif => ?_) (fun hif => ?_)) <;> try (first | contradiction | (exfalso; omega)) | (refine hK _ _ ?_; clear hK K) | refine onSome_of a6 ?_ | refine onSome_of ak ?_ | refine AQuiet.call hP trivial ?_ | refine AQuiet.callq hP trivial ?_ | refine AQuiet.call cD trivial ?_ | refine AQuiet.callq cD trivial ?_ | refine AQuiet.call cA trivial ?_ | refine AQuiet.callq cA trivial ?_ | (refine And.intro (by first | omega | assumption | (constructor <;> omega)) ?_) | (refine And.intro (fun hif => ?_) (fun hif => ?_) <;> try (first | contradiction | (exfalso; omega))) | ((first | refine xT fun K hK => ?_ | refine xU fun K hK => ?_ | refine yB (fun K hK => ?_) (fun K hK => ?_) | refine xV ?_ | refine yA ?_ | refine xW ?_ | refine xX ?_ | refine xY ?_ | refine xZ ?_) <;> simp only [↓awpOps, ↓awpKeep, ↓awpKeepF, ↓aop, ↓aopQ, ↓abin, ↓aun, ↓onSome_some, ↓Kont_at, ↓KM_at, ↓KV_at, ↓KU_at, refId_row, Frame.ev, Frame.evs, Frame.evOr, Frame.put, Frame.keep, get_nil, get_cons, argFrame, resOf, fillA, Vals.len, Vals.get, Vals.set, Vals.app, Vals.sub, Vals.take, Vals.ofAgg_cons, Vals.ofList, Vals.toInts, Vals.toBools, Vals.toSls, Vals.toStrs, Vals.zeros, Nat.reduceBEq, Nat.reduceAdd, Nat.reduceEqDiff, cond_true, cond_false, Option.map_some, Option.map_none, List.length_cons, List.length_nil, List.replicate, List.set_cons_zero, List.set_cons_succ, Nat.reduceLT, Bool.not_true, Bool.not_false, Int.toNat_natCast, inR, Nat.zero_add, Int.toNat_zero, reduceCtorEq, IntKind.bits, List.nil_append, List.cons_append, Nat.add_zero, Nat.sub_zero, noughts_len, List.map_cons, List.map_nil, zp, zu]) | refine And.intro ?_ (fun hif => (hif trivial).elim) | (intro hif; try (first | contradiction | (exfalso; omega))))
        all_goals first | exact hpm | exact ⟨rfl, hpm⟩
      · have := hnx c
        repeat' (first | refine xA ?_ | refine xB ?_ | refine xC ?_ | refine xD ?_ | refine xE ?_ | refine xF ?_ | refine xG ?_ | refine xH ?_ | refine xI rfl ?_ | refine xJ ?_ | refine xK ?_ | refine xL ?_ | refine xM rfl ?_ | refine xN rfl ?_ | refine xO rfl ?_ | (first | refine xP rfl (fun hif => ?_) (fun hif => ?_) | refine xQ rfl (fun hif => ?_) (fun hif => ?_) | refine xR rfl (fun hif => ?_) (fun hif => ?_) | refine xS rfl (fun hif => ?_) (fun hif => ?_)) <;> try (first | contradiction | (exfalso; omega)) | (refine hK _ _ ?_; clear hK K) | refine onSome_of a6 ?_ | refine onSome_of ak ?_ | refine AQuiet.call hP trivial ?_ | refine AQuiet.callq hP trivial ?_ | refine AQuiet.call cD trivial ?_ | refine AQuiet.callq cD trivial ?_ | refine AQuiet.call cA trivial ?_ | refine AQuiet.callq cA trivial ?_ | (refine And.intro (by first | omega | assumption | (constructor <;> omega)) ?_) | (refine And.intro (fun hif => ?_) (fun hif => ?_) <;> try (first | contradiction | (exfalso; omega))) | ((first | refine xT fun K hK => ?_ | refine xU fun K hK => ?_ | refine yB (fun K hK => ?_) (fun K hK => ?_) | refine xV ?_ | refine yA ?_ | refine xW ?_ | refine xX ?_ | refine xY ?_ | refine xZ ?_) <;> simp only [↓awpOps, ↓awpKeep, ↓awpKeepF, ↓aop, ↓aopQ, ↓abin, ↓aun, ↓onSome_some, ↓Kont_at, ↓KM_at, ↓KV_at, ↓KU_at, refId_row, Frame.ev, Frame.evs, Frame.evOr, Frame.put, Frame.keep, get_nil, get_cons, argFrame, resOf, fillA, Vals.len, Vals.get, Vals.set, Vals.app, Vals.sub, Vals.take, Vals.ofAgg_cons, Vals.ofList, Vals.toInts, Vals.toBools, Vals.toSls, Vals.toStrs, Vals.zeros, Nat.reduceBEq, Nat.reduceAdd, Nat.reduceEqDiff, cond_true, cond_false, Option.map_some, Option.map_none, List.length_cons, List.length_nil, List.replicate, List.set_cons_zero, List.set_cons_succ, Nat.reduceLT, Bool.not_true, Bool.not_false, Int.toNat_natCast, inR, Nat.zero_add, Int.toNat_zero, reduceCtorEq, IntKind.bits, List.nil_append, List.cons_append, Nat.add_zero, Nat.sub_zero, noughts_len, List.map_cons, List.map_nil, zp, zu]) | refine And.intro ?_ (fun hif => (hif trivial).elim) | (intro hif; try (first | contradiction | (exfalso; omega))))
        all_goals exact hK1 (k + 1) _ _ rfl rfl ⟨by omega, this⟩ (by omega)
  · obtain rfl : k = net.length := by omega
    rw [decide_eq_true (show Fit net row G p v from hok)]
    repeat' (first | refine xA ?_ | refine xB ?_ | refine xC ?_ | refine xD ?_ | refine xE ?_ | refine xF ?_ | refine xG ?_ | refine xH ?_ | refine xI rfl ?_ | refine xJ ?_ | refine xK ?_ | refine xL ?_ | refine xM rfl ?_ | refine xN rfl ?_ | refine xO rfl ?_ | (first | refine xP rfl (fun hif => ?_) (fun hif => ?_) | refine xQ rfl (fun hif => ?_) (fun hif => ?_) | refine xR rfl (fun hif => ?_) (fun hif => ?_) | refine xS rfl (fun hif => ?_) (fun hif => ?_)) <;> try (first | contradiction | (exfalso; omega)) | (refine hK _ _ ?_; clear hK K) | (refine And.intro (by first | omega | assumption | (constructor <;> omega)) ?_) | (refine And.intro (fun hif => ?_) (fun hif => ?_) <;> try (first | contradiction | (exfalso; omega))) | ((first | refine xT fun K hK => ?_ | refine xU fun K hK => ?_ | refine yB (fun K hK => ?_) (fun K hK => ?_) | refine xV ?_ | refine yA ?_ | refine xW ?_ | refine xX ?_ | refine xY ?_ | refine xZ ?_) <;> simp only [↓awpOps, ↓awpKeep, ↓awpKeepF, ↓aop, ↓aopQ, ↓abin, ↓aun, ↓onSome_some, ↓Kont_at, ↓KM_at, ↓KV_at, ↓KU_at, refId_row, Frame.ev, Frame.evs, Frame.evOr, Frame.put, Frame.keep, get_nil, get_cons, argFrame, resOf, fillA, Vals.len, Vals.get, Vals.set, Vals.app, Vals.sub, Vals.take, Vals.ofAgg_cons, Vals.ofList, Vals.toInts, Vals.toBools, Vals.toSls, Vals.toStrs, Vals.zeros, Nat.reduceBEq, Nat.reduceAdd, Nat.reduceEqDiff, cond_true, cond_false, Option.map_some, Option.map_none, List.length_cons, List.length_nil, List.replicate, List.set_cons_zero, List.set_cons_succ, Nat.reduceLT, Bool.not_true, Bool.not_false, Int.toNat_natCast, inR, Nat.zero_add, Int.toNat_zero, reduceCtorEq, IntKind.bits, List.nil_append, List.cons_append, Nat.add_zero, Nat.sub_zero, noughts_len, List.map_cons, List.map_nil, zp, zu]) | refine And.intro ?_ (fun hif => (hif trivial).elim) | (intro hif; try (first | contradiction | (exfalso; omega))))
    all_goals first | exact hpm | exact ⟨rfl, hpm⟩

theorem impl_leastChannel {s : SV} {net row : List Int} {G p : Nat} {m : Heap} (hs : IsInts .i64 m s net) (hN : NetOk net) (hp : p < net.length) (hG : G < 64) (hGp : G.testBit p = false) (hr : ∀ k, k < net.length → G.testBit k = true → 0 ≤ (row.getD k 0) ∧ (row.getD k 0) ≤ 30) :
    AQuiet Try.prog F.impl_leastChannel [.one (.sl s), chanX row G, .one (.int .i64 (p : Int))] m (.one (.int .i64 (lfit net row G p : Int))) := by
  obtain ⟨ref, off, len⟩ := s
  obtain rfl : len = net.length := hs.1
  obtain ⟨f1, f2, f3⟩ := lfit_is (row := row) (G := G) hN hp
  have hb := (bnd_range hN hp).2
  have hagg : Vals.ofAgg ((chanL row G).map (AV.int .i64)) = .ints .i64 (chanL row G) := Vals.ofAgg_ints _ _ _
  have hLl : (chanL row G).length = 7 := rfl
  have hml : ((chanL row G).map (AV.int .i64)).length = 7 := rfl
  have hpm := prefix_push m ⟨Ty.impl_begunChannels, m.length, true, .ints .i64 (chanL row G)⟩
  have hcs := cells_ints (get_last m ⟨Ty.impl_begunChannels, m.length, true, .ints .i64 (chanL row G)⟩) (n := 7) rfl
  have cF := fun (v : Int) hv => impl_fitsIn (v := v) (hs.pre hpm) hN hp hG hGp hv hr
  unfold chanX at cF ⊢
  generalize chanL row G = L at *
  generalize lfit net row G p = w at *
  refine aqn T.impl_leastChannel (by rfl) ?_
  repeat' (first | refine xA ?_ | refine xB ?_ | refine xC ?_ | refine xD ?_ | refine xE ?_ | refine xF ?_ | refine xG ?_ | refine xH ?_ | refine xI rfl ?_ | refine xJ ?_ | refine xK ?_ | refine xL ?_ | refine xM rfl ?_ | refine xN rfl ?_ | refine xO rfl ?_ | (first | refine xP rfl (fun hif => ?_) (fun hif => ?_) | refine xQ rfl (fun hif => ?_) (fun hif => ?_) | refine xR rfl (fun hif => ?_) (fun hif => ?_) | refine xS rfl (fun hif => ?_) (fun hif => ?_)) <;> try (first | contradiction | (exfalso; omega)) | (refine hK _ _ ?_; clear hK K) | rw [hagg] | (refine And.intro (by first | omega | assumption | (constructor <;> omega)) ?_) | (refine And.intro (fun hif => ?_) (fun hif => ?_) <;> try (first | contradiction | (exfalso; omega))) | ((first | refine xT fun K hK => ?_ | refine xU fun K hK => ?_ | refine yB (fun K hK => ?_) (fun K hK => ?_) | refine xV ?_ | refine yA ?_ | refine xW ?_ | refine xX ?_ | refine xY ?_ | refine xZ ?_) <;> simp only [↓awpOps, ↓awpKeep, ↓awpKeepF, ↓aop, ↓aopQ, ↓abin, ↓aun, ↓onSome_some, ↓Kont_at, ↓KM_at, ↓KV_at, ↓KU_at, refId_row, Frame.ev, Frame.evs, Frame.evOr, Frame.put, Frame.keep, get_nil, get_cons, argFrame, resOf, fillA, Vals.len, Vals.get, Vals.set, Vals.app, Vals.sub, Vals.take, Vals.ofAgg_cons, Vals.ofList, Vals.toInts, Vals.toBools, Vals.toSls, Vals.toStrs, Vals.zeros, Nat.reduceBEq, Nat.reduceAdd, Nat.reduceEqDiff, cond_true, cond_false, Option.map_some, Option.map_none, List.length_cons, List.length_nil, List.replicate, List.set_cons_zero, List.set_cons_succ, Nat.reduceLT, Bool.not_true, Bool.not_false, Int.toNat_natCast, inR, Nat.zero_add, Int.toNat_zero, reduceCtorEq, IntKind.bits, List.nil_append, List.cons_append, Nat.add_zero, Nat.sub_zero, noughts_len, List.map_cons, List.map_nil, zp, zu]) | refine And.intro ?_ (fun hif => (hif trivial).elim) | (intro hif; try (first | contradiction | (exfalso; omega))))
  refine awp_loop ?_
  refine ALoop.by [0, 2, 4, 7] (fun k : Nat => [(0, .one (.sl ⟨ref, off, net.length⟩)), (2, .one (.int .i64 (p : Int))), (4, .one (.ptr m.length 0)), (7, .one (.int .i64 k))]) (fun _ => m ++ [⟨Ty.impl_begunChannels, m.length, true, .ints .i64 L⟩]) (fun k => k ≤ w) (fun k => w - k) 0 rfl rfl (Nat.zero_le _) ?_
  rintro k hk K1 hK1
  have cF := cF (k : Int) ⟨by omega, by omega⟩
  by_cases hlt : k < w
  · rw [decide_eq_false (f2 k hlt)] at cF
    repeat' (first | refine xA ?_ | refine xB ?_ | refine xC ?_ | refine xD ?_ | refine xE ?_ | refine xF ?_ | refine xG ?_ | refine xH ?_ | refine xI rfl ?_ | refine xJ ?_ | refine xK ?_ | refine xL ?_ | refine xM rfl ?_ | refine xN rfl ?_ | refine xO rfl ?_ | (first | refine xP rfl (fun hif => ?_) (fun hif => ?_) | refine xQ rfl (fun hif => ?_) (fun hif => ?_) | refine xR rfl (fun hif => ?_) (fun hif => ?_) | refine xS rfl (fun hif => ?_) (fun hif => ?_)) <;> try (first | contradiction | (exfalso; omega)) | (refine hK _ _ ?_; clear hK K) | refine onCells_of hcs ?_ | refine AQuiet.call cF trivial ?_ | refine AQuiet.callq cF trivial ?_ | (refine And.intro (by first | omega | assumption | (constructor <;> omega)) ?_) | (refine And.intro (fun hif => ?_) (fun hif => ?_) <;> try (first | contradiction | (exfalso; omega))) | ((first | refine xT fun K hK => ?_ | refine xU fun K hK => ?_ | refine yB (fun K hK => ?_) (fun K hK => ?_) | refine xV ?_ | refine yA ?_ | refine xW ?_ | refine xX ?_ | refine xY ?_ | refine xZ ?_) <;> simp only [↓awpOps, ↓awpKeep, ↓awpKeepF, ↓aop, ↓aopQ, ↓abin, ↓aun, ↓onSome_some, ↓Kont_at, ↓KM_at, ↓KV_at, ↓KU_at, refId_row, Frame.ev, Frame.evs, Frame.evOr, Frame.put, Frame.keep, get_nil, get_cons, argFrame, resOf, fillA, Vals.len, Vals.get, Vals.set, Vals.app, Vals.sub, Vals.take, Vals.ofAgg_cons, Vals.ofList, Vals.toInts, Vals.toBools, Vals.toSls, Vals.toStrs, Vals.zeros, Nat.reduceBEq, Nat.reduceAdd, Nat.reduceEqDiff, cond_true, cond_false, Option.map_some, Option.map_none, List.length_cons, List.length_nil, List.replicate, List.set_cons_zero, List.set_cons_succ, Nat.reduceLT, Bool.not_true, Bool.not_false, Int.toNat_natCast, inR, Nat.zero_add, Int.toNat_zero, reduceCtorEq, IntKind.bits, List.nil_append, List.cons_append, Nat.add_zero, Nat.sub_zero, noughts_len, List.map_cons, List.map_nil, zp, zu]) | refine And.intro ?_ (fun hif => (hif trivial).elim) | (intro hif; try (first | contradiction | (exfalso; omega))))
    all_goals exact hK1 (k + 1) _ _ rfl rfl (by omega) (by omega)
  · obtain rfl : k = w := by omega
    rw [decide_eq_true f1] at cF
    repeat' (first | refine xA ?_ | refine xB ?_ | refine xC ?_ | refine xD ?_ | refine xE ?_ | refine xF ?_ | refine xG ?_ | refine xH ?_ | refine xI rfl ?_ | refine xJ ?_ | refine xK ?_ | refine xL ?_ | refine xM rfl ?_ | refine xN rfl ?_ | refine xO rfl ?_ | (first | refine xP rfl (fun hif => ?_) (fun hif => ?_) | refine xQ rfl (fun hif => ?_) (fun hif => ?_) | refine xR rfl (fun hif => ?_) (fun hif => ?_) | refine xS rfl (fun hif => ?_) (fun hif => ?_)) <;> try (first | contradiction | (exfalso; omega)) | (refine hK _ _ ?_; clear hK K) | refine onCells_of hcs ?_ | refine AQuiet.call cF trivial ?_ | refine AQuiet.callq cF trivial ?_ | (refine And.intro (by first | omega | assumption | (constructor <;> omega)) ?_) | (refine And.intro (fun hif => ?_) (fun hif => ?_) <;> try (first | contradiction | (exfalso; omega))) | ((first | refine xT fun K hK => ?_ | refine xU fun K hK => ?_ | refine yB (fun K hK => ?_) (fun K hK => ?_) | refine xV ?_ | refine yA ?_ | refine xW ?_ | refine xX ?_ | refine xY ?_ | refine xZ ?_) <;> simp only [↓awpOps, ↓awpKeep, ↓awpKeepF, ↓aop, ↓aopQ, ↓abin, ↓aun, ↓onSome_some, ↓Kont_at, ↓KM_at, ↓KV_at, ↓KU_at, refId_row, Frame.ev, Frame.evs, Frame.evOr, Frame.put, Frame.keep, get_nil, get_cons, argFrame, resOf, fillA, Vals.len, Vals.get, Vals.set, Vals.app, Vals.sub, Vals.take, Vals.ofAgg_cons, Vals.ofList, Vals.toInts, Vals.toBools, Vals.toSls, Vals.toStrs, Vals.zeros, Nat.reduceBEq, Nat.reduceAdd, Nat.reduceEqDiff, cond_true, cond_false, Option.map_some, Option.map_none, List.length_cons, List.length_nil, List.replicate, List.set_cons_zero, List.set_cons_succ, Nat.reduceLT, Bool.not_true, Bool.not_false, Int.toNat_natCast, inR, Nat.zero_add, Int.toNat_zero, reduceCtorEq, IntKind.bits, List.nil_append, List.cons_append, Nat.add_zero, Nat.sub_zero, noughts_len, List.map_cons, List.map_nil, zp, zu]) | refine And.intro ?_ (fun hif => (hif trivial).elim) | (intro hif; try (first | contradiction | (exfalso; omega))))
    all_goals first | exact hpm | exact ⟨rfl, hpm⟩

/-! ### The search -/

theorem firstL_no {f : Nat → List Int} : ∀ {n : Nat}, (∀ v, v < n → (f v).length = 0) → firstL f n = []
  | 0, _ => rfl
  | n + 1, h => by
    have ih := firstL_no (f := f) (n := n) fun v hv => h v (by omega)
    rw [firstL_step, ih, if_pos (show ([] : List Int).length = 0 from rfl)]
    exact List.eq_nil_of_length_eq_zero (h n (Nat.lt_succ_self _))
theorem firstL_one {f : Nat → List Int} {v : Nat} (h : ∀ u, u < v → (f u).length = 0) (hv : (f v).length ≠ 0) : ∀ {n : Nat}, v < n → firstL f n = f v
  | n + 1, hn => by
    rw [firstL_step]
    by_cases c : v = n
    · subst c; rw [firstL_no h, if_pos (show ([] : List Int).length = 0 from rfl)]
    · rw [firstL_one h hv (n := n) (by omega), if_neg hv]

set_option maxHeartbeats 8000000 in
theorem impl_channelsFrom {net : List Int} (hN : NetOk net) {t : Nat} (ht : t ≤ 30) : ∀ (rem : Nat) (row : List Int) (pl : Int) (G : Nat) (s : SV) (m : Heap), IsInts .i64 m s net → row.length + rem = net.length → pl = (row.length : Int) → G = 2 ^ row.length - 1 → (∀ k, k < row.length → 0 ≤ (row.getD k 0) ∧ (row.getD k 0) ≤ 30) →
    ARet2 Try.prog F.impl_channelsFrom [.one (.sl s), chanX row G, .one (.int .i64 pl), .one (.int .i64 (t : Int))] m Ty.int (.ints .i64 (chanFrom net t rem row)) (.bool (decide ((chanFrom net t rem row).length ≠ 0))) := by
  intro rem
  have h6 := hN.six
  have hpos := hN.pos
  induction rem with
  | zero =>
    intro row pl G s m hs hl hpl hGe hrow
    subst hpl
    obtain ⟨ref, off, len⟩ := s
    obtain rfl : len = net.length := hs.1
    rw [show chanFrom net t 0 row = row from rfl, decide_eq_true (show row.length ≠ 0 by omega)]
    have htk := chanL_take row G (by omega)
    have hagg : Vals.ofAgg ((chanL row G).map (AV.int .i64)) = .ints .i64 (chanL row G) := Vals.ofAgg_ints _ _ _
    have hLl : (chanL row G).length = 7 := rfl
    have hml : ((chanL row G).map (AV.int .i64)).length = 7 := rfl
    unfold ARet2
    refine ACalls.wf fun hwf => ?_
    refine afn T.impl_channelsFrom (by rfl) ?_
    unfold chanX
    generalize chanL row G = L at *
    have g0 := Grow.push hwf Ty.impl_begunChannels true (.ints .i64 L)
    have g1 := Grow.push g0.wf Ty.int true (.ints .i64 [])
    have hA := acc_new g0.wf Ty.int (.ints .i64 []) (n := 0) rfl
    have hbox : (m ++ [(⟨Ty.impl_begunChannels, m.length, true, .ints .i64 L⟩ : Row)] ++ [⟨Ty.int, List.length (m ++ [(⟨Ty.impl_begunChannels, m.length, true, .ints .i64 L⟩ : Row)]), true, .ints .i64 []⟩])[m.length]? = some ⟨Ty.impl_begunChannels, m.length, true, .ints .i64 L⟩ := row_at_push (get_last _ _) _
    repeat' (first | refine xA ?_ | refine xB ?_ | refine xC ?_ | refine xD ?_ | refine xE ?_ | refine xF ?_ | refine xG ?_ | refine xH ?_ | refine xI rfl ?_ | refine xJ ?_ | refine xK ?_ | refine xL ?_ | refine xM rfl ?_ | refine xN rfl ?_ | refine xO rfl ?_ | (first | refine xP rfl (fun hif => ?_) (fun hif => ?_) | refine xQ rfl (fun hif => ?_) (fun hif => ?_) | refine xR rfl (fun hif => ?_) (fun hif => ?_) | refine xS rfl (fun hif => ?_) (fun hif => ?_)) <;> try (first | contradiction | (exfalso; omega)) | (refine hK _ _ ?_; clear hK K) | rw [hagg] | refine app_part g1.wf hA (fun c => by cases c) hbox (by omega) (by simp; omega) fun s2 m2 hp2 g2 hA2 hne2 => ?_ | (refine And.intro (by first | omega | assumption | (constructor <;> omega)) ?_) | (refine And.intro (fun hif => ?_) (fun hif => ?_) <;> try (first | contradiction | (exfalso; omega))) | ((first | refine xT fun K hK => ?_ | refine xU fun K hK => ?_ | refine yB (fun K hK => ?_) (fun K hK => ?_) | refine xV ?_ | refine yA ?_ | refine xW ?_ | refine xX ?_ | refine xY ?_ | refine xZ ?_) <;> simp only [↓awpOps, ↓awpKeep, ↓awpKeepF, ↓aop, ↓aopQ, ↓abin, ↓aun, ↓onSome_some, ↓Kont_at, ↓KM_at, ↓KV_at, ↓KU_at, refId_row, Frame.ev, Frame.evs, Frame.evOr, Frame.put, Frame.keep, get_nil, get_cons, argFrame, resOf, fillA, Vals.len, Vals.get, Vals.set, Vals.app, Vals.sub, Vals.take, Vals.ofAgg_cons, Vals.ofList, Vals.toInts, Vals.toBools, Vals.toSls, Vals.toStrs, Vals.zeros, Nat.reduceBEq, Nat.reduceAdd, Nat.reduceEqDiff, cond_true, cond_false, Option.map_some, Option.map_none, List.length_cons, List.length_nil, List.replicate, List.set_cons_zero, List.set_cons_succ, Nat.reduceLT, Bool.not_true, Bool.not_false, Int.toNat_natCast, inR, Nat.zero_add, Int.toNat_zero, reduceCtorEq, IntKind.bits, List.nil_append, List.cons_append, Nat.add_zero, Nat.sub_zero, noughts_len, List.map_cons, List.map_nil, zp, zu]) | refine And.intro ?_ (fun hif => (hif trivial).elim) | (intro hif; try (first | contradiction | (exfalso; omega))))
    rw [List.nil_append, htk] at hA2
    have hp2' := hp2.length_le
    simp only [List.length_append, List.length_cons, List.length_nil] at hp2'
    refine ⟨_, rfl, grow00 ((prefix_push _ _).trans ((prefix_push _ _).trans hp2)) ((g0.any _ _).trans ((g1.any _ _).trans (g2.mono (by simp) (by simp; omega)))), hA2.obj (by simp) (by simp; omega)⟩
  | succ rem ih =>
    intro row pl G s m hs hl hpl hGe hrow
    subst hpl
    obtain ⟨ref, off, len⟩ := s
    obtain rfl : len = net.length := hs.1
    have hr6 : row.length < 6 := by omega
    have hG64 : G < 64 := by rw [hGe]; exact full_lt (by omega)
    have hGp : G.testBit row.length = false := by rw [hGe]; exact full_own _
    have hGn : G ||| 2 ^ row.length = 2 ^ (row.length + 1) - 1 := by rw [hGe]; exact full_next _ hr6
    have hGr : ∀ k, k < net.length → G.testBit k = true → 0 ≤ (row.getD k 0) ∧ (row.getD k 0) ≤ 30 := fun k _ hb => hrow k (by rw [hGe, Nat.testBit_two_pow_sub_one] at hb; exact of_decide_eq_true hb)
    have hagg : Vals.ofAgg ((chanL row G).map (AV.int .i64)) = .ints .i64 (chanL row G) := Vals.ofAgg_ints _ _ _
    have hLl : (chanL row G).length = 7 := rfl
    have hml : ((chanL row G).map (AV.int .i64)).length = 7 := rfl
    have cF : ∀ (n : Nat) (m' : Heap), n ≤ 30 → IsInts .i64 m' ⟨ref, off, net.length⟩ net → AQuiet Try.prog F.impl_fitsIn [.one (.sl ⟨ref, off, net.length⟩), .agg ((chanL row G).map (AV.int .i64)), .one (.int .i64 (row.length : Int)), .one (.int .i64 (n : Int))] m' (.one (.bool (decide (Fit net row G row.length (n : Int))))) := fun n m' hn hs' => impl_fitsIn hs' hN (by omega) hG64 hGp ⟨by omega, by omega⟩ hGr
    have cW : ∀ (n : Nat) (m' : Heap), AQuiet Try.prog F.impl_withChannel [.agg ((chanL row G).map (AV.int .i64)), .one (.int .i64 (row.length : Int)), .one (.int .i64 (n : Int))] m' (chanX (row ++ [(n : Int)]) (G ||| 2 ^ row.length)) := fun n m' => impl_withChannel m' hr6 hG64 (chanL_push row (n : Int) G _ hr6)
    have htry : ∀ n : Nat, chanTry net t rem row n = if Fit net row G row.length (n : Int) then chanFrom net t rem (row ++ [(n : Int)]) else [] := fun n => by
      unfold chanTry
      have e := fit_push net row (n : Int)
      rw [← hGe] at e ⊢
      by_cases c : Fit net row G row.length (n : Int)
      · rw [if_pos c, if_pos (e.2 c)]
      · rw [if_neg c, if_neg fun d => c (e.1 d)]
    rw [chanFrom_all]
    unfold ARet2
    refine ACalls.wf fun hwf => ?_
    refine afn T.impl_channelsFrom (by rfl) ?_
    unfold chanX
    have hex : ∀ R : List Int, R.length = row.length → R.length = net.length → False := fun R h1 h2 => by omega
    generalize hL : chanL row G = L at *
    have g0 := Grow.push hwf Ty.impl_begunChannels true (.ints .i64 L)
    repeat' (first | refine xA ?_ | refine xB ?_ | refine xC ?_ | refine xD ?_ | refine xE ?_ | refine xF ?_ | refine xG ?_ | refine xH ?_ | refine xI rfl ?_ | refine xJ ?_ | refine xK ?_ | refine xL ?_ | refine xM rfl ?_ | refine xN rfl ?_ | refine xO rfl ?_ | (first | refine xP rfl (fun hif => ?_) (fun hif => ?_) | refine xQ rfl (fun hif => ?_) (fun hif => ?_) | refine xR rfl (fun hif => ?_) (fun hif => ?_) | refine xS rfl (fun hif => ?_) (fun hif => ?_)) <;> try (first | contradiction | (exfalso; omega)) | (refine hK _ _ ?_; clear hK K) | rw [hagg] | (refine And.intro (by first | omega | assumption | (constructor <;> omega)) ?_) | (refine And.intro (fun hif => ?_) (fun hif => ?_) <;> try (first | contradiction | (exfalso; omega))) | ((first | refine xT fun K hK => ?_ | refine xU fun K hK => ?_ | refine yB (fun K hK => ?_) (fun K hK => ?_) | refine xV ?_ | refine yA ?_ | refine xW ?_ | refine xX ?_ | refine xY ?_ | refine xZ ?_) <;> simp only [↓awpOps, ↓awpKeep, ↓awpKeepF, ↓aop, ↓aopQ, ↓abin, ↓aun, ↓onSome_some, ↓Kont_at, ↓KM_at, ↓KV_at, ↓KU_at, refId_row, Frame.ev, Frame.evs, Frame.evOr, Frame.put, Frame.keep, get_nil, get_cons, argFrame, resOf, fillA, Vals.len, Vals.get, Vals.set, Vals.app, Vals.sub, Vals.take, Vals.ofAgg_cons, Vals.ofList, Vals.toInts, Vals.toBools, Vals.toSls, Vals.toStrs, Vals.zeros, Nat.reduceBEq, Nat.reduceAdd, Nat.reduceEqDiff, cond_true, cond_false, Option.map_some, Option.map_none, List.length_cons, List.length_nil, List.replicate, List.set_cons_zero, List.set_cons_succ, Nat.reduceLT, Bool.not_true, Bool.not_false, Int.toNat_natCast, inR, Nat.zero_add, Int.toNat_zero, reduceCtorEq, IntKind.bits, List.nil_append, List.cons_append, Nat.add_zero, Nat.sub_zero, noughts_len, List.map_cons, List.map_nil, zp, zu]) | refine And.intro ?_ (fun hif => (hif trivial).elim) | (intro hif; try (first | contradiction | (exfalso; omega))))
    refine awp_loop ?_
    refine ALoop.by [0, 2, 3, 5, 10] (fun a : Nat × Heap => [(0, .one (.sl ⟨ref, off, net.length⟩)), (2, .one (.int .i64 (row.length : Int))), (3, .one (.int .i64 (t : Int))), (5, .one (.ptr m.length 0)), (10, .one (.int .i64 a.1))]) (fun a => a.2) (fun a => a.1 ≤ t + 1 ∧ Grow 0 0 (m ++ [⟨Ty.impl_begunChannels, m.length, true, .ints .i64 L⟩]) a.2 ∧ ∀ v, v < a.1 → (chanTry net t rem row v).length = 0) (fun a => t + 1 - a.1) (0, _) rfl rfl ⟨Nat.zero_le _, Grow.refl g0.wf _ _, fun v hv => absurd hv (Nat.not_lt_zero _)⟩ ?_
    rintro ⟨n, mo⟩ ⟨hn, hgo, hemp⟩ K1 hK1
    simp only at hn hgo hemp
    by_cases hlt : n < t + 1
    · have hso := hs.pre ((prefix_push _ _).trans hgo.pre0)
      have hbox := row_prefix hgo.pre0 (get_last m ⟨Ty.impl_begunChannels, m.length, true, .ints .i64 L⟩)
      have hcs := cells_ints hbox hLl.symm
      have cF' := cF n mo (by omega) hso
      have hle := hgo.le
      simp only [List.length_append, List.length_cons, List.length_nil] at hle
      have hnext : ∀ m5, Grow 0 0 mo m5 → (chanTry net t rem row n).length = 0 → (fun a : Nat × Heap => a.1 ≤ t + 1 ∧ Grow 0 0 (m ++ [⟨Ty.impl_begunChannels, m.length, true, .ints .i64 L⟩]) a.2 ∧ ∀ v, v < a.1 → (chanTry net t rem row v).length = 0) (n + 1, m5) := fun m5 g5 e5 => ⟨hlt, hgo.trans g5, fun v hv => by
        rcases Nat.lt_succ_iff_lt_or_eq.1 hv with c | rfl
        · exact hemp v c
        · exact e5⟩
      by_cases hf : Fit net row G row.length (n : Int)
      · rw [decide_eq_true hf] at cF'
        have htn := htry n
        rw [if_pos hf] at htn
        have cW' := cW n mo
        have hpushl : (row ++ [(n : Int)]).length = row.length + 1 := by simp
        have cR := ih (row ++ [(n : Int)]) ((row.length : Int) + 1) (G ||| 2 ^ row.length) ⟨ref, off, net.length⟩ mo hso (by omega) (by rw [hpushl]; omega) (by rw [hpushl]; exact hGn) fun k hk => by
          rw [hpushl] at hk
          rcases Nat.lt_succ_iff_lt_or_eq.1 hk with c | rfl
          · rw [push_l _ _ c]; exact hrow k c
          · rw [push_at]; omega
        rw [← htn] at cR
        by_cases h0 : (chanTry net t rem row n).length = 0
        · rw [decide_eq_false (fun c => c h0)] at cR
          repeat' (first | refine xA ?_ | refine xB ?_ | refine xC ?_ | refine xD ?_ | refine xE ?_ | refine xF ?_ | refine xG ?_ | refine xH ?_ | refine xI rfl ?_ | refine xJ ?_ | refine xK ?_ | refine xL ?_ | refine xM rfl ?_ | refine xN rfl ?_ | refine xO rfl ?_ | (first | refine xP rfl (fun hif => ?_) (fun hif => ?_) | refine xQ rfl (fun hif => ?_) (fun hif => ?_) | refine xR rfl (fun hif => ?_) (fun hif => ?_) | refine xS rfl (fun hif => ?_) (fun hif => ?_)) <;> try (first | contradiction | (exfalso; omega)) | (refine hK _ _ ?_; clear hK K) | refine onCells_of hcs ?_ | refine AQuiet.call cF' trivial ?_ | refine AQuiet.callq cF' trivial ?_ | refine AQuiet.call cW' (chanX_flat _ _) ?_ | refine AQuiet.callq cW' (chanX_flat _ _) ?_ | refine ARet2.call cR fun s5 m5 g5 o5 => ?_ | (refine And.intro (by first | omega | assumption | (constructor <;> omega)) ?_) | (refine And.intro (fun hif => ?_) (fun hif => ?_) <;> try (first | contradiction | (exfalso; omega))) | ((first | refine xT fun K hK => ?_ | refine xU fun K hK => ?_ | refine yB (fun K hK => ?_) (fun K hK => ?_) | refine xV ?_ | refine yA ?_ | refine xW ?_ | refine xX ?_ | refine xY ?_ | refine xZ ?_) <;> simp only [↓awpOps, ↓awpKeep, ↓awpKeepF, ↓aop, ↓aopQ, ↓abin, ↓aun, ↓onSome_some, ↓Kont_at, ↓KM_at, ↓KV_at, ↓KU_at, refId_row, Frame.ev, Frame.evs, Frame.evOr, Frame.put, Frame.keep, get_nil, get_cons, argFrame, resOf, fillA, Vals.len, Vals.get, Vals.set, Vals.app, Vals.sub, Vals.take, Vals.ofAgg_cons, Vals.ofList, Vals.toInts, Vals.toBools, Vals.toSls, Vals.toStrs, Vals.zeros, Nat.reduceBEq, Nat.reduceAdd, Nat.reduceEqDiff, cond_true, cond_false, Option.map_some, Option.map_none, List.length_cons, List.length_nil, List.replicate, List.set_cons_zero, List.set_cons_succ, Nat.reduceLT, Bool.not_true, Bool.not_false, Int.toNat_natCast, inR, Nat.zero_add, Int.toNat_zero, reduceCtorEq, IntKind.bits, List.nil_append, List.cons_append, Nat.add_zero, Nat.sub_zero, noughts_len, List.map_cons, List.map_nil, zp, zu]) | refine And.intro ?_ (fun hif => (hif trivial).elim) | (intro hif; try (first | contradiction | (exfalso; omega))))
          all_goals exact hK1 (n + 1, m5) _ _ rfl rfl (hnext m5 g5 h0) (by simp only; omega)
        · rw [decide_eq_true h0] at cR
          rw [firstL_one hemp h0 hlt, decide_eq_true h0]
          repeat' (first | refine xA ?_ | refine xB ?_ | refine xC ?_ | refine xD ?_ | refine xE ?_ | refine xF ?_ | refine xG ?_ | refine xH ?_ | refine xI rfl ?_ | refine xJ ?_ | refine xK ?_ | refine xL ?_ | refine xM rfl ?_ | refine xN rfl ?_ | refine xO rfl ?_ | (first | refine xP rfl (fun hif => ?_) (fun hif => ?_) | refine xQ rfl (fun hif => ?_) (fun hif => ?_) | refine xR rfl (fun hif => ?_) (fun hif => ?_) | refine xS rfl (fun hif => ?_) (fun hif => ?_)) <;> try (first | contradiction | (exfalso; omega)) | (refine hK _ _ ?_; clear hK K) | refine onCells_of hcs ?_ | refine AQuiet.call cF' trivial ?_ | refine AQuiet.callq cF' trivial ?_ | refine AQuiet.call cW' (chanX_flat _ _) ?_ | refine AQuiet.callq cW' (chanX_flat _ _) ?_ | refine ARet2.call cR fun s5 m5 g5 o5 => ?_ | (refine And.intro (by first | omega | assumption | (constructor <;> omega)) ?_) | (refine And.intro (fun hif => ?_) (fun hif => ?_) <;> try (first | contradiction | (exfalso; omega))) | ((first | refine xT fun K hK => ?_ | refine xU fun K hK => ?_ | refine yB (fun K hK => ?_) (fun K hK => ?_) | refine xV ?_ | refine yA ?_ | refine xW ?_ | refine xX ?_ | refine xY ?_ | refine xZ ?_) <;> simp only [↓awpOps, ↓awpKeep, ↓awpKeepF, ↓aop, ↓aopQ, ↓abin, ↓aun, ↓onSome_some, ↓Kont_at, ↓KM_at, ↓KV_at, ↓KU_at, refId_row, Frame.ev, Frame.evs, Frame.evOr, Frame.put, Frame.keep, get_nil, get_cons, argFrame, resOf, fillA, Vals.len, Vals.get, Vals.set, Vals.app, Vals.sub, Vals.take, Vals.ofAgg_cons, Vals.ofList, Vals.toInts, Vals.toBools, Vals.toSls, Vals.toStrs, Vals.zeros, Nat.reduceBEq, Nat.reduceAdd, Nat.reduceEqDiff, cond_true, cond_false, Option.map_some, Option.map_none, List.length_cons, List.length_nil, List.replicate, List.set_cons_zero, List.set_cons_succ, Nat.reduceLT, Bool.not_true, Bool.not_false, Int.toNat_natCast, inR, Nat.zero_add, Int.toNat_zero, reduceCtorEq, IntKind.bits, List.nil_append, List.cons_append, Nat.add_zero, Nat.sub_zero, noughts_len, List.map_cons, List.map_nil, zp, zu]) | refine And.intro ?_ (fun hif => (hif trivial).elim) | (intro hif; try (first | contradiction | (exfalso; omega))))
          all_goals exact ⟨_, rfl, g0.trans (hgo.trans g5), o5.mono (by omega) (Nat.le_refl _)⟩
      · rw [decide_eq_false hf] at cF'
        have htn := htry n
        rw [if_neg hf] at htn
        repeat' (first | refine xA ?_ | refine xB ?_ | refine xC ?_ | refine xD ?_ | refine xE ?_ | refine xF ?_ | refine xG ?_ | refine xH ?_ | refine xI rfl ?_ | refine xJ ?_ | refine xK ?_ | refine xL ?_ | refine xM rfl ?_ | refine xN rfl ?_ | refine xO rfl ?_ | (first | refine xP rfl (fun hif => ?_) (fun hif => ?_) | refine xQ rfl (fun hif => ?_) (fun hif => ?_) | refine xR rfl (fun hif => ?_) (fun hif => ?_) | refine xS rfl (fun hif => ?_) (fun hif => ?_)) <;> try (first | contradiction | (exfalso; omega)) | (refine hK _ _ ?_; clear hK K) | refine onCells_of hcs ?_ | refine AQuiet.call cF' trivial ?_ | refine AQuiet.callq cF' trivial ?_ | (refine And.intro (by first | omega | assumption | (constructor <;> omega)) ?_) | (refine And.intro (fun hif => ?_) (fun hif => ?_) <;> try (first | contradiction | (exfalso; omega))) | ((first | refine xT fun K hK => ?_ | refine xU fun K hK => ?_ | refine yB (fun K hK => ?_) (fun K hK => ?_) | refine xV ?_ | refine yA ?_ | refine xW ?_ | refine xX ?_ | refine xY ?_ | refine xZ ?_) <;> simp only [↓awpOps, ↓awpKeep, ↓awpKeepF, ↓aop, ↓aopQ, ↓abin, ↓aun, ↓onSome_some, ↓Kont_at, ↓KM_at, ↓KV_at, ↓KU_at, refId_row, Frame.ev, Frame.evs, Frame.evOr, Frame.put, Frame.keep, get_nil, get_cons, argFrame, resOf, fillA, Vals.len, Vals.get, Vals.set, Vals.app, Vals.sub, Vals.take, Vals.ofAgg_cons, Vals.ofList, Vals.toInts, Vals.toBools, Vals.toSls, Vals.toStrs, Vals.zeros, Nat.reduceBEq, Nat.reduceAdd, Nat.reduceEqDiff, cond_true, cond_false, Option.map_some, Option.map_none, List.length_cons, List.length_nil, List.replicate, List.set_cons_zero, List.set_cons_succ, Nat.reduceLT, Bool.not_true, Bool.not_false, Int.toNat_natCast, inR, Nat.zero_add, Int.toNat_zero, reduceCtorEq, IntKind.bits, List.nil_append, List.cons_append, Nat.add_zero, Nat.sub_zero, noughts_len, List.map_cons, List.map_nil, zp, zu]) | refine And.intro ?_ (fun hif => (hif trivial).elim) | (intro hif; try (first | contradiction | (exfalso; omega))))
        all_goals exact hK1 (n + 1, mo) _ _ rfl rfl (hnext mo (Grow.refl hgo.wf _ _) (by rw [htn]; rfl)) (by simp only; omega)
    · obtain rfl : n = t + 1 := by omega
      rw [firstL_no hemp, decide_eq_false (fun c => c (show ([] : List Int).length = 0 from rfl))]
      repeat' (first | refine xA ?_ | refine xB ?_ | refine xC ?_ | refine xD ?_ | refine xE ?_ | refine xF ?_ | refine xG ?_ | refine xH ?_ | refine xI rfl ?_ | refine xJ ?_ | refine xK ?_ | refine xL ?_ | refine xM rfl ?_ | refine xN rfl ?_ | refine xO rfl ?_ | (first | refine xP rfl (fun hif => ?_) (fun hif => ?_) | refine xQ rfl (fun hif => ?_) (fun hif => ?_) | refine xR rfl (fun hif => ?_) (fun hif => ?_) | refine xS rfl (fun hif => ?_) (fun hif => ?_)) <;> try (first | contradiction | (exfalso; omega)) | (refine hK _ _ ?_; clear hK K) | (refine And.intro (by first | omega | assumption | (constructor <;> omega)) ?_) | (refine And.intro (fun hif => ?_) (fun hif => ?_) <;> try (first | contradiction | (exfalso; omega))) | ((first | refine xT fun K hK => ?_ | refine xU fun K hK => ?_ | refine yB (fun K hK => ?_) (fun K hK => ?_) | refine xV ?_ | refine yA ?_ | refine xW ?_ | refine xX ?_ | refine xY ?_ | refine xZ ?_) <;> simp only [↓awpOps, ↓awpKeep, ↓awpKeepF, ↓aop, ↓aopQ, ↓abin, ↓aun, ↓onSome_some, ↓Kont_at, ↓KM_at, ↓KV_at, ↓KU_at, refId_row, Frame.ev, Frame.evs, Frame.evOr, Frame.put, Frame.keep, get_nil, get_cons, argFrame, resOf, fillA, Vals.len, Vals.get, Vals.set, Vals.app, Vals.sub, Vals.take, Vals.ofAgg_cons, Vals.ofList, Vals.toInts, Vals.toBools, Vals.toSls, Vals.toStrs, Vals.zeros, Nat.reduceBEq, Nat.reduceAdd, Nat.reduceEqDiff, cond_true, cond_false, Option.map_some, Option.map_none, List.length_cons, List.length_nil, List.replicate, List.set_cons_zero, List.set_cons_succ, Nat.reduceLT, Bool.not_true, Bool.not_false, Int.toNat_natCast, inR, Nat.zero_add, Int.toNat_zero, reduceCtorEq, IntKind.bits, List.nil_append, List.cons_append, Nat.add_zero, Nat.sub_zero, noughts_len, List.map_cons, List.map_nil, zp, zu]) | refine And.intro ?_ (fun hif => (hif trivial).elim) | (intro hif; try (first | contradiction | (exfalso; omega))))
      all_goals exact ⟨_, rfl, g0.trans hgo, obj_nil _ _ _ _ _⟩

/-! ### Paths begun and gone on with -/

/-- How many paths a list begins, behind a place whose neighbours are a set. -/
def stepsN (net : List Int) : Int → List Int → Nat
  | _, [] => 0
  | near, z :: P => (if bit near z.toNat = true then 0 else 1) + stepsN net ((net.getD z.toNat 0)) P
theorem stepsN_le (net : List Int) : ∀ (P : List Int) (near : Int), stepsN net near P ≤ P.length
  | [], _ => Nat.le_refl _
  | z :: P, near => by
    have := stepsN_le net P ((net.getD z.toNat 0))
    unfold stepsN
    rw [List.length_cons]
    split <;> omega
theorem brkTo_cons' (net : List Int) (z y : Int) (P : List Int) : ∀ k, brkTo net (z :: y :: P) (k + 1) = (if adj net z y = true then 0 else 1) + brkTo net (y :: P) k
  | 0 => by rw [brkTo_step]; show 0 + _ = _ + 0; rw [Nat.zero_add, Nat.add_zero]; rfl
  | k + 1 => by
    rw [brkTo_step, brkTo_cons' net z y P k, brkTo_step, Nat.add_assoc]
    rfl
theorem steps_brk (net : List Int) : ∀ (P : List Int) (z : Int), stepsN net ((net.getD z.toNat 0)) P = brkTo net (z :: P) P.length
  | [], _ => rfl
  | y :: P, z => by
    rw [List.length_cons, brkTo_cons', ← steps_brk net P y]
    rfl
theorem OrdOk.steps {net x : List Int} (h : OrdOk net x) : pathsOf net x = (stepsN net 0 x : Int) := by
  have hl := h.len
  have hp := h.ok.pos
  cases x with
  | nil => rw [List.length_nil] at hl; omega
  | cons z P =>
    have e := steps_brk net P z
    have e2 : stepsN net 0 (z :: P) = 1 + stepsN net ((net.getD z.toNat 0)) P := by
      rw [stepsN, zero_bit, if_neg (by decide)]
    rw [e2, e, pathsOf, brk, List.length_cons, Nat.add_sub_cancel]
    omega

/-- The least of some numbers of the places of a set. -/
def pvTo (f : Nat → Nat) (left : Nat) : Nat → Nat
  | 0 => 6
  | k + 1 => if left.testBit k = true then min (pvTo f left k) (f k) else pvTo f left k
theorem pvTo_step (f : Nat → Nat) (left k : Nat) : pvTo f left (k + 1) = if left.testBit k = true then min (pvTo f left k) (f k) else pvTo f left k := rfl
theorem pvTo_le (f : Nat → Nat) (left : Nat) : ∀ {n k : Nat}, k < n → left.testBit k = true → pvTo f left n ≤ f k
  | n + 1, k, h, hb => by
    rw [pvTo_step]
    rcases Nat.lt_succ_iff_lt_or_eq.1 h with c | rfl
    · have := pvTo_le f left c hb
      split <;> omega
    · rw [if_pos hb]; omega
theorem pvTo_or (f : Nat → Nat) (left : Nat) : ∀ n, pvTo f left n = 6 ∨ ∃ k, k < n ∧ left.testBit k = true ∧ pvTo f left n = f k
  | 0 => .inl rfl
  | n + 1 => by
    rw [pvTo_step]
    by_cases hb : left.testBit n = true
    · rw [if_pos hb]
      by_cases c : f n ≤ pvTo f left n
      · exact .inr ⟨n, Nat.lt_succ_self _, hb, by omega⟩
      · rw [Nat.min_eq_left (by omega)]
        exact (pvTo_or f left n).imp id fun ⟨k, h1, h2⟩ => ⟨k, by omega, h2⟩
    · rw [if_neg hb]
      exact (pvTo_or f left n).imp id fun ⟨k, h1, h2⟩ => ⟨k, by omega, h2⟩
theorem pvTo_is {f : Nat → Nat} {left n : Nat} (h : ∃ k, k < n ∧ left.testBit k = true ∧ f k ≤ 6) : ∃ k, k < n ∧ left.testBit k = true ∧ pvTo f left n = f k := by
  rcases pvTo_or f left n with e | e
  · obtain ⟨k, h1, h2, h3⟩ := h
    exact ⟨k, h1, h2, by have := pvTo_le f left h1 h2; omega⟩
  · exact e

/-- The least number of paths begun, of so many places left. -/
def pv (net : List Int) : Nat → Nat → Int → Nat
  | 0, _, _ => 0
  | r + 1, left, near => pvTo (fun k => pv net r (less left (2 ^ k)) ((net.getD k 0)) + if bit near k = true then 0 else 1) left net.length
def pvF (net : List Int) (r left : Nat) (near : Int) (k : Nat) : Nat := pv net r (less left (2 ^ k)) ((net.getD k 0)) + if bit near k = true then 0 else 1
theorem pv_all (net : List Int) (r left : Nat) (near : Int) : pv net (r + 1) left near = pvTo (pvF net r left near) left net.length := rfl

theorem pc_less : ∀ s, s < 64 → ∀ k, k < 6 → s.testBit k = true → pc (less s (2 ^ k)) + 1 = pc s := by decide +kernel
theorem pc_some : ∀ s, s < 64 → pc s ≠ 0 → ∃ k, k < 6 ∧ s.testBit k = true := by decide +kernel
theorem pc_none : ∀ s, s < 64 → pc s = 0 → s = 0 := by decide +kernel
theorem pc_full : ∀ n, n < 7 → pc (2 ^ n - 1) = n := by decide +kernel
theorem less_in {x y n : Nat} (h : x < 2 ^ n) : less x y < 2 ^ n := Nat.lt_of_le_of_lt (Nat.and_le_left (n := x)) h
theorem in_64 {x n : Nat} (h : x < 2 ^ n) (h6 : n ≤ 6) : x < 64 := Nat.lt_of_lt_of_le h (Nat.pow_le_pow_right (n := 2) (by decide) h6)
theorem bit_in {x n k : Nat} (h : x < 2 ^ n) (hb : x.testBit k = true) : k < n := by
  refine Decidable.byContradiction fun c => ?_
  rw [Nat.testBit_lt_two_pow (Nat.lt_of_lt_of_le h (Nat.pow_le_pow_right (by decide) (by omega)))] at hb
  cases hb

/-- A list of the places of a set. -/
def Lists1 (left : Nat) (P : List Int) : Prop := P.Nodup ∧ ∀ z, z ∈ P ↔ 0 ≤ z ∧ left.testBit z.toNat = true
theorem less_pow_tb {left k j : Nat} (h : left < 64) : (less left (2 ^ k)).testBit j = (left.testBit j && !(decide (k = j))) := by rw [less_tb _ h, Nat.testBit_two_pow]
theorem Lists1.cons {left k : Nat} {P : List Int} (h64 : left < 64) (hb : left.testBit k = true) (h : Lists1 (less left (2 ^ k)) P) : Lists1 left ((k : Int) :: P) := by
  obtain ⟨h1, h2⟩ := h
  have tb := fun j => less_pow_tb (k := k) (j := j) h64
  refine ⟨List.nodup_cons.2 ⟨fun c => ?_, h1⟩, fun z => ?_⟩
  · have := ((h2 _).1 c).2
    rw [Int.toNat_natCast, tb, decide_eq_true rfl, Bool.not_true, Bool.and_false] at this
    cases this
  · rw [List.mem_cons, h2, tb, Bool.and_eq_true]
    constructor
    · rintro (rfl | ⟨c1, c2, _⟩)
      · exact ⟨by omega, by rw [Int.toNat_natCast]; exact hb⟩
      · exact ⟨c1, c2⟩
    · rintro ⟨c1, c2⟩
      by_cases e : z = (k : Int)
      · exact .inl e
      · exact .inr ⟨c1, c2, by rw [decide_eq_false (show ¬ k = z.toNat by omega)]; rfl⟩
theorem Lists1.tail {left : Nat} {z : Int} {P : List Int} (h64 : left < 64) (h : Lists1 left (z :: P)) : ∃ k : Nat, z = (k : Int) ∧ left.testBit k = true ∧ Lists1 (less left (2 ^ k)) P := by
  obtain ⟨h1, h2⟩ := h
  obtain ⟨h3, h4⟩ := List.nodup_cons.1 h1
  have hz := (h2 z).1 (List.mem_cons_self ..)
  obtain ⟨k, rfl⟩ := Int.eq_ofNat_of_zero_le hz.1
  rw [Int.toNat_natCast] at hz
  refine ⟨k, rfl, hz.2, h4, fun w => ?_⟩
  rw [less_pow_tb h64, Bool.and_eq_true]
  constructor
  · intro c
    have hw := (h2 w).1 (List.mem_cons_of_mem _ c)
    have hne : ¬ k = w.toNat := fun e => h3 (by rw [show (k : Int) = w by omega]; exact c)
    exact ⟨hw.1, hw.2, by rw [decide_eq_false hne]; rfl⟩
  · rintro ⟨c1, c2, c3⟩
    rcases List.mem_cons.1 ((h2 w).2 ⟨c1, c2⟩) with e | e
    · subst e
      rw [Int.toNat_natCast, decide_eq_true rfl] at c3
      cases c3
    · exact e
theorem pv_has {net : List Int} (h6 : net.length ≤ 6) : ∀ (r left : Nat) (near : Int), left < 2 ^ net.length → pc left = r → ∃ P, Lists1 left P ∧ P.length = r ∧ pv net r left near = stepsN net near P
  | 0, left, near, hl, hp => by
    have := pc_none left (in_64 hl h6) hp
    subst this
    exact ⟨[], ⟨List.nodup_nil, fun z => ⟨fun c => (List.not_mem_nil c).elim, fun c => by rw [Nat.zero_testBit] at c; cases c.2⟩⟩, rfl, rfl⟩
  | r + 1, left, near, hl, hp => by
    have h64 := in_64 hl h6
    have hr := pc_six left
    have each : ∀ k, left.testBit k = true → ∃ P, Lists1 left ((k : Int) :: P) ∧ P.length = r ∧ pvF net r left near k = stepsN net near ((k : Int) :: P) := fun k hb => by
      have hk := bit_in hl hb
      have hpl := pc_less left h64 k (by omega) hb
      obtain ⟨P, h1, h2, h3⟩ := pv_has h6 r (less left (2 ^ k)) ((net.getD k 0)) (less_in hl) (by omega)
      refine ⟨P, h1.cons h64 hb, h2, ?_⟩
      rw [pvF, h3, stepsN, Int.toNat_natCast, Nat.add_comm]
    obtain ⟨k0, _, hb0⟩ := pc_some left h64 (by omega)
    obtain ⟨P0, _, e2, e3⟩ := each k0 hb0
    have h0 := stepsN_le net ((k0 : Int) :: P0) near
    rw [List.length_cons] at h0
    obtain ⟨k, h1, h2, h3⟩ := pvTo_is (f := pvF net r left near) (left := left) (n := net.length) ⟨k0, bit_in hl hb0, hb0, by omega⟩
    obtain ⟨P, p1, p2, p3⟩ := each k h2
    exact ⟨_, p1, by rw [List.length_cons, p2], by rw [pv_all, h3, p3]⟩
theorem pv_le {net : List Int} (h6 : net.length ≤ 6) : ∀ (P : List Int) (r left : Nat) (near : Int), left < 2 ^ net.length → pc left = r → Lists1 left P → pv net r left near ≤ stepsN net near P
  | [], r, left, near, hl, hp, hP => by
    cases r with
    | zero => exact Nat.le_refl _
    | succ r =>
      obtain ⟨k, _, hb⟩ := pc_some left (in_64 hl h6) (by omega)
      exact (List.not_mem_nil ((hP.2 (k : Int)).2 ⟨by omega, by rw [Int.toNat_natCast]; exact hb⟩)).elim
  | z :: P, r, left, near, hl, hp, hP => by
    have h64 := in_64 hl h6
    obtain ⟨k, rfl, hb, ht⟩ := hP.tail h64
    have hk := bit_in hl hb
    have hpl := pc_less left h64 k (by omega) hb
    cases r with
    | zero => omega
    | succ r =>
      have h1 := pv_le h6 P r (less left (2 ^ k)) ((net.getD k 0)) (less_in hl) (by omega) ht
      have h2 := pvTo_le (pvF net r left near) left hk hb
      rw [pv_all, stepsN, Int.toNat_natCast]
      unfold pvF at h2
      unfold pvF
      omega
theorem cover_pv {net : List Int} (hN : NetOk net) : cover net = (pv net net.length (2 ^ net.length - 1) 0 : Int) := by
  have h6 := hN.six
  have hpow : 0 < 2 ^ net.length := Nat.pow_pos (by decide)
  have hfull := pc_full net.length (by omega)
  have tb : ∀ z : Int, (0 ≤ z ∧ (2 ^ net.length - 1).testBit z.toNat = true) ↔ 0 ≤ z ∧ z < net.length := fun z => by
    rw [Nat.testBit_two_pow_sub_one, decide_eq_true_eq]
    omega
  obtain ⟨⟨x, hx, e⟩, hmin⟩ := cover_is hN
  obtain ⟨P, p1, _, p3⟩ := pv_has h6 net.length (2 ^ net.length - 1) 0 (by omega) hfull
  have hP : OrdOk net P := ord_of_list hN p1.1 fun z => by rw [p1.2, tb]
  have h1 := hmin P hP
  rw [hP.steps, ← p3] at h1
  have hX : Lists1 (2 ^ net.length - 1) x := ⟨once_iff_nodup.1 hx.2, fun z => by
    rw [tb]
    constructor
    · intro c
      obtain ⟨i, hi, e⟩ := mem_getI c
      have := hx.low (k := i) (by have := hx.len; omega)
      omega
    · rintro ⟨c1, c2⟩
      obtain ⟨k, rfl⟩ := Int.eq_ofNat_of_zero_le c1
      obtain ⟨j, j1, j2⟩ := hx.at (i := k) (by omega)
      rw [← j2, List.getD_eq_getElem?_getD, List.getElem?_eq_getElem (by rw [hx.len]; exact j1)]
      exact List.getElem_mem _⟩
  have h2 := pv_le h6 x net.length (2 ^ net.length - 1) 0 (by omega) hfull hX
  rw [e, hx.steps] at h1 ⊢
  omega

set_option maxHeartbeats 8000000 in
theorem impl_pathsOver {net : List Int} (hN : NetOk net) : ∀ (r left : Nat) (near : Int) (s : SV) (m : Heap), IsInts .i64 m s net → left < 2 ^ net.length → pc left = r → (0 ≤ near ∧ near < 64) →
    AQuiet Try.prog F.impl_pathsOver [.one (.sl s), .one (.int .i64 (left : Int)), .one (.int .i64 near)] m (.one (.int .i64 (pv net r left near : Int))) := by
  intro r
  have h6 := hN.six
  induction r with
  | zero =>
    intro left near s m hs hl hp hn
    have := pc_none left (in_64 hl h6) hp
    subst this
    rw [show pv net 0 0 near = 0 from rfl]
    refine aqn T.impl_pathsOver (by rfl) ?_
    repeat' (first | refine xA ?_ | refine xB ?_ | refine xC ?_ | refine xD ?_ | refine xE ?_ | refine xF ?_ | refine xG ?_ | refine xH ?_ | refine xI rfl ?_ | refine xJ ?_ | refine xK ?_ | refine xL ?_ | refine xM rfl ?_ | refine xN rfl ?_ | refine xO rfl ?_ | (first | refine xP rfl (fun hif => ?_) (fun hif => ?_) | refine xQ rfl (fun hif => ?_) (fun hif => ?_) | refine xR rfl (fun hif => ?_) (fun hif => ?_) | refine xS rfl (fun hif => ?_) (fun hif => ?_)) <;> try (first | contradiction | (exfalso; omega)) | (refine hK _ _ ?_; clear hK K) | (refine And.intro (by first | omega | assumption | (constructor <;> omega)) ?_) | (refine And.intro (fun hif => ?_) (fun hif => ?_) <;> try (first | contradiction | (exfalso; omega))) | ((first | refine xT fun K hK => ?_ | refine xU fun K hK => ?_ | refine yB (fun K hK => ?_) (fun K hK => ?_) | refine xV ?_ | refine yA ?_ | refine xW ?_ | refine xX ?_ | refine xY ?_ | refine xZ ?_) <;> simp only [↓awpOps, ↓awpKeep, ↓awpKeepF, ↓aop, ↓aopQ, ↓abin, ↓aun, ↓onSome_some, ↓Kont_at, ↓KM_at, ↓KV_at, ↓KU_at, refId_row, Frame.ev, Frame.evs, Frame.evOr, Frame.put, Frame.keep, get_nil, get_cons, argFrame, resOf, fillA, Vals.len, Vals.get, Vals.set, Vals.app, Vals.sub, Vals.take, Vals.ofAgg_cons, Vals.ofList, Vals.toInts, Vals.toBools, Vals.toSls, Vals.toStrs, Vals.zeros, Nat.reduceBEq, Nat.reduceAdd, Nat.reduceEqDiff, cond_true, cond_false, Option.map_some, Option.map_none, List.length_cons, List.length_nil, List.replicate, List.set_cons_zero, List.set_cons_succ, Nat.reduceLT, Bool.not_true, Bool.not_false, Int.toNat_natCast, inR, Nat.zero_add, Int.toNat_zero, reduceCtorEq, IntKind.bits, List.nil_append, List.cons_append, Nat.add_zero, Nat.sub_zero, noughts_len, List.map_cons, List.map_nil, zp, zu]) | refine And.intro ?_ (fun hif => (hif trivial).elim) | (intro hif; try (first | contradiction | (exfalso; omega))))
    all_goals (first | exact List.prefix_rfl | exact ⟨rfl, List.prefix_rfl⟩ | exact ⟨by simp, List.prefix_rfl⟩)
  | succ r ih =>
    intro left near s m hs hl hp hn
    have h64 := in_64 hl h6
    have hne : left ≠ 0 := fun c => by subst c; cases hp
    obtain ⟨ref, off, len⟩ := s
    obtain rfl : len = net.length := hs.1
    rw [pv_all]
    have hF : ∀ k, pvF net r left near k = pv net r (less left (2 ^ k)) ((net.getD k 0)) + if bit near k = true then 0 else 1 := fun k => rfl
    have hstep := pvTo_step (pvF net r left near) left
    have h0 : pvTo (pvF net r left near) left 0 = 6 := rfl
    generalize pvF net r left near = f at *
    refine aqn T.impl_pathsOver (by rfl) ?_
    repeat' (first | refine xA ?_ | refine xB ?_ | refine xC ?_ | refine xD ?_ | refine xE ?_ | refine xF ?_ | refine xG ?_ | refine xH ?_ | refine xI rfl ?_ | refine xJ ?_ | refine xK ?_ | refine xL ?_ | refine xM rfl ?_ | refine xN rfl ?_ | refine xO rfl ?_ | (first | refine xP rfl (fun hif => ?_) (fun hif => ?_) | refine xQ rfl (fun hif => ?_) (fun hif => ?_) | refine xR rfl (fun hif => ?_) (fun hif => ?_) | refine xS rfl (fun hif => ?_) (fun hif => ?_)) <;> try (first | contradiction | (exfalso; omega)) | (refine hK _ _ ?_; clear hK K) | (refine And.intro (by first | omega | assumption | (constructor <;> omega)) ?_) | (refine And.intro (fun hif => ?_) (fun hif => ?_) <;> try (first | contradiction | (exfalso; omega))) | ((first | refine xT fun K hK => ?_ | refine xU fun K hK => ?_ | refine yB (fun K hK => ?_) (fun K hK => ?_) | refine xV ?_ | refine yA ?_ | refine xW ?_ | refine xX ?_ | refine xY ?_ | refine xZ ?_) <;> simp only [↓awpOps, ↓awpKeep, ↓awpKeepF, ↓aop, ↓aopQ, ↓abin, ↓aun, ↓onSome_some, ↓Kont_at, ↓KM_at, ↓KV_at, ↓KU_at, refId_row, Frame.ev, Frame.evs, Frame.evOr, Frame.put, Frame.keep, get_nil, get_cons, argFrame, resOf, fillA, Vals.len, Vals.get, Vals.set, Vals.app, Vals.sub, Vals.take, Vals.ofAgg_cons, Vals.ofList, Vals.toInts, Vals.toBools, Vals.toSls, Vals.toStrs, Vals.zeros, Nat.reduceBEq, Nat.reduceAdd, Nat.reduceEqDiff, cond_true, cond_false, Option.map_some, Option.map_none, List.length_cons, List.length_nil, List.replicate, List.set_cons_zero, List.set_cons_succ, Nat.reduceLT, Bool.not_true, Bool.not_false, Int.toNat_natCast, inR, Nat.zero_add, Int.toNat_zero, reduceCtorEq, IntKind.bits, List.nil_append, List.cons_append, Nat.add_zero, Nat.sub_zero, noughts_len, List.map_cons, List.map_nil, zp, zu]) | refine And.intro ?_ (fun hif => (hif trivial).elim) | (intro hif; try (first | contradiction | (exfalso; omega))))
    refine awp_loop ?_
    refine ALoop.by [0, 1, 2, 7, 8] (fun k : Nat => [(0, .one (.sl ⟨ref, off, net.length⟩)), (1, .one (.int .i64 (left : Int))), (2, .one (.int .i64 near)), (7, .one (.int .i64 (pvTo f left k : Int))), (8, .one (.int .i64 k))]) (fun _ => m) (fun k => k ≤ net.length) (fun k => net.length - k) 0 rfl rfl (Nat.zero_le _) ?_
    rintro k hk K1 hK1
    by_cases hlt : k < net.length
    · have hP := impl_hasPlace (left : Int) k (by omega) (by omega) (by omega) m
      have hQ := impl_hasPlace near k (by omega) (by omega) (by omega) m
      have hPs := impl_placeSet k (by omega) m
      have hat := hs.2 k hlt
      have hst := hstep k
      have hFk := hF k
      rw [bit_nat] at hP
      cases g1 : left.testBit k with
      | false =>
        rw [g1] at hP
        rw [g1, if_neg (by decide)] at hst
        repeat' (first | refine xA ?_ | refine xB ?_ | refine xC ?_ | refine xD ?_ | refine xE ?_ | refine xF ?_ | refine xG ?_ | refine xH ?_ | refine xI rfl ?_ | refine xJ ?_ | refine xK ?_ | refine xL ?_ | refine xM rfl ?_ | refine xN rfl ?_ | refine xO rfl ?_ | (first | refine xP rfl (fun hif => ?_) (fun hif => ?_) | refine xQ rfl (fun hif => ?_) (fun hif => ?_) | refine xR rfl (fun hif => ?_) (fun hif => ?_) | refine xS rfl (fun hif => ?_) (fun hif => ?_)) <;> try (first | contradiction | (exfalso; omega)) | (refine hK _ _ ?_; clear hK K) | refine AQuiet.call hP trivial ?_ | refine AQuiet.callq hP trivial ?_ | (refine And.intro (by first | omega | assumption | (constructor <;> omega)) ?_) | (refine And.intro (fun hif => ?_) (fun hif => ?_) <;> try (first | contradiction | (exfalso; omega))) | ((first | refine xT fun K hK => ?_ | refine xU fun K hK => ?_ | refine yB (fun K hK => ?_) (fun K hK => ?_) | refine xV ?_ | refine yA ?_ | refine xW ?_ | refine xX ?_ | refine xY ?_ | refine xZ ?_) <;> simp only [↓awpOps, ↓awpKeep, ↓awpKeepF, ↓aop, ↓aopQ, ↓abin, ↓aun, ↓onSome_some, ↓Kont_at, ↓KM_at, ↓KV_at, ↓KU_at, refId_row, Frame.ev, Frame.evs, Frame.evOr, Frame.put, Frame.keep, get_nil, get_cons, argFrame, resOf, fillA, Vals.len, Vals.get, Vals.set, Vals.app, Vals.sub, Vals.take, Vals.ofAgg_cons, Vals.ofList, Vals.toInts, Vals.toBools, Vals.toSls, Vals.toStrs, Vals.zeros, Nat.reduceBEq, Nat.reduceAdd, Nat.reduceEqDiff, cond_true, cond_false, Option.map_some, Option.map_none, List.length_cons, List.length_nil, List.replicate, List.set_cons_zero, List.set_cons_succ, Nat.reduceLT, Bool.not_true, Bool.not_false, Int.toNat_natCast, inR, Nat.zero_add, Int.toNat_zero, reduceCtorEq, IntKind.bits, List.nil_append, List.cons_append, Nat.add_zero, Nat.sub_zero, noughts_len, List.map_cons, List.map_nil, zp, zu]) | refine And.intro ?_ (fun hif => (hif trivial).elim) | (intro hif; try (first | contradiction | (exfalso; omega))))
        all_goals exact hK1 (k + 1) _ _ (by rw [hst]; rfl) rfl (by omega) (by omega)
      | true =>
        rw [g1] at hP
        rw [g1, if_pos rfl] at hst
        have hbn : bandNotInt .i64 (left : Int) (2 ^ k) = ((less left (2 ^ k) : Nat) : Int) := by
          rw [pow_nat]
          exact bandNot_less h64 (pow_lt64 (by omega))
        have hsm := hN.small hlt
        have hpl := pc_less left h64 k (by omega) g1
        have hR := ih (less left (2 ^ k)) ((net.getD k 0)) ⟨ref, off, net.length⟩ m hs (less_in hl) (by omega) ⟨by omega, by have := nrow_lt hN k; have := nrow_int hN hlt; omega⟩
        have hr6 := pv_has h6 r (less left (2 ^ k)) ((net.getD k 0)) (less_in hl) (by omega)
        have hpv : pv net r (less left (2 ^ k)) ((net.getD k 0)) ≤ 6 := by
          obtain ⟨P, _, e1, e2⟩ := hr6
          have := stepsN_le net P ((net.getD k 0))
          have := pc_six left
          omega
        clear hr6
        generalize pv net r (less left (2 ^ k)) ((net.getD k 0)) = w at *
        generalize less left (2 ^ k) = left' at *
        cases g2 : bit near k with
        | true =>
          rw [g2] at hQ
          rw [g2, if_pos rfl, Nat.add_zero] at hFk
          have cL := impl_lesserOf_9 (pvTo f left k : Int) (w : Int) m
          rw [show min (pvTo f left k : Int) (w : Int) = (pvTo f left (k + 1) : Int) by rw [hst, hFk]; omega] at cL
          repeat' (first | refine xA ?_ | refine xB ?_ | refine xC ?_ | refine xD ?_ | refine xE ?_ | refine xF ?_ | refine xG ?_ | refine xH ?_ | refine xI rfl ?_ | refine xJ ?_ | refine xK ?_ | refine xL ?_ | refine xM rfl ?_ | refine xN rfl ?_ | refine xO rfl ?_ | (first | refine xP rfl (fun hif => ?_) (fun hif => ?_) | refine xQ rfl (fun hif => ?_) (fun hif => ?_) | refine xR rfl (fun hif => ?_) (fun hif => ?_) | refine xS rfl (fun hif => ?_) (fun hif => ?_)) <;> try (first | contradiction | (exfalso; omega)) | (refine hK _ _ ?_; clear hK K) | refine onSome_of hat ?_ | refine AQuiet.call hP trivial ?_ | refine AQuiet.callq hP trivial ?_ | refine AQuiet.call hPs trivial ?_ | refine AQuiet.callq hPs trivial ?_ | rw [hbn] | refine AQuiet.call hR trivial ?_ | refine AQuiet.callq hR trivial ?_ | refine AQuiet.call hQ trivial ?_ | refine AQuiet.callq hQ trivial ?_ | refine AQuiet.call cL trivial ?_ | refine AQuiet.callq cL trivial ?_ | (refine And.intro (by first | omega | assumption | (constructor <;> omega)) ?_) | (refine And.intro (fun hif => ?_) (fun hif => ?_) <;> try (first | contradiction | (exfalso; omega))) | ((first | refine xT fun K hK => ?_ | refine xU fun K hK => ?_ | refine yB (fun K hK => ?_) (fun K hK => ?_) | refine xV ?_ | refine yA ?_ | refine xW ?_ | refine xX ?_ | refine xY ?_ | refine xZ ?_) <;> simp only [↓awpOps, ↓awpKeep, ↓awpKeepF, ↓aop, ↓aopQ, ↓abin, ↓aun, ↓onSome_some, ↓Kont_at, ↓KM_at, ↓KV_at, ↓KU_at, refId_row, Frame.ev, Frame.evs, Frame.evOr, Frame.put, Frame.keep, get_nil, get_cons, argFrame, resOf, fillA, Vals.len, Vals.get, Vals.set, Vals.app, Vals.sub, Vals.take, Vals.ofAgg_cons, Vals.ofList, Vals.toInts, Vals.toBools, Vals.toSls, Vals.toStrs, Vals.zeros, Nat.reduceBEq, Nat.reduceAdd, Nat.reduceEqDiff, cond_true, cond_false, Option.map_some, Option.map_none, List.length_cons, List.length_nil, List.replicate, List.set_cons_zero, List.set_cons_succ, Nat.reduceLT, Bool.not_true, Bool.not_false, Int.toNat_natCast, inR, Nat.zero_add, Int.toNat_zero, reduceCtorEq, IntKind.bits, List.nil_append, List.cons_append, Nat.add_zero, Nat.sub_zero, noughts_len, List.map_cons, List.map_nil, zp, zu]) | refine And.intro ?_ (fun hif => (hif trivial).elim) | (intro hif; try (first | contradiction | (exfalso; omega))))
          all_goals exact hK1 (k + 1) _ _ rfl rfl (by omega) (by omega)
        | false =>
          rw [g2] at hQ
          rw [g2, if_neg (by decide)] at hFk
          have cL := impl_lesserOf_9 (pvTo f left k : Int) ((w : Int) + 1) m
          rw [show min (pvTo f left k : Int) ((w : Int) + 1) = (pvTo f left (k + 1) : Int) by rw [hst, hFk]; omega] at cL
          repeat' (first | refine xA ?_ | refine xB ?_ | refine xC ?_ | refine xD ?_ | refine xE ?_ | refine xF ?_ | refine xG ?_ | refine xH ?_ | refine xI rfl ?_ | refine xJ ?_ | refine xK ?_ | refine xL ?_ | refine xM rfl ?_ | refine xN rfl ?_ | refine xO rfl ?_ | (first | refine xP rfl (fun hif => ?_) (fun hif => ?_) | refine xQ rfl (fun hif => ?_) (fun hif => ?_) | refine xR rfl (fun hif => ?_) (fun hif => ?_) | refine xS rfl (fun hif => ?_) (fun hif => ?_)) <;> try (first | contradiction | (exfalso; omega)) | (refine hK _ _ ?_; clear hK K) | refine onSome_of hat ?_ | refine AQuiet.call hP trivial ?_ | refine AQuiet.callq hP trivial ?_ | refine AQuiet.call hPs trivial ?_ | refine AQuiet.callq hPs trivial ?_ | rw [hbn] | refine AQuiet.call hR trivial ?_ | refine AQuiet.callq hR trivial ?_ | refine AQuiet.call hQ trivial ?_ | refine AQuiet.callq hQ trivial ?_ | refine AQuiet.call cL trivial ?_ | refine AQuiet.callq cL trivial ?_ | (refine And.intro (by first | omega | assumption | (constructor <;> omega)) ?_) | (refine And.intro (fun hif => ?_) (fun hif => ?_) <;> try (first | contradiction | (exfalso; omega))) | ((first | refine xT fun K hK => ?_ | refine xU fun K hK => ?_ | refine yB (fun K hK => ?_) (fun K hK => ?_) | refine xV ?_ | refine yA ?_ | refine xW ?_ | refine xX ?_ | refine xY ?_ | refine xZ ?_) <;> simp only [↓awpOps, ↓awpKeep, ↓awpKeepF, ↓aop, ↓aopQ, ↓abin, ↓aun, ↓onSome_some, ↓Kont_at, ↓KM_at, ↓KV_at, ↓KU_at, refId_row, Frame.ev, Frame.evs, Frame.evOr, Frame.put, Frame.keep, get_nil, get_cons, argFrame, resOf, fillA, Vals.len, Vals.get, Vals.set, Vals.app, Vals.sub, Vals.take, Vals.ofAgg_cons, Vals.ofList, Vals.toInts, Vals.toBools, Vals.toSls, Vals.toStrs, Vals.zeros, Nat.reduceBEq, Nat.reduceAdd, Nat.reduceEqDiff, cond_true, cond_false, Option.map_some, Option.map_none, List.length_cons, List.length_nil, List.replicate, List.set_cons_zero, List.set_cons_succ, Nat.reduceLT, Bool.not_true, Bool.not_false, Int.toNat_natCast, inR, Nat.zero_add, Int.toNat_zero, reduceCtorEq, IntKind.bits, List.nil_append, List.cons_append, Nat.add_zero, Nat.sub_zero, noughts_len, List.map_cons, List.map_nil, zp, zu]) | refine And.intro ?_ (fun hif => (hif trivial).elim) | (intro hif; try (first | contradiction | (exfalso; omega))))
          all_goals exact hK1 (k + 1) _ _ rfl rfl (by omega) (by omega)
    · obtain rfl : k = net.length := by omega
      repeat' (first | refine xA ?_ | refine xB ?_ | refine xC ?_ | refine xD ?_ | refine xE ?_ | refine xF ?_ | refine xG ?_ | refine xH ?_ | refine xI rfl ?_ | refine xJ ?_ | refine xK ?_ | refine xL ?_ | refine xM rfl ?_ | refine xN rfl ?_ | refine xO rfl ?_ | (first | refine xP rfl (fun hif => ?_) (fun hif => ?_) | refine xQ rfl (fun hif => ?_) (fun hif => ?_) | refine xR rfl (fun hif => ?_) (fun hif => ?_) | refine xS rfl (fun hif => ?_) (fun hif => ?_)) <;> try (first | contradiction | (exfalso; omega)) | (refine hK _ _ ?_; clear hK K) | (refine And.intro (by first | omega | assumption | (constructor <;> omega)) ?_) | (refine And.intro (fun hif => ?_) (fun hif => ?_) <;> try (first | contradiction | (exfalso; omega))) | ((first | refine xT fun K hK => ?_ | refine xU fun K hK => ?_ | refine yB (fun K hK => ?_) (fun K hK => ?_) | refine xV ?_ | refine yA ?_ | refine xW ?_ | refine xX ?_ | refine xY ?_ | refine xZ ?_) <;> simp only [↓awpOps, ↓awpKeep, ↓awpKeepF, ↓aop, ↓aopQ, ↓abin, ↓aun, ↓onSome_some, ↓Kont_at, ↓KM_at, ↓KV_at, ↓KU_at, refId_row, Frame.ev, Frame.evs, Frame.evOr, Frame.put, Frame.keep, get_nil, get_cons, argFrame, resOf, fillA, Vals.len, Vals.get, Vals.set, Vals.app, Vals.sub, Vals.take, Vals.ofAgg_cons, Vals.ofList, Vals.toInts, Vals.toBools, Vals.toSls, Vals.toStrs, Vals.zeros, Nat.reduceBEq, Nat.reduceAdd, Nat.reduceEqDiff, cond_true, cond_false, Option.map_some, Option.map_none, List.length_cons, List.length_nil, List.replicate, List.set_cons_zero, List.set_cons_succ, Nat.reduceLT, Bool.not_true, Bool.not_false, Int.toNat_natCast, inR, Nat.zero_add, Int.toNat_zero, reduceCtorEq, IntKind.bits, List.nil_append, List.cons_append, Nat.add_zero, Nat.sub_zero, noughts_len, List.map_cons, List.map_nil, zp, zu]) | refine And.intro ?_ (fun hif => (hif trivial).elim) | (intro hif; try (first | contradiction | (exfalso; omega))))
      all_goals (first | exact List.prefix_rfl | exact ⟨rfl, List.prefix_rfl⟩ | exact ⟨by simp, List.prefix_rfl⟩)

/-! ### The functions of the chapter -/

set_option maxHeartbeats 8000000 in
theorem impl_ChannelOk (s t : SV) (net row : List Int) (m : Heap) (hs : IsInts .i64 m s net) (ht : IsInts .i64 m t row) : AQuiet Try.prog F.impl_ChannelOk [.one (.sl s), .one (.sl t)] m (.one (.bool (decide (ChOk net row)))) := by
  have hI := impl_RowOk s t net row m hs ht
  refine ACalls_wf_q fun hwf => ?_
  by_cases hR : RowOk net row
  · rw [decide_eq_true hR] at hI
    have hN := hR.ok
    have hlen := hR.len
    have hrow30 := hR.low
    have h6 := hN.six
    obtain ⟨ref, off, len⟩ := s
    obtain rfl : len = net.length := hs.1
    obtain ⟨ref', off', len'⟩ := t
    obtain rfl : len' = row.length := ht.1
    have hg0 := Grow.push hwf Ty.impl_begunChannels true (.ints .i64 [0, 0, 0, 0, 0, 0, 0])
    have hz : Vals.ofAgg [.int .i64 0, .int .i64 0, .int .i64 0, .int .i64 0, .int .i64 0, .int .i64 0, .int .i64 0] = .ints .i64 (chanL [] 0) := rfl
    refine aqn T.impl_ChannelOk (by rfl) ?_
    repeat' (first | refine xA ?_ | refine xB ?_ | refine xC ?_ | refine xD ?_ | refine xE ?_ | refine xF ?_ | refine xG ?_ | refine xH ?_ | refine xI rfl ?_ | refine xJ ?_ | refine xK ?_ | refine xL ?_ | refine xM rfl ?_ | refine xN rfl ?_ | refine xO rfl ?_ | (first | refine xP rfl (fun hif => ?_) (fun hif => ?_) | refine xQ rfl (fun hif => ?_) (fun hif => ?_) | refine xR rfl (fun hif => ?_) (fun hif => ?_) | refine xS rfl (fun hif => ?_) (fun hif => ?_)) <;> try (first | contradiction | (exfalso; omega)) | (refine hK _ _ ?_; clear hK K) | refine AQuiet.call hI trivial ?_ | refine st_agg hg0.wf (get_last _ _) rfl rfl hz fun m1 g1 l1 r1 => ?_ | (refine And.intro (by first | omega | assumption | (constructor <;> omega)) ?_) | (refine And.intro (fun hif => ?_) (fun hif => ?_) <;> try (first | contradiction | (exfalso; omega))) | ((first | refine xT fun K hK => ?_ | refine xU fun K hK => ?_ | refine yB (fun K hK => ?_) (fun K hK => ?_) | refine xV ?_ | refine yA ?_ | refine xW ?_ | refine xX ?_ | refine xY ?_ | refine xZ ?_) <;> simp only [↓awpOps, ↓awpKeep, ↓awpKeepF, ↓aop, ↓aopQ, ↓abin, ↓aun, ↓onSome_some, ↓Kont_at, ↓KM_at, ↓KV_at, ↓KU_at, refId_row, Frame.ev, Frame.evs, Frame.evOr, Frame.put, Frame.keep, get_nil, get_cons, argFrame, resOf, fillA, Vals.len, Vals.get, Vals.set, Vals.app, Vals.sub, Vals.take, Vals.ofAgg_cons, Vals.ofList, Vals.toInts, Vals.toBools, Vals.toSls, Vals.toStrs, Vals.zeros, Nat.reduceBEq, Nat.reduceAdd, Nat.reduceEqDiff, cond_true, cond_false, Option.map_some, Option.map_none, List.length_cons, List.length_nil, List.replicate, List.set_cons_zero, List.set_cons_succ, Nat.reduceLT, Bool.not_true, Bool.not_false, Int.toNat_natCast, inR, Nat.zero_add, Int.toNat_zero, reduceCtorEq, IntKind.bits, List.nil_append, List.cons_append, Nat.add_zero, Nat.sub_zero, noughts_len, List.map_cons, List.map_nil, zp, zu]) | refine And.intro ?_ (fun hif => (hif trivial).elim) | (intro hif; try (first | contradiction | (exfalso; omega))))
    have hp1 := g1.pre (prefix_push _ _) hwf (Nat.le_refl _)
    refine awp_loop ?_
    refine ALoop.by [0, 1, 5, 6] (fun a : Nat × Heap => [(0, .one (.sl ⟨ref, off, net.length⟩)), (1, .one (.sl ⟨ref', off', row.length⟩)), (5, .one (.ptr m.length 0)), (6, .one (.int .i64 a.1))]) (fun a => a.2)
      (fun a => a.1 ≤ row.length ∧ PCh net (row.take a.1) 30 ∧ m <+: a.2 ∧ a.2.wf ∧ a.2[m.length]? = some ⟨Ty.impl_begunChannels, m.length, true, .ints .i64 (chanL (row.take a.1) (2 ^ a.1 - 1))⟩) (fun a => row.length - a.1) (0, m1) rfl rfl ⟨Nat.zero_le _, ⟨fun k hk => absurd hk (Nat.not_lt_zero _), fun a b ha => absurd ha (Nat.not_lt_zero _), fun a b ha => absurd ha (Nat.not_lt_zero _)⟩, hp1, g1.wf, r1⟩ ?_
    rintro ⟨k, mo⟩ ⟨hk, hW, hpo, hwo, hro⟩ K1 hK1
    simp only at hk hW hpo hwo hro
    have hso := hs.pre hpo
    have hto := ht.pre hpo
    by_cases hlt : k < row.length
    · have hat := hto.2 k hlt
      have hv := hrow30 k hlt
      have hrl : (row.take k).length = k := by rw [List.length_take]; omega
      have hnx : row.take (k + 1) = row.take k ++ [(row.getD k 0)] := by
        rw [List.take_add_one, List.getD_eq_getElem?_getD, List.getElem?_eq_getElem hlt]
        rfl
      have hcs := cells_ints hro (n := 7) rfl
      have hG64 : 2 ^ k - 1 < 64 := full_lt (by omega)
      have cF : AQuiet Try.prog F.impl_fitsIn [.one (.sl ⟨ref, off, net.length⟩), .agg ((chanL (row.take k) (2 ^ k - 1)).map (AV.int .i64)), .one (.int .i64 (k : Int)), .one (.int .i64 ((row.getD k 0)))] mo (.one (.bool (decide (Fit net (row.take k) (2 ^ k - 1) k ((row.getD k 0)))))) := impl_fitsIn hso hN (by omega) hG64 (full_own k) hv fun j _ hb => by
        have hj : j < k := by rw [Nat.testBit_two_pow_sub_one] at hb; exact of_decide_eq_true hb
        rw [take_get hj]
        exact hrow30 j (by omega)
      have cW : AQuiet Try.prog F.impl_withChannel [.agg ((chanL (row.take k) (2 ^ k - 1)).map (AV.int .i64)), .one (.int .i64 (k : Int)), .one (.int .i64 ((row.getD k 0)))] mo (chanX (row.take (k + 1)) (2 ^ k - 1 ||| 2 ^ k)) := impl_withChannel mo (by omega) hG64 (by
        have := chanL_push (row.take k) ((row.getD k 0)) (2 ^ k - 1) (2 ^ k - 1 ||| 2 ^ k) (by omega)
        rw [hrl] at this
        rw [hnx]
        exact this)
      rw [full_next k (by omega)] at cW
      have hpush : Fit net (row.take k) (2 ^ k - 1) k ((row.getD k 0)) → PCh net (row.take (k + 1)) 30 := fun hf => by
        have e := fit_push net (row.take k) ((row.getD k 0))
        rw [hrl] at e
        have := hW.push hN (by omega) hv (v := (row.getD k 0)) (by rw [hrl]; exact e.2 hf)
        rw [hnx]
        exact this
      have hno : ¬ Fit net (row.take k) (2 ^ k - 1) k ((row.getD k 0)) → decide (ChOk net row) = false := fun hf => decide_eq_false fun h => hf (ch_fit h.2 (by omega))
      unfold chanX at cW
      have hagg2 : Vals.ofAgg ((chanL (row.take (k + 1)) (2 ^ (k + 1) - 1)).map (AV.int .i64)) = .ints .i64 (chanL (row.take (k + 1)) (2 ^ (k + 1) - 1)) := Vals.ofAgg_ints _ _ _
      have hm2 : ((chanL (row.take (k + 1)) (2 ^ (k + 1) - 1)).map (AV.int .i64)).length = 7 := rfl
      have hL9 : (chanL (row.take k) (2 ^ k - 1)).length = 7 := rfl
      have hnext : ∀ m2 : Heap, m <+: m2 → m2.wf → PCh net (row.take (k + 1)) 30 → m2[m.length]? = some ⟨Ty.impl_begunChannels, m.length, true, .ints .i64 (chanL (row.take (k + 1)) (2 ^ (k + 1) - 1))⟩ → (fun a : Nat × Heap => a.1 ≤ row.length ∧ PCh net (row.take a.1) 30 ∧ m <+: a.2 ∧ a.2.wf ∧ a.2[m.length]? = some ⟨Ty.impl_begunChannels, m.length, true, .ints .i64 (chanL (row.take a.1) (2 ^ a.1 - 1))⟩) (k + 1, m2) := fun m2 q1 q2 q3 q4 => ⟨hlt, q3, q1, q2, q4⟩
      by_cases hf : Fit net (row.take k) (2 ^ k - 1) k ((row.getD k 0))
      · rw [decide_eq_true hf] at cF
        have hpush := hpush hf
        clear hno hnx
        generalize chanL (row.take k) (2 ^ k - 1) = L at *
        generalize chanL (row.take (k + 1)) (2 ^ (k + 1) - 1) = L' at *
        repeat' (first | refine xA ?_ | refine xB ?_ | refine xC ?_ | refine xD ?_ | refine xE ?_ | refine xF ?_ | refine xG ?_ | refine xH ?_ | refine xI rfl ?_ | refine xJ ?_ | refine xK ?_ | refine xL ?_ | refine xM rfl ?_ | refine xN rfl ?_ | refine xO rfl ?_ | (first | refine xP rfl (fun hif => ?_) (fun hif => ?_) | refine xQ rfl (fun hif => ?_) (fun hif => ?_) | refine xR rfl (fun hif => ?_) (fun hif => ?_) | refine xS rfl (fun hif => ?_) (fun hif => ?_)) <;> try (first | contradiction | (exfalso; omega)) | (refine hK _ _ ?_; clear hK K) | refine onCells_of hcs ?_ | refine onSome_of hat ?_ | refine AQuiet.call cF trivial ?_ | refine AQuiet.callq cF trivial ?_ | refine AQuiet.call cW (flats_ints _ _) ?_ | refine AQuiet.callq cW (flats_ints _ _) ?_ | refine st_agg hwo hro hm2.symm hL9 hagg2 fun m2 g2 l2 r2 => ?_ | (refine And.intro (by first | omega | assumption | (constructor <;> omega)) ?_) | (refine And.intro (fun hif => ?_) (fun hif => ?_) <;> try (first | contradiction | (exfalso; omega))) | ((first | refine xT fun K hK => ?_ | refine xU fun K hK => ?_ | refine yB (fun K hK => ?_) (fun K hK => ?_) | refine xV ?_ | refine yA ?_ | refine xW ?_ | refine xX ?_ | refine xY ?_ | refine xZ ?_) <;> simp only [↓awpOps, ↓awpKeep, ↓awpKeepF, ↓aop, ↓aopQ, ↓abin, ↓aun, ↓onSome_some, ↓Kont_at, ↓KM_at, ↓KV_at, ↓KU_at, refId_row, Frame.ev, Frame.evs, Frame.evOr, Frame.put, Frame.keep, get_nil, get_cons, argFrame, resOf, fillA, Vals.len, Vals.get, Vals.set, Vals.app, Vals.sub, Vals.take, Vals.ofAgg_cons, Vals.ofList, Vals.toInts, Vals.toBools, Vals.toSls, Vals.toStrs, Vals.zeros, Nat.reduceBEq, Nat.reduceAdd, Nat.reduceEqDiff, cond_true, cond_false, Option.map_some, Option.map_none, List.length_cons, List.length_nil, List.replicate, List.set_cons_zero, List.set_cons_succ, Nat.reduceLT, Bool.not_true, Bool.not_false, Int.toNat_natCast, inR, Nat.zero_add, Int.toNat_zero, reduceCtorEq, IntKind.bits, List.nil_append, List.cons_append, Nat.add_zero, Nat.sub_zero, noughts_len, List.map_cons, List.map_nil, zp, zu]) | refine And.intro ?_ (fun hif => (hif trivial).elim) | (intro hif; try (first | contradiction | (exfalso; omega))))
        all_goals exact hK1 (k + 1, m2) _ _ rfl rfl (hnext m2 (g2.pre hpo hwf (Nat.le_refl _)) g2.wf hpush r2) (by simp only; omega)
      · rw [decide_eq_false hf] at cF
        rw [hno hf]
        clear hno hnx hpush hnext
        generalize chanL (row.take k) (2 ^ k - 1) = L at *
        repeat' (first | refine xA ?_ | refine xB ?_ | refine xC ?_ | refine xD ?_ | refine xE ?_ | refine xF ?_ | refine xG ?_ | refine xH ?_ | refine xI rfl ?_ | refine xJ ?_ | refine xK ?_ | refine xL ?_ | refine xM rfl ?_ | refine xN rfl ?_ | refine xO rfl ?_ | (first | refine xP rfl (fun hif => ?_) (fun hif => ?_) | refine xQ rfl (fun hif => ?_) (fun hif => ?_) | refine xR rfl (fun hif => ?_) (fun hif => ?_) | refine xS rfl (fun hif => ?_) (fun hif => ?_)) <;> try (first | contradiction | (exfalso; omega)) | (refine hK _ _ ?_; clear hK K) | refine onCells_of hcs ?_ | refine onSome_of hat ?_ | refine AQuiet.call cF trivial ?_ | refine AQuiet.callq cF trivial ?_ | (refine And.intro (by first | omega | assumption | (constructor <;> omega)) ?_) | (refine And.intro (fun hif => ?_) (fun hif => ?_) <;> try (first | contradiction | (exfalso; omega))) | ((first | refine xT fun K hK => ?_ | refine xU fun K hK => ?_ | refine yB (fun K hK => ?_) (fun K hK => ?_) | refine xV ?_ | refine yA ?_ | refine xW ?_ | refine xX ?_ | refine xY ?_ | refine xZ ?_) <;> simp only [↓awpOps, ↓awpKeep, ↓awpKeepF, ↓aop, ↓aopQ, ↓abin, ↓aun, ↓onSome_some, ↓Kont_at, ↓KM_at, ↓KV_at, ↓KU_at, refId_row, Frame.ev, Frame.evs, Frame.evOr, Frame.put, Frame.keep, get_nil, get_cons, argFrame, resOf, fillA, Vals.len, Vals.get, Vals.set, Vals.app, Vals.sub, Vals.take, Vals.ofAgg_cons, Vals.ofList, Vals.toInts, Vals.toBools, Vals.toSls, Vals.toStrs, Vals.zeros, Nat.reduceBEq, Nat.reduceAdd, Nat.reduceEqDiff, cond_true, cond_false, Option.map_some, Option.map_none, List.length_cons, List.length_nil, List.replicate, List.set_cons_zero, List.set_cons_succ, Nat.reduceLT, Bool.not_true, Bool.not_false, Int.toNat_natCast, inR, Nat.zero_add, Int.toNat_zero, reduceCtorEq, IntKind.bits, List.nil_append, List.cons_append, Nat.add_zero, Nat.sub_zero, noughts_len, List.map_cons, List.map_nil, zp, zu]) | refine And.intro ?_ (fun hif => (hif trivial).elim) | (intro hif; try (first | contradiction | (exfalso; omega))))
        all_goals first | exact hpo | exact ⟨rfl, hpo⟩
    · obtain rfl : k = row.length := by omega
      rw [List.take_length] at hW
      rw [decide_eq_true (hW.all hN hlen)]
      repeat' (first | refine xA ?_ | refine xB ?_ | refine xC ?_ | refine xD ?_ | refine xE ?_ | refine xF ?_ | refine xG ?_ | refine xH ?_ | refine xI rfl ?_ | refine xJ ?_ | refine xK ?_ | refine xL ?_ | refine xM rfl ?_ | refine xN rfl ?_ | refine xO rfl ?_ | (first | refine xP rfl (fun hif => ?_) (fun hif => ?_) | refine xQ rfl (fun hif => ?_) (fun hif => ?_) | refine xR rfl (fun hif => ?_) (fun hif => ?_) | refine xS rfl (fun hif => ?_) (fun hif => ?_)) <;> try (first | contradiction | (exfalso; omega)) | (refine hK _ _ ?_; clear hK K) | (refine And.intro (by first | omega | assumption | (constructor <;> omega)) ?_) | (refine And.intro (fun hif => ?_) (fun hif => ?_) <;> try (first | contradiction | (exfalso; omega))) | ((first | refine xT fun K hK => ?_ | refine xU fun K hK => ?_ | refine yB (fun K hK => ?_) (fun K hK => ?_) | refine xV ?_ | refine yA ?_ | refine xW ?_ | refine xX ?_ | refine xY ?_ | refine xZ ?_) <;> simp only [↓awpOps, ↓awpKeep, ↓awpKeepF, ↓aop, ↓aopQ, ↓abin, ↓aun, ↓onSome_some, ↓Kont_at, ↓KM_at, ↓KV_at, ↓KU_at, refId_row, Frame.ev, Frame.evs, Frame.evOr, Frame.put, Frame.keep, get_nil, get_cons, argFrame, resOf, fillA, Vals.len, Vals.get, Vals.set, Vals.app, Vals.sub, Vals.take, Vals.ofAgg_cons, Vals.ofList, Vals.toInts, Vals.toBools, Vals.toSls, Vals.toStrs, Vals.zeros, Nat.reduceBEq, Nat.reduceAdd, Nat.reduceEqDiff, cond_true, cond_false, Option.map_some, Option.map_none, List.length_cons, List.length_nil, List.replicate, List.set_cons_zero, List.set_cons_succ, Nat.reduceLT, Bool.not_true, Bool.not_false, Int.toNat_natCast, inR, Nat.zero_add, Int.toNat_zero, reduceCtorEq, IntKind.bits, List.nil_append, List.cons_append, Nat.add_zero, Nat.sub_zero, noughts_len, List.map_cons, List.map_nil, zp, zu]) | refine And.intro ?_ (fun hif => (hif trivial).elim) | (intro hif; try (first | contradiction | (exfalso; omega))))
      all_goals first | exact hpo | exact ⟨rfl, hpo⟩
  · rw [decide_eq_false fun h : ChOk net row => hR h.rowOk]
    rw [decide_eq_false hR] at hI
    refine aqn T.impl_ChannelOk (by rfl) ?_
    repeat' (first | refine xA ?_ | refine xB ?_ | refine xC ?_ | refine xD ?_ | refine xE ?_ | refine xF ?_ | refine xG ?_ | refine xH ?_ | refine xI rfl ?_ | refine xJ ?_ | refine xK ?_ | refine xL ?_ | refine xM rfl ?_ | refine xN rfl ?_ | refine xO rfl ?_ | (first | refine xP rfl (fun hif => ?_) (fun hif => ?_) | refine xQ rfl (fun hif => ?_) (fun hif => ?_) | refine xR rfl (fun hif => ?_) (fun hif => ?_) | refine xS rfl (fun hif => ?_) (fun hif => ?_)) <;> try (first | contradiction | (exfalso; omega)) | (refine hK _ _ ?_; clear hK K) | refine AQuiet.call hI trivial ?_ | (refine And.intro (by first | omega | assumption | (constructor <;> omega)) ?_) | (refine And.intro (fun hif => ?_) (fun hif => ?_) <;> try (first | contradiction | (exfalso; omega))) | ((first | refine xT fun K hK => ?_ | refine xU fun K hK => ?_ | refine yB (fun K hK => ?_) (fun K hK => ?_) | refine xV ?_ | refine yA ?_ | refine xW ?_ | refine xX ?_ | refine xY ?_ | refine xZ ?_) <;> simp only [↓awpOps, ↓awpKeep, ↓awpKeepF, ↓aop, ↓aopQ, ↓abin, ↓aun, ↓onSome_some, ↓Kont_at, ↓KM_at, ↓KV_at, ↓KU_at, refId_row, Frame.ev, Frame.evs, Frame.evOr, Frame.put, Frame.keep, get_nil, get_cons, argFrame, resOf, fillA, Vals.len, Vals.get, Vals.set, Vals.app, Vals.sub, Vals.take, Vals.ofAgg_cons, Vals.ofList, Vals.toInts, Vals.toBools, Vals.toSls, Vals.toStrs, Vals.zeros, Nat.reduceBEq, Nat.reduceAdd, Nat.reduceEqDiff, cond_true, cond_false, Option.map_some, Option.map_none, List.length_cons, List.length_nil, List.replicate, List.set_cons_zero, List.set_cons_succ, Nat.reduceLT, Bool.not_true, Bool.not_false, Int.toNat_natCast, inR, Nat.zero_add, Int.toNat_zero, reduceCtorEq, IntKind.bits, List.nil_append, List.cons_append, Nat.add_zero, Nat.sub_zero, noughts_len, List.map_cons, List.map_nil, zp, zu]) | refine And.intro ?_ (fun hif => (hif trivial).elim) | (intro hif; try (first | contradiction | (exfalso; omega))))
    all_goals (first | exact List.prefix_rfl | exact ⟨rfl, List.prefix_rfl⟩ | exact ⟨by simp, List.prefix_rfl⟩)

set_option maxHeartbeats 4000000 in
theorem impl_ChannelFirst (s : SV) (net : List Int) (m : Heap) (hs : IsInts .i64 m s net) : ARet Try.prog F.impl_ChannelFirst [.one (.sl s)] m Ty.int (.ints .i64 (chanFirst net)) := by
  refine arn T.impl_ChannelFirst (by rfl) fun hwf => ?_
  by_cases hN : NetOk net
  · obtain ⟨s1, s2, s3⟩ := span_is hN
    have ec : chanFirst net = chanAt net (spanN net) := if_pos hN
    rw [ec]
    have cC : ∀ (t : Nat) (tI : Int) (m' : Heap), t ≤ 10 → tI = (t : Int) → IsInts .i64 m' s net → ARet2 Try.prog F.impl_channelsFrom [.one (.sl s), .agg [.int .i64 0, .int .i64 0, .int .i64 0, .int .i64 0, .int .i64 0, .int .i64 0, .int .i64 0], .one (.int .i64 0), .one (.int .i64 tI)] m' Ty.int (.ints .i64 (chanAt net t)) (.bool (decide ((chanAt net t).length ≠ 0))) := fun t tI m' ht e hs' => by
      subst e
      exact impl_channelsFrom hN (t := t) (by omega) net.length [] 0 0 s m' hs' (by simp) rfl rfl fun k hk => absurd hk (Nat.not_lt_zero _)
    have c0 := fun m' h => cC 0 0 m' (by omega) rfl h
    repeat' (first | refine xA ?_ | refine xB ?_ | refine xC ?_ | refine xD ?_ | refine xE ?_ | refine xF ?_ | refine xG ?_ | refine xH ?_ | refine xI rfl ?_ | refine xJ ?_ | refine xK ?_ | refine xL ?_ | refine xM rfl ?_ | refine xN rfl ?_ | refine xO rfl ?_ | (first | refine xP rfl (fun hif => ?_) (fun hif => ?_) | refine xQ rfl (fun hif => ?_) (fun hif => ?_) | refine xR rfl (fun hif => ?_) (fun hif => ?_) | refine xS rfl (fun hif => ?_) (fun hif => ?_)) <;> try (first | contradiction | (exfalso; omega)) | (refine hK _ _ ?_; clear hK K) | refine AQuiet.call (impl_NetOk_t hs hN) trivial ?_ | refine ARet2.call (c0 _ hs) fun s5 m5 g5 o5 => ?_ | (refine And.intro (by first | omega | assumption | (constructor <;> omega)) ?_) | (refine And.intro (fun hif => ?_) (fun hif => ?_) <;> try (first | contradiction | (exfalso; omega))) | ((first | refine xT fun K hK => ?_ | refine xU fun K hK => ?_ | refine yB (fun K hK => ?_) (fun K hK => ?_) | refine xV ?_ | refine yA ?_ | refine xW ?_ | refine xX ?_ | refine xY ?_ | refine xZ ?_) <;> simp only [↓awpOps, ↓awpKeep, ↓awpKeepF, ↓aop, ↓aopQ, ↓abin, ↓aun, ↓onSome_some, ↓Kont_at, ↓KM_at, ↓KV_at, ↓KU_at, refId_row, Frame.ev, Frame.evs, Frame.evOr, Frame.put, Frame.keep, get_nil, get_cons, argFrame, resOf, fillA, Vals.len, Vals.get, Vals.set, Vals.app, Vals.sub, Vals.take, Vals.ofAgg_cons, Vals.ofList, Vals.toInts, Vals.toBools, Vals.toSls, Vals.toStrs, Vals.zeros, Nat.reduceBEq, Nat.reduceAdd, Nat.reduceEqDiff, cond_true, cond_false, Option.map_some, Option.map_none, List.length_cons, List.length_nil, List.replicate, List.set_cons_zero, List.set_cons_succ, Nat.reduceLT, Bool.not_true, Bool.not_false, Int.toNat_natCast, inR, Nat.zero_add, Int.toNat_zero, reduceCtorEq, IntKind.bits, List.nil_append, List.cons_append, Nat.add_zero, Nat.sub_zero, noughts_len, List.map_cons, List.map_nil, zp, zu]) | refine And.intro ?_ (fun hif => (hif trivial).elim) | (intro hif; try (first | contradiction | (exfalso; omega))))
    refine awp_loop ?_
    refine ALoop.by [0, 3, 4, 5] (fun a : Nat × SV × Heap => [(0, .one (.sl s)), (3, .one (.int .i64 a.1)), (4, .one (.sl a.2.1)), (5, .one (.bool (decide ((chanAt net a.1).length ≠ 0))))]) (fun a => a.2.2) (fun a => a.1 ≤ spanN net ∧ Grow 0 0 m a.2.2 ∧ Obj Ty.int m.length a.2.2.length a.2.2 a.2.1 (.ints .i64 (chanAt net a.1))) (fun a => spanN net - a.1) (0, s5, m5) rfl rfl ⟨Nat.zero_le _, g5, o5⟩ ?_
    rintro ⟨t, so, mo⟩ ⟨ht, hgo, ho⟩ K1 hK1
    simp only at ht hgo ho
    clear c0
    by_cases h0 : (chanAt net t).length ≠ 0
    · obtain rfl : t = spanN net := by
        refine Decidable.byContradiction fun c => h0 (s3 t (by omega))
      rw [decide_eq_true h0]
      repeat' (first | refine xA ?_ | refine xB ?_ | refine xC ?_ | refine xD ?_ | refine xE ?_ | refine xF ?_ | refine xG ?_ | refine xH ?_ | refine xI rfl ?_ | refine xJ ?_ | refine xK ?_ | refine xL ?_ | refine xM rfl ?_ | refine xN rfl ?_ | refine xO rfl ?_ | (first | refine xP rfl (fun hif => ?_) (fun hif => ?_) | refine xQ rfl (fun hif => ?_) (fun hif => ?_) | refine xR rfl (fun hif => ?_) (fun hif => ?_) | refine xS rfl (fun hif => ?_) (fun hif => ?_)) <;> try (first | contradiction | (exfalso; omega)) | (refine hK _ _ ?_; clear hK K) | (refine And.intro (by first | omega | assumption | (constructor <;> omega)) ?_) | (refine And.intro (fun hif => ?_) (fun hif => ?_) <;> try (first | contradiction | (exfalso; omega))) | ((first | refine xT fun K hK => ?_ | refine xU fun K hK => ?_ | refine yB (fun K hK => ?_) (fun K hK => ?_) | refine xV ?_ | refine yA ?_ | refine xW ?_ | refine xX ?_ | refine xY ?_ | refine xZ ?_) <;> simp only [↓awpOps, ↓awpKeep, ↓awpKeepF, ↓aop, ↓aopQ, ↓abin, ↓aun, ↓onSome_some, ↓Kont_at, ↓KM_at, ↓KV_at, ↓KU_at, refId_row, Frame.ev, Frame.evs, Frame.evOr, Frame.put, Frame.keep, get_nil, get_cons, argFrame, resOf, fillA, Vals.len, Vals.get, Vals.set, Vals.app, Vals.sub, Vals.take, Vals.ofAgg_cons, Vals.ofList, Vals.toInts, Vals.toBools, Vals.toSls, Vals.toStrs, Vals.zeros, Nat.reduceBEq, Nat.reduceAdd, Nat.reduceEqDiff, cond_true, cond_false, Option.map_some, Option.map_none, List.length_cons, List.length_nil, List.replicate, List.set_cons_zero, List.set_cons_succ, Nat.reduceLT, Bool.not_true, Bool.not_false, Int.toNat_natCast, inR, Nat.zero_add, Int.toNat_zero, reduceCtorEq, IntKind.bits, List.nil_append, List.cons_append, Nat.add_zero, Nat.sub_zero, noughts_len, List.map_cons, List.map_nil, zp, zu]) | refine And.intro ?_ (fun hif => (hif trivial).elim) | (intro hif; try (first | contradiction | (exfalso; omega))))
      all_goals exact ⟨_, rfl, hgo, ho⟩
    · rw [decide_eq_false h0]
      have hlt : t < spanN net := by
        refine Decidable.byContradiction fun c => ?_
        obtain rfl : t = spanN net := by omega
        exact h0 s2
      have c1 := cC (t + 1) ((t : Int) + 1) mo (by omega) (by omega) (hs.pre hgo.pre0)
      have hle := hgo.le
      repeat' (first | refine xA ?_ | refine xB ?_ | refine xC ?_ | refine xD ?_ | refine xE ?_ | refine xF ?_ | refine xG ?_ | refine xH ?_ | refine xI rfl ?_ | refine xJ ?_ | refine xK ?_ | refine xL ?_ | refine xM rfl ?_ | refine xN rfl ?_ | refine xO rfl ?_ | (first | refine xP rfl (fun hif => ?_) (fun hif => ?_) | refine xQ rfl (fun hif => ?_) (fun hif => ?_) | refine xR rfl (fun hif => ?_) (fun hif => ?_) | refine xS rfl (fun hif => ?_) (fun hif => ?_)) <;> try (first | contradiction | (exfalso; omega)) | (refine hK _ _ ?_; clear hK K) | refine ARet2.call c1 fun s6 m6 g6 o6 => ?_ | (refine And.intro (by first | omega | assumption | (constructor <;> omega)) ?_) | (refine And.intro (fun hif => ?_) (fun hif => ?_) <;> try (first | contradiction | (exfalso; omega))) | ((first | refine xT fun K hK => ?_ | refine xU fun K hK => ?_ | refine yB (fun K hK => ?_) (fun K hK => ?_) | refine xV ?_ | refine yA ?_ | refine xW ?_ | refine xX ?_ | refine xY ?_ | refine xZ ?_) <;> simp only [↓awpOps, ↓awpKeep, ↓awpKeepF, ↓aop, ↓aopQ, ↓abin, ↓aun, ↓onSome_some, ↓Kont_at, ↓KM_at, ↓KV_at, ↓KU_at, refId_row, Frame.ev, Frame.evs, Frame.evOr, Frame.put, Frame.keep, get_nil, get_cons, argFrame, resOf, fillA, Vals.len, Vals.get, Vals.set, Vals.app, Vals.sub, Vals.take, Vals.ofAgg_cons, Vals.ofList, Vals.toInts, Vals.toBools, Vals.toSls, Vals.toStrs, Vals.zeros, Nat.reduceBEq, Nat.reduceAdd, Nat.reduceEqDiff, cond_true, cond_false, Option.map_some, Option.map_none, List.length_cons, List.length_nil, List.replicate, List.set_cons_zero, List.set_cons_succ, Nat.reduceLT, Bool.not_true, Bool.not_false, Int.toNat_natCast, inR, Nat.zero_add, Int.toNat_zero, reduceCtorEq, IntKind.bits, List.nil_append, List.cons_append, Nat.add_zero, Nat.sub_zero, noughts_len, List.map_cons, List.map_nil, zp, zu]) | refine And.intro ?_ (fun hif => (hif trivial).elim) | (intro hif; try (first | contradiction | (exfalso; omega))))
      all_goals exact hK1 (t + 1, s6, m6) _ _ rfl rfl ⟨hlt, hgo.trans g6, o6.mono hle (Nat.le_refl _)⟩ (by simp only; omega)
  · rw [chanFirst, if_neg hN]
    repeat' (first | refine xA ?_ | refine xB ?_ | refine xC ?_ | refine xD ?_ | refine xE ?_ | refine xF ?_ | refine xG ?_ | refine xH ?_ | refine xI rfl ?_ | refine xJ ?_ | refine xK ?_ | refine xL ?_ | refine xM rfl ?_ | refine xN rfl ?_ | refine xO rfl ?_ | (first | refine xP rfl (fun hif => ?_) (fun hif => ?_) | refine xQ rfl (fun hif => ?_) (fun hif => ?_) | refine xR rfl (fun hif => ?_) (fun hif => ?_) | refine xS rfl (fun hif => ?_) (fun hif => ?_)) <;> try (first | contradiction | (exfalso; omega)) | (refine hK _ _ ?_; clear hK K) | refine AQuiet.call (impl_NetOk_f hs hN) trivial ?_ | (refine And.intro (by first | omega | assumption | (constructor <;> omega)) ?_) | (refine And.intro (fun hif => ?_) (fun hif => ?_) <;> try (first | contradiction | (exfalso; omega))) | ((first | refine xT fun K hK => ?_ | refine xU fun K hK => ?_ | refine yB (fun K hK => ?_) (fun K hK => ?_) | refine xV ?_ | refine yA ?_ | refine xW ?_ | refine xX ?_ | refine xY ?_ | refine xZ ?_) <;> simp only [↓awpOps, ↓awpKeep, ↓awpKeepF, ↓aop, ↓aopQ, ↓abin, ↓aun, ↓onSome_some, ↓Kont_at, ↓KM_at, ↓KV_at, ↓KU_at, refId_row, Frame.ev, Frame.evs, Frame.evOr, Frame.put, Frame.keep, get_nil, get_cons, argFrame, resOf, fillA, Vals.len, Vals.get, Vals.set, Vals.app, Vals.sub, Vals.take, Vals.ofAgg_cons, Vals.ofList, Vals.toInts, Vals.toBools, Vals.toSls, Vals.toStrs, Vals.zeros, Nat.reduceBEq, Nat.reduceAdd, Nat.reduceEqDiff, cond_true, cond_false, Option.map_some, Option.map_none, List.length_cons, List.length_nil, List.replicate, List.set_cons_zero, List.set_cons_succ, Nat.reduceLT, Bool.not_true, Bool.not_false, Int.toNat_natCast, inR, Nat.zero_add, Int.toNat_zero, reduceCtorEq, IntKind.bits, List.nil_append, List.cons_append, Nat.add_zero, Nat.sub_zero, noughts_len, List.map_cons, List.map_nil, zp, zu]) | refine And.intro ?_ (fun hif => (hif trivial).elim) | (intro hif; try (first | contradiction | (exfalso; omega))))
    exact ⟨_, rfl, Grow.refl hwf _ _, obj_nil _ _ _ _ _⟩

theorem impl_FewestSpan (s : SV) (net : List Int) (m : Heap) (hs : IsInts .i64 m s net) : AQuiet Try.prog F.impl_FewestSpan [.one (.sl s)] m (.one (.int .i64 (fewest net))) := by
  refine aqn T.impl_FewestSpan (by rfl) ?_
  by_cases hN : NetOk net
  · rw [fewest, if_pos hN]
    repeat' (first | refine xA ?_ | refine xB ?_ | refine xC ?_ | refine xD ?_ | refine xE ?_ | refine xF ?_ | refine xG ?_ | refine xH ?_ | refine xI rfl ?_ | refine xJ ?_ | refine xK ?_ | refine xL ?_ | refine xM rfl ?_ | refine xN rfl ?_ | refine xO rfl ?_ | (first | refine xP rfl (fun hif => ?_) (fun hif => ?_) | refine xQ rfl (fun hif => ?_) (fun hif => ?_) | refine xR rfl (fun hif => ?_) (fun hif => ?_) | refine xS rfl (fun hif => ?_) (fun hif => ?_)) <;> try (first | contradiction | (exfalso; omega)) | (refine hK _ _ ?_; clear hK K) | refine AQuiet.call (impl_NetOk_t hs hN) trivial ?_ | (refine ARet.call (impl_ChannelFirst s net m hs) fun s2 m2 g2 o2 => ?_; have hp2 := g2.pre0) | refine AQuiet.call (impl_greatestIn _ _ _ o2.isInts (first_short net)) trivial ?_ | (refine And.intro (by first | omega | assumption | (constructor <;> omega)) ?_) | (refine And.intro (fun hif => ?_) (fun hif => ?_) <;> try (first | contradiction | (exfalso; omega))) | ((first | refine xT fun K hK => ?_ | refine xU fun K hK => ?_ | refine yB (fun K hK => ?_) (fun K hK => ?_) | refine xV ?_ | refine yA ?_ | refine xW ?_ | refine xX ?_ | refine xY ?_ | refine xZ ?_) <;> simp only [↓awpOps, ↓awpKeep, ↓awpKeepF, ↓aop, ↓aopQ, ↓abin, ↓aun, ↓onSome_some, ↓Kont_at, ↓KM_at, ↓KV_at, ↓KU_at, refId_row, Frame.ev, Frame.evs, Frame.evOr, Frame.put, Frame.keep, get_nil, get_cons, argFrame, resOf, fillA, Vals.len, Vals.get, Vals.set, Vals.app, Vals.sub, Vals.take, Vals.ofAgg_cons, Vals.ofList, Vals.toInts, Vals.toBools, Vals.toSls, Vals.toStrs, Vals.zeros, Nat.reduceBEq, Nat.reduceAdd, Nat.reduceEqDiff, cond_true, cond_false, Option.map_some, Option.map_none, List.length_cons, List.length_nil, List.replicate, List.set_cons_zero, List.set_cons_succ, Nat.reduceLT, Bool.not_true, Bool.not_false, Int.toNat_natCast, inR, Nat.zero_add, Int.toNat_zero, reduceCtorEq, IntKind.bits, List.nil_append, List.cons_append, Nat.add_zero, Nat.sub_zero, noughts_len, List.map_cons, List.map_nil, zp, zu]) | refine And.intro ?_ (fun hif => (hif trivial).elim) | (intro hif; try (first | contradiction | (exfalso; omega))))
    all_goals first | exact hp2 | exact ⟨rfl, hp2⟩
  · rw [fewest, if_neg hN]
    repeat' (first | refine xA ?_ | refine xB ?_ | refine xC ?_ | refine xD ?_ | refine xE ?_ | refine xF ?_ | refine xG ?_ | refine xH ?_ | refine xI rfl ?_ | refine xJ ?_ | refine xK ?_ | refine xL ?_ | refine xM rfl ?_ | refine xN rfl ?_ | refine xO rfl ?_ | (first | refine xP rfl (fun hif => ?_) (fun hif => ?_) | refine xQ rfl (fun hif => ?_) (fun hif => ?_) | refine xR rfl (fun hif => ?_) (fun hif => ?_) | refine xS rfl (fun hif => ?_) (fun hif => ?_)) <;> try (first | contradiction | (exfalso; omega)) | (refine hK _ _ ?_; clear hK K) | refine AQuiet.call (impl_NetOk_f hs hN) trivial ?_ | (refine And.intro (by first | omega | assumption | (constructor <;> omega)) ?_) | (refine And.intro (fun hif => ?_) (fun hif => ?_) <;> try (first | contradiction | (exfalso; omega))) | ((first | refine xT fun K hK => ?_ | refine xU fun K hK => ?_ | refine yB (fun K hK => ?_) (fun K hK => ?_) | refine xV ?_ | refine yA ?_ | refine xW ?_ | refine xX ?_ | refine xY ?_ | refine xZ ?_) <;> simp only [↓awpOps, ↓awpKeep, ↓awpKeepF, ↓aop, ↓aopQ, ↓abin, ↓aun, ↓onSome_some, ↓Kont_at, ↓KM_at, ↓KV_at, ↓KU_at, refId_row, Frame.ev, Frame.evs, Frame.evOr, Frame.put, Frame.keep, get_nil, get_cons, argFrame, resOf, fillA, Vals.len, Vals.get, Vals.set, Vals.app, Vals.sub, Vals.take, Vals.ofAgg_cons, Vals.ofList, Vals.toInts, Vals.toBools, Vals.toSls, Vals.toStrs, Vals.zeros, Nat.reduceBEq, Nat.reduceAdd, Nat.reduceEqDiff, cond_true, cond_false, Option.map_some, Option.map_none, List.length_cons, List.length_nil, List.replicate, List.set_cons_zero, List.set_cons_succ, Nat.reduceLT, Bool.not_true, Bool.not_false, Int.toNat_natCast, inR, Nat.zero_add, Int.toNat_zero, reduceCtorEq, IntKind.bits, List.nil_append, List.cons_append, Nat.add_zero, Nat.sub_zero, noughts_len, List.map_cons, List.map_nil, zp, zu]) | refine And.intro ?_ (fun hif => (hif trivial).elim) | (intro hif; try (first | contradiction | (exfalso; omega))))
    all_goals (first | exact List.prefix_rfl | exact ⟨rfl, List.prefix_rfl⟩ | exact ⟨by simp, List.prefix_rfl⟩)

theorem grd_none (net row : List Int) : Vals.ofAgg [.int .i64 0, .int .i64 0, .int .i64 0, .int .i64 0, .int .i64 0, .int .i64 0, .int .i64 0] = .ints .i64 (chanL (grdTo net row 0).1 (grdTo net row 0).2) := by
  have e1 : (grdTo net row 0).1 = List.replicate net.length 0 := rfl
  have e2 : (grdTo net row 0).2 = 0 := rfl
  have e : ∀ i, (List.replicate net.length (0 : Int)).getD i 0 = 0 := fun i => zeros9_get _ _
  rw [e1, e2]
  unfold chanL
  rw [e, e, e, e, e, e]
  rfl
theorem grd_next (net : List Int) {row : List Int} {k p : Nat} (hp : (row.getD k 0) = (p : Int)) : (grdTo net row (k + 1)).1 = (grdTo net row k).1.set p (lfit net (grdTo net row k).1 (grdTo net row k).2 p : Int) ∧ (grdTo net row (k + 1)).2 = (grdTo net row k).2 ||| 2 ^ p := by
  have e1 : (grdTo net row (k + 1)).1 = (grdTo net row k).1.set ((row.getD k 0)).toNat (lfit net (grdTo net row k).1 (grdTo net row k).2 ((row.getD k 0)).toNat : Int) := rfl
  have e2 : (grdTo net row (k + 1)).2 = (grdTo net row k).2 ||| 2 ^ ((row.getD k 0)).toNat := rfl
  rw [hp, Int.toNat_natCast] at e1 e2
  exact ⟨e1, e2⟩

set_option maxHeartbeats 8000000 in
theorem impl_GreedyRow (s t : SV) (net row : List Int) (m : Heap) (hs : IsInts .i64 m s net) (ht : IsInts .i64 m t row) : ARet Try.prog F.impl_GreedyRow [.one (.sl s), .one (.sl t)] m Ty.int (.ints .i64 (greedy net row)) := by
  have c0 := impl_OrderOk s t net row m hs ht
  refine arn T.impl_GreedyRow (by rfl) fun hwf => ?_
  by_cases hO : OrdOk net row
  · have c0 := c0.yes hO
    have hN := hO.ok
    have h6 := hN.six
    have hlen := hO.len
    have eg : greedy net row = (grdTo net row net.length).1 := if_pos hO
    obtain ⟨ref, off, len⟩ := s
    obtain rfl : len = net.length := hs.1
    obtain ⟨ref', off', len'⟩ := t
    obtain rfl : len' = row.length := ht.1
    have hg0 := Grow.push hwf Ty.impl_begunChannels true (.ints .i64 [0, 0, 0, 0, 0, 0, 0])
    have hz := grd_none net row
    repeat' (first | refine xA ?_ | refine xB ?_ | refine xC ?_ | refine xD ?_ | refine xE ?_ | refine xF ?_ | refine xG ?_ | refine xH ?_ | refine xI rfl ?_ | refine xJ ?_ | refine xK ?_ | refine xL ?_ | refine xM rfl ?_ | refine xN rfl ?_ | refine xO rfl ?_ | (first | refine xP rfl (fun hif => ?_) (fun hif => ?_) | refine xQ rfl (fun hif => ?_) (fun hif => ?_) | refine xR rfl (fun hif => ?_) (fun hif => ?_) | refine xS rfl (fun hif => ?_) (fun hif => ?_)) <;> try (first | contradiction | (exfalso; omega)) | (refine hK _ _ ?_; clear hK K) | refine AQuiet.call c0 trivial ?_ | refine st_agg hg0.wf (get_last _ _) rfl rfl hz fun m1 g1 l1 r1 => ?_ | (refine And.intro (by first | omega | assumption | (constructor <;> omega)) ?_) | (refine And.intro (fun hif => ?_) (fun hif => ?_) <;> try (first | contradiction | (exfalso; omega))) | ((first | refine xT fun K hK => ?_ | refine xU fun K hK => ?_ | refine yB (fun K hK => ?_) (fun K hK => ?_) | refine xV ?_ | refine yA ?_ | refine xW ?_ | refine xX ?_ | refine xY ?_ | refine xZ ?_) <;> simp only [↓awpOps, ↓awpKeep, ↓awpKeepF, ↓aop, ↓aopQ, ↓abin, ↓aun, ↓onSome_some, ↓Kont_at, ↓KM_at, ↓KV_at, ↓KU_at, refId_row, Frame.ev, Frame.evs, Frame.evOr, Frame.put, Frame.keep, get_nil, get_cons, argFrame, resOf, fillA, Vals.len, Vals.get, Vals.set, Vals.app, Vals.sub, Vals.take, Vals.ofAgg_cons, Vals.ofList, Vals.toInts, Vals.toBools, Vals.toSls, Vals.toStrs, Vals.zeros, Nat.reduceBEq, Nat.reduceAdd, Nat.reduceEqDiff, cond_true, cond_false, Option.map_some, Option.map_none, List.length_cons, List.length_nil, List.replicate, List.set_cons_zero, List.set_cons_succ, Nat.reduceLT, Bool.not_true, Bool.not_false, Int.toNat_natCast, inR, Nat.zero_add, Int.toNat_zero, reduceCtorEq, IntKind.bits, List.nil_append, List.cons_append, Nat.add_zero, Nat.sub_zero, noughts_len, List.map_cons, List.map_nil, zp, zu]) | refine And.intro ?_ (fun hif => (hif trivial).elim) | (intro hif; try (first | contradiction | (exfalso; omega))))
    have hp1 := g1.pre (prefix_push _ _) hwf (Nat.le_refl _)
    have hl1 := l1
    simp only [List.length_append, List.length_cons, List.length_nil] at hl1
    have hG1 : Grow m.length m1.length m m1 := (hg0.any _ _).trans (g1.mono (Nat.le_refl _) (by omega))
    refine awp_loop ?_
    refine ALoop.by [0, 1, 5, 6] (fun a : Nat × Heap => [(0, .one (.sl ⟨ref, off, net.length⟩)), (1, .one (.sl ⟨ref', off', row.length⟩)), (5, .one (.ptr m.length 0)), (6, .one (.int .i64 a.1))]) (fun a => a.2)
      (fun a => a.1 ≤ row.length ∧ m <+: a.2 ∧ Grow m.length a.2.length m a.2 ∧ a.2[m.length]? = some ⟨Ty.impl_begunChannels, m.length, true, .ints .i64 (chanL (grdTo net row a.1).1 (grdTo net row a.1).2)⟩) (fun a => row.length - a.1) (0, m1) rfl rfl ⟨Nat.zero_le _, hp1, hG1, r1⟩ ?_
    rintro ⟨k, mo⟩ ⟨hk, hpo, hgo, hro⟩ K1 hK1
    simp only at hk hpo hgo hro
    have hwo := hgo.wf
    have hso := hs.pre hpo
    have hto := ht.pre hpo
    obtain ⟨i1, i2, i3, i4, i5⟩ := grd_inv hO k (by omega)
    by_cases hlt : k < row.length
    · have hat := hto.2 k hlt
      have hlow := hO.low (k := k) (by omega)
      obtain ⟨p, hp⟩ := Int.eq_ofNat_of_zero_le hlow.1
      rw [hp] at hat hlow
      have hpn : p < net.length := by omega
      obtain ⟨e1, e2⟩ := grd_next net hp
      have hpG : (grdTo net row k).2.testBit p = false := by
        cases hb : (grdTo net row k).2.testBit p with
        | false => rfl
        | true =>
          obtain ⟨_, j, hj, ej⟩ := (i3 p).1 hb
          have := hO.un (a := j) (b := k) (by omega) (by omega) (by rw [ej, hp])
          omega
      have hr30 : ∀ j, j < net.length → (grdTo net row k).2.testBit j = true → 0 ≤ (grdTo net row k).1.getD j 0 ∧ (grdTo net row k).1.getD j 0 ≤ 30 := fun j hj _ => by
        have := i4 j hj
        have := (bnd_range hN hj).2
        omega
      have cL := impl_leastChannel hso hN hpn i2 hpG hr30
      have cW : AQuiet Try.prog F.impl_withChannel [chanX (grdTo net row k).1 (grdTo net row k).2, .one (.int .i64 (p : Int)), .one (.int .i64 (lfit net (grdTo net row k).1 (grdTo net row k).2 p : Int))] mo (chanX (grdTo net row (k + 1)).1 (grdTo net row (k + 1)).2) := by
        rw [e1, e2]
        exact impl_withChannel mo (by omega) i2 (chanL_set _ _ _ _ (by omega) (by omega))
      have hcs := cells_ints hro (n := 7) rfl
      unfold chanX at cL cW
      have hagg2 : Vals.ofAgg ((chanL (grdTo net row (k + 1)).1 (grdTo net row (k + 1)).2).map (AV.int .i64)) = .ints .i64 (chanL (grdTo net row (k + 1)).1 (grdTo net row (k + 1)).2) := Vals.ofAgg_ints _ _ _
      have hm2 : ((chanL (grdTo net row (k + 1)).1 (grdTo net row (k + 1)).2).map (AV.int .i64)).length = 7 := rfl
      have hL9 : (chanL (grdTo net row k).1 (grdTo net row k).2).length = 7 := rfl
      have hnext : ∀ m2 : Heap, m <+: m2 → Grow m.length m2.length m m2 → m2[m.length]? = some ⟨Ty.impl_begunChannels, m.length, true, .ints .i64 (chanL (grdTo net row (k + 1)).1 (grdTo net row (k + 1)).2)⟩ → (fun a : Nat × Heap => a.1 ≤ row.length ∧ m <+: a.2 ∧ Grow m.length a.2.length m a.2 ∧ a.2[m.length]? = some ⟨Ty.impl_begunChannels, m.length, true, .ints .i64 (chanL (grdTo net row a.1).1 (grdTo net row a.1).2)⟩) (k + 1, m2) := fun m2 q1 q2 q3 => ⟨hlt, q1, q2, q3⟩
      have hmo : m.length < mo.length := get_lt hro
      clear hr30 e1 e2 i1 i3 i4 i5 hpG
      generalize lfit net (grdTo net row k).1 (grdTo net row k).2 p = w at *
      generalize chanL (grdTo net row k).1 (grdTo net row k).2 = L at *
      generalize chanL (grdTo net row (k + 1)).1 (grdTo net row (k + 1)).2 = L' at *
      repeat' (first | refine xA ?_ | refine xB ?_ | refine xC ?_ | refine xD ?_ | refine xE ?_ | refine xF ?_ | refine xG ?_ | refine xH ?_ | refine xI rfl ?_ | refine xJ ?_ | refine xK ?_ | refine xL ?_ | refine xM rfl ?_ | refine xN rfl ?_ | refine xO rfl ?_ | (first | refine xP rfl (fun hif => ?_) (fun hif => ?_) | refine xQ rfl (fun hif => ?_) (fun hif => ?_) | refine xR rfl (fun hif => ?_) (fun hif => ?_) | refine xS rfl (fun hif => ?_) (fun hif => ?_)) <;> try (first | contradiction | (exfalso; omega)) | (refine hK _ _ ?_; clear hK K) | (refine onCells_of hcs ?_; simp only [↓KM_at]) | refine onSome_of hat ?_ | refine AQuiet.call cL trivial ?_ | refine AQuiet.callq cL trivial ?_ | refine AQuiet.call cW (flats_ints _ _) ?_ | refine AQuiet.callq cW (flats_ints _ _) ?_ | refine st_agg hwo hro hm2.symm hL9 hagg2 fun m2 g2 l2 r2 => ?_ | (refine And.intro (by first | omega | assumption | (constructor <;> omega)) ?_) | (refine And.intro (fun hif => ?_) (fun hif => ?_) <;> try (first | contradiction | (exfalso; omega))) | ((first | refine xT fun K hK => ?_ | refine xU fun K hK => ?_ | refine yB (fun K hK => ?_) (fun K hK => ?_) | refine xV ?_ | refine yA ?_ | refine xW ?_ | refine xX ?_ | refine xY ?_ | refine xZ ?_) <;> simp only [↓awpOps, ↓awpKeep, ↓awpKeepF, ↓aop, ↓aopQ, ↓abin, ↓aun, ↓onSome_some, ↓Kont_at, ↓KM_at, ↓KV_at, ↓KU_at, refId_row, Frame.ev, Frame.evs, Frame.evOr, Frame.put, Frame.keep, get_nil, get_cons, argFrame, resOf, fillA, Vals.len, Vals.get, Vals.set, Vals.app, Vals.sub, Vals.take, Vals.ofAgg_cons, Vals.ofList, Vals.toInts, Vals.toBools, Vals.toSls, Vals.toStrs, Vals.zeros, Nat.reduceBEq, Nat.reduceAdd, Nat.reduceEqDiff, cond_true, cond_false, Option.map_some, Option.map_none, List.length_cons, List.length_nil, List.replicate, List.set_cons_zero, List.set_cons_succ, Nat.reduceLT, Bool.not_true, Bool.not_false, Int.toNat_natCast, inR, Nat.zero_add, Int.toNat_zero, reduceCtorEq, IntKind.bits, List.nil_append, List.cons_append, Nat.add_zero, Nat.sub_zero, noughts_len, List.map_cons, List.map_nil, zp, zu]) | refine And.intro ?_ (fun hif => (hif trivial).elim) | (intro hif; try (first | contradiction | (exfalso; omega))))
      all_goals exact hK1 (k + 1, m2) _ _ rfl rfl (hnext m2 (g2.pre hpo hwf (Nat.le_refl _)) ((hgo.mono (Nat.le_refl _) (by omega)).trans (g2.mono (Nat.le_refl _) (by omega))) r2) (by simp only; omega)
    · obtain rfl : k = row.length := by omega
      have htk := chanL_take (grdTo net row row.length).1 (grdTo net row row.length).2 (by omega)
      have hL7 : (chanL (grdTo net row row.length).1 (grdTo net row row.length).2).length = 7 := rfl
      rw [i1, ← hlen] at htk
      rw [eg, ← hlen]
      generalize chanL (grdTo net row row.length).1 (grdTo net row row.length).2 = L at *
      have hmo : m.length < mo.length := get_lt hro
      have g1 := Grow.push hwo Ty.int true (.ints .i64 [])
      have hA := acc_new hwo Ty.int (.ints .i64 []) (n := 0) rfl
      have hbox : (mo ++ [(⟨Ty.int, mo.length, true, .ints .i64 []⟩ : Row)])[m.length]? = some ⟨Ty.impl_begunChannels, m.length, true, .ints .i64 L⟩ := row_at_push hro _
      repeat' (first | refine xA ?_ | refine xB ?_ | refine xC ?_ | refine xD ?_ | refine xE ?_ | refine xF ?_ | refine xG ?_ | refine xH ?_ | refine xI rfl ?_ | refine xJ ?_ | refine xK ?_ | refine xL ?_ | refine xM rfl ?_ | refine xN rfl ?_ | refine xO rfl ?_ | (first | refine xP rfl (fun hif => ?_) (fun hif => ?_) | refine xQ rfl (fun hif => ?_) (fun hif => ?_) | refine xR rfl (fun hif => ?_) (fun hif => ?_) | refine xS rfl (fun hif => ?_) (fun hif => ?_)) <;> try (first | contradiction | (exfalso; omega)) | (refine hK _ _ ?_; clear hK K) | refine app_part g1.wf hA (fun c => by cases c) hbox (by omega) (by simp; omega) fun s2 m2 hp2 g2 hA2 hne2 => ?_ | (refine And.intro (by first | omega | assumption | (constructor <;> omega)) ?_) | (refine And.intro (fun hif => ?_) (fun hif => ?_) <;> try (first | contradiction | (exfalso; omega))) | ((first | refine xT fun K hK => ?_ | refine xU fun K hK => ?_ | refine yB (fun K hK => ?_) (fun K hK => ?_) | refine xV ?_ | refine yA ?_ | refine xW ?_ | refine xX ?_ | refine xY ?_ | refine xZ ?_) <;> simp only [↓awpOps, ↓awpKeep, ↓awpKeepF, ↓aop, ↓aopQ, ↓abin, ↓aun, ↓onSome_some, ↓Kont_at, ↓KM_at, ↓KV_at, ↓KU_at, refId_row, Frame.ev, Frame.evs, Frame.evOr, Frame.put, Frame.keep, get_nil, get_cons, argFrame, resOf, fillA, Vals.len, Vals.get, Vals.set, Vals.app, Vals.sub, Vals.take, Vals.ofAgg_cons, Vals.ofList, Vals.toInts, Vals.toBools, Vals.toSls, Vals.toStrs, Vals.zeros, Nat.reduceBEq, Nat.reduceAdd, Nat.reduceEqDiff, cond_true, cond_false, Option.map_some, Option.map_none, List.length_cons, List.length_nil, List.replicate, List.set_cons_zero, List.set_cons_succ, Nat.reduceLT, Bool.not_true, Bool.not_false, Int.toNat_natCast, inR, Nat.zero_add, Int.toNat_zero, reduceCtorEq, IntKind.bits, List.nil_append, List.cons_append, Nat.add_zero, Nat.sub_zero, noughts_len, List.map_cons, List.map_nil, zp, zu]) | refine And.intro ?_ (fun hif => (hif trivial).elim) | (intro hif; try (first | contradiction | (exfalso; omega))))
      rw [List.nil_append, htk] at hA2
      have hp2' := hp2.length_le
      simp only [List.length_append, List.length_cons, List.length_nil] at hp2'
      exact ⟨_, rfl, grow00 (hpo.trans ((prefix_push _ _).trans hp2)) ((hgo.mono (Nat.le_refl _) (by omega)).trans ((g1.any _ _).trans (g2.mono (by omega) (by omega)))), hA2.obj (by omega) (by omega)⟩
  · rw [greedy, if_neg hO]
    have c0 := c0.no hO
    repeat' (first | refine xA ?_ | refine xB ?_ | refine xC ?_ | refine xD ?_ | refine xE ?_ | refine xF ?_ | refine xG ?_ | refine xH ?_ | refine xI rfl ?_ | refine xJ ?_ | refine xK ?_ | refine xL ?_ | refine xM rfl ?_ | refine xN rfl ?_ | refine xO rfl ?_ | (first | refine xP rfl (fun hif => ?_) (fun hif => ?_) | refine xQ rfl (fun hif => ?_) (fun hif => ?_) | refine xR rfl (fun hif => ?_) (fun hif => ?_) | refine xS rfl (fun hif => ?_) (fun hif => ?_)) <;> try (first | contradiction | (exfalso; omega)) | (refine hK _ _ ?_; clear hK K) | refine AQuiet.call c0 trivial ?_ | (refine And.intro (by first | omega | assumption | (constructor <;> omega)) ?_) | (refine And.intro (fun hif => ?_) (fun hif => ?_) <;> try (first | contradiction | (exfalso; omega))) | ((first | refine xT fun K hK => ?_ | refine xU fun K hK => ?_ | refine yB (fun K hK => ?_) (fun K hK => ?_) | refine xV ?_ | refine yA ?_ | refine xW ?_ | refine xX ?_ | refine xY ?_ | refine xZ ?_) <;> simp only [↓awpOps, ↓awpKeep, ↓awpKeepF, ↓aop, ↓aopQ, ↓abin, ↓aun, ↓onSome_some, ↓Kont_at, ↓KM_at, ↓KV_at, ↓KU_at, refId_row, Frame.ev, Frame.evs, Frame.evOr, Frame.put, Frame.keep, get_nil, get_cons, argFrame, resOf, fillA, Vals.len, Vals.get, Vals.set, Vals.app, Vals.sub, Vals.take, Vals.ofAgg_cons, Vals.ofList, Vals.toInts, Vals.toBools, Vals.toSls, Vals.toStrs, Vals.zeros, Nat.reduceBEq, Nat.reduceAdd, Nat.reduceEqDiff, cond_true, cond_false, Option.map_some, Option.map_none, List.length_cons, List.length_nil, List.replicate, List.set_cons_zero, List.set_cons_succ, Nat.reduceLT, Bool.not_true, Bool.not_false, Int.toNat_natCast, inR, Nat.zero_add, Int.toNat_zero, reduceCtorEq, IntKind.bits, List.nil_append, List.cons_append, Nat.add_zero, Nat.sub_zero, noughts_len, List.map_cons, List.map_nil, zp, zu]) | refine And.intro ?_ (fun hif => (hif trivial).elim) | (intro hif; try (first | contradiction | (exfalso; omega))))
    all_goals exact ⟨_, rfl, Grow.refl hwf _ _, obj_nil _ _ _ _ _⟩

theorem other_word : ∀ n, n < 7 → ∀ s, s < 2 ^ n → ∀ k, k < n → s.testBit k = false → less (2 ^ n - 1) (Nat.lor s (2 ^ k)) = 2 ^ n - 1 - s - 2 ^ k := by decide +kernel
theorem other_here {net : List Int} (hN : NetOk net) {k : Nat} (hk : k < net.length) : bandNotInt .i64 (2 ^ net.length - 1) (borInt .i64 ((net.getD k 0)) (2 ^ k)) = (other net).getD k 0 := by
  have h6 := hN.six
  have e : (other net).getD k 0 = 2 ^ net.length - 1 - (net.getD k 0) - 2 ^ k := by
    rw [show other net = (List.range net.length).map fun k : Nat => 2 ^ net.length - 1 - (net.getD k 0) - 2 ^ k from if_pos hN]
    simp [List.getD_eq_getElem?_getD, hk]
  have hn := nrow_int hN hk
  have ho := hN.own k hk
  have hh := nrow_high hN hk
  rw [hn, bit_nat] at ho
  obtain ⟨q1, _⟩ := other_bit net.length (by omega) _ hh k hk ho
  have hw := other_word net.length (by omega) _ hh k hk ho
  have h64 := nrow_lt hN k
  have hk64 := pow_lt64 (k := k) (by omega)
  rw [e, hn, full_int h6, pow_nat, bor_lor h64 hk64, bandNot_less (full_lt h6) (lor_lt h64 hk64), hw]
  generalize nrow net k = x at *
  generalize 2 ^ k = y at *
  generalize 2 ^ net.length = z at *
  omega

set_option maxHeartbeats 4000000 in
theorem impl_OtherNet (s : SV) (net : List Int) (m : Heap) (hs : IsInts .i64 m s net) : ARet Try.prog F.impl_OtherNet [.one (.sl s)] m Ty.int (.ints .i64 (other net)) := by
  refine arn T.impl_OtherNet (by rfl) fun hwf => ?_
  by_cases hN : NetOk net
  · have h6 := hN.six
    have hVl := other_len hN
    have hval := fun k hk => other_here hN (k := k) hk
    obtain ⟨ref, off, len⟩ := s
    obtain rfl : len = net.length := hs.1
    generalize other net = V at *
    have cA := fun mx => impl_allPlaces net.length (by omega) mx
    repeat' (first | refine xA ?_ | refine xB ?_ | refine xC ?_ | refine xD ?_ | refine xE ?_ | refine xF ?_ | refine xG ?_ | refine xH ?_ | refine xI rfl ?_ | refine xJ ?_ | refine xK ?_ | refine xL ?_ | refine xM rfl ?_ | refine xN rfl ?_ | refine xO rfl ?_ | (first | refine xP rfl (fun hif => ?_) (fun hif => ?_) | refine xQ rfl (fun hif => ?_) (fun hif => ?_) | refine xR rfl (fun hif => ?_) (fun hif => ?_) | refine xS rfl (fun hif => ?_) (fun hif => ?_)) <;> try (first | contradiction | (exfalso; omega)) | (refine hK _ _ ?_; clear hK K) | refine AQuiet.call (impl_NetOk_t hs hN) trivial ?_ | (refine And.intro (by first | omega | assumption | (constructor <;> omega)) ?_) | (refine And.intro (fun hif => ?_) (fun hif => ?_) <;> try (first | contradiction | (exfalso; omega))) | ((first | refine xT fun K hK => ?_ | refine xU fun K hK => ?_ | refine yB (fun K hK => ?_) (fun K hK => ?_) | refine xV ?_ | refine yA ?_ | refine xW ?_ | refine xX ?_ | refine xY ?_ | refine xZ ?_) <;> simp only [↓awpOps, ↓awpKeep, ↓awpKeepF, ↓aop, ↓aopQ, ↓abin, ↓aun, ↓onSome_some, ↓Kont_at, ↓KM_at, ↓KV_at, ↓KU_at, refId_row, Frame.ev, Frame.evs, Frame.evOr, Frame.put, Frame.keep, get_nil, get_cons, argFrame, resOf, fillA, Vals.len, Vals.get, Vals.set, Vals.app, Vals.sub, Vals.take, Vals.ofAgg_cons, Vals.ofList, Vals.toInts, Vals.toBools, Vals.toSls, Vals.toStrs, Vals.zeros, Nat.reduceBEq, Nat.reduceAdd, Nat.reduceEqDiff, cond_true, cond_false, Option.map_some, Option.map_none, List.length_cons, List.length_nil, List.replicate, List.set_cons_zero, List.set_cons_succ, Nat.reduceLT, Bool.not_true, Bool.not_false, Int.toNat_natCast, inR, Nat.zero_add, Int.toNat_zero, reduceCtorEq, IntKind.bits, List.nil_append, List.cons_append, Nat.add_zero, Nat.sub_zero, noughts_len, List.map_cons, List.map_nil, zp, zu]) | refine And.intro ?_ (fun hif => (hif trivial).elim) | (intro hif; try (first | contradiction | (exfalso; omega))))
    refine awp_loop ?_
    refine ALoop.by [0, 3, 4] (fun k : Nat => [(0, .one (.sl ⟨ref, off, net.length⟩)), (3, .one (.sl ⟨.row m.length, 0, net.length⟩)), (4, .one (.int .i64 k))]) (fun k => m ++ [⟨Ty.int, m.length, true, .ints .i64 (V.take k ++ List.replicate (V.length - k) 0)⟩]) (fun k => k ≤ net.length) (fun k => net.length - k) 0 rfl (by simp [hVl]) (Nat.zero_le _) ?_
    intro k hk K1 hK1
    by_cases hlt : k < net.length
    · have hat := (hs.pre (prefix_push m ⟨Ty.int, m.length, true, .ints .i64 (V.take k ++ List.replicate (V.length - k) 0)⟩)).2 k hlt
      have hst := set_take V 0 0 (k := k) (by omega)
      have hlen : (V.take k ++ List.replicate (V.length - k) (0 : Int)).length = net.length := by simp; omega
      have cP := fun mx => impl_placeSet k (by omega) mx
      have hval := hval k hlt
      have hnn := hN.low k hlt
      repeat' (first | refine xA ?_ | refine xB ?_ | refine xC ?_ | refine xD ?_ | refine xE ?_ | refine xF ?_ | refine xG ?_ | refine xH ?_ | refine xI rfl ?_ | refine xJ ?_ | refine xK ?_ | refine xL ?_ | refine xM rfl ?_ | refine xN rfl ?_ | refine xO rfl ?_ | (first | refine xP rfl (fun hif => ?_) (fun hif => ?_) | refine xQ rfl (fun hif => ?_) (fun hif => ?_) | refine xR rfl (fun hif => ?_) (fun hif => ?_) | refine xS rfl (fun hif => ?_) (fun hif => ?_)) <;> try (first | contradiction | (exfalso; omega)) | (refine hK _ _ ?_; clear hK K) | refine onSome_of hat ?_ | refine AQuiet.call (cA _) trivial ?_ | refine AQuiet.callq (cA _) trivial ?_ | refine AQuiet.call (cP _) trivial ?_ | refine AQuiet.callq (cP _) trivial ?_ | rw [hval] | refine st_last hwf (by simp only [Vals.len, hlen]; omega) rfl ?_ | (refine And.intro (by first | omega | assumption | (constructor <;> omega)) ?_) | (refine And.intro (fun hif => ?_) (fun hif => ?_) <;> try (first | contradiction | (exfalso; omega))) | ((first | refine xT fun K hK => ?_ | refine xU fun K hK => ?_ | refine yB (fun K hK => ?_) (fun K hK => ?_) | refine xV ?_ | refine yA ?_ | refine xW ?_ | refine xX ?_ | refine xY ?_ | refine xZ ?_) <;> simp only [↓awpOps, ↓awpKeep, ↓awpKeepF, ↓aop, ↓aopQ, ↓abin, ↓aun, ↓onSome_some, ↓Kont_at, ↓KM_at, ↓KV_at, ↓KU_at, refId_row, Frame.ev, Frame.evs, Frame.evOr, Frame.put, Frame.keep, get_nil, get_cons, argFrame, resOf, fillA, Vals.len, Vals.get, Vals.set, Vals.app, Vals.sub, Vals.take, Vals.ofAgg_cons, Vals.ofList, Vals.toInts, Vals.toBools, Vals.toSls, Vals.toStrs, Vals.zeros, Nat.reduceBEq, Nat.reduceAdd, Nat.reduceEqDiff, cond_true, cond_false, Option.map_some, Option.map_none, List.length_cons, List.length_nil, List.replicate, List.set_cons_zero, List.set_cons_succ, Nat.reduceLT, Bool.not_true, Bool.not_false, Int.toNat_natCast, inR, Nat.zero_add, Int.toNat_zero, reduceCtorEq, IntKind.bits, List.nil_append, List.cons_append, Nat.add_zero, Nat.sub_zero, noughts_len, List.map_cons, List.map_nil, zp, zu]) | refine And.intro ?_ (fun hif => (hif trivial).elim) | (intro hif; try (first | contradiction | (exfalso; omega))))
      all_goals exact hK1 (k + 1) _ _ rfl (by rw [hst]) (by omega) (by omega)
    · obtain rfl : k = net.length := by omega
      have e : V.take net.length ++ List.replicate (V.length - net.length) (0 : Int) = V := by rw [← hVl, List.take_length, Nat.sub_self, List.replicate_zero, List.append_nil]
      rw [e]
      repeat' (first | refine xA ?_ | refine xB ?_ | refine xC ?_ | refine xD ?_ | refine xE ?_ | refine xF ?_ | refine xG ?_ | refine xH ?_ | refine xI rfl ?_ | refine xJ ?_ | refine xK ?_ | refine xL ?_ | refine xM rfl ?_ | refine xN rfl ?_ | refine xO rfl ?_ | (first | refine xP rfl (fun hif => ?_) (fun hif => ?_) | refine xQ rfl (fun hif => ?_) (fun hif => ?_) | refine xR rfl (fun hif => ?_) (fun hif => ?_) | refine xS rfl (fun hif => ?_) (fun hif => ?_)) <;> try (first | contradiction | (exfalso; omega)) | (refine hK _ _ ?_; clear hK K) | (refine And.intro (by first | omega | assumption | (constructor <;> omega)) ?_) | (refine And.intro (fun hif => ?_) (fun hif => ?_) <;> try (first | contradiction | (exfalso; omega))) | ((first | refine xT fun K hK => ?_ | refine xU fun K hK => ?_ | refine yB (fun K hK => ?_) (fun K hK => ?_) | refine xV ?_ | refine yA ?_ | refine xW ?_ | refine xX ?_ | refine xY ?_ | refine xZ ?_) <;> simp only [↓awpOps, ↓awpKeep, ↓awpKeepF, ↓aop, ↓aopQ, ↓abin, ↓aun, ↓onSome_some, ↓Kont_at, ↓KM_at, ↓KV_at, ↓KU_at, refId_row, Frame.ev, Frame.evs, Frame.evOr, Frame.put, Frame.keep, get_nil, get_cons, argFrame, resOf, fillA, Vals.len, Vals.get, Vals.set, Vals.app, Vals.sub, Vals.take, Vals.ofAgg_cons, Vals.ofList, Vals.toInts, Vals.toBools, Vals.toSls, Vals.toStrs, Vals.zeros, Nat.reduceBEq, Nat.reduceAdd, Nat.reduceEqDiff, cond_true, cond_false, Option.map_some, Option.map_none, List.length_cons, List.length_nil, List.replicate, List.set_cons_zero, List.set_cons_succ, Nat.reduceLT, Bool.not_true, Bool.not_false, Int.toNat_natCast, inR, Nat.zero_add, Int.toNat_zero, reduceCtorEq, IntKind.bits, List.nil_append, List.cons_append, Nat.add_zero, Nat.sub_zero, noughts_len, List.map_cons, List.map_nil, zp, zu]) | refine And.intro ?_ (fun hif => (hif trivial).elim) | (intro hif; try (first | contradiction | (exfalso; omega))))
      exact ⟨_, rfl, Grow.push hwf _ _ _, obj_new _ _ (by simp [Vals.len, hVl]) (Nat.le_refl _) (by simp)⟩
  · rw [other, if_neg hN]
    repeat' (first | refine xA ?_ | refine xB ?_ | refine xC ?_ | refine xD ?_ | refine xE ?_ | refine xF ?_ | refine xG ?_ | refine xH ?_ | refine xI rfl ?_ | refine xJ ?_ | refine xK ?_ | refine xL ?_ | refine xM rfl ?_ | refine xN rfl ?_ | refine xO rfl ?_ | (first | refine xP rfl (fun hif => ?_) (fun hif => ?_) | refine xQ rfl (fun hif => ?_) (fun hif => ?_) | refine xR rfl (fun hif => ?_) (fun hif => ?_) | refine xS rfl (fun hif => ?_) (fun hif => ?_)) <;> try (first | contradiction | (exfalso; omega)) | (refine hK _ _ ?_; clear hK K) | refine AQuiet.call (impl_NetOk_f hs hN) trivial ?_ | (refine And.intro (by first | omega | assumption | (constructor <;> omega)) ?_) | (refine And.intro (fun hif => ?_) (fun hif => ?_) <;> try (first | contradiction | (exfalso; omega))) | ((first | refine xT fun K hK => ?_ | refine xU fun K hK => ?_ | refine yB (fun K hK => ?_) (fun K hK => ?_) | refine xV ?_ | refine yA ?_ | refine xW ?_ | refine xX ?_ | refine xY ?_ | refine xZ ?_) <;> simp only [↓awpOps, ↓awpKeep, ↓awpKeepF, ↓aop, ↓aopQ, ↓abin, ↓aun, ↓onSome_some, ↓Kont_at, ↓KM_at, ↓KV_at, ↓KU_at, refId_row, Frame.ev, Frame.evs, Frame.evOr, Frame.put, Frame.keep, get_nil, get_cons, argFrame, resOf, fillA, Vals.len, Vals.get, Vals.set, Vals.app, Vals.sub, Vals.take, Vals.ofAgg_cons, Vals.ofList, Vals.toInts, Vals.toBools, Vals.toSls, Vals.toStrs, Vals.zeros, Nat.reduceBEq, Nat.reduceAdd, Nat.reduceEqDiff, cond_true, cond_false, Option.map_some, Option.map_none, List.length_cons, List.length_nil, List.replicate, List.set_cons_zero, List.set_cons_succ, Nat.reduceLT, Bool.not_true, Bool.not_false, Int.toNat_natCast, inR, Nat.zero_add, Int.toNat_zero, reduceCtorEq, IntKind.bits, List.nil_append, List.cons_append, Nat.add_zero, Nat.sub_zero, noughts_len, List.map_cons, List.map_nil, zp, zu]) | refine And.intro ?_ (fun hif => (hif trivial).elim) | (intro hif; try (first | contradiction | (exfalso; omega))))
    exact ⟨_, rfl, Grow.refl hwf _ _, obj_nil _ _ _ _ _⟩

theorem impl_PathCover (s : SV) (net : List Int) (m : Heap) (hs : IsInts .i64 m s net) : AQuiet Try.prog F.impl_PathCover [.one (.sl s)] m (.one (.int .i64 (cover net))) := by
  refine aqn T.impl_PathCover (by rfl) ?_
  by_cases hN : NetOk net
  · have h6 := hN.six
    have hpow : 0 < 2 ^ net.length := Nat.pow_pos (by decide)
    have cA := impl_allPlaces net.length (by omega) m
    have cP := impl_pathsOver hN net.length (2 ^ net.length - 1) 0 s m hs (by omega) (pc_full _ (by omega)) (by decide)
    rw [← cover_pv hN, ← full_int h6] at cP
    obtain ⟨ref, off, len⟩ := s
    obtain rfl : len = net.length := hs.1
    repeat' (first | refine xA ?_ | refine xB ?_ | refine xC ?_ | refine xD ?_ | refine xE ?_ | refine xF ?_ | refine xG ?_ | refine xH ?_ | refine xI rfl ?_ | refine xJ ?_ | refine xK ?_ | refine xL ?_ | refine xM rfl ?_ | refine xN rfl ?_ | refine xO rfl ?_ | (first | refine xP rfl (fun hif => ?_) (fun hif => ?_) | refine xQ rfl (fun hif => ?_) (fun hif => ?_) | refine xR rfl (fun hif => ?_) (fun hif => ?_) | refine xS rfl (fun hif => ?_) (fun hif => ?_)) <;> try (first | contradiction | (exfalso; omega)) | (refine hK _ _ ?_; clear hK K) | refine AQuiet.call (impl_NetOk_t hs hN) trivial ?_ | refine AQuiet.call cA trivial ?_ | refine AQuiet.callq cA trivial ?_ | refine AQuiet.call cP trivial ?_ | refine AQuiet.callq cP trivial ?_ | (refine And.intro (by first | omega | assumption | (constructor <;> omega)) ?_) | (refine And.intro (fun hif => ?_) (fun hif => ?_) <;> try (first | contradiction | (exfalso; omega))) | ((first | refine xT fun K hK => ?_ | refine xU fun K hK => ?_ | refine yB (fun K hK => ?_) (fun K hK => ?_) | refine xV ?_ | refine yA ?_ | refine xW ?_ | refine xX ?_ | refine xY ?_ | refine xZ ?_) <;> simp only [↓awpOps, ↓awpKeep, ↓awpKeepF, ↓aop, ↓aopQ, ↓abin, ↓aun, ↓onSome_some, ↓Kont_at, ↓KM_at, ↓KV_at, ↓KU_at, refId_row, Frame.ev, Frame.evs, Frame.evOr, Frame.put, Frame.keep, get_nil, get_cons, argFrame, resOf, fillA, Vals.len, Vals.get, Vals.set, Vals.app, Vals.sub, Vals.take, Vals.ofAgg_cons, Vals.ofList, Vals.toInts, Vals.toBools, Vals.toSls, Vals.toStrs, Vals.zeros, Nat.reduceBEq, Nat.reduceAdd, Nat.reduceEqDiff, cond_true, cond_false, Option.map_some, Option.map_none, List.length_cons, List.length_nil, List.replicate, List.set_cons_zero, List.set_cons_succ, Nat.reduceLT, Bool.not_true, Bool.not_false, Int.toNat_natCast, inR, Nat.zero_add, Int.toNat_zero, reduceCtorEq, IntKind.bits, List.nil_append, List.cons_append, Nat.add_zero, Nat.sub_zero, noughts_len, List.map_cons, List.map_nil, zp, zu]) | refine And.intro ?_ (fun hif => (hif trivial).elim) | (intro hif; try (first | contradiction | (exfalso; omega))))
    all_goals (first | exact List.prefix_rfl | exact ⟨rfl, List.prefix_rfl⟩ | exact ⟨by simp, List.prefix_rfl⟩)
  · rw [cover, if_neg hN]
    repeat' (first | refine xA ?_ | refine xB ?_ | refine xC ?_ | refine xD ?_ | refine xE ?_ | refine xF ?_ | refine xG ?_ | refine xH ?_ | refine xI rfl ?_ | refine xJ ?_ | refine xK ?_ | refine xL ?_ | refine xM rfl ?_ | refine xN rfl ?_ | refine xO rfl ?_ | (first | refine xP rfl (fun hif => ?_) (fun hif => ?_) | refine xQ rfl (fun hif => ?_) (fun hif => ?_) | refine xR rfl (fun hif => ?_) (fun hif => ?_) | refine xS rfl (fun hif => ?_) (fun hif => ?_)) <;> try (first | contradiction | (exfalso; omega)) | (refine hK _ _ ?_; clear hK K) | refine AQuiet.call (impl_NetOk_f hs hN) trivial ?_ | (refine And.intro (by first | omega | assumption | (constructor <;> omega)) ?_) | (refine And.intro (fun hif => ?_) (fun hif => ?_) <;> try (first | contradiction | (exfalso; omega))) | ((first | refine xT fun K hK => ?_ | refine xU fun K hK => ?_ | refine yB (fun K hK => ?_) (fun K hK => ?_) | refine xV ?_ | refine yA ?_ | refine xW ?_ | refine xX ?_ | refine xY ?_ | refine xZ ?_) <;> simp only [↓awpOps, ↓awpKeep, ↓awpKeepF, ↓aop, ↓aopQ, ↓abin, ↓aun, ↓onSome_some, ↓Kont_at, ↓KM_at, ↓KV_at, ↓KU_at, refId_row, Frame.ev, Frame.evs, Frame.evOr, Frame.put, Frame.keep, get_nil, get_cons, argFrame, resOf, fillA, Vals.len, Vals.get, Vals.set, Vals.app, Vals.sub, Vals.take, Vals.ofAgg_cons, Vals.ofList, Vals.toInts, Vals.toBools, Vals.toSls, Vals.toStrs, Vals.zeros, Nat.reduceBEq, Nat.reduceAdd, Nat.reduceEqDiff, cond_true, cond_false, Option.map_some, Option.map_none, List.length_cons, List.length_nil, List.replicate, List.set_cons_zero, List.set_cons_succ, Nat.reduceLT, Bool.not_true, Bool.not_false, Int.toNat_natCast, inR, Nat.zero_add, Int.toNat_zero, reduceCtorEq, IntKind.bits, List.nil_append, List.cons_append, Nat.add_zero, Nat.sub_zero, noughts_len, List.map_cons, List.map_nil, zp, zu]) | refine And.intro ?_ (fun hif => (hif trivial).elim) | (intro hif; try (first | contradiction | (exfalso; omega))))
    all_goals (first | exact List.prefix_rfl | exact ⟨rfl, List.prefix_rfl⟩ | exact ⟨by simp, List.prefix_rfl⟩)

end Go.Abs
