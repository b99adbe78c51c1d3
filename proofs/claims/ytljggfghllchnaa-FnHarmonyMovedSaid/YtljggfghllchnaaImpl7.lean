/- The program's seventh chapter, by contracts. Own work; no condition. -/
import Derived.Test.YtljggfghllchnaaSpecH3
import Derived.Test.YtljggfghllchnaaSpecH5
import Derived.Test.YtljggfghllchnaaGrow
import Derived.Test.YtljggfghllchnaaRound
set_option maxRecDepth 100000
set_option linter.unusedSimpArgs false
set_option linter.unusedVariables false
namespace Go.Abs
open Go.Proofs
attribute [local irreducible] awp awpOps awpKeep KeepK awpKeepF KeepF aloop ALoop ACalls ACallq AQuiet retPost retPostA AExit.thn AExit.blk aApp aSt aStA

theorem harmMoved_use {net row : List Int} {f b : Int} (h : ¬ (harmMoved net row f b).length = 0) : Harm net row ∧ Harm net (harmMoved net row f b) ∧ (harmMoved net row f b).length = row.length ∧ ∀ i j, i < row.length → j < row.length → ((harmMoved net row f b).getD i 0 = (harmMoved net row f b).getD j 0 ↔ (row.getD i 0) = (row.getD j 0)) := by
  unfold harmMoved at *
  split at h
  case isFalse => exact absurd rfl h
  rename_i hc
  rw [if_pos hc]
  obtain ⟨hH, hf, hb, hg⟩ := hc
  have hg' : Nat.gcd f.natAbs (qOf net) = 1 := by rw [show f.natAbs = f.toNat by omega]; exact hg
  refine ⟨hH, hH.move hg', List.length_map _, fun i j hi hj => ?_⟩
  rw [map_get _ hi, map_get _ hj]
  exact moveH_iff hH.pos hg' (hH.low.low i hi) (hH.low.low j hj)
theorem harmMoved_one {net row : List Int} (h : Harm net row) : Harm net (harmMoved net row 1 1) := by
  have e : harmMoved net row 1 1 = row.map (moveH (qOf net) 1 1) := if_pos ⟨h, by omega, by omega, Nat.gcd_one_left _⟩
  rw [e]
  exact h.move (Nat.gcd_one_left _)
theorem harmMany_use {net : List Int} (hN : NetOk net) : (harmMany net = ((harmRows net).length : Int)) ∧ (¬ 0 < qOf net → (harmRows net).length = 0) ∧ (0 < qOf net → (harmRows net).length % qOf net = 0) ∧ (EvenOk net → qOf net % 4 = 2 → (harmRows net).length = 0) := by
  refine ⟨if_pos hN, fun h => ?_, harm_mod, fun h1 h2 => ?_⟩
  · rw [harmRows, if_neg fun c => h c.2]; rfl
  · cases hp : harmRows net with
    | nil => rfl
    | cons r l =>
      have := mem_harmRows.1 (show r ∈ harmRows net by rw [hp]; exact List.mem_cons_self ..)
      exact absurd h2 (this.parity h1.2)
theorem harmRows_small (net : List Int) : (harmRows net).length ≤ 100000000 ∧ (∀ i, i < (harmRows net).length → ((harmRows net).getD i []).length ≤ 1000000) ∧ ∀ i, i < (harmRows net).length → Harm net ((harmRows net).getD i []) := by
  have h3 : ∀ i, i < (harmRows net).length → Harm net ((harmRows net).getD i []) := fun i hi => mem_harmRows.1 (by
    rw [List.getD_eq_getElem?_getD, List.getElem?_eq_getElem hi]
    exact List.getElem_mem _)
  exact ⟨by have := harmRows_len net; omega, fun i hi => by have h := h3 i hi; have := h.low.len; have := h.ok.six; omega, h3⟩

theorem harmRows_triple (net : List Int) : (harmRows net).length ≤ 100000000 ∧ (∀ i, i < (harmRows net).length → ((harmRows net).getD i []).length ≤ 1000000) ∧ (0 ≤ (1 : Int) ∧ (1 : Int) + (tot (harmRows net) (harmRows net).length : Int) ≤ 1000000000) := by
  have hl := harmRows_len net
  have hi : ∀ i, i < (harmRows net).length → ((harmRows net).getD i []).length ≤ 6 := fun i h => by
    have hG := (harmRows_small net).2.2 i h
    have := hG.low.len
    have := hG.ok.six
    omega
  have ht : ∀ i, i ≤ (harmRows net).length → tot (harmRows net) i ≤ 6 * i := fun i => by
    induction i with
    | zero => intro _; exact Nat.le_refl _
    | succ i ih => intro h; have h1 := ih (by omega); have h2 := hi i (by omega); unfold tot; omega
  refine ⟨by omega, fun i h => by have := hi i h; omega, by decide, ?_⟩
  have := ht _ (Nat.le_refl _)
  omega


noncomputable def mayN (net : List Int) : Nat := if treeOk net = true then 1 else 0
theorem mayN_eq (net : List Int) : mayT net = (mayN net : Int) := by unfold mayT mayN; split <;> rfl
theorem twice_nil : twice [] = 0 := rfl

/-- A row of all places that holds no more pairs than may be holds them all. -/
theorem harm_full {net row : List Int} {came p : Nat} (hN : NetOk net) (hq : 0 < qOf net) (hl : row.length = net.length) (hW : WayH net (qOf net) row came) (hp : twice row + (p : Int) = mayT net) : Harm net row := by
  refine (harm_dd hN hq hl hW.low).2 ⟨?_, hW.dd⟩
  have h0 := twice_nonneg row
  by_cases hz : p = 0
  · omega
  · exfalso
    have hm := mayT_range net
    have ho := once_few (twice_zero (row := row) (by omega)) hW.low
    have ht : treeOk net = true := by
      cases hT : treeOk net with
      | true => rfl
      | false => rw [mayT, if_neg (by rw [hT]; exact Bool.noConfusion)] at hp; omega
    have hw := (of_decide_eq_true ht).2.2
    rw [wiresOf, if_pos hN] at hw
    have : ((wires net).length : Int) = (qOf net : Int) := rfl
    omega

theorem impl_TreeOk_w {s : SV} {net : List Int} {m : Heap} {b : Bool} (hs : IsInts .i64 m s net) (hb : treeOk net = b) : AQuiet Try.prog F.impl_TreeOk [.one (.sl s)] m (.one (.bool b)) := hb ▸ impl_TreeOk s net m hs

set_option maxHeartbeats 4000000 in
theorem impl_roundStart {s : SV} {net : List Int} {m : Heap} (hs : IsInts .i64 m s net) (hN : NetOk net) : AQuiet Try.prog F.impl_roundStart [.one (.sl s)] m (roundX [] (qOf net) (mayN net) 0) := by
  delta AQuiet
  refine ACalls.wf fun hwf => ?_
  have hq := qOf_le hN
  have g0 := Grow.push hwf Ty.impl_begunRound true (.ints .i64 [0, 0, 0, 0, 0, 0, 0, 0, 0, 0, 0])
  have g1 := g0.trans (Grow.push g0.wf Ty.impl_begunRound true (.ints .i64 [0, 0, 0, 0, 0, 0, 0, 0, 0, 0, 0]))
  have hW := impl_WiresOf_q (hs.pre g0.pre0) hN
  have hz : Vals.ofAgg [.int .i64 0, .int .i64 0, .int .i64 0, .int .i64 0, .int .i64 0, .int .i64 0, .int .i64 0, .int .i64 (qOf net : Int), .int .i64 0, .int .i64 0, .int .i64 0] = .ints .i64 (roundL [] (qOf net) 0 0) := rfl
  have hset : (roundL [] (qOf net) 0 0).set 8 1 = roundL [] (qOf net) 1 0 := rfl
  have hlen : ∀ p, (roundL [] (qOf net) p 0).length = 11 := fun p => rfl
  have hagg : ∀ p, Vals.ofAgg ((roundL [] (qOf net) p 0).map (AV.int .i64)) = .ints .i64 (roundL [] (qOf net) p 0) := fun p => Vals.ofAgg_ints _ _ _
  have hm2 : ∀ p, ((roundL [] (qOf net) p 0).map (AV.int .i64)).length = 11 := fun p => rfl
  have hres0 := row_at_push (get_last m ⟨Ty.impl_begunRound, m.length, true, .ints .i64 [0, 0, 0, 0, 0, 0, 0, 0, 0, 0, 0]⟩) ⟨Ty.impl_begunRound, List.length (m ++ [(⟨Ty.impl_begunRound, m.length, true, .ints .i64 [0, 0, 0, 0, 0, 0, 0, 0, 0, 0, 0]⟩ : Row)]), true, .ints .i64 [0, 0, 0, 0, 0, 0, 0, 0, 0, 0, 0]⟩
  unfold roundX
  refine afna T.impl_roundStart (by rfl) ?_
  cases hT : treeOk net with
  | false =>
    rw [show mayN net = 0 from if_neg (by rw [hT]; exact Bool.noConfusion)]
    have hl0 := hlen 0
    have hm0 := hm2 0
    have hagg := hagg 0
    generalize roundL [] (qOf net) 0 0 = L at *
    repeat' (first | refine xA ?_ | refine xB ?_ | refine xC ?_ | refine xD ?_ | refine xE ?_ | refine xF ?_ | refine xG ?_ | refine xH ?_ | refine xI rfl ?_ | refine xJ ?_ | refine xK ?_ | refine xL ?_ | refine xM rfl ?_ | refine xN rfl ?_ | refine xO rfl ?_ | (first | refine xP rfl (fun hif => ?_) (fun hif => ?_) | refine xQ rfl (fun hif => ?_) (fun hif => ?_) | refine xR rfl (fun hif => ?_) (fun hif => ?_) | refine xS rfl (fun hif => ?_) (fun hif => ?_)) <;> try (first | contradiction | (exfalso; omega)) | (refine hK _ _ ?_; clear hK K) | refine AQuiet.call hW trivial ?_ | refine st_agg g1.wf (get_last _ _) rfl rfl hz fun m2 g2 l2 r2 => ?_ | (refine And.intro (by first | omega | assumption | (constructor <;> omega)) ?_) | (refine And.intro (fun hif => ?_) (fun hif => ?_) <;> try (first | contradiction | (exfalso; omega))) | ((first | refine xT fun K hK => ?_ | refine xU fun K hK => ?_ | refine yB (fun K hK => ?_) (fun K hK => ?_) | refine xV ?_ | refine yA ?_ | refine xW ?_ | refine xX ?_ | refine xY ?_ | refine xZ ?_) <;> simp only [↓awpOps, ↓awpKeep, ↓awpKeepF, ↓aop, ↓aopQ, ↓abin, ↓aun, ↓onSome_some, ↓Kont_at, ↓KM_at, ↓KV_at, ↓KU_at, refId_row, Frame.ev, Frame.evs, Frame.evOr, Frame.put, Frame.keep, get_nil, get_cons, argFrame, resOf, fillA, Vals.len, Vals.get, Vals.set, Vals.app, Vals.sub, Vals.take, Vals.ofAgg_cons, Vals.ofList, Vals.toInts, Vals.toBools, Vals.toSls, Vals.toStrs, Vals.zeros, Nat.reduceBEq, Nat.reduceAdd, Nat.reduceEqDiff, cond_true, cond_false, Option.map_some, Option.map_none, List.length_cons, List.length_nil, List.replicate, List.set_cons_zero, List.set_cons_succ, Nat.reduceLT, Bool.not_true, Bool.not_false, Int.toNat_natCast, inR, Nat.zero_add, Int.toNat_zero, reduceCtorEq, IntKind.bits, List.nil_append, List.cons_append, Nat.add_zero, Nat.sub_zero, noughts_len, List.map_cons, List.map_nil, zp, zu]) | refine And.intro ?_ (fun hif => (hif trivial).elim) | (intro hif; try (first | contradiction | (exfalso; omega))))
    have hp2 := g2.pre g1.pre0 hwf (by simp)
    have hT2 := impl_TreeOk_w (hs.pre hp2) hT
    have hres := g2.keep _ _ hres0 (by simp)
    repeat' (first | refine xA ?_ | refine xB ?_ | refine xC ?_ | refine xD ?_ | refine xE ?_ | refine xF ?_ | refine xG ?_ | refine xH ?_ | refine xI rfl ?_ | refine xJ ?_ | refine xK ?_ | refine xL ?_ | refine xM rfl ?_ | refine xN rfl ?_ | refine xO rfl ?_ | (first | refine xP rfl (fun hif => ?_) (fun hif => ?_) | refine xQ rfl (fun hif => ?_) (fun hif => ?_) | refine xR rfl (fun hif => ?_) (fun hif => ?_) | refine xS rfl (fun hif => ?_) (fun hif => ?_)) <;> try (first | contradiction | (exfalso; omega)) | (refine hK _ _ ?_; clear hK K) | refine AQuiet.call hT2 trivial ?_ | refine onCells_of (cells_ints r2 hl0.symm) ?_ | refine st_agg g2.wf hres hm0.symm rfl hagg fun m9 g9 l9 r9 => ?_ | refine ret_agg rfl (cells_ints r9 hl0.symm) ?_ | (refine And.intro (by first | omega | assumption | (constructor <;> omega)) ?_) | (refine And.intro (fun hif => ?_) (fun hif => ?_) <;> try (first | contradiction | (exfalso; omega))) | ((first | refine xT fun K hK => ?_ | refine xU fun K hK => ?_ | refine yB (fun K hK => ?_) (fun K hK => ?_) | refine xV ?_ | refine yA ?_ | refine xW ?_ | refine xX ?_ | refine xY ?_ | refine xZ ?_) <;> simp only [↓awpOps, ↓awpKeep, ↓awpKeepF, ↓aop, ↓aopQ, ↓abin, ↓aun, ↓onSome_some, ↓Kont_at, ↓KM_at, ↓KV_at, ↓KU_at, refId_row, Frame.ev, Frame.evs, Frame.evOr, Frame.put, Frame.keep, get_nil, get_cons, argFrame, resOf, fillA, Vals.len, Vals.get, Vals.set, Vals.app, Vals.sub, Vals.take, Vals.ofAgg_cons, Vals.ofList, Vals.toInts, Vals.toBools, Vals.toSls, Vals.toStrs, Vals.zeros, Nat.reduceBEq, Nat.reduceAdd, Nat.reduceEqDiff, cond_true, cond_false, Option.map_some, Option.map_none, List.length_cons, List.length_nil, List.replicate, List.set_cons_zero, List.set_cons_succ, Nat.reduceLT, Bool.not_true, Bool.not_false, Int.toNat_natCast, inR, Nat.zero_add, Int.toNat_zero, reduceCtorEq, IntKind.bits, List.nil_append, List.cons_append, Nat.add_zero, Nat.sub_zero, noughts_len, List.map_cons, List.map_nil, zp, zu]) | refine And.intro ?_ (fun hif => (hif trivial).elim) | (intro hif; try (first | contradiction | (exfalso; omega))))
    all_goals first | exact g9.pre hp2 hwf (by simp) | exact ⟨rfl, g9.pre hp2 hwf (by simp)⟩
  | true =>
    rw [show mayN net = 1 from if_pos hT]
    have hl0 := hlen 0
    have hl1 := hlen 1
    have hm1 := hm2 1
    have hagg := hagg 1
    generalize roundL [] (qOf net) 0 0 = L0 at *
    generalize roundL [] (qOf net) 1 0 = L at *
    repeat' (first | refine xA ?_ | refine xB ?_ | refine xC ?_ | refine xD ?_ | refine xE ?_ | refine xF ?_ | refine xG ?_ | refine xH ?_ | refine xI rfl ?_ | refine xJ ?_ | refine xK ?_ | refine xL ?_ | refine xM rfl ?_ | refine xN rfl ?_ | refine xO rfl ?_ | (first | refine xP rfl (fun hif => ?_) (fun hif => ?_) | refine xQ rfl (fun hif => ?_) (fun hif => ?_) | refine xR rfl (fun hif => ?_) (fun hif => ?_) | refine xS rfl (fun hif => ?_) (fun hif => ?_)) <;> try (first | contradiction | (exfalso; omega)) | (refine hK _ _ ?_; clear hK K) | refine AQuiet.call hW trivial ?_ | refine st_agg g1.wf (get_last _ _) rfl rfl hz fun m2 g2 l2 r2 => ?_ | (refine And.intro (by first | omega | assumption | (constructor <;> omega)) ?_) | (refine And.intro (fun hif => ?_) (fun hif => ?_) <;> try (first | contradiction | (exfalso; omega))) | ((first | refine xT fun K hK => ?_ | refine xU fun K hK => ?_ | refine yB (fun K hK => ?_) (fun K hK => ?_) | refine xV ?_ | refine yA ?_ | refine xW ?_ | refine xX ?_ | refine xY ?_ | refine xZ ?_) <;> simp only [↓awpOps, ↓awpKeep, ↓awpKeepF, ↓aop, ↓aopQ, ↓abin, ↓aun, ↓onSome_some, ↓Kont_at, ↓KM_at, ↓KV_at, ↓KU_at, refId_row, Frame.ev, Frame.evs, Frame.evOr, Frame.put, Frame.keep, get_nil, get_cons, argFrame, resOf, fillA, Vals.len, Vals.get, Vals.set, Vals.app, Vals.sub, Vals.take, Vals.ofAgg_cons, Vals.ofList, Vals.toInts, Vals.toBools, Vals.toSls, Vals.toStrs, Vals.zeros, Nat.reduceBEq, Nat.reduceAdd, Nat.reduceEqDiff, cond_true, cond_false, Option.map_some, Option.map_none, List.length_cons, List.length_nil, List.replicate, List.set_cons_zero, List.set_cons_succ, Nat.reduceLT, Bool.not_true, Bool.not_false, Int.toNat_natCast, inR, Nat.zero_add, Int.toNat_zero, reduceCtorEq, IntKind.bits, List.nil_append, List.cons_append, Nat.add_zero, Nat.sub_zero, noughts_len, List.map_cons, List.map_nil, zp, zu]) | refine And.intro ?_ (fun hif => (hif trivial).elim) | (intro hif; try (first | contradiction | (exfalso; omega))))
    have hp2 := g2.pre g1.pre0 hwf (by simp)
    have hT2 := impl_TreeOk_w (hs.pre hp2) hT
    have hres := g2.keep _ _ hres0 (by simp)
    repeat' (first | refine xA ?_ | refine xB ?_ | refine xC ?_ | refine xD ?_ | refine xE ?_ | refine xF ?_ | refine xG ?_ | refine xH ?_ | refine xI rfl ?_ | refine xJ ?_ | refine xK ?_ | refine xL ?_ | refine xM rfl ?_ | refine xN rfl ?_ | refine xO rfl ?_ | (first | refine xP rfl (fun hif => ?_) (fun hif => ?_) | refine xQ rfl (fun hif => ?_) (fun hif => ?_) | refine xR rfl (fun hif => ?_) (fun hif => ?_) | refine xS rfl (fun hif => ?_) (fun hif => ?_)) <;> try (first | contradiction | (exfalso; omega)) | (refine hK _ _ ?_; clear hK K) | refine AQuiet.call hT2 trivial ?_ | refine st_row g2.wf r2 (by simp only [Vals.len]; omega) rfl fun m3 g3 l3 r3 => ?_ | (refine And.intro (by first | omega | assumption | (constructor <;> omega)) ?_) | (refine And.intro (fun hif => ?_) (fun hif => ?_) <;> try (first | contradiction | (exfalso; omega))) | ((first | refine xT fun K hK => ?_ | refine xU fun K hK => ?_ | refine yB (fun K hK => ?_) (fun K hK => ?_) | refine xV ?_ | refine yA ?_ | refine xW ?_ | refine xX ?_ | refine xY ?_ | refine xZ ?_) <;> simp only [↓awpOps, ↓awpKeep, ↓awpKeepF, ↓aop, ↓aopQ, ↓abin, ↓aun, ↓onSome_some, ↓Kont_at, ↓KM_at, ↓KV_at, ↓KU_at, refId_row, Frame.ev, Frame.evs, Frame.evOr, Frame.put, Frame.keep, get_nil, get_cons, argFrame, resOf, fillA, Vals.len, Vals.get, Vals.set, Vals.app, Vals.sub, Vals.take, Vals.ofAgg_cons, Vals.ofList, Vals.toInts, Vals.toBools, Vals.toSls, Vals.toStrs, Vals.zeros, Nat.reduceBEq, Nat.reduceAdd, Nat.reduceEqDiff, cond_true, cond_false, Option.map_some, Option.map_none, List.length_cons, List.length_nil, List.replicate, List.set_cons_zero, List.set_cons_succ, Nat.reduceLT, Bool.not_true, Bool.not_false, Int.toNat_natCast, inR, Nat.zero_add, Int.toNat_zero, reduceCtorEq, IntKind.bits, List.nil_append, List.cons_append, Nat.add_zero, Nat.sub_zero, noughts_len, List.map_cons, List.map_nil, zp, zu]) | refine And.intro ?_ (fun hif => (hif trivial).elim) | (intro hif; try (first | contradiction | (exfalso; omega))))
    rw [hset] at r3
    have hp3 := g3.pre hp2 hwf (by simp)
    have hres3 := g3.keep _ _ hres (by simp)
    repeat' (first | refine xA ?_ | refine xB ?_ | refine xC ?_ | refine xD ?_ | refine xE ?_ | refine xF ?_ | refine xG ?_ | refine xH ?_ | refine xI rfl ?_ | refine xJ ?_ | refine xK ?_ | refine xL ?_ | refine xM rfl ?_ | refine xN rfl ?_ | refine xO rfl ?_ | (first | refine xP rfl (fun hif => ?_) (fun hif => ?_) | refine xQ rfl (fun hif => ?_) (fun hif => ?_) | refine xR rfl (fun hif => ?_) (fun hif => ?_) | refine xS rfl (fun hif => ?_) (fun hif => ?_)) <;> try (first | contradiction | (exfalso; omega)) | (refine hK _ _ ?_; clear hK K) | refine onCells_of (cells_ints r3 hl1.symm) ?_ | refine st_agg g3.wf hres3 hm1.symm rfl hagg fun m9 g9 l9 r9 => ?_ | refine ret_agg rfl (cells_ints r9 hl1.symm) ?_ | (refine And.intro (by first | omega | assumption | (constructor <;> omega)) ?_) | (refine And.intro (fun hif => ?_) (fun hif => ?_) <;> try (first | contradiction | (exfalso; omega))) | ((first | refine xT fun K hK => ?_ | refine xU fun K hK => ?_ | refine yB (fun K hK => ?_) (fun K hK => ?_) | refine xV ?_ | refine yA ?_ | refine xW ?_ | refine xX ?_ | refine xY ?_ | refine xZ ?_) <;> simp only [↓awpOps, ↓awpKeep, ↓awpKeepF, ↓aop, ↓aopQ, ↓abin, ↓aun, ↓onSome_some, ↓Kont_at, ↓KM_at, ↓KV_at, ↓KU_at, refId_row, Frame.ev, Frame.evs, Frame.evOr, Frame.put, Frame.keep, get_nil, get_cons, argFrame, resOf, fillA, Vals.len, Vals.get, Vals.set, Vals.app, Vals.sub, Vals.take, Vals.ofAgg_cons, Vals.ofList, Vals.toInts, Vals.toBools, Vals.toSls, Vals.toStrs, Vals.zeros, Nat.reduceBEq, Nat.reduceAdd, Nat.reduceEqDiff, cond_true, cond_false, Option.map_some, Option.map_none, List.length_cons, List.length_nil, List.replicate, List.set_cons_zero, List.set_cons_succ, Nat.reduceLT, Bool.not_true, Bool.not_false, Int.toNat_natCast, inR, Nat.zero_add, Int.toNat_zero, reduceCtorEq, IntKind.bits, List.nil_append, List.cons_append, Nat.add_zero, Nat.sub_zero, noughts_len, List.map_cons, List.map_nil, zp, zu]) | refine And.intro ?_ (fun hif => (hif trivial).elim) | (intro hif; try (first | contradiction | (exfalso; omega))))
    all_goals first | exact g9.pre hp3 hwf (by simp) | exact ⟨rfl, g9.pre hp3 hwf (by simp)⟩

theorem impl_commonDivisor (a b : Nat) (ha : a ≤ 1000000) (hb : b ≤ 1000000) (m : Heap) : AQuiet Try.prog F.impl_commonDivisor [.one (.int .i64 a), .one (.int .i64 b)] m (.one (.int .i64 (Nat.gcd a b))) := by
  refine aqn T.impl_commonDivisor (by rfl) ?_
  repeat' (first | refine xA ?_ | refine xB ?_ | refine xC ?_ | refine xD ?_ | refine xE ?_ | refine xF ?_ | refine xG ?_ | refine xH ?_ | refine xI rfl ?_ | refine xJ ?_ | refine xK ?_ | refine xL ?_ | refine xM rfl ?_ | refine xN rfl ?_ | refine xO rfl ?_ | (first | refine xP rfl (fun hif => ?_) (fun hif => ?_) | refine xQ rfl (fun hif => ?_) (fun hif => ?_) | refine xR rfl (fun hif => ?_) (fun hif => ?_) | refine xS rfl (fun hif => ?_) (fun hif => ?_)) <;> try (first | contradiction | (exfalso; omega)) | (refine hK _ _ ?_; clear hK K) | (refine And.intro (by first | omega | assumption | (constructor <;> omega)) ?_) | (refine And.intro (fun hif => ?_) (fun hif => ?_) <;> try (first | contradiction | (exfalso; omega))) | ((first | refine xT fun K hK => ?_ | refine xU fun K hK => ?_ | refine yB (fun K hK => ?_) (fun K hK => ?_) | refine xV ?_ | refine yA ?_ | refine xW ?_ | refine xX ?_ | refine xY ?_ | refine xZ ?_) <;> simp only [↓awpOps, ↓awpKeep, ↓awpKeepF, ↓aop, ↓aopQ, ↓abin, ↓aun, ↓onSome_some, ↓Kont_at, ↓KM_at, ↓KV_at, ↓KU_at, refId_row, Frame.ev, Frame.evs, Frame.evOr, Frame.put, Frame.keep, get_nil, get_cons, argFrame, resOf, fillA, Vals.len, Vals.get, Vals.set, Vals.app, Vals.sub, Vals.take, Vals.ofAgg_cons, Vals.ofList, Vals.toInts, Vals.toBools, Vals.toSls, Vals.toStrs, Vals.zeros, Nat.reduceBEq, Nat.reduceAdd, Nat.reduceEqDiff, cond_true, cond_false, Option.map_some, Option.map_none, List.length_cons, List.length_nil, List.replicate, List.set_cons_zero, List.set_cons_succ, Nat.reduceLT, Bool.not_true, Bool.not_false, Int.toNat_natCast, inR, Nat.zero_add, Int.toNat_zero, reduceCtorEq, IntKind.bits, List.nil_append, List.cons_append, Nat.add_zero, Nat.sub_zero, noughts_len, List.map_cons, List.map_nil, zp, zu]) | refine And.intro ?_ (fun hif => (hif trivial).elim) | (intro hif; try (first | contradiction | (exfalso; omega))))
  refine awp_loop ?_
  refine ALoop.by [0, 1] (fun p : Nat × Nat => [(0, .one (.int .i64 p.1)), (1, .one (.int .i64 p.2))]) (fun _ => m) (fun p => (p.1 ≤ 1000000 ∧ p.2 ≤ 1000000) ∧ Nat.gcd p.1 p.2 = Nat.gcd a b) (fun p => p.2) (a, b) rfl rfl ⟨⟨ha, hb⟩, rfl⟩ ?_
  rintro ⟨x, y⟩ ⟨⟨hx, hy⟩, hg⟩ K1 hK1
  simp only at hx hy hg
  by_cases h0 : 0 < y
  · have hm := Nat.mod_lt x h0
    have hgs := gcd_step x y
    repeat' (first | refine xA ?_ | refine xB ?_ | refine xC ?_ | refine xD ?_ | refine xE ?_ | refine xF ?_ | refine xG ?_ | refine xH ?_ | refine xI rfl ?_ | refine xJ ?_ | refine xK ?_ | refine xL ?_ | refine xM rfl ?_ | refine xN rfl ?_ | refine xO rfl ?_ | (first | refine xP rfl (fun hif => ?_) (fun hif => ?_) | refine xQ rfl (fun hif => ?_) (fun hif => ?_) | refine xR rfl (fun hif => ?_) (fun hif => ?_) | refine xS rfl (fun hif => ?_) (fun hif => ?_)) <;> try (first | contradiction | (exfalso; omega)) | (refine hK _ _ ?_; clear hK K) | (refine And.intro (by first | omega | assumption | (constructor <;> omega)) ?_) | (refine And.intro (fun hif => ?_) (fun hif => ?_) <;> try (first | contradiction | (exfalso; omega))) | ((first | refine xT fun K hK => ?_ | refine xU fun K hK => ?_ | refine yB (fun K hK => ?_) (fun K hK => ?_) | refine xV ?_ | refine yA ?_ | refine xW ?_ | refine xX ?_ | refine xY ?_ | refine xZ ?_) <;> simp only [↓awpOps, ↓awpKeep, ↓awpKeepF, ↓aop, ↓aopQ, ↓abin, ↓aun, ↓onSome_some, ↓Kont_at, ↓KM_at, ↓KV_at, ↓KU_at, refId_row, Frame.ev, Frame.evs, Frame.evOr, Frame.put, Frame.keep, get_nil, get_cons, argFrame, resOf, fillA, Vals.len, Vals.get, Vals.set, Vals.app, Vals.sub, Vals.take, Vals.ofAgg_cons, Vals.ofList, Vals.toInts, Vals.toBools, Vals.toSls, Vals.toStrs, Vals.zeros, Nat.reduceBEq, Nat.reduceAdd, Nat.reduceEqDiff, cond_true, cond_false, Option.map_some, Option.map_none, List.length_cons, List.length_nil, List.replicate, List.set_cons_zero, List.set_cons_succ, Nat.reduceLT, Bool.not_true, Bool.not_false, Int.toNat_natCast, inR, Nat.zero_add, Int.toNat_zero, reduceCtorEq, IntKind.bits, List.nil_append, List.cons_append, Nat.add_zero, Nat.sub_zero, noughts_len, List.map_cons, List.map_nil, zp, zu]) | refine And.intro ?_ (fun hif => (hif trivial).elim) | (intro hif; try (first | contradiction | (exfalso; omega))))
    exact hK1 (y, x % y) _ _ rfl rfl ⟨⟨hy, by simp only; omega⟩, by rw [← hgs]; exact hg⟩ (by simp only; omega)
  · obtain rfl : y = 0 := by omega
    rw [Nat.gcd_zero_right] at hg
    rw [← hg]
    repeat' (first | refine xA ?_ | refine xB ?_ | refine xC ?_ | refine xD ?_ | refine xE ?_ | refine xF ?_ | refine xG ?_ | refine xH ?_ | refine xI rfl ?_ | refine xJ ?_ | refine xK ?_ | refine xL ?_ | refine xM rfl ?_ | refine xN rfl ?_ | refine xO rfl ?_ | (first | refine xP rfl (fun hif => ?_) (fun hif => ?_) | refine xQ rfl (fun hif => ?_) (fun hif => ?_) | refine xR rfl (fun hif => ?_) (fun hif => ?_) | refine xS rfl (fun hif => ?_) (fun hif => ?_)) <;> try (first | contradiction | (exfalso; omega)) | (refine hK _ _ ?_; clear hK K) | (refine And.intro (by first | omega | assumption | (constructor <;> omega)) ?_) | (refine And.intro (fun hif => ?_) (fun hif => ?_) <;> try (first | contradiction | (exfalso; omega))) | ((first | refine xT fun K hK => ?_ | refine xU fun K hK => ?_ | refine yB (fun K hK => ?_) (fun K hK => ?_) | refine xV ?_ | refine yA ?_ | refine xW ?_ | refine xX ?_ | refine xY ?_ | refine xZ ?_) <;> simp only [↓awpOps, ↓awpKeep, ↓awpKeepF, ↓aop, ↓aopQ, ↓abin, ↓aun, ↓onSome_some, ↓Kont_at, ↓KM_at, ↓KV_at, ↓KU_at, refId_row, Frame.ev, Frame.evs, Frame.evOr, Frame.put, Frame.keep, get_nil, get_cons, argFrame, resOf, fillA, Vals.len, Vals.get, Vals.set, Vals.app, Vals.sub, Vals.take, Vals.ofAgg_cons, Vals.ofList, Vals.toInts, Vals.toBools, Vals.toSls, Vals.toStrs, Vals.zeros, Nat.reduceBEq, Nat.reduceAdd, Nat.reduceEqDiff, cond_true, cond_false, Option.map_some, Option.map_none, List.length_cons, List.length_nil, List.replicate, List.set_cons_zero, List.set_cons_succ, Nat.reduceLT, Bool.not_true, Bool.not_false, Int.toNat_natCast, inR, Nat.zero_add, Int.toNat_zero, reduceCtorEq, IntKind.bits, List.nil_append, List.cons_append, Nat.add_zero, Nat.sub_zero, noughts_len, List.map_cons, List.map_nil, zp, zu]) | refine And.intro ?_ (fun hif => (hif trivial).elim) | (intro hif; try (first | contradiction | (exfalso; omega))))
    (first | exact List.prefix_rfl | exact ⟨rfl, List.prefix_rfl⟩ | exact ⟨by simp, List.prefix_rfl⟩)

theorem row_some {net row : List Int} {came p : Nat} (hN : NetOk net) (hq : 0 < qOf net) (hl : row.length = net.length) (hW : WayH net (qOf net) row came) (hp : twice row + (p : Int) = mayT net) : searchH net (qOf net) 0 row came = [row] := by
  rw [searchH, if_pos (decide_eq_true (harm_full hN hq hl hW hp))]

set_option maxHeartbeats 8000000 in
theorem impl_roundRowsFrom {net : List Int} (hN : NetOk net) (hq : 0 < qOf net) : ∀ (rem : Nat) (row : List Int) (came p : Nat) (s : SV) (m : Heap), IsInts .i64 m s net → row.length + rem = net.length → WayH net (qOf net) row came → came < 32768 → twice row + (p : Int) = mayT net →
    ARetL Try.prog F.impl_roundRowsFrom [.one (.sl s), roundX row (qOf net) p came] m (searchH net (qOf net) rem row came) := by
  intro rem
  have h6 := hN.six
  have hpos := hN.pos
  have h15 := qOf_le hN
  induction rem with
  | zero =>
    intro row came p s m hs hl hW hc hp
    rw [row_some hN hq (by omega) hW hp]
    obtain ⟨ref, off, len⟩ := s
    obtain rfl : len = net.length := hs.1
    have e6 : (roundL row (qOf net) p came).getD 6 0 = (row.length : Int) := rfl
    have htk := roundL_take row (qOf net) p came (by omega)
    have hagg : Vals.ofAgg ((roundL row (qOf net) p came).map (AV.int .i64)) = .ints .i64 (roundL row (qOf net) p came) := Vals.ofAgg_ints _ _ _
    have hLl : (roundL row (qOf net) p came).length = 11 := rfl
    have hml : ((roundL row (qOf net) p came).map (AV.int .i64)).length = 11 := rfl
    refine arln T.impl_roundRowsFrom (by rfl) fun hwf => ?_
    unfold roundX
    generalize roundL row (qOf net) p came = L at *
    have a6 : Heap.at (m ++ [⟨Ty.impl_begunRound, m.length, true, .ints .i64 L⟩]) m.length 6 = some (.int .i64 (L.getD 6 0)) := at_row (get_last _ _) (by simp only [Vals.len]; omega)
    rw [e6] at a6
    have g0 := Grow.push hwf Ty.impl_begunRound true (.ints .i64 L)
    have g1 := Grow.push g0.wf Ty.int true (.ints .i64 [])
    have hA := acc_new g0.wf Ty.int (.ints .i64 []) (n := 0) rfl
    have hbox : (m ++ [(⟨Ty.impl_begunRound, m.length, true, .ints .i64 L⟩ : Row)] ++ [⟨Ty.int, List.length (m ++ [(⟨Ty.impl_begunRound, m.length, true, .ints .i64 L⟩ : Row)]), true, .ints .i64 []⟩])[m.length]? = some ⟨Ty.impl_begunRound, m.length, true, .ints .i64 L⟩ := row_at_push (get_last _ _) _
    have a6' := at_row hbox (off := 6) (by simp only [Vals.len]; omega)
    simp only [Vals.get, e6] at a6'
    repeat' (first | refine xA ?_ | refine xB ?_ | refine xC ?_ | refine xD ?_ | refine xE ?_ | refine xF ?_ | refine xG ?_ | refine xH ?_ | refine xI rfl ?_ | refine xJ ?_ | refine xK ?_ | refine xL ?_ | refine xM rfl ?_ | refine xN rfl ?_ | refine xO rfl ?_ | (first | refine xP rfl (fun hif => ?_) (fun hif => ?_) | refine xQ rfl (fun hif => ?_) (fun hif => ?_) | refine xR rfl (fun hif => ?_) (fun hif => ?_) | refine xS rfl (fun hif => ?_) (fun hif => ?_)) <;> try (first | contradiction | (exfalso; omega)) | (refine hK _ _ ?_; clear hK K) | rw [hagg] | refine onSome_of a6 ?_ | refine onSome_of a6' ?_ | refine app_part g1.wf hA (fun c => by cases c) hbox (by omega) (by simp; omega) fun s2 m2 hp2 g2 hA2 hne2 => ?_ | (refine And.intro (by first | omega | assumption | (constructor <;> omega)) ?_) | (refine And.intro (fun hif => ?_) (fun hif => ?_) <;> try (first | contradiction | (exfalso; omega))) | ((first | refine xT fun K hK => ?_ | refine xU fun K hK => ?_ | refine yB (fun K hK => ?_) (fun K hK => ?_) | refine xV ?_ | refine yA ?_ | refine xW ?_ | refine xX ?_ | refine xY ?_ | refine xZ ?_) <;> simp only [↓awpOps, ↓awpKeep, ↓awpKeepF, ↓aop, ↓aopQ, ↓abin, ↓aun, ↓onSome_some, ↓Kont_at, ↓KM_at, ↓KV_at, ↓KU_at, refId_row, Frame.ev, Frame.evs, Frame.evOr, Frame.put, Frame.keep, get_nil, get_cons, argFrame, resOf, fillA, Vals.len, Vals.get, Vals.set, Vals.app, Vals.sub, Vals.take, Vals.ofAgg_cons, Vals.ofList, Vals.toInts, Vals.toBools, Vals.toSls, Vals.toStrs, Vals.zeros, Nat.reduceBEq, Nat.reduceAdd, Nat.reduceEqDiff, cond_true, cond_false, Option.map_some, Option.map_none, List.length_cons, List.length_nil, List.replicate, List.set_cons_zero, List.set_cons_succ, Nat.reduceLT, Bool.not_true, Bool.not_false, Int.toNat_natCast, inR, Nat.zero_add, Int.toNat_zero, reduceCtorEq, IntKind.bits, List.nil_append, List.cons_append, Nat.add_zero, Nat.sub_zero, noughts_len, List.map_cons, List.map_nil, zp, zu]) | refine And.intro ?_ (fun hif => (hif trivial).elim) | (intro hif; try (first | contradiction | (exfalso; omega))))
    rw [List.nil_append, htk] at hA2
    have g3 := Grow.push g2.wf Ty.Sl_int true (.sls [s2])
    have hp2' := hp2.length_le
    simp only [List.length_append, List.length_cons, List.length_nil] at hp2'
    have hwf3 := g3.wf
    refine ⟨_, rfl, grow00 ((prefix_push _ _).trans ((prefix_push _ _).trans (hp2.trans (prefix_push _ _)))) ((g0.any _ _).trans ((g1.any _ _).trans ((g2.mono (by simp) (by simp; omega)).trans (g3.any _ _)))), hwf3, [s2], m2.length, acc_new g2.wf _ _ rfl, .inr ⟨by omega, by simp⟩, rfl, fun i hi => ?_⟩
    have hi0 : i = 0 := by simpa using hi
    subst hi0
    rcases hA2 with ⟨e, _⟩ | ⟨id, rfl, hid, _⟩
    · exact absurd e hne2
    · exact ⟨id, _, by simp, by simp; omega, by simp; omega, rfl, row_at_push hid _, fun j hj => absurd hj (Nat.not_lt_zero _)⟩
  | succ rem ih =>
    intro row came p s m hs hl hW hc hp
    have hlow := hW.low
    have hrow : ∀ i, i < row.length → 0 ≤ (row.getD i 0) ∧ (row.getD i 0) ≤ 15 := fun i hi => by have := hlow i hi; omega
    have hrow30 : ∀ i, i < row.length → 0 ≤ (row.getD i 0) ∧ (row.getD i 0) ≤ 30 := fun i hi => by have := hlow i hi; omega
    have hp1 : p ≤ 1 := by have := twice_nonneg row; have := mayT_range net; omega
    obtain ⟨ref, off, len⟩ := s
    obtain rfl : len = net.length := hs.1
    have e7 : (roundL row (qOf net) p came).getD 7 0 = (qOf net : Int) := rfl
    have e6 : (roundL row (qOf net) p came).getD 6 0 = (row.length : Int) := rfl
    have hagg : Vals.ofAgg ((roundL row (qOf net) p came).map (AV.int .i64)) = .ints .i64 (roundL row (qOf net) p came) := Vals.ofAgg_ints _ _ _
    have hLl : (roundL row (qOf net) p came).length = 11 := rfl
    have hml : ((roundL row (qOf net) p came).map (AV.int .i64)).length = 11 := rfl
    have hp16 := pow16 (rem := rem) (by omega)
    have hps := fun n : Nat => pairs_step (n := n) (fun i hi => (hrow i hi).1) hp
    have hD : ∀ (n : Nat) (m' : Heap), n < qOf net → IsInts .i64 m' ⟨ref, off, net.length⟩ net → AQuiet Try.prog F.impl_remaindersWith [.one (.sl ⟨ref, off, net.length⟩), .agg ((roundL row (qOf net) p came).map (AV.int .i64)), .one (.int .i64 (n : Int))] m' (diffX (remF net (qOf net) row n came (decide (twice (row ++ [(n : Int)]) ≤ mayT net)))) := fun n m' hn hs' => by rw [(hps n).1]; exact impl_remaindersWith hs' hN (by omega) hq h15 hn hrow hc
    have hWn : ∀ (n c : Nat) (m' : Heap), n < qOf net → ¬ ((nums row).testBit n = true ∧ p = 0) → AQuiet Try.prog F.impl_withRemainders [.agg ((roundL row (qOf net) p came).map (AV.int .i64)), .one (.int .i64 (n : Int)), .one (.int .i64 (c : Int))] m' (roundX (row ++ [(n : Int)]) (qOf net) (leftP row p n) c) := fun n c m' hn hok => impl_withRemainders m' (by omega) (by omega) hp1 hrow30 hok
    refine arln T.impl_roundRowsFrom (by rfl) fun hwf => ?_
    unfold roundX at ⊢
    generalize roundL row (qOf net) p came = L at *
    have hat : ∀ mm : Heap, (m ++ [(⟨Ty.impl_begunRound, m.length, true, .ints .i64 L⟩ : Row)]) <+: mm → Heap.at mm m.length 6 = some (.int .i64 (row.length : Int)) ∧ Heap.at mm m.length 7 = some (.int .i64 (qOf net : Int)) := fun mm hpp => by
      have hb := row_prefix hpp (get_last m ⟨Ty.impl_begunRound, m.length, true, .ints .i64 L⟩)
      have h1 := at_row hb (off := 6) (by simp only [Vals.len]; omega)
      have h2 := at_row hb (off := 7) (by simp only [Vals.len]; omega)
      simp only [Vals.get, e6, e7] at h1 h2
      exact ⟨h1, h2⟩
    have a6 := (hat _ List.prefix_rfl).1
    have g0 := Grow.push hwf Ty.impl_begunRound true (.ints .i64 L)
    repeat' (first | refine xA ?_ | refine xB ?_ | refine xC ?_ | refine xD ?_ | refine xE ?_ | refine xF ?_ | refine xG ?_ | refine xH ?_ | refine xI rfl ?_ | refine xJ ?_ | refine xK ?_ | refine xL ?_ | refine xM rfl ?_ | refine xN rfl ?_ | refine xO rfl ?_ | (first | refine xP rfl (fun hif => ?_) (fun hif => ?_) | refine xQ rfl (fun hif => ?_) (fun hif => ?_) | refine xR rfl (fun hif => ?_) (fun hif => ?_) | refine xS rfl (fun hif => ?_) (fun hif => ?_)) <;> try (first | contradiction | (exfalso; omega)) | (refine hK _ _ ?_; clear hK K) | rw [hagg] | refine onSome_of a6 ?_ | (refine And.intro (by first | omega | assumption | (constructor <;> omega)) ?_) | (refine And.intro (fun hif => ?_) (fun hif => ?_) <;> try (first | contradiction | (exfalso; omega))) | ((first | refine xT fun K hK => ?_ | refine xU fun K hK => ?_ | refine yB (fun K hK => ?_) (fun K hK => ?_) | refine xV ?_ | refine yA ?_ | refine xW ?_ | refine xX ?_ | refine xY ?_ | refine xZ ?_) <;> simp only [↓awpOps, ↓awpKeep, ↓awpKeepF, ↓aop, ↓aopQ, ↓abin, ↓aun, ↓onSome_some, ↓Kont_at, ↓KM_at, ↓KV_at, ↓KU_at, refId_row, Frame.ev, Frame.evs, Frame.evOr, Frame.put, Frame.keep, get_nil, get_cons, argFrame, resOf, fillA, Vals.len, Vals.get, Vals.set, Vals.app, Vals.sub, Vals.take, Vals.ofAgg_cons, Vals.ofList, Vals.toInts, Vals.toBools, Vals.toSls, Vals.toStrs, Vals.zeros, Nat.reduceBEq, Nat.reduceAdd, Nat.reduceEqDiff, cond_true, cond_false, Option.map_some, Option.map_none, List.length_cons, List.length_nil, List.replicate, List.set_cons_zero, List.set_cons_succ, Nat.reduceLT, Bool.not_true, Bool.not_false, Int.toNat_natCast, inR, Nat.zero_add, Int.toNat_zero, reduceCtorEq, IntKind.bits, List.nil_append, List.cons_append, Nat.add_zero, Nat.sub_zero, noughts_len, List.map_cons, List.map_nil, zp, zu]) | refine And.intro ?_ (fun hif => (hif trivial).elim) | (intro hif; try (first | contradiction | (exfalso; omega))))
    refine awp_loop ?_
    refine ALoop.by [0, 3, 5, 6] (fun a : Nat × SV × Heap => [(0, .one (.sl ⟨ref, off, net.length⟩)), (3, .one (.ptr m.length 0)), (5, .one (.sl a.2.1)), (6, .one (.int .i64 a.1))]) (fun a => a.2.2) (fun a => a.1 ≤ qOf net ∧ (m ++ [⟨Ty.impl_begunRound, m.length, true, .ints .i64 L⟩]) <+: a.2.2 ∧ Grow m.length a.2.2.length m a.2.2 ∧ LAcc m.length a.2.2 a.2.1 (searchToH net (qOf net) rem row came a.1)) (fun a => qOf net - a.1) (0, SV.nil, _) rfl rfl ⟨Nat.zero_le _, List.prefix_rfl, g0.any _ _, lacc_nil _ _⟩ ?_
    rintro ⟨n, so, mo⟩ ⟨hn, hpo, hgo, hao⟩ K1 hK1
    simp only at hn hpo hgo hao
    have a7 := (hat _ hpo).2
    by_cases hlt : n < qOf net
    · have hso := hs.pre ((prefix_push _ _).trans hpo)
      have hbox := row_prefix hpo (get_last m ⟨Ty.impl_begunRound, m.length, true, .ints .i64 L⟩)
      have hcs := cells_ints hbox hLl.symm
      have hsucc := searchToH_succ net (qOf net) rem row came n
      have hle := hpo.length_le
      simp only [List.length_append, List.length_cons, List.length_nil] at hle
      have hD' := hD n mo hlt hso
      unfold stepH at hsucc
      unfold remF at hD'
      by_cases hf : (runH net (qOf net) row (n : Int) came (decide (twice (row ++ [(n : Int)]) ≤ mayT net)) row.length).2 = true
      · have hok : ¬ ((nums row).testBit n = true ∧ p = 0) := by
          have := ((runH_ok net (qOf net) row (n : Int) came _ row.length).1 hf).1
          rw [(hps n).1] at this
          exact of_decide_eq_true this
        have hlt2 := runH_lt net hq h15 row (n : Int) hc (decide (twice (row ++ [(n : Int)]) ≤ mayT net)) row.length
        have hpush := hW.push (n := (n : Int)) (by omega) hf
        rw [if_pos hf] at hsucc hD'
        have hnext := (hps n).2 hok
        have hst := searchToH_len net h15 rem row came n
        generalize (runH net (qOf net) row (n : Int) came (decide (twice (row ++ [(n : Int)]) ≤ mayT net)) row.length).1 = c at *
        simp only [diffX] at hD'
        have hsl := searchH_len net h15 rem (row ++ [(n : Int)]) c
        have hst2 : n * 16 ^ rem ≤ 16 * 16777216 := Nat.mul_le_mul (by omega) hp16
        have hih := ih (row ++ [(n : Int)]) c (leftP row p n) ⟨ref, off, net.length⟩ mo hso (by rw [List.length_append, List.length_cons, List.length_nil]; omega) hpush hlt2 hnext
        have hwn := hWn n c mo hlt hok
        clear hf hok hps hD hWn
        repeat' (first | refine xA ?_ | refine xB ?_ | refine xC ?_ | refine xD ?_ | refine xE ?_ | refine xF ?_ | refine xG ?_ | refine xH ?_ | refine xI rfl ?_ | refine xJ ?_ | refine xK ?_ | refine xL ?_ | refine xM rfl ?_ | refine xN rfl ?_ | refine xO rfl ?_ | (first | refine xP rfl (fun hif => ?_) (fun hif => ?_) | refine xQ rfl (fun hif => ?_) (fun hif => ?_) | refine xR rfl (fun hif => ?_) (fun hif => ?_) | refine xS rfl (fun hif => ?_) (fun hif => ?_)) <;> try (first | contradiction | (exfalso; omega)) | (refine hK _ _ ?_; clear hK K) | refine onCells_of hcs ?_ | refine onSome_of a7 ?_ | refine AQuiet.call hD' (diffX_flat (some c)) ?_ | refine AQuiet.call hwn (roundX_flat _ _ _ _) ?_ | refine ARetL.call hih fun s5 m5 g5 o5 => ?_ | (refine And.intro (by first | omega | assumption | (constructor <;> omega)) ?_) | (refine And.intro (fun hif => ?_) (fun hif => ?_) <;> try (first | contradiction | (exfalso; omega))) | ((first | refine xT fun K hK => ?_ | refine xU fun K hK => ?_ | refine yB (fun K hK => ?_) (fun K hK => ?_) | refine xV ?_ | refine yA ?_ | refine xW ?_ | refine xX ?_ | refine xY ?_ | refine xZ ?_) <;> simp only [↓awpOps, ↓awpKeep, ↓awpKeepF, ↓aop, ↓aopQ, ↓abin, ↓aun, ↓onSome_some, ↓Kont_at, ↓KM_at, ↓KV_at, ↓KU_at, refId_row, Frame.ev, Frame.evs, Frame.evOr, Frame.put, Frame.keep, get_nil, get_cons, argFrame, resOf, fillA, Vals.len, Vals.get, Vals.set, Vals.app, Vals.sub, Vals.take, Vals.ofAgg_cons, Vals.ofList, Vals.toInts, Vals.toBools, Vals.toSls, Vals.toStrs, Vals.zeros, Nat.reduceBEq, Nat.reduceAdd, Nat.reduceEqDiff, cond_true, cond_false, Option.map_some, Option.map_none, List.length_cons, List.length_nil, List.replicate, List.set_cons_zero, List.set_cons_succ, Nat.reduceLT, Bool.not_true, Bool.not_false, Int.toNat_natCast, inR, Nat.zero_add, Int.toNat_zero, reduceCtorEq, IntKind.bits, List.nil_append, List.cons_append, Nat.add_zero, Nat.sub_zero, noughts_len, List.map_cons, List.map_nil, zp, zu]) | refine And.intro ?_ (fun hif => (hif trivial).elim) | (intro hif; try (first | contradiction | (exfalso; omega))))
        have hao5 := (show LObj m.length mo.length mo so _ from ⟨hgo.wf, hao.lists⟩).grow0 g5
        have hle5 := g5.le
        repeat' (first | refine xA ?_ | refine xB ?_ | refine xC ?_ | refine xD ?_ | refine xE ?_ | refine xF ?_ | refine xG ?_ | refine xH ?_ | refine xI rfl ?_ | refine xJ ?_ | refine xK ?_ | refine xL ?_ | refine xM rfl ?_ | refine xN rfl ?_ | refine xO rfl ?_ | (first | refine xP rfl (fun hif => ?_) (fun hif => ?_) | refine xQ rfl (fun hif => ?_) (fun hif => ?_) | refine xR rfl (fun hif => ?_) (fun hif => ?_) | refine xS rfl (fun hif => ?_) (fun hif => ?_)) <;> try (first | contradiction | (exfalso; omega)) | (refine hK _ _ ?_; clear hK K) | refine app_lists2 g5.wf hao5.is o5.is (by omega) g5.le (by omega) fun s6 m6 hp6 g6 hA6 => ?_ | (refine And.intro (by first | omega | assumption | (constructor <;> omega)) ?_) | (refine And.intro (fun hif => ?_) (fun hif => ?_) <;> try (first | contradiction | (exfalso; omega))) | ((first | refine xT fun K hK => ?_ | refine xU fun K hK => ?_ | refine yB (fun K hK => ?_) (fun K hK => ?_) | refine xV ?_ | refine yA ?_ | refine xW ?_ | refine xX ?_ | refine xY ?_ | refine xZ ?_) <;> simp only [↓awpOps, ↓awpKeep, ↓awpKeepF, ↓aop, ↓aopQ, ↓abin, ↓aun, ↓onSome_some, ↓Kont_at, ↓KM_at, ↓KV_at, ↓KU_at, refId_row, Frame.ev, Frame.evs, Frame.evOr, Frame.put, Frame.keep, get_nil, get_cons, argFrame, resOf, fillA, Vals.len, Vals.get, Vals.set, Vals.app, Vals.sub, Vals.take, Vals.ofAgg_cons, Vals.ofList, Vals.toInts, Vals.toBools, Vals.toSls, Vals.toStrs, Vals.zeros, Nat.reduceBEq, Nat.reduceAdd, Nat.reduceEqDiff, cond_true, cond_false, Option.map_some, Option.map_none, List.length_cons, List.length_nil, List.replicate, List.set_cons_zero, List.set_cons_succ, Nat.reduceLT, Bool.not_true, Bool.not_false, Int.toNat_natCast, inR, Nat.zero_add, Int.toNat_zero, reduceCtorEq, IntKind.bits, List.nil_append, List.cons_append, Nat.add_zero, Nat.sub_zero, noughts_len, List.map_cons, List.map_nil, zp, zu]) | refine And.intro ?_ (fun hif => (hif trivial).elim) | (intro hif; try (first | contradiction | (exfalso; omega))))
        refine hK1 (n + 1, s6, m6) _ _ rfl rfl ⟨by simp only; omega, hpo.trans (g5.pre0.trans hp6), ?_, by rw [hsucc]; exact hA6⟩ (by simp only; omega)
        have hle6 := g6.le
        exact (hgo.mono (Nat.le_refl _) (by simp only; omega)).trans ((g5.any _ _).trans (g6.mono (Nat.le_refl _) (by simp only; omega)))
      · rw [if_neg hf] at hsucc hD'
        rw [List.append_nil] at hsucc
        simp only [diffX] at hD'
        clear hf hps hD hWn
        repeat' (first | refine xA ?_ | refine xB ?_ | refine xC ?_ | refine xD ?_ | refine xE ?_ | refine xF ?_ | refine xG ?_ | refine xH ?_ | refine xI rfl ?_ | refine xJ ?_ | refine xK ?_ | refine xL ?_ | refine xM rfl ?_ | refine xN rfl ?_ | refine xO rfl ?_ | (first | refine xP rfl (fun hif => ?_) (fun hif => ?_) | refine xQ rfl (fun hif => ?_) (fun hif => ?_) | refine xR rfl (fun hif => ?_) (fun hif => ?_) | refine xS rfl (fun hif => ?_) (fun hif => ?_)) <;> try (first | contradiction | (exfalso; omega)) | (refine hK _ _ ?_; clear hK K) | refine onCells_of hcs ?_ | refine onSome_of a7 ?_ | refine AQuiet.call hD' (diffX_flat none) ?_ | (refine And.intro (by first | omega | assumption | (constructor <;> omega)) ?_) | (refine And.intro (fun hif => ?_) (fun hif => ?_) <;> try (first | contradiction | (exfalso; omega))) | ((first | refine xT fun K hK => ?_ | refine xU fun K hK => ?_ | refine yB (fun K hK => ?_) (fun K hK => ?_) | refine xV ?_ | refine yA ?_ | refine xW ?_ | refine xX ?_ | refine xY ?_ | refine xZ ?_) <;> simp only [↓awpOps, ↓awpKeep, ↓awpKeepF, ↓aop, ↓aopQ, ↓abin, ↓aun, ↓onSome_some, ↓Kont_at, ↓KM_at, ↓KV_at, ↓KU_at, refId_row, Frame.ev, Frame.evs, Frame.evOr, Frame.put, Frame.keep, get_nil, get_cons, argFrame, resOf, fillA, Vals.len, Vals.get, Vals.set, Vals.app, Vals.sub, Vals.take, Vals.ofAgg_cons, Vals.ofList, Vals.toInts, Vals.toBools, Vals.toSls, Vals.toStrs, Vals.zeros, Nat.reduceBEq, Nat.reduceAdd, Nat.reduceEqDiff, cond_true, cond_false, Option.map_some, Option.map_none, List.length_cons, List.length_nil, List.replicate, List.set_cons_zero, List.set_cons_succ, Nat.reduceLT, Bool.not_true, Bool.not_false, Int.toNat_natCast, inR, Nat.zero_add, Int.toNat_zero, reduceCtorEq, IntKind.bits, List.nil_append, List.cons_append, Nat.add_zero, Nat.sub_zero, noughts_len, List.map_cons, List.map_nil, zp, zu]) | refine And.intro ?_ (fun hif => (hif trivial).elim) | (intro hif; try (first | contradiction | (exfalso; omega))))
        exact hK1 (n + 1, so, mo) _ _ rfl rfl ⟨by simp only; omega, hpo, hgo, by rw [hsucc]; exact hao⟩ (by simp only; omega)
    · obtain rfl : n = qOf net := by omega
      repeat' (first | refine xA ?_ | refine xB ?_ | refine xC ?_ | refine xD ?_ | refine xE ?_ | refine xF ?_ | refine xG ?_ | refine xH ?_ | refine xI rfl ?_ | refine xJ ?_ | refine xK ?_ | refine xL ?_ | refine xM rfl ?_ | refine xN rfl ?_ | refine xO rfl ?_ | (first | refine xP rfl (fun hif => ?_) (fun hif => ?_) | refine xQ rfl (fun hif => ?_) (fun hif => ?_) | refine xR rfl (fun hif => ?_) (fun hif => ?_) | refine xS rfl (fun hif => ?_) (fun hif => ?_)) <;> try (first | contradiction | (exfalso; omega)) | (refine hK _ _ ?_; clear hK K) | refine onSome_of a7 ?_ | (refine And.intro (by first | omega | assumption | (constructor <;> omega)) ?_) | (refine And.intro (fun hif => ?_) (fun hif => ?_) <;> try (first | contradiction | (exfalso; omega))) | ((first | refine xT fun K hK => ?_ | refine xU fun K hK => ?_ | refine yB (fun K hK => ?_) (fun K hK => ?_) | refine xV ?_ | refine yA ?_ | refine xW ?_ | refine xX ?_ | refine xY ?_ | refine xZ ?_) <;> simp only [↓awpOps, ↓awpKeep, ↓awpKeepF, ↓aop, ↓aopQ, ↓abin, ↓aun, ↓onSome_some, ↓Kont_at, ↓KM_at, ↓KV_at, ↓KU_at, refId_row, Frame.ev, Frame.evs, Frame.evOr, Frame.put, Frame.keep, get_nil, get_cons, argFrame, resOf, fillA, Vals.len, Vals.get, Vals.set, Vals.app, Vals.sub, Vals.take, Vals.ofAgg_cons, Vals.ofList, Vals.toInts, Vals.toBools, Vals.toSls, Vals.toStrs, Vals.zeros, Nat.reduceBEq, Nat.reduceAdd, Nat.reduceEqDiff, cond_true, cond_false, Option.map_some, Option.map_none, List.length_cons, List.length_nil, List.replicate, List.set_cons_zero, List.set_cons_succ, Nat.reduceLT, Bool.not_true, Bool.not_false, Int.toNat_natCast, inR, Nat.zero_add, Int.toNat_zero, reduceCtorEq, IntKind.bits, List.nil_append, List.cons_append, Nat.add_zero, Nat.sub_zero, noughts_len, List.map_cons, List.map_nil, zp, zu]) | refine And.intro ?_ (fun hif => (hif trivial).elim) | (intro hif; try (first | contradiction | (exfalso; omega))))
      exact ⟨_, rfl, grow00 ((prefix_push _ _).trans hpo) hgo, hgo.wf, hao.lists⟩

/-- On a ring of no numbers there is no row. -/
theorem impl_roundRowsFrom_z {net : List Int} (hN : NetOk net) (hq : qOf net = 0) (p : Nat) (s : SV) (m : Heap) (hs : IsInts .i64 m s net) : ARetL Try.prog F.impl_roundRowsFrom [.one (.sl s), roundX [] 0 p 0] m [] := by
  have hpos := hN.pos
  obtain ⟨ref, off, len⟩ := s
  obtain rfl : len = net.length := hs.1
  have e6 : (roundL [] 0 p 0).getD 6 0 = 0 := rfl
  have e7 : (roundL [] 0 p 0).getD 7 0 = 0 := rfl
  have hagg : Vals.ofAgg ((roundL [] 0 p 0).map (AV.int .i64)) = .ints .i64 (roundL [] 0 p 0) := Vals.ofAgg_ints _ _ _
  have hLl : (roundL [] 0 p 0).length = 11 := rfl
  have hml : ((roundL [] 0 p 0).map (AV.int .i64)).length = 11 := rfl
  refine arln T.impl_roundRowsFrom (by rfl) fun hwf => ?_
  unfold roundX
  generalize roundL [] 0 p 0 = L at *
  have a6 : Heap.at (m ++ [⟨Ty.impl_begunRound, m.length, true, .ints .i64 L⟩]) m.length 6 = some (.int .i64 (L.getD 6 0)) := at_row (get_last _ _) (by simp only [Vals.len]; omega)
  have a7 : Heap.at (m ++ [⟨Ty.impl_begunRound, m.length, true, .ints .i64 L⟩]) m.length 7 = some (.int .i64 (L.getD 7 0)) := at_row (get_last _ _) (by simp only [Vals.len]; omega)
  rw [e6] at a6
  rw [e7] at a7
  have g0 := Grow.push hwf Ty.impl_begunRound true (.ints .i64 L)
  repeat' (first | refine xA ?_ | refine xB ?_ | refine xC ?_ | refine xD ?_ | refine xE ?_ | refine xF ?_ | refine xG ?_ | refine xH ?_ | refine xI rfl ?_ | refine xJ ?_ | refine xK ?_ | refine xL ?_ | refine xM rfl ?_ | refine xN rfl ?_ | refine xO rfl ?_ | (first | refine xP rfl (fun hif => ?_) (fun hif => ?_) | refine xQ rfl (fun hif => ?_) (fun hif => ?_) | refine xR rfl (fun hif => ?_) (fun hif => ?_) | refine xS rfl (fun hif => ?_) (fun hif => ?_)) <;> try (first | contradiction | (exfalso; omega)) | (refine hK _ _ ?_; clear hK K) | rw [hagg] | refine onSome_of a6 ?_ | (refine And.intro (by first | omega | assumption | (constructor <;> omega)) ?_) | (refine And.intro (fun hif => ?_) (fun hif => ?_) <;> try (first | contradiction | (exfalso; omega))) | ((first | refine xT fun K hK => ?_ | refine xU fun K hK => ?_ | refine yB (fun K hK => ?_) (fun K hK => ?_) | refine xV ?_ | refine yA ?_ | refine xW ?_ | refine xX ?_ | refine xY ?_ | refine xZ ?_) <;> simp only [↓awpOps, ↓awpKeep, ↓awpKeepF, ↓aop, ↓aopQ, ↓abin, ↓aun, ↓onSome_some, ↓Kont_at, ↓KM_at, ↓KV_at, ↓KU_at, refId_row, Frame.ev, Frame.evs, Frame.evOr, Frame.put, Frame.keep, get_nil, get_cons, argFrame, resOf, fillA, Vals.len, Vals.get, Vals.set, Vals.app, Vals.sub, Vals.take, Vals.ofAgg_cons, Vals.ofList, Vals.toInts, Vals.toBools, Vals.toSls, Vals.toStrs, Vals.zeros, Nat.reduceBEq, Nat.reduceAdd, Nat.reduceEqDiff, cond_true, cond_false, Option.map_some, Option.map_none, List.length_cons, List.length_nil, List.replicate, List.set_cons_zero, List.set_cons_succ, Nat.reduceLT, Bool.not_true, Bool.not_false, Int.toNat_natCast, inR, Nat.zero_add, Int.toNat_zero, reduceCtorEq, IntKind.bits, List.nil_append, List.cons_append, Nat.add_zero, Nat.sub_zero, noughts_len, List.map_cons, List.map_nil, zp, zu]) | refine And.intro ?_ (fun hif => (hif trivial).elim) | (intro hif; try (first | contradiction | (exfalso; omega))))
  refine awp_loop ?_
  refine ALoop.by [3, 5, 6] (fun _ : Unit => [(3, .one (.ptr m.length 0)), (5, .one (.sl SV.nil)), (6, .one (.int .i64 0))]) (fun _ => m ++ [⟨Ty.impl_begunRound, m.length, true, .ints .i64 L⟩]) (fun _ => True) (fun _ => 0) () rfl rfl trivial ?_
  rintro _ _ K1 hK1
  repeat' (first | refine xA ?_ | refine xB ?_ | refine xC ?_ | refine xD ?_ | refine xE ?_ | refine xF ?_ | refine xG ?_ | refine xH ?_ | refine xI rfl ?_ | refine xJ ?_ | refine xK ?_ | refine xL ?_ | refine xM rfl ?_ | refine xN rfl ?_ | refine xO rfl ?_ | (first | refine xP rfl (fun hif => ?_) (fun hif => ?_) | refine xQ rfl (fun hif => ?_) (fun hif => ?_) | refine xR rfl (fun hif => ?_) (fun hif => ?_) | refine xS rfl (fun hif => ?_) (fun hif => ?_)) <;> try (first | contradiction | (exfalso; omega)) | (refine hK _ _ ?_; clear hK K) | refine onSome_of a7 ?_ | (refine And.intro (by first | omega | assumption | (constructor <;> omega)) ?_) | (refine And.intro (fun hif => ?_) (fun hif => ?_) <;> try (first | contradiction | (exfalso; omega))) | ((first | refine xT fun K hK => ?_ | refine xU fun K hK => ?_ | refine yB (fun K hK => ?_) (fun K hK => ?_) | refine xV ?_ | refine yA ?_ | refine xW ?_ | refine xX ?_ | refine xY ?_ | refine xZ ?_) <;> simp only [↓awpOps, ↓awpKeep, ↓awpKeepF, ↓aop, ↓aopQ, ↓abin, ↓aun, ↓onSome_some, ↓Kont_at, ↓KM_at, ↓KV_at, ↓KU_at, refId_row, Frame.ev, Frame.evs, Frame.evOr, Frame.put, Frame.keep, get_nil, get_cons, argFrame, resOf, fillA, Vals.len, Vals.get, Vals.set, Vals.app, Vals.sub, Vals.take, Vals.ofAgg_cons, Vals.ofList, Vals.toInts, Vals.toBools, Vals.toSls, Vals.toStrs, Vals.zeros, Nat.reduceBEq, Nat.reduceAdd, Nat.reduceEqDiff, cond_true, cond_false, Option.map_some, Option.map_none, List.length_cons, List.length_nil, List.replicate, List.set_cons_zero, List.set_cons_succ, Nat.reduceLT, Bool.not_true, Bool.not_false, Int.toNat_natCast, inR, Nat.zero_add, Int.toNat_zero, reduceCtorEq, IntKind.bits, List.nil_append, List.cons_append, Nat.add_zero, Nat.sub_zero, noughts_len, List.map_cons, List.map_nil, zp, zu]) | refine And.intro ?_ (fun hif => (hif trivial).elim) | (intro hif; try (first | contradiction | (exfalso; omega))))
  all_goals exact ⟨_, rfl, g0, lobj_nil g0.wf _ _⟩

theorem impl_HarmonyRows (s : SV) (net : List Int) (m : Heap) (hs : IsInts .i64 m s net) : ARetL Try.prog F.impl_HarmonyRows [.one (.sl s)] m (harmRows net) := by
  refine arln T.impl_HarmonyRows (by rfl) fun hwf => ?_
  by_cases hN : NetOk net
  · have hst : ∀ mm, IsInts .i64 mm s net → AQuiet Try.prog F.impl_roundStart [.one (.sl s)] mm (roundX [] (qOf net) (mayN net) 0) := fun mm h => impl_roundStart h hN
    have hcall : ∀ mm, IsInts .i64 mm s net → ARetL Try.prog F.impl_roundRowsFrom [.one (.sl s), roundX [] (qOf net) (mayN net) 0] mm (harmRows net) := fun mm h => by
      by_cases hq : 0 < qOf net
      · rw [harmRows_search hN hq]
        exact impl_roundRowsFrom hN hq net.length [] 0 (mayN net) s mm h (by simp) (wayH_nil net _) (by decide) (by rw [twice_nil, mayN_eq, Int.zero_add])
      · have hz : qOf net = 0 := by omega
        rw [harmRows, if_neg fun h => hq h.2, hz]
        exact impl_roundRowsFrom_z hN hz _ s mm h
    have hfl := roundX_flat [] (qOf net) (mayN net) 0
    unfold roundX at hst hcall hfl
    generalize (roundL [] (qOf net) (mayN net) 0).map (AV.int .i64) = R at hst hcall hfl
    repeat' (first | refine xA ?_ | refine xB ?_ | refine xC ?_ | refine xD ?_ | refine xE ?_ | refine xF ?_ | refine xG ?_ | refine xH ?_ | refine xI rfl ?_ | refine xJ ?_ | refine xK ?_ | refine xL ?_ | refine xM rfl ?_ | refine xN rfl ?_ | refine xO rfl ?_ | (first | refine xP rfl (fun hif => ?_) (fun hif => ?_) | refine xQ rfl (fun hif => ?_) (fun hif => ?_) | refine xR rfl (fun hif => ?_) (fun hif => ?_) | refine xS rfl (fun hif => ?_) (fun hif => ?_)) <;> try (first | contradiction | (exfalso; omega)) | (refine hK _ _ ?_; clear hK K) | refine AQuiet.call (impl_NetOk_t hs hN) trivial ?_ | refine AQuiet.call (hst _ hs) hfl ?_ | refine ARetL.call (hcall _ hs) fun s5 m5 g5 o5 => ?_ | (refine And.intro (by first | omega | assumption | (constructor <;> omega)) ?_) | (refine And.intro (fun hif => ?_) (fun hif => ?_) <;> try (first | contradiction | (exfalso; omega))) | ((first | refine xT fun K hK => ?_ | refine xU fun K hK => ?_ | refine yB (fun K hK => ?_) (fun K hK => ?_) | refine xV ?_ | refine yA ?_ | refine xW ?_ | refine xX ?_ | refine xY ?_ | refine xZ ?_) <;> simp only [↓awpOps, ↓awpKeep, ↓awpKeepF, ↓aop, ↓aopQ, ↓abin, ↓aun, ↓onSome_some, ↓Kont_at, ↓KM_at, ↓KV_at, ↓KU_at, refId_row, Frame.ev, Frame.evs, Frame.evOr, Frame.put, Frame.keep, get_nil, get_cons, argFrame, resOf, fillA, Vals.len, Vals.get, Vals.set, Vals.app, Vals.sub, Vals.take, Vals.ofAgg_cons, Vals.ofList, Vals.toInts, Vals.toBools, Vals.toSls, Vals.toStrs, Vals.zeros, Nat.reduceBEq, Nat.reduceAdd, Nat.reduceEqDiff, cond_true, cond_false, Option.map_some, Option.map_none, List.length_cons, List.length_nil, List.replicate, List.set_cons_zero, List.set_cons_succ, Nat.reduceLT, Bool.not_true, Bool.not_false, Int.toNat_natCast, inR, Nat.zero_add, Int.toNat_zero, reduceCtorEq, IntKind.bits, List.nil_append, List.cons_append, Nat.add_zero, Nat.sub_zero, noughts_len, List.map_cons, List.map_nil, zp, zu]) | refine And.intro ?_ (fun hif => (hif trivial).elim) | (intro hif; try (first | contradiction | (exfalso; omega))))
    exact ⟨_, rfl, g5, o5⟩
  · have e : harmRows net = [] := by rw [harmRows, if_neg fun h => hN h.1]
    rw [e]
    repeat' (first | refine xA ?_ | refine xB ?_ | refine xC ?_ | refine xD ?_ | refine xE ?_ | refine xF ?_ | refine xG ?_ | refine xH ?_ | refine xI rfl ?_ | refine xJ ?_ | refine xK ?_ | refine xL ?_ | refine xM rfl ?_ | refine xN rfl ?_ | refine xO rfl ?_ | (first | refine xP rfl (fun hif => ?_) (fun hif => ?_) | refine xQ rfl (fun hif => ?_) (fun hif => ?_) | refine xR rfl (fun hif => ?_) (fun hif => ?_) | refine xS rfl (fun hif => ?_) (fun hif => ?_)) <;> try (first | contradiction | (exfalso; omega)) | (refine hK _ _ ?_; clear hK K) | refine AQuiet.call (impl_NetOk_f hs hN) trivial ?_ | (refine And.intro (by first | omega | assumption | (constructor <;> omega)) ?_) | (refine And.intro (fun hif => ?_) (fun hif => ?_) <;> try (first | contradiction | (exfalso; omega))) | ((first | refine xT fun K hK => ?_ | refine xU fun K hK => ?_ | refine yB (fun K hK => ?_) (fun K hK => ?_) | refine xV ?_ | refine yA ?_ | refine xW ?_ | refine xX ?_ | refine xY ?_ | refine xZ ?_) <;> simp only [↓awpOps, ↓awpKeep, ↓awpKeepF, ↓aop, ↓aopQ, ↓abin, ↓aun, ↓onSome_some, ↓Kont_at, ↓KM_at, ↓KV_at, ↓KU_at, refId_row, Frame.ev, Frame.evs, Frame.evOr, Frame.put, Frame.keep, get_nil, get_cons, argFrame, resOf, fillA, Vals.len, Vals.get, Vals.set, Vals.app, Vals.sub, Vals.take, Vals.ofAgg_cons, Vals.ofList, Vals.toInts, Vals.toBools, Vals.toSls, Vals.toStrs, Vals.zeros, Nat.reduceBEq, Nat.reduceAdd, Nat.reduceEqDiff, cond_true, cond_false, Option.map_some, Option.map_none, List.length_cons, List.length_nil, List.replicate, List.set_cons_zero, List.set_cons_succ, Nat.reduceLT, Bool.not_true, Bool.not_false, Int.toNat_natCast, inR, Nat.zero_add, Int.toNat_zero, reduceCtorEq, IntKind.bits, List.nil_append, List.cons_append, Nat.add_zero, Nat.sub_zero, noughts_len, List.map_cons, List.map_nil, zp, zu]) | refine And.intro ?_ (fun hif => (hif trivial).elim) | (intro hif; try (first | contradiction | (exfalso; omega))))
    exact ⟨_, rfl, Grow.refl hwf _ _, lobj_nil hwf _ _⟩

theorem impl_HarmonyMany (s : SV) (net : List Int) (m : Heap) (hs : IsInts .i64 m s net) : AQuiet Try.prog F.impl_HarmonyMany [.one (.sl s)] m (.one (.int .i64 (harmMany net))) := by
  refine aqn T.impl_HarmonyMany (by rfl) ?_
  by_cases hN : NetOk net
  · rw [harmMany, if_pos hN]
    have hr := impl_HarmonyRows s net m hs
    generalize harmRows net = R at *
    repeat' (first | refine xA ?_ | refine xB ?_ | refine xC ?_ | refine xD ?_ | refine xE ?_ | refine xF ?_ | refine xG ?_ | refine xH ?_ | refine xI rfl ?_ | refine xJ ?_ | refine xK ?_ | refine xL ?_ | refine xM rfl ?_ | refine xN rfl ?_ | refine xO rfl ?_ | (first | refine xP rfl (fun hif => ?_) (fun hif => ?_) | refine xQ rfl (fun hif => ?_) (fun hif => ?_) | refine xR rfl (fun hif => ?_) (fun hif => ?_) | refine xS rfl (fun hif => ?_) (fun hif => ?_)) <;> try (first | contradiction | (exfalso; omega)) | (refine hK _ _ ?_; clear hK K) | refine AQuiet.call (impl_NetOk_t hs hN) trivial ?_ | (refine ARetL.call hr fun s1 m1 g1 o1 => ?_; obtain ⟨sref, soff, slen⟩ := s1; obtain rfl : slen = R.length := o1.len) | (refine And.intro (by first | omega | assumption | (constructor <;> omega)) ?_) | (refine And.intro (fun hif => ?_) (fun hif => ?_) <;> try (first | contradiction | (exfalso; omega))) | ((first | refine xT fun K hK => ?_ | refine xU fun K hK => ?_ | refine yB (fun K hK => ?_) (fun K hK => ?_) | refine xV ?_ | refine yA ?_ | refine xW ?_ | refine xX ?_ | refine xY ?_ | refine xZ ?_) <;> simp only [↓awpOps, ↓awpKeep, ↓awpKeepF, ↓aop, ↓aopQ, ↓abin, ↓aun, ↓onSome_some, ↓Kont_at, ↓KM_at, ↓KV_at, ↓KU_at, refId_row, Frame.ev, Frame.evs, Frame.evOr, Frame.put, Frame.keep, get_nil, get_cons, argFrame, resOf, fillA, Vals.len, Vals.get, Vals.set, Vals.app, Vals.sub, Vals.take, Vals.ofAgg_cons, Vals.ofList, Vals.toInts, Vals.toBools, Vals.toSls, Vals.toStrs, Vals.zeros, Nat.reduceBEq, Nat.reduceAdd, Nat.reduceEqDiff, cond_true, cond_false, Option.map_some, Option.map_none, List.length_cons, List.length_nil, List.replicate, List.set_cons_zero, List.set_cons_succ, Nat.reduceLT, Bool.not_true, Bool.not_false, Int.toNat_natCast, inR, Nat.zero_add, Int.toNat_zero, reduceCtorEq, IntKind.bits, List.nil_append, List.cons_append, Nat.add_zero, Nat.sub_zero, noughts_len, List.map_cons, List.map_nil, zp, zu]) | refine And.intro ?_ (fun hif => (hif trivial).elim) | (intro hif; try (first | contradiction | (exfalso; omega))))
    all_goals first | exact ⟨rfl, g1.pre0⟩ | exact g1.pre0
  · rw [harmMany, if_neg hN]
    repeat' (first | refine xA ?_ | refine xB ?_ | refine xC ?_ | refine xD ?_ | refine xE ?_ | refine xF ?_ | refine xG ?_ | refine xH ?_ | refine xI rfl ?_ | refine xJ ?_ | refine xK ?_ | refine xL ?_ | refine xM rfl ?_ | refine xN rfl ?_ | refine xO rfl ?_ | (first | refine xP rfl (fun hif => ?_) (fun hif => ?_) | refine xQ rfl (fun hif => ?_) (fun hif => ?_) | refine xR rfl (fun hif => ?_) (fun hif => ?_) | refine xS rfl (fun hif => ?_) (fun hif => ?_)) <;> try (first | contradiction | (exfalso; omega)) | (refine hK _ _ ?_; clear hK K) | refine AQuiet.call (impl_NetOk_f hs hN) trivial ?_ | (refine And.intro (by first | omega | assumption | (constructor <;> omega)) ?_) | (refine And.intro (fun hif => ?_) (fun hif => ?_) <;> try (first | contradiction | (exfalso; omega))) | ((first | refine xT fun K hK => ?_ | refine xU fun K hK => ?_ | refine yB (fun K hK => ?_) (fun K hK => ?_) | refine xV ?_ | refine yA ?_ | refine xW ?_ | refine xX ?_ | refine xY ?_ | refine xZ ?_) <;> simp only [↓awpOps, ↓awpKeep, ↓awpKeepF, ↓aop, ↓aopQ, ↓abin, ↓aun, ↓onSome_some, ↓Kont_at, ↓KM_at, ↓KV_at, ↓KU_at, refId_row, Frame.ev, Frame.evs, Frame.evOr, Frame.put, Frame.keep, get_nil, get_cons, argFrame, resOf, fillA, Vals.len, Vals.get, Vals.set, Vals.app, Vals.sub, Vals.take, Vals.ofAgg_cons, Vals.ofList, Vals.toInts, Vals.toBools, Vals.toSls, Vals.toStrs, Vals.zeros, Nat.reduceBEq, Nat.reduceAdd, Nat.reduceEqDiff, cond_true, cond_false, Option.map_some, Option.map_none, List.length_cons, List.length_nil, List.replicate, List.set_cons_zero, List.set_cons_succ, Nat.reduceLT, Bool.not_true, Bool.not_false, Int.toNat_natCast, inR, Nat.zero_add, Int.toNat_zero, reduceCtorEq, IntKind.bits, List.nil_append, List.cons_append, Nat.add_zero, Nat.sub_zero, noughts_len, List.map_cons, List.map_nil, zp, zu]) | refine And.intro ?_ (fun hif => (hif trivial).elim) | (intro hif; try (first | contradiction | (exfalso; omega))))
    (first | exact List.prefix_rfl | exact ⟨rfl, List.prefix_rfl⟩ | exact ⟨by simp, List.prefix_rfl⟩)

set_option maxHeartbeats 8000000 in
theorem impl_HarmonyOk (s t : SV) (net row : List Int) (m : Heap) (hs : IsInts .i64 m s net) (ht : IsInts .i64 m t row) : AQuiet Try.prog F.impl_HarmonyOk [.one (.sl s), .one (.sl t)] m (.one (.bool (decide (Harm net row)))) := by
  have hI := impl_RowOk s t net row m hs ht
  refine ACalls_wf_q fun hwf => ?_
  by_cases hR : RowOk net row
  · rw [decide_eq_true hR] at hI
    have hN := hR.ok
    have hlen := hR.len
    have hrow30 := hR.low
    have h6 := hN.six
    have hpos := hN.pos
    have h15 := qOf_le hN
    obtain ⟨ref, off, len⟩ := s
    obtain rfl : len = net.length := hs.1
    obtain ⟨ref', off', len'⟩ := t
    obtain rfl : len' = row.length := ht.1
    have hst := impl_roundStart hs hN
    have hg0 := Grow.push hwf Ty.impl_begunRound true (.ints .i64 [0, 0, 0, 0, 0, 0, 0, 0, 0, 0, 0])
    have hz : Vals.ofAgg ((roundL [] (qOf net) (mayN net) 0).map (AV.int .i64)) = .ints .i64 (roundL [] (qOf net) (mayN net) 0) := Vals.ofAgg_ints _ _ _
    have hzl : ((roundL [] (qOf net) (mayN net) 0).map (AV.int .i64)).length = 11 := rfl
    have hfl := roundX_flat [] (qOf net) (mayN net) 0
    unfold roundX at hst hfl
    refine aqn T.impl_HarmonyOk (by rfl) ?_
    repeat' (first | refine xA ?_ | refine xB ?_ | refine xC ?_ | refine xD ?_ | refine xE ?_ | refine xF ?_ | refine xG ?_ | refine xH ?_ | refine xI rfl ?_ | refine xJ ?_ | refine xK ?_ | refine xL ?_ | refine xM rfl ?_ | refine xN rfl ?_ | refine xO rfl ?_ | (first | refine xP rfl (fun hif => ?_) (fun hif => ?_) | refine xQ rfl (fun hif => ?_) (fun hif => ?_) | refine xR rfl (fun hif => ?_) (fun hif => ?_) | refine xS rfl (fun hif => ?_) (fun hif => ?_)) <;> try (first | contradiction | (exfalso; omega)) | (refine hK _ _ ?_; clear hK K) | refine AQuiet.call hI trivial ?_ | refine AQuiet.call hst hfl ?_ | refine st_agg hg0.wf (get_last _ _) hzl.symm rfl hz fun m1 g1 l1 r1 => ?_ | (refine And.intro (by first | omega | assumption | (constructor <;> omega)) ?_) | (refine And.intro (fun hif => ?_) (fun hif => ?_) <;> try (first | contradiction | (exfalso; omega))) | ((first | refine xT fun K hK => ?_ | refine xU fun K hK => ?_ | refine yB (fun K hK => ?_) (fun K hK => ?_) | refine xV ?_ | refine yA ?_ | refine xW ?_ | refine xX ?_ | refine xY ?_ | refine xZ ?_) <;> simp only [↓awpOps, ↓awpKeep, ↓awpKeepF, ↓aop, ↓aopQ, ↓abin, ↓aun, ↓onSome_some, ↓Kont_at, ↓KM_at, ↓KV_at, ↓KU_at, refId_row, Frame.ev, Frame.evs, Frame.evOr, Frame.put, Frame.keep, get_nil, get_cons, argFrame, resOf, fillA, Vals.len, Vals.get, Vals.set, Vals.app, Vals.sub, Vals.take, Vals.ofAgg_cons, Vals.ofList, Vals.toInts, Vals.toBools, Vals.toSls, Vals.toStrs, Vals.zeros, Nat.reduceBEq, Nat.reduceAdd, Nat.reduceEqDiff, cond_true, cond_false, Option.map_some, Option.map_none, List.length_cons, List.length_nil, List.replicate, List.set_cons_zero, List.set_cons_succ, Nat.reduceLT, Bool.not_true, Bool.not_false, Int.toNat_natCast, inR, Nat.zero_add, Int.toNat_zero, reduceCtorEq, IntKind.bits, List.nil_append, List.cons_append, Nat.add_zero, Nat.sub_zero, noughts_len, List.map_cons, List.map_nil, zp, zu]) | refine And.intro ?_ (fun hif => (hif trivial).elim) | (intro hif; try (first | contradiction | (exfalso; omega))))
    have hp1 := g1.pre (prefix_push _ _) hwf (Nat.le_refl _)
    refine awp_loop ?_
    refine ALoop.by [0, 1, 5, 6] (fun a : Nat × Nat × Nat × Heap => [(0, .one (.sl ⟨ref, off, net.length⟩)), (1, .one (.sl ⟨ref', off', row.length⟩)), (5, .one (.ptr m.length 0)), (6, .one (.int .i64 a.1))]) (fun a => a.2.2.2)
      (fun a => a.1 ≤ row.length ∧ (WayH net (qOf net) (row.take a.1) a.2.1 ∧ a.2.1 < 32768 ∧ twice (row.take a.1) + (a.2.2.1 : Int) = mayT net) ∧ m <+: a.2.2.2 ∧ a.2.2.2.wf ∧ a.2.2.2[m.length]? = some ⟨Ty.impl_begunRound, m.length, true, .ints .i64 (roundL (row.take a.1) (qOf net) a.2.2.1 a.2.1)⟩) (fun a => row.length - a.1) (0, 0, mayN net, m1) rfl rfl ⟨Nat.zero_le _, ⟨wayH_nil net _, by simp only; omega, by simp only [List.take_zero]; rw [twice_nil, mayN_eq, Int.zero_add]⟩, hp1, g1.wf, r1⟩ ?_
    rintro ⟨k, came, p, mo⟩ ⟨hk, ⟨hW, hc, hp⟩, hpo, hwo, hro⟩ K1 hK1
    simp only at hk hW hc hp hpo hwo hro
    have hso := hs.pre hpo
    have hto := ht.pre hpo
    by_cases hlt : k < row.length
    · have hat := hto.2 k hlt
      have hv := hrow30 k hlt
      have hrl : (row.take k).length = k := by rw [List.length_take]; omega
      have hsplit : row = row.take k ++ (row.getD k 0) :: row.drop (k + 1) := by
        rw [List.getD_eq_getElem?_getD, List.getElem?_eq_getElem hlt]
        simp
      have hnx : row.take (k + 1) = row.take k ++ [(row.getD k 0)] := by
        rw [List.take_add_one, List.getD_eq_getElem?_getD, List.getElem?_eq_getElem hlt]
        rfl
      have hsp2 : row = row.take (k + 1) ++ row.drop (k + 1) := by simp
      have a7 := at_row hro (off := 7) (by simp only [Vals.len]; show 7 < 11; omega)
      simp only [Vals.get] at a7
      rw [show (roundL (row.take k) (qOf net) p came).getD 7 0 = (qOf net : Int) from rfl] at a7
      have hcs := cells_ints hro (n := 11) rfl
      by_cases hhi : (row.getD k 0) < (qOf net : Int)
      · obtain ⟨n, hn⟩ := Int.eq_ofNat_of_zero_le hv.1
        have hq : 0 < qOf net := by omega
        have hnq : n < qOf net := by omega
        rw [hn] at hat hnx hsplit hhi
        have hrow : ∀ i, i < (row.take k).length → 0 ≤ (row.take k).getD i 0 ∧ (row.take k).getD i 0 ≤ 15 := fun i hi => by have := hW.low i hi; omega
        have hrow3 : ∀ i, i < (row.take k).length → 0 ≤ (row.take k).getD i 0 ∧ (row.take k).getD i 0 ≤ 30 := fun i hi => by have := hW.low i hi; omega
        have hp1 : p ≤ 1 := by have := twice_nonneg (row.take k); have := mayT_range net; omega
        have hps := pairs_step (n := n) (fun i hi => (hrow i hi).1) hp
        have hD : AQuiet Try.prog F.impl_remaindersWith [.one (.sl ⟨ref, off, net.length⟩), .agg ((roundL (row.take k) (qOf net) p came).map (AV.int .i64)), .one (.int .i64 (n : Int))] mo (diffX (remF net (qOf net) (row.take k) n came (decide (twice (row.take k ++ [(n : Int)]) ≤ mayT net)))) := by rw [hps.1]; exact impl_remaindersWith hso hN (by omega) hq h15 hnq hrow hc
        unfold remF at hD
        by_cases hf : (runH net (qOf net) (row.take k) (n : Int) came (decide (twice (row.take k ++ [(n : Int)]) ≤ mayT net)) (row.take k).length).2 = true
        · have hok : ¬ ((nums (row.take k)).testBit n = true ∧ p = 0) := by
            have := ((runH_ok net (qOf net) (row.take k) (n : Int) came _ (row.take k).length).1 hf).1
            rw [hps.1] at this
            exact of_decide_eq_true this
          have hlt2 := runH_lt net hq h15 (row.take k) (n : Int) hc (decide (twice (row.take k ++ [(n : Int)]) ≤ mayT net)) (row.take k).length
          have hpush := hW.push (n := (n : Int)) (by omega) hf
          rw [if_pos hf] at hD
          have hnext := hps.2 hok
          have hw : ∀ c : Nat, AQuiet Try.prog F.impl_withRemainders [.agg ((roundL (row.take k) (qOf net) p came).map (AV.int .i64)), .one (.int .i64 (n : Int)), .one (.int .i64 (c : Int))] mo (roundX (row.take k ++ [(n : Int)]) (qOf net) (leftP (row.take k) p n) c) := fun c => impl_withRemainders mo (by omega) (by omega) hp1 hrow3 hok
          generalize (runH net (qOf net) (row.take k) (n : Int) came (decide (twice (row.take k ++ [(n : Int)]) ≤ mayT net)) (row.take k).length).1 = c at *
          have hw := hw c
          generalize leftP (row.take k) p n = p' at *
          simp only [diffX] at hD
          rw [← hnx] at hw hpush hnext
          unfold roundX at hw
          have hagg2 : Vals.ofAgg ((roundL (row.take (k + 1)) (qOf net) p' c).map (AV.int .i64)) = .ints .i64 (roundL (row.take (k + 1)) (qOf net) p' c) := Vals.ofAgg_ints _ _ _
          have hm2 : ((roundL (row.take (k + 1)) (qOf net) p' c).map (AV.int .i64)).length = 11 := rfl
          have hL9 : (roundL (row.take k) (qOf net) p came).length = 11 := rfl
          have hnx2 : ∀ m2 : Heap, m <+: m2 → m2.wf → m2[m.length]? = some ⟨Ty.impl_begunRound, m.length, true, .ints .i64 (roundL (row.take (k + 1)) (qOf net) p' c)⟩ → (fun a : Nat × Nat × Nat × Heap => a.1 ≤ row.length ∧ (WayH net (qOf net) (row.take a.1) a.2.1 ∧ a.2.1 < 32768 ∧ twice (row.take a.1) + (a.2.2.1 : Int) = mayT net) ∧ m <+: a.2.2.2 ∧ a.2.2.2.wf ∧ a.2.2.2[m.length]? = some ⟨Ty.impl_begunRound, m.length, true, .ints .i64 (roundL (row.take a.1) (qOf net) a.2.2.1 a.2.1)⟩) (k + 1, c, p', m2) := fun m2 q1 q2 q4 => ⟨hlt, ⟨hpush, hlt2, hnext⟩, q1, q2, q4⟩
          clear hf hok hps hpush hnext
          generalize roundL (row.take k) (qOf net) p came = L at *
          generalize roundL (row.take (k + 1)) (qOf net) p' c = L' at *
          repeat' (first | refine xA ?_ | refine xB ?_ | refine xC ?_ | refine xD ?_ | refine xE ?_ | refine xF ?_ | refine xG ?_ | refine xH ?_ | refine xI rfl ?_ | refine xJ ?_ | refine xK ?_ | refine xL ?_ | refine xM rfl ?_ | refine xN rfl ?_ | refine xO rfl ?_ | (first | refine xP rfl (fun hif => ?_) (fun hif => ?_) | refine xQ rfl (fun hif => ?_) (fun hif => ?_) | refine xR rfl (fun hif => ?_) (fun hif => ?_) | refine xS rfl (fun hif => ?_) (fun hif => ?_)) <;> try (first | contradiction | (exfalso; omega)) | (refine hK _ _ ?_; clear hK K) | refine onCells_of hcs ?_ | refine onSome_of hat ?_ | refine onSome_of a7 ?_ | refine AQuiet.callq hD (diffX_flat (some c)) ?_ | refine AQuiet.call hw (flats_ints _ _) ?_ | refine st_agg hwo hro hm2.symm hL9 hagg2 fun m2 g2 l2 r2 => ?_ | (refine And.intro (by first | omega | assumption | (constructor <;> omega)) ?_) | (refine And.intro (fun hif => ?_) (fun hif => ?_) <;> try (first | contradiction | (exfalso; omega))) | ((first | refine xT fun K hK => ?_ | refine xU fun K hK => ?_ | refine yB (fun K hK => ?_) (fun K hK => ?_) | refine xV ?_ | refine yA ?_ | refine xW ?_ | refine xX ?_ | refine xY ?_ | refine xZ ?_) <;> simp only [↓awpOps, ↓awpKeep, ↓awpKeepF, ↓aop, ↓aopQ, ↓abin, ↓aun, ↓onSome_some, ↓Kont_at, ↓KM_at, ↓KV_at, ↓KU_at, refId_row, Frame.ev, Frame.evs, Frame.evOr, Frame.put, Frame.keep, get_nil, get_cons, argFrame, resOf, fillA, Vals.len, Vals.get, Vals.set, Vals.app, Vals.sub, Vals.take, Vals.ofAgg_cons, Vals.ofList, Vals.toInts, Vals.toBools, Vals.toSls, Vals.toStrs, Vals.zeros, Nat.reduceBEq, Nat.reduceAdd, Nat.reduceEqDiff, cond_true, cond_false, Option.map_some, Option.map_none, List.length_cons, List.length_nil, List.replicate, List.set_cons_zero, List.set_cons_succ, Nat.reduceLT, Bool.not_true, Bool.not_false, Int.toNat_natCast, inR, Nat.zero_add, Int.toNat_zero, reduceCtorEq, IntKind.bits, List.nil_append, List.cons_append, Nat.add_zero, Nat.sub_zero, noughts_len, List.map_cons, List.map_nil, zp, zu]) | refine And.intro ?_ (fun hif => (hif trivial).elim) | (intro hif; try (first | contradiction | (exfalso; omega))))
          all_goals exact hK1 (k + 1, c, p', m2) _ _ rfl rfl (hnx2 m2 (g2.pre hpo hwf (Nat.le_refl _)) g2.wf r2) (by simp only; omega)
        · have hno : decide (Harm net row) = false := decide_eq_false fun h => by
            have hG := (harm_dd hN hq hlen h.low.low).1 h
            have ht := twice_app (row.take (k + 1)) (row.drop (k + 1))
            rw [← hsp2, hG.1, hnx] at ht
            have hd := hG.2
            rw [hsplit] at hd
            exact hW.none (decide_eq_true ht) hf hd
          rw [hno]
          rw [if_neg hf] at hD
          simp only [diffX] at hD
          clear hf hps hno
          generalize roundL (row.take k) (qOf net) p came = L at *
          repeat' (first | refine xA ?_ | refine xB ?_ | refine xC ?_ | refine xD ?_ | refine xE ?_ | refine xF ?_ | refine xG ?_ | refine xH ?_ | refine xI rfl ?_ | refine xJ ?_ | refine xK ?_ | refine xL ?_ | refine xM rfl ?_ | refine xN rfl ?_ | refine xO rfl ?_ | (first | refine xP rfl (fun hif => ?_) (fun hif => ?_) | refine xQ rfl (fun hif => ?_) (fun hif => ?_) | refine xR rfl (fun hif => ?_) (fun hif => ?_) | refine xS rfl (fun hif => ?_) (fun hif => ?_)) <;> try (first | contradiction | (exfalso; omega)) | (refine hK _ _ ?_; clear hK K) | refine onCells_of hcs ?_ | refine onSome_of hat ?_ | refine onSome_of a7 ?_ | refine AQuiet.callq hD (diffX_flat none) ?_ | (refine And.intro (by first | omega | assumption | (constructor <;> omega)) ?_) | (refine And.intro (fun hif => ?_) (fun hif => ?_) <;> try (first | contradiction | (exfalso; omega))) | ((first | refine xT fun K hK => ?_ | refine xU fun K hK => ?_ | refine yB (fun K hK => ?_) (fun K hK => ?_) | refine xV ?_ | refine yA ?_ | refine xW ?_ | refine xX ?_ | refine xY ?_ | refine xZ ?_) <;> simp only [↓awpOps, ↓awpKeep, ↓awpKeepF, ↓aop, ↓aopQ, ↓abin, ↓aun, ↓onSome_some, ↓Kont_at, ↓KM_at, ↓KV_at, ↓KU_at, refId_row, Frame.ev, Frame.evs, Frame.evOr, Frame.put, Frame.keep, get_nil, get_cons, argFrame, resOf, fillA, Vals.len, Vals.get, Vals.set, Vals.app, Vals.sub, Vals.take, Vals.ofAgg_cons, Vals.ofList, Vals.toInts, Vals.toBools, Vals.toSls, Vals.toStrs, Vals.zeros, Nat.reduceBEq, Nat.reduceAdd, Nat.reduceEqDiff, cond_true, cond_false, Option.map_some, Option.map_none, List.length_cons, List.length_nil, List.replicate, List.set_cons_zero, List.set_cons_succ, Nat.reduceLT, Bool.not_true, Bool.not_false, Int.toNat_natCast, inR, Nat.zero_add, Int.toNat_zero, reduceCtorEq, IntKind.bits, List.nil_append, List.cons_append, Nat.add_zero, Nat.sub_zero, noughts_len, List.map_cons, List.map_nil, zp, zu]) | refine And.intro ?_ (fun hif => (hif trivial).elim) | (intro hif; try (first | contradiction | (exfalso; omega))))
          all_goals first | exact hpo | exact ⟨rfl, hpo⟩
      · have hno : decide (Harm net row) = false := decide_eq_false fun h => by have := (h.low.low k hlt).2; omega
        rw [hno]
        repeat' (first | refine xA ?_ | refine xB ?_ | refine xC ?_ | refine xD ?_ | refine xE ?_ | refine xF ?_ | refine xG ?_ | refine xH ?_ | refine xI rfl ?_ | refine xJ ?_ | refine xK ?_ | refine xL ?_ | refine xM rfl ?_ | refine xN rfl ?_ | refine xO rfl ?_ | (first | refine xP rfl (fun hif => ?_) (fun hif => ?_) | refine xQ rfl (fun hif => ?_) (fun hif => ?_) | refine xR rfl (fun hif => ?_) (fun hif => ?_) | refine xS rfl (fun hif => ?_) (fun hif => ?_)) <;> try (first | contradiction | (exfalso; omega)) | (refine hK _ _ ?_; clear hK K) | refine onSome_of hat ?_ | refine onSome_of a7 ?_ | (refine And.intro (by first | omega | assumption | (constructor <;> omega)) ?_) | (refine And.intro (fun hif => ?_) (fun hif => ?_) <;> try (first | contradiction | (exfalso; omega))) | ((first | refine xT fun K hK => ?_ | refine xU fun K hK => ?_ | refine yB (fun K hK => ?_) (fun K hK => ?_) | refine xV ?_ | refine yA ?_ | refine xW ?_ | refine xX ?_ | refine xY ?_ | refine xZ ?_) <;> simp only [↓awpOps, ↓awpKeep, ↓awpKeepF, ↓aop, ↓aopQ, ↓abin, ↓aun, ↓onSome_some, ↓Kont_at, ↓KM_at, ↓KV_at, ↓KU_at, refId_row, Frame.ev, Frame.evs, Frame.evOr, Frame.put, Frame.keep, get_nil, get_cons, argFrame, resOf, fillA, Vals.len, Vals.get, Vals.set, Vals.app, Vals.sub, Vals.take, Vals.ofAgg_cons, Vals.ofList, Vals.toInts, Vals.toBools, Vals.toSls, Vals.toStrs, Vals.zeros, Nat.reduceBEq, Nat.reduceAdd, Nat.reduceEqDiff, cond_true, cond_false, Option.map_some, Option.map_none, List.length_cons, List.length_nil, List.replicate, List.set_cons_zero, List.set_cons_succ, Nat.reduceLT, Bool.not_true, Bool.not_false, Int.toNat_natCast, inR, Nat.zero_add, Int.toNat_zero, reduceCtorEq, IntKind.bits, List.nil_append, List.cons_append, Nat.add_zero, Nat.sub_zero, noughts_len, List.map_cons, List.map_nil, zp, zu]) | refine And.intro ?_ (fun hif => (hif trivial).elim) | (intro hif; try (first | contradiction | (exfalso; omega))))
        all_goals first | exact hpo | exact ⟨rfl, hpo⟩
    · obtain rfl : k = row.length := by omega
      rw [List.take_length] at hW hp
      have hq : 0 < qOf net := by have := hW.low 0 (by omega); omega
      rw [decide_eq_true (harm_full hN hq hlen hW hp)]
      repeat' (first | refine xA ?_ | refine xB ?_ | refine xC ?_ | refine xD ?_ | refine xE ?_ | refine xF ?_ | refine xG ?_ | refine xH ?_ | refine xI rfl ?_ | refine xJ ?_ | refine xK ?_ | refine xL ?_ | refine xM rfl ?_ | refine xN rfl ?_ | refine xO rfl ?_ | (first | refine xP rfl (fun hif => ?_) (fun hif => ?_) | refine xQ rfl (fun hif => ?_) (fun hif => ?_) | refine xR rfl (fun hif => ?_) (fun hif => ?_) | refine xS rfl (fun hif => ?_) (fun hif => ?_)) <;> try (first | contradiction | (exfalso; omega)) | (refine hK _ _ ?_; clear hK K) | (refine And.intro (by first | omega | assumption | (constructor <;> omega)) ?_) | (refine And.intro (fun hif => ?_) (fun hif => ?_) <;> try (first | contradiction | (exfalso; omega))) | ((first | refine xT fun K hK => ?_ | refine xU fun K hK => ?_ | refine yB (fun K hK => ?_) (fun K hK => ?_) | refine xV ?_ | refine yA ?_ | refine xW ?_ | refine xX ?_ | refine xY ?_ | refine xZ ?_) <;> simp only [↓awpOps, ↓awpKeep, ↓awpKeepF, ↓aop, ↓aopQ, ↓abin, ↓aun, ↓onSome_some, ↓Kont_at, ↓KM_at, ↓KV_at, ↓KU_at, refId_row, Frame.ev, Frame.evs, Frame.evOr, Frame.put, Frame.keep, get_nil, get_cons, argFrame, resOf, fillA, Vals.len, Vals.get, Vals.set, Vals.app, Vals.sub, Vals.take, Vals.ofAgg_cons, Vals.ofList, Vals.toInts, Vals.toBools, Vals.toSls, Vals.toStrs, Vals.zeros, Nat.reduceBEq, Nat.reduceAdd, Nat.reduceEqDiff, cond_true, cond_false, Option.map_some, Option.map_none, List.length_cons, List.length_nil, List.replicate, List.set_cons_zero, List.set_cons_succ, Nat.reduceLT, Bool.not_true, Bool.not_false, Int.toNat_natCast, inR, Nat.zero_add, Int.toNat_zero, reduceCtorEq, IntKind.bits, List.nil_append, List.cons_append, Nat.add_zero, Nat.sub_zero, noughts_len, List.map_cons, List.map_nil, zp, zu]) | refine And.intro ?_ (fun hif => (hif trivial).elim) | (intro hif; try (first | contradiction | (exfalso; omega))))
      all_goals first | exact hpo | exact ⟨rfl, hpo⟩
  · rw [decide_eq_false fun h : Harm net row => hR h.rowOk]
    rw [decide_eq_false hR] at hI
    refine aqn T.impl_HarmonyOk (by rfl) ?_
    repeat' (first | refine xA ?_ | refine xB ?_ | refine xC ?_ | refine xD ?_ | refine xE ?_ | refine xF ?_ | refine xG ?_ | refine xH ?_ | refine xI rfl ?_ | refine xJ ?_ | refine xK ?_ | refine xL ?_ | refine xM rfl ?_ | refine xN rfl ?_ | refine xO rfl ?_ | (first | refine xP rfl (fun hif => ?_) (fun hif => ?_) | refine xQ rfl (fun hif => ?_) (fun hif => ?_) | refine xR rfl (fun hif => ?_) (fun hif => ?_) | refine xS rfl (fun hif => ?_) (fun hif => ?_)) <;> try (first | contradiction | (exfalso; omega)) | (refine hK _ _ ?_; clear hK K) | refine AQuiet.call hI trivial ?_ | (refine And.intro (by first | omega | assumption | (constructor <;> omega)) ?_) | (refine And.intro (fun hif => ?_) (fun hif => ?_) <;> try (first | contradiction | (exfalso; omega))) | ((first | refine xT fun K hK => ?_ | refine xU fun K hK => ?_ | refine yB (fun K hK => ?_) (fun K hK => ?_) | refine xV ?_ | refine yA ?_ | refine xW ?_ | refine xX ?_ | refine xY ?_ | refine xZ ?_) <;> simp only [↓awpOps, ↓awpKeep, ↓awpKeepF, ↓aop, ↓aopQ, ↓abin, ↓aun, ↓onSome_some, ↓Kont_at, ↓KM_at, ↓KV_at, ↓KU_at, refId_row, Frame.ev, Frame.evs, Frame.evOr, Frame.put, Frame.keep, get_nil, get_cons, argFrame, resOf, fillA, Vals.len, Vals.get, Vals.set, Vals.app, Vals.sub, Vals.take, Vals.ofAgg_cons, Vals.ofList, Vals.toInts, Vals.toBools, Vals.toSls, Vals.toStrs, Vals.zeros, Nat.reduceBEq, Nat.reduceAdd, Nat.reduceEqDiff, cond_true, cond_false, Option.map_some, Option.map_none, List.length_cons, List.length_nil, List.replicate, List.set_cons_zero, List.set_cons_succ, Nat.reduceLT, Bool.not_true, Bool.not_false, Int.toNat_natCast, inR, Nat.zero_add, Int.toNat_zero, reduceCtorEq, IntKind.bits, List.nil_append, List.cons_append, Nat.add_zero, Nat.sub_zero, noughts_len, List.map_cons, List.map_nil, zp, zu]) | refine And.intro ?_ (fun hif => (hif trivial).elim) | (intro hif; try (first | contradiction | (exfalso; omega))))
    (first | exact List.prefix_rfl | exact ⟨rfl, List.prefix_rfl⟩ | exact ⟨by simp, List.prefix_rfl⟩)

set_option maxHeartbeats 4000000 in
theorem impl_HarmonyMoved (s t : SV) (net row : List Int) (f b : Int) (m : Heap) (hs : IsInts .i64 m s net) (ht : IsInts .i64 m t row) : ARet Try.prog F.impl_HarmonyMoved [.one (.sl s), .one (.sl t), .one (.int .i64 f), .one (.int .i64 b)] m Ty.int (.ints .i64 (harmMoved net row f b)) := by
  refine arn T.impl_HarmonyMoved (by rfl) fun hwf => ?_
  have c0 := impl_HarmonyOk s t net row m hs ht
  by_cases hH : Harm net row
  · have c0 := c0.yes hH
    have hN := hH.ok
    have h6 := hN.six
    have hq := hH.pos
    have hq15 := qOf_le hN
    have hl := hH.low.len
    have hlow := hH.low.low
    have hW := impl_WiresOf_q hs hN
    by_cases hf : 0 ≤ f ∧ f ≤ 30
    · by_cases hb : 0 ≤ b ∧ b ≤ 30
      · obtain ⟨fn, rfl⟩ := Int.eq_ofNat_of_zero_le hf.1
        have c3 := impl_commonDivisor (qOf net) fn (by omega) (by omega) m
        rw [Nat.gcd_comm] at c3
        by_cases hg : Nat.gcd fn (qOf net) = 1
        · rw [harmMoved, if_pos ⟨hH, hf, hb, hg⟩]
          rw [hg] at c3
          obtain ⟨ref, off, len⟩ := t
          obtain rfl : len = row.length := ht.1
          have hVl : (row.map (moveH (qOf net) fn b)).length = row.length := by simp
          generalize hV : row.map (moveH (qOf net) fn b) = V at hVl ⊢
          have hVk : ∀ k, k < row.length → V.getD k 0 = ((row.getD k 0) * fn + b) % (qOf net : Int) := fun k hk => by rw [← hV]; exact map_get _ hk
          repeat' (first | refine xA ?_ | refine xB ?_ | refine xC ?_ | refine xD ?_ | refine xE ?_ | refine xF ?_ | refine xG ?_ | refine xH ?_ | refine xI rfl ?_ | refine xJ ?_ | refine xK ?_ | refine xL ?_ | refine xM rfl ?_ | refine xN rfl ?_ | refine xO rfl ?_ | (first | refine xP rfl (fun hif => ?_) (fun hif => ?_) | refine xQ rfl (fun hif => ?_) (fun hif => ?_) | refine xR rfl (fun hif => ?_) (fun hif => ?_) | refine xS rfl (fun hif => ?_) (fun hif => ?_)) <;> try (first | contradiction | (exfalso; omega)) | (refine hK _ _ ?_; clear hK K) | refine AQuiet.call c0 trivial ?_ | refine AQuiet.call ((impl_isLabel fn _).yes hf) trivial ?_ | refine AQuiet.call ((impl_isLabel b _).yes hb) trivial ?_ | refine AQuiet.call hW trivial ?_ | refine AQuiet.call c3 trivial ?_ | (refine And.intro (by first | omega | assumption | (constructor <;> omega)) ?_) | (refine And.intro (fun hif => ?_) (fun hif => ?_) <;> try (first | contradiction | (exfalso; omega))) | ((first | refine xT fun K hK => ?_ | refine xU fun K hK => ?_ | refine yB (fun K hK => ?_) (fun K hK => ?_) | refine xV ?_ | refine yA ?_ | refine xW ?_ | refine xX ?_ | refine xY ?_ | refine xZ ?_) <;> simp only [↓awpOps, ↓awpKeep, ↓awpKeepF, ↓aop, ↓aopQ, ↓abin, ↓aun, ↓onSome_some, ↓Kont_at, ↓KM_at, ↓KV_at, ↓KU_at, refId_row, Frame.ev, Frame.evs, Frame.evOr, Frame.put, Frame.keep, get_nil, get_cons, argFrame, resOf, fillA, Vals.len, Vals.get, Vals.set, Vals.app, Vals.sub, Vals.take, Vals.ofAgg_cons, Vals.ofList, Vals.toInts, Vals.toBools, Vals.toSls, Vals.toStrs, Vals.zeros, Nat.reduceBEq, Nat.reduceAdd, Nat.reduceEqDiff, cond_true, cond_false, Option.map_some, Option.map_none, List.length_cons, List.length_nil, List.replicate, List.set_cons_zero, List.set_cons_succ, Nat.reduceLT, Bool.not_true, Bool.not_false, Int.toNat_natCast, inR, Nat.zero_add, Int.toNat_zero, reduceCtorEq, IntKind.bits, List.nil_append, List.cons_append, Nat.add_zero, Nat.sub_zero, noughts_len, List.map_cons, List.map_nil, zp, zu]) | refine And.intro ?_ (fun hif => (hif trivial).elim) | (intro hif; try (first | contradiction | (exfalso; omega))))
          refine awp_loop ?_
          refine ALoop.by [1, 2, 3, 9, 10, 11] (fun k : Nat => [(1, .one (.sl ⟨ref, off, row.length⟩)), (2, .one (.int .i64 (fn : Int))), (3, .one (.int .i64 b)), (9, .one (.int .i64 (qOf net : Int))), (10, .one (.sl ⟨.row m.length, 0, row.length⟩)), (11, .one (.int .i64 k))]) (fun k => m ++ [⟨Ty.int, m.length, true, .ints .i64 (V.take k ++ List.replicate (V.length - k) 0)⟩]) (fun k => k ≤ row.length) (fun k => row.length - k) 0 rfl (by simp [hVl]) (Nat.zero_le _) ?_
          intro k hk K1 hK1
          by_cases hlt : k < row.length
          · have hrow := (ht.pre (prefix_push m ⟨Ty.int, m.length, true, .ints .i64 (V.take k ++ List.replicate (V.length - k) 0)⟩)).2 k hlt
            have hst := set_take V 0 0 (k := k) (by omega)
            rw [hVk k hlt] at hst
            have hlen : (V.take k ++ List.replicate (V.length - k) (0 : Int)).length = row.length := by simp; omega
            have hd := hlow k hlt
            have hmul := mul_small (x := (row.getD k 0)) (y := (fn : Int)) (by omega) hf
            repeat' (first | refine xA ?_ | refine xB ?_ | refine xC ?_ | refine xD ?_ | refine xE ?_ | refine xF ?_ | refine xG ?_ | refine xH ?_ | refine xI rfl ?_ | refine xJ ?_ | refine xK ?_ | refine xL ?_ | refine xM rfl ?_ | refine xN rfl ?_ | refine xO rfl ?_ | (first | refine xP rfl (fun hif => ?_) (fun hif => ?_) | refine xQ rfl (fun hif => ?_) (fun hif => ?_) | refine xR rfl (fun hif => ?_) (fun hif => ?_) | refine xS rfl (fun hif => ?_) (fun hif => ?_)) <;> try (first | contradiction | (exfalso; omega)) | (refine hK _ _ ?_; clear hK K) | refine onSome_of hrow ?_ | refine st_last hwf (by simp only [Vals.len, hlen]; omega) rfl ?_ | (refine And.intro (by first | omega | assumption | (constructor <;> omega)) ?_) | (refine And.intro (fun hif => ?_) (fun hif => ?_) <;> try (first | contradiction | (exfalso; omega))) | ((first | refine xT fun K hK => ?_ | refine xU fun K hK => ?_ | refine yB (fun K hK => ?_) (fun K hK => ?_) | refine xV ?_ | refine yA ?_ | refine xW ?_ | refine xX ?_ | refine xY ?_ | refine xZ ?_) <;> simp only [↓awpOps, ↓awpKeep, ↓awpKeepF, ↓aop, ↓aopQ, ↓abin, ↓aun, ↓onSome_some, ↓Kont_at, ↓KM_at, ↓KV_at, ↓KU_at, refId_row, Frame.ev, Frame.evs, Frame.evOr, Frame.put, Frame.keep, get_nil, get_cons, argFrame, resOf, fillA, Vals.len, Vals.get, Vals.set, Vals.app, Vals.sub, Vals.take, Vals.ofAgg_cons, Vals.ofList, Vals.toInts, Vals.toBools, Vals.toSls, Vals.toStrs, Vals.zeros, Nat.reduceBEq, Nat.reduceAdd, Nat.reduceEqDiff, cond_true, cond_false, Option.map_some, Option.map_none, List.length_cons, List.length_nil, List.replicate, List.set_cons_zero, List.set_cons_succ, Nat.reduceLT, Bool.not_true, Bool.not_false, Int.toNat_natCast, inR, Nat.zero_add, Int.toNat_zero, reduceCtorEq, IntKind.bits, List.nil_append, List.cons_append, Nat.add_zero, Nat.sub_zero, noughts_len, List.map_cons, List.map_nil, zp, zu]) | refine And.intro ?_ (fun hif => (hif trivial).elim) | (intro hif; try (first | contradiction | (exfalso; omega))))
            refine hK1 (k + 1) _ _ rfl ?_ (by omega) (by omega)
            rw [hst]
          · obtain rfl : k = row.length := by omega
            have e : V.take row.length ++ List.replicate (V.length - row.length) (0 : Int) = V := by rw [← hVl, List.take_length, Nat.sub_self, List.replicate_zero, List.append_nil]
            rw [e]
            repeat' (first | refine xA ?_ | refine xB ?_ | refine xC ?_ | refine xD ?_ | refine xE ?_ | refine xF ?_ | refine xG ?_ | refine xH ?_ | refine xI rfl ?_ | refine xJ ?_ | refine xK ?_ | refine xL ?_ | refine xM rfl ?_ | refine xN rfl ?_ | refine xO rfl ?_ | (first | refine xP rfl (fun hif => ?_) (fun hif => ?_) | refine xQ rfl (fun hif => ?_) (fun hif => ?_) | refine xR rfl (fun hif => ?_) (fun hif => ?_) | refine xS rfl (fun hif => ?_) (fun hif => ?_)) <;> try (first | contradiction | (exfalso; omega)) | (refine hK _ _ ?_; clear hK K) | (refine And.intro (by first | omega | assumption | (constructor <;> omega)) ?_) | (refine And.intro (fun hif => ?_) (fun hif => ?_) <;> try (first | contradiction | (exfalso; omega))) | ((first | refine xT fun K hK => ?_ | refine xU fun K hK => ?_ | refine yB (fun K hK => ?_) (fun K hK => ?_) | refine xV ?_ | refine yA ?_ | refine xW ?_ | refine xX ?_ | refine xY ?_ | refine xZ ?_) <;> simp only [↓awpOps, ↓awpKeep, ↓awpKeepF, ↓aop, ↓aopQ, ↓abin, ↓aun, ↓onSome_some, ↓Kont_at, ↓KM_at, ↓KV_at, ↓KU_at, refId_row, Frame.ev, Frame.evs, Frame.evOr, Frame.put, Frame.keep, get_nil, get_cons, argFrame, resOf, fillA, Vals.len, Vals.get, Vals.set, Vals.app, Vals.sub, Vals.take, Vals.ofAgg_cons, Vals.ofList, Vals.toInts, Vals.toBools, Vals.toSls, Vals.toStrs, Vals.zeros, Nat.reduceBEq, Nat.reduceAdd, Nat.reduceEqDiff, cond_true, cond_false, Option.map_some, Option.map_none, List.length_cons, List.length_nil, List.replicate, List.set_cons_zero, List.set_cons_succ, Nat.reduceLT, Bool.not_true, Bool.not_false, Int.toNat_natCast, inR, Nat.zero_add, Int.toNat_zero, reduceCtorEq, IntKind.bits, List.nil_append, List.cons_append, Nat.add_zero, Nat.sub_zero, noughts_len, List.map_cons, List.map_nil, zp, zu]) | refine And.intro ?_ (fun hif => (hif trivial).elim) | (intro hif; try (first | contradiction | (exfalso; omega))))
            exact ⟨_, rfl, Grow.push hwf _ _ _, obj_new _ _ (by simp [Vals.len, hVl]) (Nat.le_refl _) (by simp)⟩
        · rw [harmMoved, if_neg fun h => hg h.2.2.2]
          have hgI : ¬ ((Nat.gcd fn (qOf net) : Nat) : Int) = 1 := by omega
          generalize Nat.gcd fn (qOf net) = g at *
          repeat' (first | refine xA ?_ | refine xB ?_ | refine xC ?_ | refine xD ?_ | refine xE ?_ | refine xF ?_ | refine xG ?_ | refine xH ?_ | refine xI rfl ?_ | refine xJ ?_ | refine xK ?_ | refine xL ?_ | refine xM rfl ?_ | refine xN rfl ?_ | refine xO rfl ?_ | (first | refine xP rfl (fun hif => ?_) (fun hif => ?_) | refine xQ rfl (fun hif => ?_) (fun hif => ?_) | refine xR rfl (fun hif => ?_) (fun hif => ?_) | refine xS rfl (fun hif => ?_) (fun hif => ?_)) <;> try (first | contradiction | (exfalso; omega)) | (refine hK _ _ ?_; clear hK K) | refine AQuiet.call c0 trivial ?_ | refine AQuiet.call ((impl_isLabel fn _).yes hf) trivial ?_ | refine AQuiet.call ((impl_isLabel b _).yes hb) trivial ?_ | refine AQuiet.call hW trivial ?_ | refine AQuiet.call c3 trivial ?_ | (refine And.intro (by first | omega | assumption | (constructor <;> omega)) ?_) | (refine And.intro (fun hif => ?_) (fun hif => ?_) <;> try (first | contradiction | (exfalso; omega))) | ((first | refine xT fun K hK => ?_ | refine xU fun K hK => ?_ | refine yB (fun K hK => ?_) (fun K hK => ?_) | refine xV ?_ | refine yA ?_ | refine xW ?_ | refine xX ?_ | refine xY ?_ | refine xZ ?_) <;> simp only [↓awpOps, ↓awpKeep, ↓awpKeepF, ↓aop, ↓aopQ, ↓abin, ↓aun, ↓onSome_some, ↓Kont_at, ↓KM_at, ↓KV_at, ↓KU_at, refId_row, Frame.ev, Frame.evs, Frame.evOr, Frame.put, Frame.keep, get_nil, get_cons, argFrame, resOf, fillA, Vals.len, Vals.get, Vals.set, Vals.app, Vals.sub, Vals.take, Vals.ofAgg_cons, Vals.ofList, Vals.toInts, Vals.toBools, Vals.toSls, Vals.toStrs, Vals.zeros, Nat.reduceBEq, Nat.reduceAdd, Nat.reduceEqDiff, cond_true, cond_false, Option.map_some, Option.map_none, List.length_cons, List.length_nil, List.replicate, List.set_cons_zero, List.set_cons_succ, Nat.reduceLT, Bool.not_true, Bool.not_false, Int.toNat_natCast, inR, Nat.zero_add, Int.toNat_zero, reduceCtorEq, IntKind.bits, List.nil_append, List.cons_append, Nat.add_zero, Nat.sub_zero, noughts_len, List.map_cons, List.map_nil, zp, zu]) | refine And.intro ?_ (fun hif => (hif trivial).elim) | (intro hif; try (first | contradiction | (exfalso; omega))))
          all_goals exact ⟨_, rfl, Grow.refl hwf _ _, obj_nil _ _ _ _ _⟩
      · rw [harmMoved, if_neg fun h => hb h.2.2.1]
        repeat' (first | refine xA ?_ | refine xB ?_ | refine xC ?_ | refine xD ?_ | refine xE ?_ | refine xF ?_ | refine xG ?_ | refine xH ?_ | refine xI rfl ?_ | refine xJ ?_ | refine xK ?_ | refine xL ?_ | refine xM rfl ?_ | refine xN rfl ?_ | refine xO rfl ?_ | (first | refine xP rfl (fun hif => ?_) (fun hif => ?_) | refine xQ rfl (fun hif => ?_) (fun hif => ?_) | refine xR rfl (fun hif => ?_) (fun hif => ?_) | refine xS rfl (fun hif => ?_) (fun hif => ?_)) <;> try (first | contradiction | (exfalso; omega)) | (refine hK _ _ ?_; clear hK K) | refine AQuiet.call c0 trivial ?_ | refine AQuiet.call ((impl_isLabel f _).yes hf) trivial ?_ | refine AQuiet.call ((impl_isLabel b _).no hb) trivial ?_ | (refine And.intro (by first | omega | assumption | (constructor <;> omega)) ?_) | (refine And.intro (fun hif => ?_) (fun hif => ?_) <;> try (first | contradiction | (exfalso; omega))) | ((first | refine xT fun K hK => ?_ | refine xU fun K hK => ?_ | refine yB (fun K hK => ?_) (fun K hK => ?_) | refine xV ?_ | refine yA ?_ | refine xW ?_ | refine xX ?_ | refine xY ?_ | refine xZ ?_) <;> simp only [↓awpOps, ↓awpKeep, ↓awpKeepF, ↓aop, ↓aopQ, ↓abin, ↓aun, ↓onSome_some, ↓Kont_at, ↓KM_at, ↓KV_at, ↓KU_at, refId_row, Frame.ev, Frame.evs, Frame.evOr, Frame.put, Frame.keep, get_nil, get_cons, argFrame, resOf, fillA, Vals.len, Vals.get, Vals.set, Vals.app, Vals.sub, Vals.take, Vals.ofAgg_cons, Vals.ofList, Vals.toInts, Vals.toBools, Vals.toSls, Vals.toStrs, Vals.zeros, Nat.reduceBEq, Nat.reduceAdd, Nat.reduceEqDiff, cond_true, cond_false, Option.map_some, Option.map_none, List.length_cons, List.length_nil, List.replicate, List.set_cons_zero, List.set_cons_succ, Nat.reduceLT, Bool.not_true, Bool.not_false, Int.toNat_natCast, inR, Nat.zero_add, Int.toNat_zero, reduceCtorEq, IntKind.bits, List.nil_append, List.cons_append, Nat.add_zero, Nat.sub_zero, noughts_len, List.map_cons, List.map_nil, zp, zu]) | refine And.intro ?_ (fun hif => (hif trivial).elim) | (intro hif; try (first | contradiction | (exfalso; omega))))
        all_goals exact ⟨_, rfl, Grow.refl hwf _ _, obj_nil _ _ _ _ _⟩
    · rw [harmMoved, if_neg fun h => hf h.2.1]
      repeat' (first | refine xA ?_ | refine xB ?_ | refine xC ?_ | refine xD ?_ | refine xE ?_ | refine xF ?_ | refine xG ?_ | refine xH ?_ | refine xI rfl ?_ | refine xJ ?_ | refine xK ?_ | refine xL ?_ | refine xM rfl ?_ | refine xN rfl ?_ | refine xO rfl ?_ | (first | refine xP rfl (fun hif => ?_) (fun hif => ?_) | refine xQ rfl (fun hif => ?_) (fun hif => ?_) | refine xR rfl (fun hif => ?_) (fun hif => ?_) | refine xS rfl (fun hif => ?_) (fun hif => ?_)) <;> try (first | contradiction | (exfalso; omega)) | (refine hK _ _ ?_; clear hK K) | refine AQuiet.call c0 trivial ?_ | refine AQuiet.call ((impl_isLabel f _).no hf) trivial ?_ | (refine And.intro (by first | omega | assumption | (constructor <;> omega)) ?_) | (refine And.intro (fun hif => ?_) (fun hif => ?_) <;> try (first | contradiction | (exfalso; omega))) | ((first | refine xT fun K hK => ?_ | refine xU fun K hK => ?_ | refine yB (fun K hK => ?_) (fun K hK => ?_) | refine xV ?_ | refine yA ?_ | refine xW ?_ | refine xX ?_ | refine xY ?_ | refine xZ ?_) <;> simp only [↓awpOps, ↓awpKeep, ↓awpKeepF, ↓aop, ↓aopQ, ↓abin, ↓aun, ↓onSome_some, ↓Kont_at, ↓KM_at, ↓KV_at, ↓KU_at, refId_row, Frame.ev, Frame.evs, Frame.evOr, Frame.put, Frame.keep, get_nil, get_cons, argFrame, resOf, fillA, Vals.len, Vals.get, Vals.set, Vals.app, Vals.sub, Vals.take, Vals.ofAgg_cons, Vals.ofList, Vals.toInts, Vals.toBools, Vals.toSls, Vals.toStrs, Vals.zeros, Nat.reduceBEq, Nat.reduceAdd, Nat.reduceEqDiff, cond_true, cond_false, Option.map_some, Option.map_none, List.length_cons, List.length_nil, List.replicate, List.set_cons_zero, List.set_cons_succ, Nat.reduceLT, Bool.not_true, Bool.not_false, Int.toNat_natCast, inR, Nat.zero_add, Int.toNat_zero, reduceCtorEq, IntKind.bits, List.nil_append, List.cons_append, Nat.add_zero, Nat.sub_zero, noughts_len, List.map_cons, List.map_nil, zp, zu]) | refine And.intro ?_ (fun hif => (hif trivial).elim) | (intro hif; try (first | contradiction | (exfalso; omega))))
      all_goals exact ⟨_, rfl, Grow.refl hwf _ _, obj_nil _ _ _ _ _⟩
  · rw [harmMoved, if_neg fun h => hH h.1]
    have c0 := c0.no hH
    repeat' (first | refine xA ?_ | refine xB ?_ | refine xC ?_ | refine xD ?_ | refine xE ?_ | refine xF ?_ | refine xG ?_ | refine xH ?_ | refine xI rfl ?_ | refine xJ ?_ | refine xK ?_ | refine xL ?_ | refine xM rfl ?_ | refine xN rfl ?_ | refine xO rfl ?_ | (first | refine xP rfl (fun hif => ?_) (fun hif => ?_) | refine xQ rfl (fun hif => ?_) (fun hif => ?_) | refine xR rfl (fun hif => ?_) (fun hif => ?_) | refine xS rfl (fun hif => ?_) (fun hif => ?_)) <;> try (first | contradiction | (exfalso; omega)) | (refine hK _ _ ?_; clear hK K) | refine AQuiet.call c0 trivial ?_ | (refine And.intro (by first | omega | assumption | (constructor <;> omega)) ?_) | (refine And.intro (fun hif => ?_) (fun hif => ?_) <;> try (first | contradiction | (exfalso; omega))) | ((first | refine xT fun K hK => ?_ | refine xU fun K hK => ?_ | refine yB (fun K hK => ?_) (fun K hK => ?_) | refine xV ?_ | refine yA ?_ | refine xW ?_ | refine xX ?_ | refine xY ?_ | refine xZ ?_) <;> simp only [↓awpOps, ↓awpKeep, ↓awpKeepF, ↓aop, ↓aopQ, ↓abin, ↓aun, ↓onSome_some, ↓Kont_at, ↓KM_at, ↓KV_at, ↓KU_at, refId_row, Frame.ev, Frame.evs, Frame.evOr, Frame.put, Frame.keep, get_nil, get_cons, argFrame, resOf, fillA, Vals.len, Vals.get, Vals.set, Vals.app, Vals.sub, Vals.take, Vals.ofAgg_cons, Vals.ofList, Vals.toInts, Vals.toBools, Vals.toSls, Vals.toStrs, Vals.zeros, Nat.reduceBEq, Nat.reduceAdd, Nat.reduceEqDiff, cond_true, cond_false, Option.map_some, Option.map_none, List.length_cons, List.length_nil, List.replicate, List.set_cons_zero, List.set_cons_succ, Nat.reduceLT, Bool.not_true, Bool.not_false, Int.toNat_natCast, inR, Nat.zero_add, Int.toNat_zero, reduceCtorEq, IntKind.bits, List.nil_append, List.cons_append, Nat.add_zero, Nat.sub_zero, noughts_len, List.map_cons, List.map_nil, zp, zu]) | refine And.intro ?_ (fun hif => (hif trivial).elim) | (intro hif; try (first | contradiction | (exfalso; omega))))
    all_goals exact ⟨_, rfl, Grow.refl hwf _ _, obj_nil _ _ _ _ _⟩

end Go.Abs
