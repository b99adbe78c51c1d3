/- The model's twelfth chapter, by contracts: tables of differences. Own work; no condition. -/
import Derived.Test.YtkhbihbljdhpbaaTab1
import Derived.Test.YtkhbihbljdhpbaaCome
import Derived.Test.YtkhbihbljdhpbaaDraw3
set_option maxRecDepth 100000
set_option linter.unusedSimpArgs false
set_option linter.unusedVariables false
namespace Go.Abs
open Go.Proofs
attribute [local irreducible] awp awpOps awpKeep KeepK awpKeepF KeepF aloop ALoop ACalls ACallq AQuiet retPost retPostA AExit.thn AExit.blk aApp aSt aStA

theorem spec_TableOk {l : List Int} (hbig : l.length ≤ 1048576) (s : SV) (_ : List Int) (m : Heap) (hs : IsInts .i64 m s l) : AQuiet Try.prog F.spec_TableOk [.one (.sl s)] m (.one (.bool (decide (TabOk l)))) := by
  obtain ⟨ref, off, len⟩ := s
  obtain rfl : len = l.length := hs.1
  refine aqn T.spec_TableOk (by rfl) ?_
  by_cases h5 : l.length ≤ 5
  · repeat' (first | refine xA ?_ | refine xB ?_ | refine xC ?_ | refine xD ?_ | refine xE ?_ | refine xF ?_ | refine xG ?_ | refine xH ?_ | refine xI rfl ?_ | refine xJ ?_ | refine xK ?_ | refine xL ?_ | refine xM rfl ?_ | refine xN rfl ?_ | refine xO rfl ?_ | (first | refine xP rfl (fun hif => ?_) (fun hif => ?_) | refine xQ rfl (fun hif => ?_) (fun hif => ?_) | refine xR rfl (fun hif => ?_) (fun hif => ?_) | refine xS rfl (fun hif => ?_) (fun hif => ?_)) <;> try (first | contradiction | (exfalso; omega)) | (refine hK _ _ ?_; clear hK K) | (refine And.intro (by first | omega | assumption | (constructor <;> omega)) ?_) | (refine And.intro (fun hif => ?_) (fun hif => ?_) <;> try (first | contradiction | (exfalso; omega))) | ((first | refine xT fun K hK => ?_ | refine xU fun K hK => ?_ | refine yB (fun K hK => ?_) (fun K hK => ?_) | refine xV ?_ | refine yA ?_ | refine xW ?_ | refine xX ?_ | refine xY ?_ | refine xZ ?_) <;> simp only [↓awpOps, ↓awpKeep, ↓awpKeepF, ↓aop, ↓aopQ, ↓abin, ↓aun, ↓onSome_some, ↓Kont_at, ↓KM_at, ↓KV_at, ↓KU_at, refId_row, Frame.ev, Frame.evs, Frame.evOr, Frame.put, Frame.keep, get_nil, get_cons, argFrame, resOf, fillA, Vals.len, Vals.get, Vals.set, Vals.app, Vals.sub, Vals.take, Vals.ofAgg_cons, Vals.ofList, Vals.toInts, Vals.toBools, Vals.toSls, Vals.toStrs, Vals.zeros, Nat.reduceBEq, Nat.reduceAdd, Nat.reduceEqDiff, cond_true, cond_false, Option.map_some, Option.map_none, List.length_cons, List.length_nil, List.replicate, List.set_cons_zero, List.set_cons_succ, Nat.reduceLT, Bool.not_true, Bool.not_false, Int.toNat_natCast, inR, Nat.zero_add, Int.toNat_zero, reduceCtorEq, IntKind.bits, List.nil_append, List.cons_append, Nat.add_zero, Nat.sub_zero, noughts_len, List.map_cons, List.map_nil, zp, zu]) | refine And.intro ?_ (fun hif => (hif trivial).elim) | (intro hif; try (first | contradiction | (exfalso; omega))))
    refine awp_loop ?_
    refine ALoop.by [0, 3] (fun k : Nat => [(0, .one (.sl ⟨ref, off, l.length⟩)), (3, .one (.int .i64 k))]) (fun _ => m) (fun k => k ≤ l.length ∧ ∀ i, i < k → 0 ≤ (l.getD i 0) ∧ (l.getD i 0) ≤ (l.length : Int) - 1 - i) (fun k => l.length - k) 0 rfl rfl ⟨Nat.zero_le _, fun i hi => absurd hi (Nat.not_lt_zero _)⟩ ?_
    rintro k ⟨hk, hok⟩ K1 hK1
    by_cases hlt : k < l.length
    · have hat := hs.2 k hlt
      by_cases e : 0 ≤ (l.getD k 0) ∧ (l.getD k 0) ≤ (l.length : Int) - 1 - k
      · repeat' (first | refine xA ?_ | refine xB ?_ | refine xC ?_ | refine xD ?_ | refine xE ?_ | refine xF ?_ | refine xG ?_ | refine xH ?_ | refine xI rfl ?_ | refine xJ ?_ | refine xK ?_ | refine xL ?_ | refine xM rfl ?_ | refine xN rfl ?_ | refine xO rfl ?_ | (first | refine xP rfl (fun hif => ?_) (fun hif => ?_) | refine xQ rfl (fun hif => ?_) (fun hif => ?_) | refine xR rfl (fun hif => ?_) (fun hif => ?_) | refine xS rfl (fun hif => ?_) (fun hif => ?_)) <;> try (first | contradiction | (exfalso; omega)) | (refine hK _ _ ?_; clear hK K) | refine onSome_of hat ?_ | refine AQuiet.call ((spec_l1In ((l.getD k 0)) 0 ((l.length : Int) - 1 - k) _).yes e) trivial ?_ | (refine And.intro (by first | omega | assumption | (constructor <;> omega)) ?_) | (refine And.intro (fun hif => ?_) (fun hif => ?_) <;> try (first | contradiction | (exfalso; omega))) | ((first | refine xT fun K hK => ?_ | refine xU fun K hK => ?_ | refine yB (fun K hK => ?_) (fun K hK => ?_) | refine xV ?_ | refine yA ?_ | refine xW ?_ | refine xX ?_ | refine xY ?_ | refine xZ ?_) <;> simp only [↓awpOps, ↓awpKeep, ↓awpKeepF, ↓aop, ↓aopQ, ↓abin, ↓aun, ↓onSome_some, ↓Kont_at, ↓KM_at, ↓KV_at, ↓KU_at, refId_row, Frame.ev, Frame.evs, Frame.evOr, Frame.put, Frame.keep, get_nil, get_cons, argFrame, resOf, fillA, Vals.len, Vals.get, Vals.set, Vals.app, Vals.sub, Vals.take, Vals.ofAgg_cons, Vals.ofList, Vals.toInts, Vals.toBools, Vals.toSls, Vals.toStrs, Vals.zeros, Nat.reduceBEq, Nat.reduceAdd, Nat.reduceEqDiff, cond_true, cond_false, Option.map_some, Option.map_none, List.length_cons, List.length_nil, List.replicate, List.set_cons_zero, List.set_cons_succ, Nat.reduceLT, Bool.not_true, Bool.not_false, Int.toNat_natCast, inR, Nat.zero_add, Int.toNat_zero, reduceCtorEq, IntKind.bits, List.nil_append, List.cons_append, Nat.add_zero, Nat.sub_zero, noughts_len, List.map_cons, List.map_nil, zp, zu]) | refine And.intro ?_ (fun hif => (hif trivial).elim) | (intro hif; try (first | contradiction | (exfalso; omega))))
        all_goals (refine hK1 (k + 1) _ _ rfl rfl ⟨by omega, fun i hi => ?_⟩ (by omega); rcases Nat.lt_succ_iff_lt_or_eq.1 hi with h | rfl; exact hok i h; exact e)
      · rw [decide_eq_false fun h : TabOk l => e (h.low k hlt)]
        repeat' (first | refine xA ?_ | refine xB ?_ | refine xC ?_ | refine xD ?_ | refine xE ?_ | refine xF ?_ | refine xG ?_ | refine xH ?_ | refine xI rfl ?_ | refine xJ ?_ | refine xK ?_ | refine xL ?_ | refine xM rfl ?_ | refine xN rfl ?_ | refine xO rfl ?_ | (first | refine xP rfl (fun hif => ?_) (fun hif => ?_) | refine xQ rfl (fun hif => ?_) (fun hif => ?_) | refine xR rfl (fun hif => ?_) (fun hif => ?_) | refine xS rfl (fun hif => ?_) (fun hif => ?_)) <;> try (first | contradiction | (exfalso; omega)) | (refine hK _ _ ?_; clear hK K) | refine onSome_of hat ?_ | refine AQuiet.call ((spec_l1In ((l.getD k 0)) 0 ((l.length : Int) - 1 - k) _).no e) trivial ?_ | (refine And.intro (by first | omega | assumption | (constructor <;> omega)) ?_) | (refine And.intro (fun hif => ?_) (fun hif => ?_) <;> try (first | contradiction | (exfalso; omega))) | ((first | refine xT fun K hK => ?_ | refine xU fun K hK => ?_ | refine yB (fun K hK => ?_) (fun K hK => ?_) | refine xV ?_ | refine yA ?_ | refine xW ?_ | refine xX ?_ | refine xY ?_ | refine xZ ?_) <;> simp only [↓awpOps, ↓awpKeep, ↓awpKeepF, ↓aop, ↓aopQ, ↓abin, ↓aun, ↓onSome_some, ↓Kont_at, ↓KM_at, ↓KV_at, ↓KU_at, refId_row, Frame.ev, Frame.evs, Frame.evOr, Frame.put, Frame.keep, get_nil, get_cons, argFrame, resOf, fillA, Vals.len, Vals.get, Vals.set, Vals.app, Vals.sub, Vals.take, Vals.ofAgg_cons, Vals.ofList, Vals.toInts, Vals.toBools, Vals.toSls, Vals.toStrs, Vals.zeros, Nat.reduceBEq, Nat.reduceAdd, Nat.reduceEqDiff, cond_true, cond_false, Option.map_some, Option.map_none, List.length_cons, List.length_nil, List.replicate, List.set_cons_zero, List.set_cons_succ, Nat.reduceLT, Bool.not_true, Bool.not_false, Int.toNat_natCast, inR, Nat.zero_add, Int.toNat_zero, reduceCtorEq, IntKind.bits, List.nil_append, List.cons_append, Nat.add_zero, Nat.sub_zero, noughts_len, List.map_cons, List.map_nil, zp, zu]) | refine And.intro ?_ (fun hif => (hif trivial).elim) | (intro hif; try (first | contradiction | (exfalso; omega))))
        all_goals (first | exact List.prefix_rfl | exact ⟨rfl, List.prefix_rfl⟩ | exact ⟨by simp, List.prefix_rfl⟩)
    · obtain rfl : k = l.length := by omega
      by_cases c : 1 ≤ (l.length : Int) ∧ (l.length : Int) ≤ 5
      · rw [decide_eq_true (⟨by omega, by omega, hok⟩ : TabOk l)]
        repeat' (first | refine xA ?_ | refine xB ?_ | refine xC ?_ | refine xD ?_ | refine xE ?_ | refine xF ?_ | refine xG ?_ | refine xH ?_ | refine xI rfl ?_ | refine xJ ?_ | refine xK ?_ | refine xL ?_ | refine xM rfl ?_ | refine xN rfl ?_ | refine xO rfl ?_ | (first | refine xP rfl (fun hif => ?_) (fun hif => ?_) | refine xQ rfl (fun hif => ?_) (fun hif => ?_) | refine xR rfl (fun hif => ?_) (fun hif => ?_) | refine xS rfl (fun hif => ?_) (fun hif => ?_)) <;> try (first | contradiction | (exfalso; omega)) | (refine hK _ _ ?_; clear hK K) | refine AQuiet.call ((spec_l1In (l.length : Int) 1 5 _).yes c) trivial ?_ | (refine And.intro (by first | omega | assumption | (constructor <;> omega)) ?_) | (refine And.intro (fun hif => ?_) (fun hif => ?_) <;> try (first | contradiction | (exfalso; omega))) | ((first | refine xT fun K hK => ?_ | refine xU fun K hK => ?_ | refine yB (fun K hK => ?_) (fun K hK => ?_) | refine xV ?_ | refine yA ?_ | refine xW ?_ | refine xX ?_ | refine xY ?_ | refine xZ ?_) <;> simp only [↓awpOps, ↓awpKeep, ↓awpKeepF, ↓aop, ↓aopQ, ↓abin, ↓aun, ↓onSome_some, ↓Kont_at, ↓KM_at, ↓KV_at, ↓KU_at, refId_row, Frame.ev, Frame.evs, Frame.evOr, Frame.put, Frame.keep, get_nil, get_cons, argFrame, resOf, fillA, Vals.len, Vals.get, Vals.set, Vals.app, Vals.sub, Vals.take, Vals.ofAgg_cons, Vals.ofList, Vals.toInts, Vals.toBools, Vals.toSls, Vals.toStrs, Vals.zeros, Nat.reduceBEq, Nat.reduceAdd, Nat.reduceEqDiff, cond_true, cond_false, Option.map_some, Option.map_none, List.length_cons, List.length_nil, List.replicate, List.set_cons_zero, List.set_cons_succ, Nat.reduceLT, Bool.not_true, Bool.not_false, Int.toNat_natCast, inR, Nat.zero_add, Int.toNat_zero, reduceCtorEq, IntKind.bits, List.nil_append, List.cons_append, Nat.add_zero, Nat.sub_zero, noughts_len, List.map_cons, List.map_nil, zp, zu]) | refine And.intro ?_ (fun hif => (hif trivial).elim) | (intro hif; try (first | contradiction | (exfalso; omega))))
        all_goals (first | exact List.prefix_rfl | exact ⟨rfl, List.prefix_rfl⟩ | exact ⟨by simp, List.prefix_rfl⟩)
      · rw [decide_eq_false fun h : TabOk l => c ⟨by have := h.pos; omega, by have := h.five; omega⟩]
        repeat' (first | refine xA ?_ | refine xB ?_ | refine xC ?_ | refine xD ?_ | refine xE ?_ | refine xF ?_ | refine xG ?_ | refine xH ?_ | refine xI rfl ?_ | refine xJ ?_ | refine xK ?_ | refine xL ?_ | refine xM rfl ?_ | refine xN rfl ?_ | refine xO rfl ?_ | (first | refine xP rfl (fun hif => ?_) (fun hif => ?_) | refine xQ rfl (fun hif => ?_) (fun hif => ?_) | refine xR rfl (fun hif => ?_) (fun hif => ?_) | refine xS rfl (fun hif => ?_) (fun hif => ?_)) <;> try (first | contradiction | (exfalso; omega)) | (refine hK _ _ ?_; clear hK K) | refine AQuiet.call ((spec_l1In (l.length : Int) 1 5 _).no c) trivial ?_ | (refine And.intro (by first | omega | assumption | (constructor <;> omega)) ?_) | (refine And.intro (fun hif => ?_) (fun hif => ?_) <;> try (first | contradiction | (exfalso; omega))) | ((first | refine xT fun K hK => ?_ | refine xU fun K hK => ?_ | refine yB (fun K hK => ?_) (fun K hK => ?_) | refine xV ?_ | refine yA ?_ | refine xW ?_ | refine xX ?_ | refine xY ?_ | refine xZ ?_) <;> simp only [↓awpOps, ↓awpKeep, ↓awpKeepF, ↓aop, ↓aopQ, ↓abin, ↓aun, ↓onSome_some, ↓Kont_at, ↓KM_at, ↓KV_at, ↓KU_at, refId_row, Frame.ev, Frame.evs, Frame.evOr, Frame.put, Frame.keep, get_nil, get_cons, argFrame, resOf, fillA, Vals.len, Vals.get, Vals.set, Vals.app, Vals.sub, Vals.take, Vals.ofAgg_cons, Vals.ofList, Vals.toInts, Vals.toBools, Vals.toSls, Vals.toStrs, Vals.zeros, Nat.reduceBEq, Nat.reduceAdd, Nat.reduceEqDiff, cond_true, cond_false, Option.map_some, Option.map_none, List.length_cons, List.length_nil, List.replicate, List.set_cons_zero, List.set_cons_succ, Nat.reduceLT, Bool.not_true, Bool.not_false, Int.toNat_natCast, inR, Nat.zero_add, Int.toNat_zero, reduceCtorEq, IntKind.bits, List.nil_append, List.cons_append, Nat.add_zero, Nat.sub_zero, noughts_len, List.map_cons, List.map_nil, zp, zu]) | refine And.intro ?_ (fun hif => (hif trivial).elim) | (intro hif; try (first | contradiction | (exfalso; omega))))
        all_goals (first | exact List.prefix_rfl | exact ⟨rfl, List.prefix_rfl⟩ | exact ⟨by simp, List.prefix_rfl⟩)
  · rw [decide_eq_false fun h : TabOk l => h5 h.five]
    have c : ¬ (1 ≤ (l.length : Int) ∧ (l.length : Int) ≤ 5) := by omega
    repeat' (first | refine xA ?_ | refine xB ?_ | refine xC ?_ | refine xD ?_ | refine xE ?_ | refine xF ?_ | refine xG ?_ | refine xH ?_ | refine xI rfl ?_ | refine xJ ?_ | refine xK ?_ | refine xL ?_ | refine xM rfl ?_ | refine xN rfl ?_ | refine xO rfl ?_ | (first | refine xP rfl (fun hif => ?_) (fun hif => ?_) | refine xQ rfl (fun hif => ?_) (fun hif => ?_) | refine xR rfl (fun hif => ?_) (fun hif => ?_) | refine xS rfl (fun hif => ?_) (fun hif => ?_)) <;> try (first | contradiction | (exfalso; omega)) | (refine hK _ _ ?_; clear hK K) | (refine And.intro (by first | omega | assumption | (constructor <;> omega)) ?_) | (refine And.intro (fun hif => ?_) (fun hif => ?_) <;> try (first | contradiction | (exfalso; omega))) | ((first | refine xT fun K hK => ?_ | refine xU fun K hK => ?_ | refine yB (fun K hK => ?_) (fun K hK => ?_) | refine xV ?_ | refine yA ?_ | refine xW ?_ | refine xX ?_ | refine xY ?_ | refine xZ ?_) <;> simp only [↓awpOps, ↓awpKeep, ↓awpKeepF, ↓aop, ↓aopQ, ↓abin, ↓aun, ↓onSome_some, ↓Kont_at, ↓KM_at, ↓KV_at, ↓KU_at, refId_row, Frame.ev, Frame.evs, Frame.evOr, Frame.put, Frame.keep, get_nil, get_cons, argFrame, resOf, fillA, Vals.len, Vals.get, Vals.set, Vals.app, Vals.sub, Vals.take, Vals.ofAgg_cons, Vals.ofList, Vals.toInts, Vals.toBools, Vals.toSls, Vals.toStrs, Vals.zeros, Nat.reduceBEq, Nat.reduceAdd, Nat.reduceEqDiff, cond_true, cond_false, Option.map_some, Option.map_none, List.length_cons, List.length_nil, List.replicate, List.set_cons_zero, List.set_cons_succ, Nat.reduceLT, Bool.not_true, Bool.not_false, Int.toNat_natCast, inR, Nat.zero_add, Int.toNat_zero, reduceCtorEq, IntKind.bits, List.nil_append, List.cons_append, Nat.add_zero, Nat.sub_zero, noughts_len, List.map_cons, List.map_nil, zp, zu]) | refine And.intro ?_ (fun hif => (hif trivial).elim) | (intro hif; try (first | contradiction | (exfalso; omega))))
    refine awp_loop ?_
    refine ALoop.by [0, 3] (fun _ : Unit => [(0, .one (.sl ⟨ref, off, l.length⟩)), (3, .one (.int .i64 0))]) (fun _ => m) (fun _ => True) (fun _ => 0) () rfl rfl trivial ?_
    rintro _ _ K1 hK1
    repeat' (first | refine xA ?_ | refine xB ?_ | refine xC ?_ | refine xD ?_ | refine xE ?_ | refine xF ?_ | refine xG ?_ | refine xH ?_ | refine xI rfl ?_ | refine xJ ?_ | refine xK ?_ | refine xL ?_ | refine xM rfl ?_ | refine xN rfl ?_ | refine xO rfl ?_ | (first | refine xP rfl (fun hif => ?_) (fun hif => ?_) | refine xQ rfl (fun hif => ?_) (fun hif => ?_) | refine xR rfl (fun hif => ?_) (fun hif => ?_) | refine xS rfl (fun hif => ?_) (fun hif => ?_)) <;> try (first | contradiction | (exfalso; omega)) | (refine hK _ _ ?_; clear hK K) | refine AQuiet.call ((spec_l1In (l.length : Int) 1 5 _).no c) trivial ?_ | (refine And.intro (by first | omega | assumption | (constructor <;> omega)) ?_) | (refine And.intro (fun hif => ?_) (fun hif => ?_) <;> try (first | contradiction | (exfalso; omega))) | ((first | refine xT fun K hK => ?_ | refine xU fun K hK => ?_ | refine yB (fun K hK => ?_) (fun K hK => ?_) | refine xV ?_ | refine yA ?_ | refine xW ?_ | refine xX ?_ | refine xY ?_ | refine xZ ?_) <;> simp only [↓awpOps, ↓awpKeep, ↓awpKeepF, ↓aop, ↓aopQ, ↓abin, ↓aun, ↓onSome_some, ↓Kont_at, ↓KM_at, ↓KV_at, ↓KU_at, refId_row, Frame.ev, Frame.evs, Frame.evOr, Frame.put, Frame.keep, get_nil, get_cons, argFrame, resOf, fillA, Vals.len, Vals.get, Vals.set, Vals.app, Vals.sub, Vals.take, Vals.ofAgg_cons, Vals.ofList, Vals.toInts, Vals.toBools, Vals.toSls, Vals.toStrs, Vals.zeros, Nat.reduceBEq, Nat.reduceAdd, Nat.reduceEqDiff, cond_true, cond_false, Option.map_some, Option.map_none, List.length_cons, List.length_nil, List.replicate, List.set_cons_zero, List.set_cons_succ, Nat.reduceLT, Bool.not_true, Bool.not_false, Int.toNat_natCast, inR, Nat.zero_add, Int.toNat_zero, reduceCtorEq, IntKind.bits, List.nil_append, List.cons_append, Nat.add_zero, Nat.sub_zero, noughts_len, List.map_cons, List.map_nil, zp, zu]) | refine And.intro ?_ (fun hif => (hif trivial).elim) | (intro hif; try (first | contradiction | (exfalso; omega))))
    all_goals (first | exact List.prefix_rfl | exact ⟨rfl, List.prefix_rfl⟩ | exact ⟨by simp, List.prefix_rfl⟩)

theorem tabOk_b {s : SV} {l : List Int} {m : Heap} (b : Bool) (hs : IsInts .i64 m s l) (hbig : l.length ≤ 1048576) (hb : decide (TabOk l) = b) : AQuiet Try.prog F.spec_TableOk [.one (.sl s)] m (.one (.bool b)) := hb ▸ spec_TableOk hbig s l m hs

/-! ### The net of a table, choice by choice -/

def partF_t (l : List Int) (n x y : Nat) : Bool := (List.range n).any fun k => (decide ((l.getD k 0) = x) && decide ((l.getD k 0) + k + 1 = y)) || (decide ((l.getD k 0) = y) && decide ((l.getD k 0) + k + 1 = x))
theorem partF_t_step (l : List Int) (k x y : Nat) : partF_t l (k + 1) x y = (partF_t l k x y || ((decide ((l.getD k 0) = x) && decide ((l.getD k 0) + k + 1 = y)) || (decide ((l.getD k 0) = y) && decide ((l.getD k 0) + k + 1 = x)))) := by
  unfold partF_t
  rw [List.range_succ, List.any_append]
  simp
def partN_t (l : List Int) (n k : Nat) : List Int := netBy (partF_t l k) n
theorem setN_none : ∀ n, setN (fun _ => false) n = 0
  | 0 => rfl
  | n + 1 => by rw [setN_step, setN_none n]; rfl
theorem partN_t_none (l : List Int) (n : Nat) : partN_t l n 0 = List.replicate n 0 := by
  refine List.ext_getElem (by simp [partN_t, netBy_len]) fun i h1 h2 => ?_
  have hi : i < n := by simpa [partN_t, netBy_len] using h1
  have e1 : (partN_t l n 0).getD i 0 = (partN_t l n 0)[i] := by rw [List.getD_eq_getElem?_getD, List.getElem?_eq_getElem h1]; rfl
  have hz : setN (partF_t l 0 i) n = 0 := (setN_congr (g := fun _ => false) fun _ _ => rfl).trans (setN_none n)
  rw [← e1, partN_t, netBy_get _ hi, hz]
  simp
theorem setN_add {f g : Nat → Bool} {n b : Nat} (hb : b < n) (h : ∀ j, j < n → g j = (f j || decide (j = b))) : setN g n = setN f n ||| 2 ^ b := by
  apply Nat.eq_of_testBit_eq
  intro j
  rw [setN_bit, Nat.testBit_or, setN_bit, Nat.testBit_two_pow]
  by_cases hj : j < n
  · rw [decide_eq_true hj, Bool.true_and, Bool.true_and, h j hj]
    congr 1
    exact decide_eq_decide.2 ⟨fun c => c.symm, fun c => c.symm⟩
  · rw [decide_eq_false hj, Bool.false_and, Bool.false_and, decide_eq_false (show ¬ b = j by omega)]
    rfl
theorem partN_step {l : List Int} {n k a : Nat} (ha : (l.getD k 0) = (a : Int)) (hb : a + k + 1 < n) :
    ((partN_t l n k).set a ((setN (partF_t l k a) n ||| 2 ^ (a + k + 1) : Nat) : Int)).set (a + k + 1) ((setN (partF_t l k (a + k + 1)) n ||| 2 ^ a : Nat) : Int) = partN_t l n (k + 1) := by
  have hl : ∀ j, (partN_t l n j).length = n := fun j => netBy_len _ _
  refine List.ext_getElem (by rw [List.length_set, List.length_set, hl, hl]) fun i h1 h2 => ?_
  have hi : i < n := by rw [hl] at h2; exact h2
  have e2 : (partN_t l n (k + 1)).getD i 0 = (partN_t l n (k + 1))[i] := by rw [List.getD_eq_getElem?_getD, List.getElem?_eq_getElem h2]; rfl
  have e0 : (partN_t l n k)[i]'(by rw [hl]; exact hi) = (setN (partF_t l k i) n : Int) := by
    rw [← netBy_get (partF_t l k) hi]
    show _ = (partN_t l n k).getD i 0
    rw [List.getD_eq_getElem?_getD, List.getElem?_eq_getElem (by rw [hl]; exact hi)]; rfl
  have e3 : (partN_t l n (k + 1)).getD i 0 = (setN (partF_t l (k + 1) i) n : Int) := netBy_get _ hi
  rw [← e2, e3, List.getElem_set, List.getElem_set, e0]
  have hstep := fun y => partF_t_step l k i y
  rw [ha] at hstep
  by_cases c1 : a + k + 1 = i
  · subst c1
    rw [if_pos rfl]
    congr 1
    exact (setN_add (by omega) fun j _ => by
      rw [hstep]
      congr 1
      rw [show decide ((a : Int) = ((a + k + 1 : Nat) : Int)) = false from decide_eq_false (by omega), Bool.false_and, Bool.false_or]
      rw [decide_eq_true (show (a : Int) + k + 1 = ((a + k + 1 : Nat) : Int) by omega), Bool.and_true]
      exact decide_eq_decide.2 (by omega)).symm
  · rw [if_neg c1]
    by_cases c2 : a = i
    · subst c2
      rw [if_pos rfl]
      congr 1
      exact (setN_add hb fun j _ => by
        rw [hstep]
        congr 1
        rw [decide_eq_true (show (a : Int) = (a : Int) from rfl), Bool.true_and, decide_eq_false (show ¬ ((a : Int) + k + 1 = (a : Int)) by omega), Bool.and_false, Bool.or_false]
        exact decide_eq_decide.2 (by omega)).symm
    · rw [if_neg c2]
      congr 1
      refine setN_congr fun j _ => ?_
      rw [hstep, decide_eq_false (show ¬ (a : Int) = (i : Int) by omega), Bool.false_and, Bool.false_or, decide_eq_false (show ¬ (a : Int) + k + 1 = (i : Int) by omega), Bool.and_false, Bool.or_false]

theorem setN_or6 {f : Nat → Bool} {n b : Nat} (hn : n ≤ 6) (hb : b < 6) : borInt .i64 (setN f n : Int) (2 ^ b) = ((setN f n ||| 2 ^ b : Nat) : Int) := by
  have h1 := setN_lt f n
  have h2 : 2 ^ n ≤ 2 ^ 6 := Nat.pow_le_pow_right (by decide) hn
  have h3 : 2 ^ b ≤ 2 ^ 6 := Nat.pow_le_pow_right (by decide) (Nat.le_of_lt hb)
  rw [pow_nat]
  exact bor_nat _ _ (by omega) (by omega)

set_option maxHeartbeats 4000000 in
theorem spec_TableNet {l : List Int} (hbig : l.length ≤ 1048576) (s : SV) (_ : List Int) (m : Heap) (hs : IsInts .i64 m s l) : ARet Try.prog F.spec_TableNet [.one (.sl s)] m Ty.int (.ints .i64 (tabNet l)) := by
  refine arn T.spec_TableNet (by rfl) fun hwf => ?_
  by_cases hT : TabOk l
  · have cT := tabOk_b true hs hbig (decide_eq_true hT)
    have h5 := hT.five
    have hlow := hT.low
    have hV : tabNet l = partN_t l (l.length + 1) l.length := if_pos hT
    rw [hV]
    obtain ⟨ref, off, len⟩ := s
    obtain rfl : len = l.length := hs.1
    have hln : ∀ j, (partN_t l (l.length + 1) j).length = l.length + 1 := fun j => netBy_len _ _
    have htn : ((l.length : Int) + 1).toNat = l.length + 1 := by omega
    repeat' (first | refine xA ?_ | refine xB ?_ | refine xC ?_ | refine xD ?_ | refine xE ?_ | refine xF ?_ | refine xG ?_ | refine xH ?_ | refine xI rfl ?_ | refine xJ ?_ | refine xK ?_ | refine xL ?_ | refine xM rfl ?_ | refine xN rfl ?_ | refine xO rfl ?_ | (first | refine xP rfl (fun hif => ?_) (fun hif => ?_) | refine xQ rfl (fun hif => ?_) (fun hif => ?_) | refine xR rfl (fun hif => ?_) (fun hif => ?_) | refine xS rfl (fun hif => ?_) (fun hif => ?_)) <;> try (first | contradiction | (exfalso; omega)) | (refine hK _ _ ?_; clear hK K) | refine AQuiet.call cT trivial ?_ | (refine And.intro (by first | omega | assumption | (constructor <;> omega)) ?_) | (refine And.intro (fun hif => ?_) (fun hif => ?_) <;> try (first | contradiction | (exfalso; omega))) | ((first | refine xT fun K hK => ?_ | refine xU fun K hK => ?_ | refine yB (fun K hK => ?_) (fun K hK => ?_) | refine xV ?_ | refine yA ?_ | refine xW ?_ | refine xX ?_ | refine xY ?_ | refine xZ ?_) <;> simp only [↓awpOps, ↓awpKeep, ↓awpKeepF, ↓aop, ↓aopQ, ↓abin, ↓aun, ↓onSome_some, ↓Kont_at, ↓KM_at, ↓KV_at, ↓KU_at, refId_row, Frame.ev, Frame.evs, Frame.evOr, Frame.put, Frame.keep, get_nil, get_cons, argFrame, resOf, fillA, Vals.len, Vals.get, Vals.set, Vals.app, Vals.sub, Vals.take, Vals.ofAgg_cons, Vals.ofList, Vals.toInts, Vals.toBools, Vals.toSls, Vals.toStrs, Vals.zeros, Nat.reduceBEq, Nat.reduceAdd, Nat.reduceEqDiff, cond_true, cond_false, Option.map_some, Option.map_none, List.length_cons, List.length_nil, List.replicate, List.set_cons_zero, List.set_cons_succ, Nat.reduceLT, Bool.not_true, Bool.not_false, Int.toNat_natCast, inR, Nat.zero_add, Int.toNat_zero, reduceCtorEq, IntKind.bits, List.nil_append, List.cons_append, Nat.add_zero, Nat.sub_zero, noughts_len, List.map_cons, List.map_nil, zp, zu]) | refine And.intro ?_ (fun hif => (hif trivial).elim) | (intro hif; try (first | contradiction | (exfalso; omega))))
    refine awp_loop ?_
    refine ALoop.by [0, 3, 4] (fun k : Nat => [(0, .one (.sl ⟨ref, off, l.length⟩)), (3, .one (.sl ⟨.row m.length, 0, l.length + 1⟩)), (4, .one (.int .i64 k))]) (fun k => m ++ [⟨Ty.int, m.length, true, .ints .i64 (partN_t l (l.length + 1) k)⟩]) (fun k => k ≤ l.length) (fun k => l.length - k) 0 (by rw [htn]; rfl) (by rw [partN_t_none, htn]) (Nat.zero_le _) ?_
    intro k hk K1 hK1
    by_cases hlt : k < l.length
    · have hat := (hs.pre (prefix_push m ⟨Ty.int, m.length, true, .ints .i64 (partN_t l (l.length + 1) k)⟩)).2 k hlt
      have hd := hlow k hlt
      obtain ⟨a, ha⟩ := Int.eq_ofNat_of_zero_le hd.1
      have hst := partN_step (n := l.length + 1) ha (by omega)
      rw [ha] at hat hd
      have hpa := pow_bounds (p := a) (by omega)
      have hpb := pow_bounds (p := a + k + 1) (by omega)
      have ebi : (a : Int) + k + 1 = ((a + k + 1 : Nat) : Int) := by omega
      have l1 := at_row (off := a) (get_last m ⟨Ty.int, m.length, true, .ints .i64 (partN_t l (l.length + 1) k)⟩) (by simp only [Vals.len, hln]; omega)
      have v1 : (partN_t l (l.length + 1) k).getD a 0 = (setN (partF_t l k a) (l.length + 1) : Int) := netBy_get _ (by omega)
      have v2 : ((partN_t l (l.length + 1) k).set a ((setN (partF_t l k a) (l.length + 1) ||| 2 ^ (a + k + 1) : Nat) : Int)).getD (a + k + 1) 0 = (setN (partF_t l k (a + k + 1)) (l.length + 1) : Int) := by
        rw [List.getD_eq_getElem?_getD, List.getElem?_set_ne (by omega), ← List.getD_eq_getElem?_getD]
        exact netBy_get _ (by omega)
      simp only [Vals.get, v1] at l1
      have l2 := at_row (off := a + k + 1) (get_last m ⟨Ty.int, m.length, true, .ints .i64 ((partN_t l (l.length + 1) k).set a ((setN (partF_t l k a) (l.length + 1) ||| 2 ^ (a + k + 1) : Nat) : Int))⟩) (by simp only [Vals.len, List.length_set, hln]; omega)
      simp only [Vals.get, v2] at l2
      have o1 := setN_or6 (f := partF_t l k a) (n := l.length + 1) (b := a + k + 1) (by omega) (by omega)
      have o2 := setN_or6 (f := partF_t l k (a + k + 1)) (n := l.length + 1) (b := a) (by omega) (by omega)
      repeat' (first | refine xA ?_ | refine xB ?_ | refine xC ?_ | refine xD ?_ | refine xE ?_ | refine xF ?_ | refine xG ?_ | refine xH ?_ | refine xI rfl ?_ | refine xJ ?_ | refine xK ?_ | refine xL ?_ | refine xM rfl ?_ | refine xN rfl ?_ | refine xO rfl ?_ | (first | refine xP rfl (fun hif => ?_) (fun hif => ?_) | refine xQ rfl (fun hif => ?_) (fun hif => ?_) | refine xR rfl (fun hif => ?_) (fun hif => ?_) | refine xS rfl (fun hif => ?_) (fun hif => ?_)) <;> try (first | contradiction | (exfalso; omega)) | (refine hK _ _ ?_; clear hK K) | refine onSome_of hat ?_ | rw [ebi] | refine onSome_of l1 ?_ | refine onSome_of l2 ?_ | rw [o1] | rw [o2] | refine st_last hwf (by simp only [Vals.len, List.length_set, hln]; omega) rfl ?_ | (refine And.intro (by first | omega | assumption | (constructor <;> omega)) ?_) | (refine And.intro (fun hif => ?_) (fun hif => ?_) <;> try (first | contradiction | (exfalso; omega))) | ((first | refine xT fun K hK => ?_ | refine xU fun K hK => ?_ | refine yB (fun K hK => ?_) (fun K hK => ?_) | refine xV ?_ | refine yA ?_ | refine xW ?_ | refine xX ?_ | refine xY ?_ | refine xZ ?_) <;> simp only [↓awpOps, ↓awpKeep, ↓awpKeepF, ↓aop, ↓aopQ, ↓abin, ↓aun, ↓onSome_some, ↓Kont_at, ↓KM_at, ↓KV_at, ↓KU_at, refId_row, Frame.ev, Frame.evs, Frame.evOr, Frame.put, Frame.keep, get_nil, get_cons, argFrame, resOf, fillA, Vals.len, Vals.get, Vals.set, Vals.app, Vals.sub, Vals.take, Vals.ofAgg_cons, Vals.ofList, Vals.toInts, Vals.toBools, Vals.toSls, Vals.toStrs, Vals.zeros, Nat.reduceBEq, Nat.reduceAdd, Nat.reduceEqDiff, cond_true, cond_false, Option.map_some, Option.map_none, List.length_cons, List.length_nil, List.replicate, List.set_cons_zero, List.set_cons_succ, Nat.reduceLT, Bool.not_true, Bool.not_false, Int.toNat_natCast, inR, Nat.zero_add, Int.toNat_zero, reduceCtorEq, IntKind.bits, List.nil_append, List.cons_append, Nat.add_zero, Nat.sub_zero, noughts_len, List.map_cons, List.map_nil, zp, zu]) | refine And.intro ?_ (fun hif => (hif trivial).elim) | (intro hif; try (first | contradiction | (exfalso; omega))))
      refine hK1 (k + 1) _ _ rfl ?_ (by omega) (by omega)
      rw [hst]
    · obtain rfl : k = l.length := by omega
      repeat' (first | refine xA ?_ | refine xB ?_ | refine xC ?_ | refine xD ?_ | refine xE ?_ | refine xF ?_ | refine xG ?_ | refine xH ?_ | refine xI rfl ?_ | refine xJ ?_ | refine xK ?_ | refine xL ?_ | refine xM rfl ?_ | refine xN rfl ?_ | refine xO rfl ?_ | (first | refine xP rfl (fun hif => ?_) (fun hif => ?_) | refine xQ rfl (fun hif => ?_) (fun hif => ?_) | refine xR rfl (fun hif => ?_) (fun hif => ?_) | refine xS rfl (fun hif => ?_) (fun hif => ?_)) <;> try (first | contradiction | (exfalso; omega)) | (refine hK _ _ ?_; clear hK K) | (refine And.intro (by first | omega | assumption | (constructor <;> omega)) ?_) | (refine And.intro (fun hif => ?_) (fun hif => ?_) <;> try (first | contradiction | (exfalso; omega))) | ((first | refine xT fun K hK => ?_ | refine xU fun K hK => ?_ | refine yB (fun K hK => ?_) (fun K hK => ?_) | refine xV ?_ | refine yA ?_ | refine xW ?_ | refine xX ?_ | refine xY ?_ | refine xZ ?_) <;> simp only [↓awpOps, ↓awpKeep, ↓awpKeepF, ↓aop, ↓aopQ, ↓abin, ↓aun, ↓onSome_some, ↓Kont_at, ↓KM_at, ↓KV_at, ↓KU_at, refId_row, Frame.ev, Frame.evs, Frame.evOr, Frame.put, Frame.keep, get_nil, get_cons, argFrame, resOf, fillA, Vals.len, Vals.get, Vals.set, Vals.app, Vals.sub, Vals.take, Vals.ofAgg_cons, Vals.ofList, Vals.toInts, Vals.toBools, Vals.toSls, Vals.toStrs, Vals.zeros, Nat.reduceBEq, Nat.reduceAdd, Nat.reduceEqDiff, cond_true, cond_false, Option.map_some, Option.map_none, List.length_cons, List.length_nil, List.replicate, List.set_cons_zero, List.set_cons_succ, Nat.reduceLT, Bool.not_true, Bool.not_false, Int.toNat_natCast, inR, Nat.zero_add, Int.toNat_zero, reduceCtorEq, IntKind.bits, List.nil_append, List.cons_append, Nat.add_zero, Nat.sub_zero, noughts_len, List.map_cons, List.map_nil, zp, zu]) | refine And.intro ?_ (fun hif => (hif trivial).elim) | (intro hif; try (first | contradiction | (exfalso; omega))))
      exact ⟨_, rfl, Grow.push hwf _ _ _, obj_new _ _ (by simp only [Vals.len, hln]) (Nat.le_refl _) (by simp)⟩
  · have cT := tabOk_b false hs hbig (decide_eq_false hT)
    rw [tabNet, if_neg hT]
    repeat' (first | refine xA ?_ | refine xB ?_ | refine xC ?_ | refine xD ?_ | refine xE ?_ | refine xF ?_ | refine xG ?_ | refine xH ?_ | refine xI rfl ?_ | refine xJ ?_ | refine xK ?_ | refine xL ?_ | refine xM rfl ?_ | refine xN rfl ?_ | refine xO rfl ?_ | (first | refine xP rfl (fun hif => ?_) (fun hif => ?_) | refine xQ rfl (fun hif => ?_) (fun hif => ?_) | refine xR rfl (fun hif => ?_) (fun hif => ?_) | refine xS rfl (fun hif => ?_) (fun hif => ?_)) <;> try (first | contradiction | (exfalso; omega)) | (refine hK _ _ ?_; clear hK K) | refine AQuiet.call cT trivial ?_ | (refine And.intro (by first | omega | assumption | (constructor <;> omega)) ?_) | (refine And.intro (fun hif => ?_) (fun hif => ?_) <;> try (first | contradiction | (exfalso; omega))) | ((first | refine xT fun K hK => ?_ | refine xU fun K hK => ?_ | refine yB (fun K hK => ?_) (fun K hK => ?_) | refine xV ?_ | refine yA ?_ | refine xW ?_ | refine xX ?_ | refine xY ?_ | refine xZ ?_) <;> simp only [↓awpOps, ↓awpKeep, ↓awpKeepF, ↓aop, ↓aopQ, ↓abin, ↓aun, ↓onSome_some, ↓Kont_at, ↓KM_at, ↓KV_at, ↓KU_at, refId_row, Frame.ev, Frame.evs, Frame.evOr, Frame.put, Frame.keep, get_nil, get_cons, argFrame, resOf, fillA, Vals.len, Vals.get, Vals.set, Vals.app, Vals.sub, Vals.take, Vals.ofAgg_cons, Vals.ofList, Vals.toInts, Vals.toBools, Vals.toSls, Vals.toStrs, Vals.zeros, Nat.reduceBEq, Nat.reduceAdd, Nat.reduceEqDiff, cond_true, cond_false, Option.map_some, Option.map_none, List.length_cons, List.length_nil, List.replicate, List.set_cons_zero, List.set_cons_succ, Nat.reduceLT, Bool.not_true, Bool.not_false, Int.toNat_natCast, inR, Nat.zero_add, Int.toNat_zero, reduceCtorEq, IntKind.bits, List.nil_append, List.cons_append, Nat.add_zero, Nat.sub_zero, noughts_len, List.map_cons, List.map_nil, zp, zu]) | refine And.intro ?_ (fun hif => (hif trivial).elim) | (intro hif; try (first | contradiction | (exfalso; omega))))
    all_goals exact ⟨_, rfl, Grow.push hwf _ _ _, obj_new _ _ rfl (Nat.le_refl _) (by simp)⟩

/-! ### Counting tables -/

theorem fac_step (n : Nat) : fac (n + 1) = fac n * (n + 1) := rfl
theorem fac_small : ∀ n, n < 6 → fac n ≤ 120 := by decide
theorem fac_pos : ∀ n, 1 ≤ fac n
  | 0 => Nat.le_refl 1
  | n + 1 => Nat.mul_pos (fac_pos n) (Nat.succ_pos n)

theorem spec_TablesMany (c : Int) (m : Heap) : AQuiet Try.prog F.spec_TablesMany [.one (.int .i64 c)] m (.one (.int .i64 (tabMany c))) := by
  refine aqn T.spec_TablesMany (by rfl) ?_
  by_cases h : 1 ≤ c ∧ c ≤ 5
  · rw [tabMany, if_pos h]
    obtain ⟨n, rfl⟩ := Int.eq_ofNat_of_zero_le (show 0 ≤ c by omega)
    rw [Int.toNat_natCast]
    repeat' (first | refine xA ?_ | refine xB ?_ | refine xC ?_ | refine xD ?_ | refine xE ?_ | refine xF ?_ | refine xG ?_ | refine xH ?_ | refine xI rfl ?_ | refine xJ ?_ | refine xK ?_ | refine xL ?_ | refine xM rfl ?_ | refine xN rfl ?_ | refine xO rfl ?_ | (first | refine xP rfl (fun hif => ?_) (fun hif => ?_) | refine xQ rfl (fun hif => ?_) (fun hif => ?_) | refine xR rfl (fun hif => ?_) (fun hif => ?_) | refine xS rfl (fun hif => ?_) (fun hif => ?_)) <;> try (first | contradiction | (exfalso; omega)) | (refine hK _ _ ?_; clear hK K) | refine AQuiet.call ((spec_l1In (n : Int) 1 5 _).yes h) trivial ?_ | (refine And.intro (by first | omega | assumption | (constructor <;> omega)) ?_) | (refine And.intro (fun hif => ?_) (fun hif => ?_) <;> try (first | contradiction | (exfalso; omega))) | ((first | refine xT fun K hK => ?_ | refine xU fun K hK => ?_ | refine yB (fun K hK => ?_) (fun K hK => ?_) | refine xV ?_ | refine yA ?_ | refine xW ?_ | refine xX ?_ | refine xY ?_ | refine xZ ?_) <;> simp only [↓awpOps, ↓awpKeep, ↓awpKeepF, ↓aop, ↓aopQ, ↓abin, ↓aun, ↓onSome_some, ↓Kont_at, ↓KM_at, ↓KV_at, ↓KU_at, refId_row, Frame.ev, Frame.evs, Frame.evOr, Frame.put, Frame.keep, get_nil, get_cons, argFrame, resOf, fillA, Vals.len, Vals.get, Vals.set, Vals.app, Vals.sub, Vals.take, Vals.ofAgg_cons, Vals.ofList, Vals.toInts, Vals.toBools, Vals.toSls, Vals.toStrs, Vals.zeros, Nat.reduceBEq, Nat.reduceAdd, Nat.reduceEqDiff, cond_true, cond_false, Option.map_some, Option.map_none, List.length_cons, List.length_nil, List.replicate, List.set_cons_zero, List.set_cons_succ, Nat.reduceLT, Bool.not_true, Bool.not_false, Int.toNat_natCast, inR, Nat.zero_add, Int.toNat_zero, reduceCtorEq, IntKind.bits, List.nil_append, List.cons_append, Nat.add_zero, Nat.sub_zero, noughts_len, List.map_cons, List.map_nil, zp, zu]) | refine And.intro ?_ (fun hif => (hif trivial).elim) | (intro hif; try (first | contradiction | (exfalso; omega))))
    refine awp_loop ?_
    refine ALoop.by [0, 3, 4] (fun k : Nat => [(0, .one (.int .i64 (n : Int))), (3, .one (.int .i64 (fac k))), (4, .one (.int .i64 ((k : Int) + 1)))]) (fun _ => m) (fun k => k ≤ n) (fun k => n - k) 0 rfl rfl (Nat.zero_le _) ?_
    rintro k hk K1 hK1
    have hf := fac_small k (by omega)
    by_cases hlt : k < n
    · have hst : (fac k : Int) * ((k : Int) + 1) = (fac (k + 1) : Int) := by rw [fac_step]; simp
      have hf2 := fac_small (k + 1) (by omega)
      repeat' (first | refine xA ?_ | refine xB ?_ | refine xC ?_ | refine xD ?_ | refine xE ?_ | refine xF ?_ | refine xG ?_ | refine xH ?_ | refine xI rfl ?_ | refine xJ ?_ | refine xK ?_ | refine xL ?_ | refine xM rfl ?_ | refine xN rfl ?_ | refine xO rfl ?_ | (first | refine xP rfl (fun hif => ?_) (fun hif => ?_) | refine xQ rfl (fun hif => ?_) (fun hif => ?_) | refine xR rfl (fun hif => ?_) (fun hif => ?_) | refine xS rfl (fun hif => ?_) (fun hif => ?_)) <;> try (first | contradiction | (exfalso; omega)) | (refine hK _ _ ?_; clear hK K) | rw [hst] | (refine And.intro (by first | omega | assumption | (constructor <;> omega)) ?_) | (refine And.intro (fun hif => ?_) (fun hif => ?_) <;> try (first | contradiction | (exfalso; omega))) | ((first | refine xT fun K hK => ?_ | refine xU fun K hK => ?_ | refine yB (fun K hK => ?_) (fun K hK => ?_) | refine xV ?_ | refine yA ?_ | refine xW ?_ | refine xX ?_ | refine xY ?_ | refine xZ ?_) <;> simp only [↓awpOps, ↓awpKeep, ↓awpKeepF, ↓aop, ↓aopQ, ↓abin, ↓aun, ↓onSome_some, ↓Kont_at, ↓KM_at, ↓KV_at, ↓KU_at, refId_row, Frame.ev, Frame.evs, Frame.evOr, Frame.put, Frame.keep, get_nil, get_cons, argFrame, resOf, fillA, Vals.len, Vals.get, Vals.set, Vals.app, Vals.sub, Vals.take, Vals.ofAgg_cons, Vals.ofList, Vals.toInts, Vals.toBools, Vals.toSls, Vals.toStrs, Vals.zeros, Nat.reduceBEq, Nat.reduceAdd, Nat.reduceEqDiff, cond_true, cond_false, Option.map_some, Option.map_none, List.length_cons, List.length_nil, List.replicate, List.set_cons_zero, List.set_cons_succ, Nat.reduceLT, Bool.not_true, Bool.not_false, Int.toNat_natCast, inR, Nat.zero_add, Int.toNat_zero, reduceCtorEq, IntKind.bits, List.nil_append, List.cons_append, Nat.add_zero, Nat.sub_zero, noughts_len, List.map_cons, List.map_nil, zp, zu]) | refine And.intro ?_ (fun hif => (hif trivial).elim) | (intro hif; try (first | contradiction | (exfalso; omega))))
      all_goals exact hK1 (k + 1) _ _ rfl rfl (by omega) (by omega)
    · obtain rfl : k = n := by omega
      repeat' (first | refine xA ?_ | refine xB ?_ | refine xC ?_ | refine xD ?_ | refine xE ?_ | refine xF ?_ | refine xG ?_ | refine xH ?_ | refine xI rfl ?_ | refine xJ ?_ | refine xK ?_ | refine xL ?_ | refine xM rfl ?_ | refine xN rfl ?_ | refine xO rfl ?_ | (first | refine xP rfl (fun hif => ?_) (fun hif => ?_) | refine xQ rfl (fun hif => ?_) (fun hif => ?_) | refine xR rfl (fun hif => ?_) (fun hif => ?_) | refine xS rfl (fun hif => ?_) (fun hif => ?_)) <;> try (first | contradiction | (exfalso; omega)) | (refine hK _ _ ?_; clear hK K) | (refine And.intro (by first | omega | assumption | (constructor <;> omega)) ?_) | (refine And.intro (fun hif => ?_) (fun hif => ?_) <;> try (first | contradiction | (exfalso; omega))) | ((first | refine xT fun K hK => ?_ | refine xU fun K hK => ?_ | refine yB (fun K hK => ?_) (fun K hK => ?_) | refine xV ?_ | refine yA ?_ | refine xW ?_ | refine xX ?_ | refine xY ?_ | refine xZ ?_) <;> simp only [↓awpOps, ↓awpKeep, ↓awpKeepF, ↓aop, ↓aopQ, ↓abin, ↓aun, ↓onSome_some, ↓Kont_at, ↓KM_at, ↓KV_at, ↓KU_at, refId_row, Frame.ev, Frame.evs, Frame.evOr, Frame.put, Frame.keep, get_nil, get_cons, argFrame, resOf, fillA, Vals.len, Vals.get, Vals.set, Vals.app, Vals.sub, Vals.take, Vals.ofAgg_cons, Vals.ofList, Vals.toInts, Vals.toBools, Vals.toSls, Vals.toStrs, Vals.zeros, Nat.reduceBEq, Nat.reduceAdd, Nat.reduceEqDiff, cond_true, cond_false, Option.map_some, Option.map_none, List.length_cons, List.length_nil, List.replicate, List.set_cons_zero, List.set_cons_succ, Nat.reduceLT, Bool.not_true, Bool.not_false, Int.toNat_natCast, inR, Nat.zero_add, Int.toNat_zero, reduceCtorEq, IntKind.bits, List.nil_append, List.cons_append, Nat.add_zero, Nat.sub_zero, noughts_len, List.map_cons, List.map_nil, zp, zu]) | refine And.intro ?_ (fun hif => (hif trivial).elim) | (intro hif; try (first | contradiction | (exfalso; omega))))
      all_goals (first | exact List.prefix_rfl | exact ⟨rfl, List.prefix_rfl⟩ | exact ⟨by simp, List.prefix_rfl⟩)
  · rw [tabMany, if_neg h]
    repeat' (first | refine xA ?_ | refine xB ?_ | refine xC ?_ | refine xD ?_ | refine xE ?_ | refine xF ?_ | refine xG ?_ | refine xH ?_ | refine xI rfl ?_ | refine xJ ?_ | refine xK ?_ | refine xL ?_ | refine xM rfl ?_ | refine xN rfl ?_ | refine xO rfl ?_ | (first | refine xP rfl (fun hif => ?_) (fun hif => ?_) | refine xQ rfl (fun hif => ?_) (fun hif => ?_) | refine xR rfl (fun hif => ?_) (fun hif => ?_) | refine xS rfl (fun hif => ?_) (fun hif => ?_)) <;> try (first | contradiction | (exfalso; omega)) | (refine hK _ _ ?_; clear hK K) | refine AQuiet.call ((spec_l1In c 1 5 _).no h) trivial ?_ | (refine And.intro (by first | omega | assumption | (constructor <;> omega)) ?_) | (refine And.intro (fun hif => ?_) (fun hif => ?_) <;> try (first | contradiction | (exfalso; omega))) | ((first | refine xT fun K hK => ?_ | refine xU fun K hK => ?_ | refine yB (fun K hK => ?_) (fun K hK => ?_) | refine xV ?_ | refine yA ?_ | refine xW ?_ | refine xX ?_ | refine xY ?_ | refine xZ ?_) <;> simp only [↓awpOps, ↓awpKeep, ↓awpKeepF, ↓aop, ↓aopQ, ↓abin, ↓aun, ↓onSome_some, ↓Kont_at, ↓KM_at, ↓KV_at, ↓KU_at, refId_row, Frame.ev, Frame.evs, Frame.evOr, Frame.put, Frame.keep, get_nil, get_cons, argFrame, resOf, fillA, Vals.len, Vals.get, Vals.set, Vals.app, Vals.sub, Vals.take, Vals.ofAgg_cons, Vals.ofList, Vals.toInts, Vals.toBools, Vals.toSls, Vals.toStrs, Vals.zeros, Nat.reduceBEq, Nat.reduceAdd, Nat.reduceEqDiff, cond_true, cond_false, Option.map_some, Option.map_none, List.length_cons, List.length_nil, List.replicate, List.set_cons_zero, List.set_cons_succ, Nat.reduceLT, Bool.not_true, Bool.not_false, Int.toNat_natCast, inR, Nat.zero_add, Int.toNat_zero, reduceCtorEq, IntKind.bits, List.nil_append, List.cons_append, Nat.add_zero, Nat.sub_zero, noughts_len, List.map_cons, List.map_nil, zp, zu]) | refine And.intro ?_ (fun hif => (hif trivial).elim) | (intro hif; try (first | contradiction | (exfalso; omega))))
    all_goals (first | exact List.prefix_rfl | exact ⟨rfl, List.prefix_rfl⟩ | exact ⟨by simp, List.prefix_rfl⟩)

theorem num_bound {l : List Int} (h : TabOk l) : ∀ k, k ≤ l.length → 0 ≤ numTo l k ∧ numTo l k ≤ 100 * 10 ^ k
  | 0, _ => by simp [numTo]
  | k + 1, hk => by
    have ih := num_bound h k (by omega)
    have hl := h.low k (by omega)
    have h5 := h.five
    have hx : 0 ≤ (l.length : Int) - k ∧ (l.length : Int) - k ≤ 5 := by omega
    have p1 := Int.mul_nonneg ih.1 hx.1
    have p2 : numTo l k * ((l.length : Int) - k) ≤ numTo l k * 5 := Int.mul_le_mul_of_nonneg_left hx.2 ih.1
    have hp : (10 : Int) ^ (k + 1) = 10 ^ k * 10 := Int.pow_succ _ _
    have h1 : (0 : Int) < 10 ^ k := Int.pow_pos (by decide)
    rw [numTo_step, hp]
    omega

theorem spec_TableNumber {l : List Int} (hbig : l.length ≤ 1048576) (s : SV) (_ : List Int) (m : Heap) (hs : IsInts .i64 m s l) : AQuiet Try.prog F.spec_TableNumber [.one (.sl s)] m (.one (.int .i64 (tabNum l))) := by
  refine aqn T.spec_TableNumber (by rfl) ?_
  by_cases hT : TabOk l
  · have cT := tabOk_b true hs hbig (decide_eq_true hT)
    have h5 := hT.five
    have hlow := hT.low
    rw [tabNum, if_pos hT]
    obtain ⟨ref, off, len⟩ := s
    obtain rfl : len = l.length := hs.1
    repeat' (first | refine xA ?_ | refine xB ?_ | refine xC ?_ | refine xD ?_ | refine xE ?_ | refine xF ?_ | refine xG ?_ | refine xH ?_ | refine xI rfl ?_ | refine xJ ?_ | refine xK ?_ | refine xL ?_ | refine xM rfl ?_ | refine xN rfl ?_ | refine xO rfl ?_ | (first | refine xP rfl (fun hif => ?_) (fun hif => ?_) | refine xQ rfl (fun hif => ?_) (fun hif => ?_) | refine xR rfl (fun hif => ?_) (fun hif => ?_) | refine xS rfl (fun hif => ?_) (fun hif => ?_)) <;> try (first | contradiction | (exfalso; omega)) | (refine hK _ _ ?_; clear hK K) | refine AQuiet.call cT trivial ?_ | (refine And.intro (by first | omega | assumption | (constructor <;> omega)) ?_) | (refine And.intro (fun hif => ?_) (fun hif => ?_) <;> try (first | contradiction | (exfalso; omega))) | ((first | refine xT fun K hK => ?_ | refine xU fun K hK => ?_ | refine yB (fun K hK => ?_) (fun K hK => ?_) | refine xV ?_ | refine yA ?_ | refine xW ?_ | refine xX ?_ | refine xY ?_ | refine xZ ?_) <;> simp only [↓awpOps, ↓awpKeep, ↓awpKeepF, ↓aop, ↓aopQ, ↓abin, ↓aun, ↓onSome_some, ↓Kont_at, ↓KM_at, ↓KV_at, ↓KU_at, refId_row, Frame.ev, Frame.evs, Frame.evOr, Frame.put, Frame.keep, get_nil, get_cons, argFrame, resOf, fillA, Vals.len, Vals.get, Vals.set, Vals.app, Vals.sub, Vals.take, Vals.ofAgg_cons, Vals.ofList, Vals.toInts, Vals.toBools, Vals.toSls, Vals.toStrs, Vals.zeros, Nat.reduceBEq, Nat.reduceAdd, Nat.reduceEqDiff, cond_true, cond_false, Option.map_some, Option.map_none, List.length_cons, List.length_nil, List.replicate, List.set_cons_zero, List.set_cons_succ, Nat.reduceLT, Bool.not_true, Bool.not_false, Int.toNat_natCast, inR, Nat.zero_add, Int.toNat_zero, reduceCtorEq, IntKind.bits, List.nil_append, List.cons_append, Nat.add_zero, Nat.sub_zero, noughts_len, List.map_cons, List.map_nil, zp, zu]) | refine And.intro ?_ (fun hif => (hif trivial).elim) | (intro hif; try (first | contradiction | (exfalso; omega))))
    refine awp_loop ?_
    refine ALoop.by [0, 3, 4] (fun k : Nat => [(0, .one (.sl ⟨ref, off, l.length⟩)), (3, .one (.int .i64 (numTo l k))), (4, .one (.int .i64 k))]) (fun _ => m) (fun k => k ≤ l.length) (fun k => l.length - k) 0 rfl rfl (Nat.zero_le _) ?_
    intro k hk K1 hK1
    have hn := num_bound hT k hk
    have hpk : (10 : Int) ^ k ≤ 100000 := by
      have : (10 : Nat) ^ k ≤ 10 ^ 5 := Nat.pow_le_pow_right (by decide) (by omega)
      have e : (10 : Int) ^ k = ((10 ^ k : Nat) : Int) := by simp
      rw [e]; omega
    generalize (10 : Int) ^ k = z at hn hpk
    by_cases hlt : k < l.length
    · have hat := hs.2 k hlt
      have hd := hlow k hlt
      have hst := numTo_step l k
      have hx : 0 ≤ (l.length : Int) - k ∧ (l.length : Int) - k ≤ 5 := by omega
      have p1 := Int.mul_nonneg hn.1 hx.1
      have p2 : numTo l k * ((l.length : Int) - k) ≤ numTo l k * 5 := Int.mul_le_mul_of_nonneg_left hx.2 hn.1
      repeat' (first | refine xA ?_ | refine xB ?_ | refine xC ?_ | refine xD ?_ | refine xE ?_ | refine xF ?_ | refine xG ?_ | refine xH ?_ | refine xI rfl ?_ | refine xJ ?_ | refine xK ?_ | refine xL ?_ | refine xM rfl ?_ | refine xN rfl ?_ | refine xO rfl ?_ | (first | refine xP rfl (fun hif => ?_) (fun hif => ?_) | refine xQ rfl (fun hif => ?_) (fun hif => ?_) | refine xR rfl (fun hif => ?_) (fun hif => ?_) | refine xS rfl (fun hif => ?_) (fun hif => ?_)) <;> try (first | contradiction | (exfalso; omega)) | (refine hK _ _ ?_; clear hK K) | refine onSome_of hat ?_ | (refine And.intro (by first | omega | assumption | (constructor <;> omega)) ?_) | (refine And.intro (fun hif => ?_) (fun hif => ?_) <;> try (first | contradiction | (exfalso; omega))) | ((first | refine xT fun K hK => ?_ | refine xU fun K hK => ?_ | refine yB (fun K hK => ?_) (fun K hK => ?_) | refine xV ?_ | refine yA ?_ | refine xW ?_ | refine xX ?_ | refine xY ?_ | refine xZ ?_) <;> simp only [↓awpOps, ↓awpKeep, ↓awpKeepF, ↓aop, ↓aopQ, ↓abin, ↓aun, ↓onSome_some, ↓Kont_at, ↓KM_at, ↓KV_at, ↓KU_at, refId_row, Frame.ev, Frame.evs, Frame.evOr, Frame.put, Frame.keep, get_nil, get_cons, argFrame, resOf, fillA, Vals.len, Vals.get, Vals.set, Vals.app, Vals.sub, Vals.take, Vals.ofAgg_cons, Vals.ofList, Vals.toInts, Vals.toBools, Vals.toSls, Vals.toStrs, Vals.zeros, Nat.reduceBEq, Nat.reduceAdd, Nat.reduceEqDiff, cond_true, cond_false, Option.map_some, Option.map_none, List.length_cons, List.length_nil, List.replicate, List.set_cons_zero, List.set_cons_succ, Nat.reduceLT, Bool.not_true, Bool.not_false, Int.toNat_natCast, inR, Nat.zero_add, Int.toNat_zero, reduceCtorEq, IntKind.bits, List.nil_append, List.cons_append, Nat.add_zero, Nat.sub_zero, noughts_len, List.map_cons, List.map_nil, zp, zu]) | refine And.intro ?_ (fun hif => (hif trivial).elim) | (intro hif; try (first | contradiction | (exfalso; omega))))
      all_goals exact hK1 (k + 1) _ _ (by rw [hst]; rfl) rfl (by omega) (by omega)
    · obtain rfl : k = l.length := by omega
      repeat' (first | refine xA ?_ | refine xB ?_ | refine xC ?_ | refine xD ?_ | refine xE ?_ | refine xF ?_ | refine xG ?_ | refine xH ?_ | refine xI rfl ?_ | refine xJ ?_ | refine xK ?_ | refine xL ?_ | refine xM rfl ?_ | refine xN rfl ?_ | refine xO rfl ?_ | (first | refine xP rfl (fun hif => ?_) (fun hif => ?_) | refine xQ rfl (fun hif => ?_) (fun hif => ?_) | refine xR rfl (fun hif => ?_) (fun hif => ?_) | refine xS rfl (fun hif => ?_) (fun hif => ?_)) <;> try (first | contradiction | (exfalso; omega)) | (refine hK _ _ ?_; clear hK K) | (refine And.intro (by first | omega | assumption | (constructor <;> omega)) ?_) | (refine And.intro (fun hif => ?_) (fun hif => ?_) <;> try (first | contradiction | (exfalso; omega))) | ((first | refine xT fun K hK => ?_ | refine xU fun K hK => ?_ | refine yB (fun K hK => ?_) (fun K hK => ?_) | refine xV ?_ | refine yA ?_ | refine xW ?_ | refine xX ?_ | refine xY ?_ | refine xZ ?_) <;> simp only [↓awpOps, ↓awpKeep, ↓awpKeepF, ↓aop, ↓aopQ, ↓abin, ↓aun, ↓onSome_some, ↓Kont_at, ↓KM_at, ↓KV_at, ↓KU_at, refId_row, Frame.ev, Frame.evs, Frame.evOr, Frame.put, Frame.keep, get_nil, get_cons, argFrame, resOf, fillA, Vals.len, Vals.get, Vals.set, Vals.app, Vals.sub, Vals.take, Vals.ofAgg_cons, Vals.ofList, Vals.toInts, Vals.toBools, Vals.toSls, Vals.toStrs, Vals.zeros, Nat.reduceBEq, Nat.reduceAdd, Nat.reduceEqDiff, cond_true, cond_false, Option.map_some, Option.map_none, List.length_cons, List.length_nil, List.replicate, List.set_cons_zero, List.set_cons_succ, Nat.reduceLT, Bool.not_true, Bool.not_false, Int.toNat_natCast, inR, Nat.zero_add, Int.toNat_zero, reduceCtorEq, IntKind.bits, List.nil_append, List.cons_append, Nat.add_zero, Nat.sub_zero, noughts_len, List.map_cons, List.map_nil, zp, zu]) | refine And.intro ?_ (fun hif => (hif trivial).elim) | (intro hif; try (first | contradiction | (exfalso; omega))))
      all_goals (first | exact List.prefix_rfl | exact ⟨rfl, List.prefix_rfl⟩ | exact ⟨by simp, List.prefix_rfl⟩)
  · have cT := tabOk_b false hs hbig (decide_eq_false hT)
    rw [tabNum, if_neg hT]
    repeat' (first | refine xA ?_ | refine xB ?_ | refine xC ?_ | refine xD ?_ | refine xE ?_ | refine xF ?_ | refine xG ?_ | refine xH ?_ | refine xI rfl ?_ | refine xJ ?_ | refine xK ?_ | refine xL ?_ | refine xM rfl ?_ | refine xN rfl ?_ | refine xO rfl ?_ | (first | refine xP rfl (fun hif => ?_) (fun hif => ?_) | refine xQ rfl (fun hif => ?_) (fun hif => ?_) | refine xR rfl (fun hif => ?_) (fun hif => ?_) | refine xS rfl (fun hif => ?_) (fun hif => ?_)) <;> try (first | contradiction | (exfalso; omega)) | (refine hK _ _ ?_; clear hK K) | refine AQuiet.call cT trivial ?_ | (refine And.intro (by first | omega | assumption | (constructor <;> omega)) ?_) | (refine And.intro (fun hif => ?_) (fun hif => ?_) <;> try (first | contradiction | (exfalso; omega))) | ((first | refine xT fun K hK => ?_ | refine xU fun K hK => ?_ | refine yB (fun K hK => ?_) (fun K hK => ?_) | refine xV ?_ | refine yA ?_ | refine xW ?_ | refine xX ?_ | refine xY ?_ | refine xZ ?_) <;> simp only [↓awpOps, ↓awpKeep, ↓awpKeepF, ↓aop, ↓aopQ, ↓abin, ↓aun, ↓onSome_some, ↓Kont_at, ↓KM_at, ↓KV_at, ↓KU_at, refId_row, Frame.ev, Frame.evs, Frame.evOr, Frame.put, Frame.keep, get_nil, get_cons, argFrame, resOf, fillA, Vals.len, Vals.get, Vals.set, Vals.app, Vals.sub, Vals.take, Vals.ofAgg_cons, Vals.ofList, Vals.toInts, Vals.toBools, Vals.toSls, Vals.toStrs, Vals.zeros, Nat.reduceBEq, Nat.reduceAdd, Nat.reduceEqDiff, cond_true, cond_false, Option.map_some, Option.map_none, List.length_cons, List.length_nil, List.replicate, List.set_cons_zero, List.set_cons_succ, Nat.reduceLT, Bool.not_true, Bool.not_false, Int.toNat_natCast, inR, Nat.zero_add, Int.toNat_zero, reduceCtorEq, IntKind.bits, List.nil_append, List.cons_append, Nat.add_zero, Nat.sub_zero, noughts_len, List.map_cons, List.map_nil, zp, zu]) | refine And.intro ?_ (fun hif => (hif trivial).elim) | (intro hif; try (first | contradiction | (exfalso; omega))))
    all_goals (first | exact List.prefix_rfl | exact ⟨rfl, List.prefix_rfl⟩ | exact ⟨by simp, List.prefix_rfl⟩)

theorem tabAt_len (c n : Int) : (tabAt c n).length ≤ 1048576 := by
  unfold tabAt
  split
  · rename_i h
    have := h.1
    simp [atL]; omega
  · simp
theorem tabNet_len (l : List Int) : (tabNet l).length ≤ 1048576 := by
  by_cases h : TabOk l
  · rw [(tab_net h).2.1]; have := h.five; omega
  · rw [tabNet, if_neg h]; simp
theorem tableOf_len (net : List Int) : (tableOf net).length ≤ 1048576 := by
  unfold tableOf
  split
  · rename_i h
    have := h.1
    rw [tabL_len]; omega
  · simp

set_option maxHeartbeats 4000000 in
theorem spec_TableAt {c n : Int} {m : Heap} {K : XV → Heap → Prop}
    (hQ : ∀ (s' : SV) (m' : Heap), Grow 0 0 m m' → Held m.length m'.length m' s' (tabAt c n) → K (.tup [.sl s', .bool (decide (AtOk c n))]) m') : ACalls Try.prog F.spec_TableAt [.one (.int .i64 c), .one (.int .i64 n)] m K := by
  refine ACalls.wf fun hwf => afn T.spec_TableAt (by rfl) ?_
  by_cases h1 : 1 ≤ c ∧ c ≤ 5
  · have hm : tabMany c = fac c.toNat := if_pos h1
    have c1 := fun mm => (spec_l1In c 1 5 mm).yes h1
    have cm := fun mm => spec_TablesMany c mm
    rw [hm] at cm
    obtain ⟨u, rfl⟩ := Int.eq_ofNat_of_zero_le (show 0 ≤ c by omega)
    rw [Int.toNat_natCast] at cm
    have hfs := fac_small u (by omega)
    by_cases h2 : 0 ≤ n ∧ n ≤ (fac u : Int) - 1
    · have hA : AtOk u n := ⟨h1, by rw [Int.toNat_natCast]; exact h2⟩
      have c2 := fun mm => (spec_l1In n 0 ((fac u : Int) - 1) mm).yes h2
      obtain ⟨v, rfl⟩ := Int.eq_ofNat_of_zero_le h2.1
      rw [decide_eq_true hA, tabAt, if_pos hA, Int.toNat_natCast, Int.toNat_natCast] at hQ
      have hVl : (atL u v).length = u := by simp [atL]
      have hVk : ∀ k, k < u → (atL u v).getD k 0 = ((v / fac (u - 1 - k) % (u - k) : Nat) : Int) := fun k hk => by simp [atL, List.getD_eq_getElem?_getD, hk]
      generalize atL u v = V at *
      repeat' (first | refine xA ?_ | refine xB ?_ | refine xC ?_ | refine xD ?_ | refine xE ?_ | refine xF ?_ | refine xG ?_ | refine xH ?_ | refine xI rfl ?_ | refine xJ ?_ | refine xK ?_ | refine xL ?_ | refine xM rfl ?_ | refine xN rfl ?_ | refine xO rfl ?_ | (first | refine xP rfl (fun hif => ?_) (fun hif => ?_) | refine xQ rfl (fun hif => ?_) (fun hif => ?_) | refine xR rfl (fun hif => ?_) (fun hif => ?_) | refine xS rfl (fun hif => ?_) (fun hif => ?_)) <;> try (first | contradiction | (exfalso; omega)) | (refine hK _ _ ?_; clear hK K) | refine AQuiet.call (c1 _) trivial ?_ | refine AQuiet.call (cm _) trivial ?_ | refine AQuiet.callq (cm _) trivial ?_ | refine AQuiet.call (c2 _) trivial ?_ | (refine And.intro (by first | omega | assumption | (constructor <;> omega)) ?_) | (refine And.intro (fun hif => ?_) (fun hif => ?_) <;> try (first | contradiction | (exfalso; omega))) | ((first | refine xT fun K hK => ?_ | refine xU fun K hK => ?_ | refine yB (fun K hK => ?_) (fun K hK => ?_) | refine xV ?_ | refine yA ?_ | refine xW ?_ | refine xX ?_ | refine xY ?_ | refine xZ ?_) <;> simp only [↓awpOps, ↓awpKeep, ↓awpKeepF, ↓aop, ↓aopQ, ↓abin, ↓aun, ↓onSome_some, ↓Kont_at, ↓KM_at, ↓KV_at, ↓KU_at, refId_row, Frame.ev, Frame.evs, Frame.evOr, Frame.put, Frame.keep, get_nil, get_cons, argFrame, resOf, fillA, Vals.len, Vals.get, Vals.set, Vals.app, Vals.sub, Vals.take, Vals.ofAgg_cons, Vals.ofList, Vals.toInts, Vals.toBools, Vals.toSls, Vals.toStrs, Vals.zeros, Nat.reduceBEq, Nat.reduceAdd, Nat.reduceEqDiff, cond_true, cond_false, Option.map_some, Option.map_none, List.length_cons, List.length_nil, List.replicate, List.set_cons_zero, List.set_cons_succ, Nat.reduceLT, Bool.not_true, Bool.not_false, Int.toNat_natCast, inR, Nat.zero_add, Int.toNat_zero, reduceCtorEq, IntKind.bits, List.nil_append, List.cons_append, Nat.add_zero, Nat.sub_zero, noughts_len, List.map_cons, List.map_nil, zp, zu]) | refine And.intro ?_ (fun hif => (hif trivial).elim) | (intro hif; try (first | contradiction | (exfalso; omega))))
      refine awp_loop ?_
      refine ALoop.by [0, 1, 6, 7] (fun j : Nat => [(0, .one (.int .i64 (u : Int))), (1, .one (.int .i64 ((v / fac j : Nat) : Int))), (6, .one (.sl ⟨.row m.length, 0, u⟩)), (7, .one (.int .i64 ((u : Int) - 1 - j)))]) (fun j => m ++ [⟨Ty.int, m.length, true, .ints .i64 (List.replicate (u - j) 0 ++ V.drop (u - j))⟩]) (fun j => j ≤ u) (fun j => u - j) 0 (by simp only [fac, Nat.div_one, Int.natCast_zero, Int.sub_zero]; rfl) (by simp [← hVl]) (Nat.zero_le _) ?_
      intro j hj K1 hK1
      by_cases hlt : j < u
      · have hk : u - 1 - j < u := by omega
        have hv := hVk (u - 1 - j) hk
        rw [show u - 1 - (u - 1 - j) = j by omega, show u - (u - 1 - j) = j + 1 by omega] at hv
        have hl : (List.replicate (u - j) (0 : Int) ++ V.drop (u - j)).length = u := by simp; omega
        have e1 : ((u : Int) - 1 - j) = ((u - 1 - j : Nat) : Int) := by omega
        have e2 : (u : Int) - ((u - 1 - j : Nat) : Int) = ((j + 1 : Nat) : Int) := by omega
        have e3 : ((v / fac j : Nat) : Int) % ((j + 1 : Nat) : Int) = ((v / fac j % (j + 1) : Nat) : Int) := rfl
        have e4 : ((v / fac j : Nat) : Int) / ((j + 1 : Nat) : Int) = ((v / fac (j + 1) : Nat) : Int) := by
          rw [fac_step, ← Nat.div_div_eq_div_mul]; rfl
        have hset : (List.replicate (u - j) (0 : Int) ++ V.drop (u - j)).set (u - 1 - j) ((v / fac j % (j + 1) : Nat) : Int) = List.replicate (u - (j + 1)) 0 ++ V.drop (u - (j + 1)) := by
          rw [← hv]
          refine List.ext_getElem (by simp; omega) fun i q1 q2 => ?_
          simp only [List.length_set, hl] at q1
          rw [List.getElem_set]
          by_cases ci : u - 1 - j = i
          · subst ci
            rw [if_pos rfl, List.getElem_append_right (by simp; omega), List.getElem_drop, List.getD_eq_getElem?_getD, List.getElem?_eq_getElem (by omega)]
            simp only [Option.getD_some, List.length_replicate]
            congr 1
            omega
          · rw [if_neg ci]
            by_cases cl : i < u - 1 - j
            · rw [List.getElem_append_left (by simp; omega), List.getElem_append_left (by simp; omega)]
              simp
            · rw [List.getElem_append_right (by simp; omega), List.getElem_append_right (by simp; omega), List.getElem_drop, List.getElem_drop]
              simp only [List.length_replicate]
              congr 1
              omega
        have hq : v / fac j ≤ v := Nat.div_le_self _ _
        have hq2 : v / fac (j + 1) ≤ v := Nat.div_le_self _ _
        have hfu : v ≤ 120 := by omega
        rw [e1]
        have e5 : (u : Int) - 1 - ((j + 1 : Nat) : Int) = ((u - 1 - j : Nat) : Int) - 1 := by omega
        generalize hw2 : v / fac (j + 1) = w2 at *
        generalize v / fac j % (j + 1) = r at *
        generalize v / fac j = w at *
        repeat' (first | refine xA ?_ | refine xB ?_ | refine xC ?_ | refine xD ?_ | refine xE ?_ | refine xF ?_ | refine xG ?_ | refine xH ?_ | refine xI rfl ?_ | refine xJ ?_ | refine xK ?_ | refine xL ?_ | refine xM rfl ?_ | refine xN rfl ?_ | refine xO rfl ?_ | (first | refine xP rfl (fun hif => ?_) (fun hif => ?_) | refine xQ rfl (fun hif => ?_) (fun hif => ?_) | refine xR rfl (fun hif => ?_) (fun hif => ?_) | refine xS rfl (fun hif => ?_) (fun hif => ?_)) <;> try (first | contradiction | (exfalso; omega)) | (refine hK _ _ ?_; clear hK K) | rw [e2] | rw [e3] | rw [e4] | refine st_last hwf (by simp only [Vals.len, hl]; omega) rfl ?_ | (refine And.intro (by first | omega | assumption | (constructor <;> omega)) ?_) | (refine And.intro (fun hif => ?_) (fun hif => ?_) <;> try (first | contradiction | (exfalso; omega))) | ((first | refine xT fun K hK => ?_ | refine xU fun K hK => ?_ | refine yB (fun K hK => ?_) (fun K hK => ?_) | refine xV ?_ | refine yA ?_ | refine xW ?_ | refine xX ?_ | refine xY ?_ | refine xZ ?_) <;> simp only [↓awpOps, ↓awpKeep, ↓awpKeepF, ↓aop, ↓aopQ, ↓abin, ↓aun, ↓onSome_some, ↓Kont_at, ↓KM_at, ↓KV_at, ↓KU_at, refId_row, Frame.ev, Frame.evs, Frame.evOr, Frame.put, Frame.keep, get_nil, get_cons, argFrame, resOf, fillA, Vals.len, Vals.get, Vals.set, Vals.app, Vals.sub, Vals.take, Vals.ofAgg_cons, Vals.ofList, Vals.toInts, Vals.toBools, Vals.toSls, Vals.toStrs, Vals.zeros, Nat.reduceBEq, Nat.reduceAdd, Nat.reduceEqDiff, cond_true, cond_false, Option.map_some, Option.map_none, List.length_cons, List.length_nil, List.replicate, List.set_cons_zero, List.set_cons_succ, Nat.reduceLT, Bool.not_true, Bool.not_false, Int.toNat_natCast, inR, Nat.zero_add, Int.toNat_zero, reduceCtorEq, IntKind.bits, List.nil_append, List.cons_append, Nat.add_zero, Nat.sub_zero, noughts_len, List.map_cons, List.map_nil, zp, zu]) | refine And.intro ?_ (fun hif => (hif trivial).elim) | (intro hif; try (first | contradiction | (exfalso; omega))))
        refine hK1 (j + 1) _ _ (by rw [hw2, e5]; rfl) (by rw [hset]) (by omega) (by omega)
      · obtain rfl : j = u := by omega
        repeat' (first | refine xA ?_ | refine xB ?_ | refine xC ?_ | refine xD ?_ | refine xE ?_ | refine xF ?_ | refine xG ?_ | refine xH ?_ | refine xI rfl ?_ | refine xJ ?_ | refine xK ?_ | refine xL ?_ | refine xM rfl ?_ | refine xN rfl ?_ | refine xO rfl ?_ | (first | refine xP rfl (fun hif => ?_) (fun hif => ?_) | refine xQ rfl (fun hif => ?_) (fun hif => ?_) | refine xR rfl (fun hif => ?_) (fun hif => ?_) | refine xS rfl (fun hif => ?_) (fun hif => ?_)) <;> try (first | contradiction | (exfalso; omega)) | (refine hK _ _ ?_; clear hK K) | (refine And.intro (by first | omega | assumption | (constructor <;> omega)) ?_) | (refine And.intro (fun hif => ?_) (fun hif => ?_) <;> try (first | contradiction | (exfalso; omega))) | ((first | refine xT fun K hK => ?_ | refine xU fun K hK => ?_ | refine yB (fun K hK => ?_) (fun K hK => ?_) | refine xV ?_ | refine yA ?_ | refine xW ?_ | refine xX ?_ | refine xY ?_ | refine xZ ?_) <;> simp only [↓awpOps, ↓awpKeep, ↓awpKeepF, ↓aop, ↓aopQ, ↓abin, ↓aun, ↓onSome_some, ↓Kont_at, ↓KM_at, ↓KV_at, ↓KU_at, refId_row, Frame.ev, Frame.evs, Frame.evOr, Frame.put, Frame.keep, get_nil, get_cons, argFrame, resOf, fillA, Vals.len, Vals.get, Vals.set, Vals.app, Vals.sub, Vals.take, Vals.ofAgg_cons, Vals.ofList, Vals.toInts, Vals.toBools, Vals.toSls, Vals.toStrs, Vals.zeros, Nat.reduceBEq, Nat.reduceAdd, Nat.reduceEqDiff, cond_true, cond_false, Option.map_some, Option.map_none, List.length_cons, List.length_nil, List.replicate, List.set_cons_zero, List.set_cons_succ, Nat.reduceLT, Bool.not_true, Bool.not_false, Int.toNat_natCast, inR, Nat.zero_add, Int.toNat_zero, reduceCtorEq, IntKind.bits, List.nil_append, List.cons_append, Nat.add_zero, Nat.sub_zero, noughts_len, List.map_cons, List.map_nil, zp, zu]) | refine And.intro ?_ (fun hif => (hif trivial).elim) | (intro hif; try (first | contradiction | (exfalso; omega))))
        refine hQ _ _ (Grow.push hwf _ _ _) ?_
        rw [Nat.sub_self, List.replicate_zero, List.nil_append, List.drop_zero]
        exact (obj_new Ty.int (.ints .i64 V) (by simp only [Vals.len, hVl]) (Nat.le_refl _) (by simp)).held
    · have hA : ¬ AtOk u n := fun h => h2 (by have := h.2; rwa [Int.toNat_natCast] at this)
      have c2 := fun mm => (spec_l1In n 0 ((fac u : Int) - 1) mm).no h2
      rw [decide_eq_false hA, tabAt, if_neg hA] at hQ
      repeat' (first | refine xA ?_ | refine xB ?_ | refine xC ?_ | refine xD ?_ | refine xE ?_ | refine xF ?_ | refine xG ?_ | refine xH ?_ | refine xI rfl ?_ | refine xJ ?_ | refine xK ?_ | refine xL ?_ | refine xM rfl ?_ | refine xN rfl ?_ | refine xO rfl ?_ | (first | refine xP rfl (fun hif => ?_) (fun hif => ?_) | refine xQ rfl (fun hif => ?_) (fun hif => ?_) | refine xR rfl (fun hif => ?_) (fun hif => ?_) | refine xS rfl (fun hif => ?_) (fun hif => ?_)) <;> try (first | contradiction | (exfalso; omega)) | (refine hK _ _ ?_; clear hK K) | refine AQuiet.call (c1 _) trivial ?_ | refine AQuiet.call (cm _) trivial ?_ | refine AQuiet.callq (cm _) trivial ?_ | refine AQuiet.call (c2 _) trivial ?_ | (refine And.intro (by first | omega | assumption | (constructor <;> omega)) ?_) | (refine And.intro (fun hif => ?_) (fun hif => ?_) <;> try (first | contradiction | (exfalso; omega))) | ((first | refine xT fun K hK => ?_ | refine xU fun K hK => ?_ | refine yB (fun K hK => ?_) (fun K hK => ?_) | refine xV ?_ | refine yA ?_ | refine xW ?_ | refine xX ?_ | refine xY ?_ | refine xZ ?_) <;> simp only [↓awpOps, ↓awpKeep, ↓awpKeepF, ↓aop, ↓aopQ, ↓abin, ↓aun, ↓onSome_some, ↓Kont_at, ↓KM_at, ↓KV_at, ↓KU_at, refId_row, Frame.ev, Frame.evs, Frame.evOr, Frame.put, Frame.keep, get_nil, get_cons, argFrame, resOf, fillA, Vals.len, Vals.get, Vals.set, Vals.app, Vals.sub, Vals.take, Vals.ofAgg_cons, Vals.ofList, Vals.toInts, Vals.toBools, Vals.toSls, Vals.toStrs, Vals.zeros, Nat.reduceBEq, Nat.reduceAdd, Nat.reduceEqDiff, cond_true, cond_false, Option.map_some, Option.map_none, List.length_cons, List.length_nil, List.replicate, List.set_cons_zero, List.set_cons_succ, Nat.reduceLT, Bool.not_true, Bool.not_false, Int.toNat_natCast, inR, Nat.zero_add, Int.toNat_zero, reduceCtorEq, IntKind.bits, List.nil_append, List.cons_append, Nat.add_zero, Nat.sub_zero, noughts_len, List.map_cons, List.map_nil, zp, zu]) | refine And.intro ?_ (fun hif => (hif trivial).elim) | (intro hif; try (first | contradiction | (exfalso; omega))))
      exact hQ _ _ (Grow.push hwf _ _ _) ⟨rfl, fun i hi => absurd hi (Nat.not_lt_zero _)⟩
  · have hA : ¬ AtOk c n := fun h => h1 h.1
    have c1 := fun mm => (spec_l1In c 1 5 mm).no h1
    rw [decide_eq_false hA, tabAt, if_neg hA] at hQ
    repeat' (first | refine xA ?_ | refine xB ?_ | refine xC ?_ | refine xD ?_ | refine xE ?_ | refine xF ?_ | refine xG ?_ | refine xH ?_ | refine xI rfl ?_ | refine xJ ?_ | refine xK ?_ | refine xL ?_ | refine xM rfl ?_ | refine xN rfl ?_ | refine xO rfl ?_ | (first | refine xP rfl (fun hif => ?_) (fun hif => ?_) | refine xQ rfl (fun hif => ?_) (fun hif => ?_) | refine xR rfl (fun hif => ?_) (fun hif => ?_) | refine xS rfl (fun hif => ?_) (fun hif => ?_)) <;> try (first | contradiction | (exfalso; omega)) | (refine hK _ _ ?_; clear hK K) | refine AQuiet.call (c1 _) trivial ?_ | (refine And.intro (by first | omega | assumption | (constructor <;> omega)) ?_) | (refine And.intro (fun hif => ?_) (fun hif => ?_) <;> try (first | contradiction | (exfalso; omega))) | ((first | refine xT fun K hK => ?_ | refine xU fun K hK => ?_ | refine yB (fun K hK => ?_) (fun K hK => ?_) | refine xV ?_ | refine yA ?_ | refine xW ?_ | refine xX ?_ | refine xY ?_ | refine xZ ?_) <;> simp only [↓awpOps, ↓awpKeep, ↓awpKeepF, ↓aop, ↓aopQ, ↓abin, ↓aun, ↓onSome_some, ↓Kont_at, ↓KM_at, ↓KV_at, ↓KU_at, refId_row, Frame.ev, Frame.evs, Frame.evOr, Frame.put, Frame.keep, get_nil, get_cons, argFrame, resOf, fillA, Vals.len, Vals.get, Vals.set, Vals.app, Vals.sub, Vals.take, Vals.ofAgg_cons, Vals.ofList, Vals.toInts, Vals.toBools, Vals.toSls, Vals.toStrs, Vals.zeros, Nat.reduceBEq, Nat.reduceAdd, Nat.reduceEqDiff, cond_true, cond_false, Option.map_some, Option.map_none, List.length_cons, List.length_nil, List.replicate, List.set_cons_zero, List.set_cons_succ, Nat.reduceLT, Bool.not_true, Bool.not_false, Int.toNat_natCast, inR, Nat.zero_add, Int.toNat_zero, reduceCtorEq, IntKind.bits, List.nil_append, List.cons_append, Nat.add_zero, Nat.sub_zero, noughts_len, List.map_cons, List.map_nil, zp, zu]) | refine And.intro ?_ (fun hif => (hif trivial).elim) | (intro hif; try (first | contradiction | (exfalso; omega))))
    exact hQ _ _ (Grow.push hwf _ _ _) ⟨rfl, fun i hi => absurd hi (Nat.not_lt_zero _)⟩

/-! ### The table of a net -/

def dOf (net : List Int) : List Int := perWire dist net (own net.length)
def fOf (net : List Int) : List Int := perWire (fun x _ => x) net (own net.length)
theorem own_rowOk {net : List Int} (hN : NetOk net) : RowOk net (own net.length) ∧ Once (own net.length) := by
  have h6 := hN.six
  have hl := own_len net.length
  refine ⟨⟨hN, hl, fun k hk => ?_⟩, fun k hk j hj => ?_⟩
  · rw [hl] at hk; rw [own_get hk]; omega
  · rw [hl] at hk; rw [own_get hk, own_get (by omega)]; omega
theorem wire_d {net : List Int} {i : Nat} (hi : i < (wires net).length) {x y : Nat} (e : (wires net).getD i [] = [(x : Int), (y : Int)]) (hxy : x < y) (hy : y < net.length) : ((dOf net).getD i 0) = (y : Int) - x ∧ ((fOf net).getD i 0) = x := by
  rw [dOf, fOf, perWire_get _ hi e, perWire_get _ hi e, own_get (by omega), own_get hy]
  unfold dist
  rw [if_pos (by omega)]
  exact ⟨rfl, rfl⟩
theorem d_range {net : List Int} {i : Nat} (hi : i < (wires net).length) : 1 ≤ ((dOf net).getD i 0) ∧ ((dOf net).getD i 0) ≤ (net.length : Int) - 1 := by
  obtain ⟨x, y, g1, g2, g3, g4, g5⟩ := wire_at hi
  rw [(wire_d hi g1 g3 g4).1]
  omega
theorem sig_shift (f : Nat → Int) : ∀ n, sig (n + 1) f = f 0 + sig n fun v => f (v + 1)
  | 0 => by rw [sig_succ, sig_zero, sig_zero, Int.zero_add, Int.add_zero]
  | n + 1 => by rw [sig_succ, sig_shift f n, sig_succ, Int.add_assoc]
theorem size_once {net : List Int} (hN : NetOk net) (hq : (wires net).length + 1 = net.length) : sig 20 (bz (orTo (dOf net) (wires net).length)) = ((wires net).length : Int) ↔ Once (dOf net) := by
  have h6 := hN.six
  have hDl : (dOf net).length = (wires net).length := perWire_len _ _ _
  have hr := fun i hi => d_range (net := net) (i := i) hi
  generalize dOf net = D at *
  generalize (wires net).length = q at *
  have hRl : (D.map fun z => z - 1).length = q := by rw [List.length_map]; exact hDl
  have hRk : ∀ i, i < q → (D.map fun z => z - 1).getD i 0 = (D.getD i 0) - 1 := fun i hi => map_get _ (by omega)
  have hc := came_count (came := orTo (D.map fun z => z - 1) q) hRl (by omega) (fun i hi => by rw [hRk i hi]; have := hr i hi; omega) fun v => orTo_bit _ v q
  have hb : ∀ v, bz (orTo D q) (v + 1) = bz (orTo (D.map fun z => z - 1) q) v := fun v => by
    unfold bz
    congr 1
    apply propext
    rw [orTo_bit, orTo_bit]
    constructor
    · rintro ⟨i, h1, h2⟩; exact ⟨i, h1, by rw [hRk i h1]; have := hr i h1; omega⟩
    · rintro ⟨i, h1, h2⟩; exact ⟨i, h1, by rw [hRk i h1] at h2; have := hr i h1; omega⟩
  have h0 : bz (orTo D q) 0 = 0 := by
    unfold bz
    rw [if_neg]
    intro h
    obtain ⟨i, h1, h2⟩ := (orTo_bit D 0 q).1 h
    have := hr i h1
    omega
  have h19 : bz (orTo (D.map fun z => z - 1) q) 19 = 0 := by
    unfold bz
    rw [if_neg]
    intro h
    obtain ⟨i, h1, h2⟩ := (orTo_bit _ 19 q).1 h
    rw [hRk i h1] at h2
    have := hr i h1
    omega
  have e : sig 20 (bz (orTo D q)) = sig 20 (bz (orTo (D.map fun z => z - 1) q)) := by
    rw [sig_shift, h0, Int.zero_add, sig_congr (g := fun v => bz (orTo (D.map fun z => z - 1) q) v) fun v _ => hb v]
    have e20 : sig 20 (bz (orTo (D.map fun z => z - 1) q)) = sig 19 (bz (orTo (D.map fun z => z - 1) q)) + bz (orTo (D.map fun z => z - 1) q) 19 := sig_succ _ _
    rw [e20, h19, Int.add_zero]
  rw [e, hc]
  constructor
  · intro h k hk j hj c
    have h1 := h k (by omega) j hj
    rw [hRk k (by omega), hRk j (by omega)] at h1
    omega
  · intro h k hk j hj c
    rw [hRl] at hk
    rw [hRk k hk, hRk j (by omega)] at c
    exact h k (by omega) j hj (by omega)
theorem tabNet_once {net : List Int} (hN : NetOk net) (h2 : 2 ≤ net.length) (hq : (wires net).length + 1 = net.length) : TabNet net ↔ Once (dOf net) := by
  have h6 := hN.six
  obtain ⟨hR, hO⟩ := own_rowOk hN
  have e : diffs net (own net.length) = dOf net := diffs_eq hR
  constructor
  · intro h
    have := h.2.2.diff
    rwa [e] at this
  · intro h
    refine ⟨⟨h2, h6⟩, hq, hN, ⟨hN, own_len _, fun k hk => ?_⟩, hO, by rw [e]; exact h⟩
    rw [own_len] at hk
    rw [own_get hk]
    show 0 ≤ (k : Int) ∧ (k : Int) ≤ ((wires net).length : Nat)
    omega

set_option maxHeartbeats 8000000 in
theorem spec_TableOf {s : SV} {net : List Int} {m : Heap} {K : XV → Heap → Prop} (hs : IsInts .i64 m s net)
    (hQ : ∀ (s' : SV) (m' : Heap), Grow 0 0 m m' → Held m.length m'.length m' s' (tableOf net) → K (.tup [.sl s', .bool (decide (TabNet net))]) m') : ACalls Try.prog F.spec_TableOf [.one (.sl s)] m K := by
  refine ACalls.wf fun hwf => afn T.spec_TableOf (by rfl) ?_
  have hno : ¬ TabNet net → ∀ m' : Heap, Grow 0 0 m m' → K (.tup [.sl ⟨.row m'.length, 0, 0⟩, .bool false]) (m' ++ [⟨Ty.int, m'.length, true, .ints .i64 []⟩]) := fun h m' g => by
    have := hQ ⟨.row m'.length, 0, 0⟩ _ (g.trans (Grow.push g.wf Ty.int true (.ints .i64 []))) (by rw [tableOf, if_neg h]; exact ⟨rfl, fun i hi => absurd hi (Nat.not_lt_zero _)⟩)
    rwa [decide_eq_false h] at this
  by_cases hN : NetOk net
  · have cN := spec_NetOk_b true hs (decide_eq_true hN)
    have h6 := hN.six
    obtain ⟨ref, off, len⟩ := s
    obtain rfl : len = net.length := hs.1
    by_cases h2 : 2 ≤ (net.length : Int) ∧ (net.length : Int) ≤ 6
    · have cL := fun mm => (spec_l1In (net.length : Int) 2 6 mm).yes h2
      by_cases hq : (wires net).length + 1 = net.length
      · have hso := size_once hN hq
        have hto := tabNet_once hN (by omega) hq
        have hDl : (dOf net).length = (wires net).length := perWire_len _ _ _
        have hdr := fun i hi => d_range (net := net) (i := i) hi
        have htn : ((net.length : Int) - 1).toNat = net.length - 1 := by omega
        have hq1 : ((wires net).length : Int) = (net.length : Int) - 1 := by omega
        repeat' (first | refine xA ?_ | refine xB ?_ | refine xC ?_ | refine xD ?_ | refine xE ?_ | refine xF ?_ | refine xG ?_ | refine xH ?_ | refine xI rfl ?_ | refine xJ ?_ | refine xK ?_ | refine xL ?_ | refine xM rfl ?_ | refine xN rfl ?_ | refine xO rfl ?_ | (first | refine xP rfl (fun hif => ?_) (fun hif => ?_) | refine xQ rfl (fun hif => ?_) (fun hif => ?_) | refine xR rfl (fun hif => ?_) (fun hif => ?_) | refine xS rfl (fun hif => ?_) (fun hif => ?_)) <;> try (first | contradiction | (exfalso; omega)) | (refine hK _ _ ?_; clear hK K) | refine AQuiet.call cN trivial ?_ | refine AQuiet.callq cN trivial ?_ | refine AQuiet.call (cL _) trivial ?_ | refine AQuiet.callq (cL _) trivial ?_ | (refine spec_l1Wires_g hs hN fun s1 m1 hg1 hL => ?_; obtain ⟨sref, soff, slen⟩ := s1; obtain rfl : slen = (wires net).length := hL.len; have gP := Grow.push hg1.wf Ty.int true (.ints .i64 (List.replicate (net.length - 1) 0)); have hsP := hs.pre (hg1.pre0.trans gP.pre0)) | rw [htn] | (refine spec_l1Wires_g hsP hN fun s2 m2 hg2 hL2 => ?_; obtain ⟨tref, toff, tlen⟩ := s2; obtain rfl : tlen = (wires net).length := hL2.len) | (refine And.intro (by first | omega | assumption | (constructor <;> omega)) ?_) | (refine And.intro (fun hif => ?_) (fun hif => ?_) <;> try (first | contradiction | (exfalso; omega))) | ((first | refine xT fun K hK => ?_ | refine xU fun K hK => ?_ | refine yB (fun K hK => ?_) (fun K hK => ?_) | refine xV ?_ | refine yA ?_ | refine xW ?_ | refine xX ?_ | refine xY ?_ | refine xZ ?_) <;> simp only [↓awpOps, ↓awpKeep, ↓awpKeepF, ↓aop, ↓aopQ, ↓abin, ↓aun, ↓onSome_some, ↓Kont_at, ↓KM_at, ↓KV_at, ↓KU_at, refId_row, Frame.ev, Frame.evs, Frame.evOr, Frame.put, Frame.keep, get_nil, get_cons, argFrame, resOf, fillA, Vals.len, Vals.get, Vals.set, Vals.app, Vals.sub, Vals.take, Vals.ofAgg_cons, Vals.ofList, Vals.toInts, Vals.toBools, Vals.toSls, Vals.toStrs, Vals.zeros, Nat.reduceBEq, Nat.reduceAdd, Nat.reduceEqDiff, cond_true, cond_false, Option.map_some, Option.map_none, List.length_cons, List.length_nil, List.replicate, List.set_cons_zero, List.set_cons_succ, Nat.reduceLT, Bool.not_true, Bool.not_false, Int.toNat_natCast, inR, Nat.zero_add, Int.toNat_zero, reduceCtorEq, IntKind.bits, List.nil_append, List.cons_append, Nat.add_zero, Nat.sub_zero, noughts_len, List.map_cons, List.map_nil, zp, zu]) | refine And.intro ?_ (fun hif => (hif trivial).elim) | (intro hif; try (first | contradiction | (exfalso; omega))))
        have r2 := row_prefix0 hg2.pre0 (get_last m1 ⟨Ty.int, m1.length, true, .ints .i64 (List.replicate (net.length - 1) 0)⟩)
        have hg02 := (hg1.trans gP).trans hg2
        have hle1 := hg1.le
        have hle2 := hg2.le
        rw [List.length_append, List.length_cons, List.length_nil] at hle2 hL2
        refine awp_loop ?_
        refine ALoop.by [4, 5, 6, 7] (fun a : Nat × List Int × Heap => [(4, .one (.sl ⟨.row m1.length, 0, net.length - 1⟩)), (5, .one (.int .i64 (orTo (dOf net) a.1))), (6, .one (.sl ⟨tref, toff, (wires net).length⟩)), (7, .one (.int .i64 a.1))]) (fun a => a.2.2)
          (fun a => a.1 ≤ (wires net).length ∧ a.2.1.length = net.length - 1 ∧ Grow m1.length (m1.length + 1) m2 a.2.2 ∧ a.2.2[m1.length]? = some ⟨Ty.int, m1.length, true, .ints .i64 a.2.1⟩ ∧ (Once (dOf net) → ∀ i, i < a.1 → a.2.1.getD (((dOf net).getD i 0) - 1).toNat 0 = ((fOf net).getD i 0))) (fun a => (wires net).length - a.1) (0, _, m2) rfl rfl ⟨Nat.zero_le _, by simp, Grow.refl hg2.wf _ _, r2, fun _ i hi => absurd hi (Nat.not_lt_zero _)⟩ ?_
        rintro ⟨k, T, mm⟩ ⟨hk, hTl, hgm, hrm, hT⟩ K1 hK1
        simp only at hk hTl hgm hrm hT
        have hol := orTo_lt (R := dOf net) (k := k) fun i hi => by have := hdr i (by omega); omega
        have hol2 : orTo (dOf net) k < 1048576 := hol
        by_cases hlt : k < (wires net).length
        · have hL3 := (LObj.mk hg2.wf hL2).grow hgm (.inr (Nat.le_refl _))
          obtain ⟨x, y, wi, f1, f2, f3, f4, f5, f6, f7, f8⟩ := hL3.is.wire hlt
          obtain ⟨d1, d2⟩ := wire_d hlt f8 f5 f6
          have hst : orTo (dOf net) (k + 1) = orTo (dOf net) k ||| 2 ^ (y - x) := by
            show _ ||| 2 ^ (((dOf net).getD k 0)).toNat = _
            rw [d1, show ((y : Int) - x).toNat = y - x by omega]
          have hor : borInt .i64 (orTo (dOf net) k : Int) ((2 : Int) ^ ((y : Int) - x).toNat) = ((orTo (dOf net) (k + 1) : Nat) : Int) := by
            rw [hst, show ((y : Int) - x).toNat = y - x by omega, pow_nat]
            have : 2 ^ (y - x) ≤ 2 ^ 5 := Nat.pow_le_pow_right (by decide) (by omega)
            exact bor_nat _ _ (by omega) (by omega)
          have hpd := pow_bounds (p := ((y : Int) - x).toNat) (by omega)
          repeat' (first | refine xA ?_ | refine xB ?_ | refine xC ?_ | refine xD ?_ | refine xE ?_ | refine xF ?_ | refine xG ?_ | refine xH ?_ | refine xI rfl ?_ | refine xJ ?_ | refine xK ?_ | refine xL ?_ | refine xM rfl ?_ | refine xN rfl ?_ | refine xO rfl ?_ | (first | refine xP rfl (fun hif => ?_) (fun hif => ?_) | refine xQ rfl (fun hif => ?_) (fun hif => ?_) | refine xR rfl (fun hif => ?_) (fun hif => ?_) | refine xS rfl (fun hif => ?_) (fun hif => ?_)) <;> try (first | contradiction | (exfalso; omega)) | (refine hK _ _ ?_; clear hK K) | refine onSome_of f1 ?_ | refine onSome_of f2 ?_ | refine onSome_of f3 ?_ | rw [hor] | (refine st_row hgm.wf hrm (by simp only [Vals.len]; omega) rfl fun m6 g6 l6 r6 => ?_) | (refine And.intro (by first | omega | assumption | (constructor <;> omega)) ?_) | (refine And.intro (fun hif => ?_) (fun hif => ?_) <;> try (first | contradiction | (exfalso; omega))) | ((first | refine xT fun K hK => ?_ | refine xU fun K hK => ?_ | refine yB (fun K hK => ?_) (fun K hK => ?_) | refine xV ?_ | refine yA ?_ | refine xW ?_ | refine xX ?_ | refine xY ?_ | refine xZ ?_) <;> simp only [↓awpOps, ↓awpKeep, ↓awpKeepF, ↓aop, ↓aopQ, ↓abin, ↓aun, ↓onSome_some, ↓Kont_at, ↓KM_at, ↓KV_at, ↓KU_at, refId_row, Frame.ev, Frame.evs, Frame.evOr, Frame.put, Frame.keep, get_nil, get_cons, argFrame, resOf, fillA, Vals.len, Vals.get, Vals.set, Vals.app, Vals.sub, Vals.take, Vals.ofAgg_cons, Vals.ofList, Vals.toInts, Vals.toBools, Vals.toSls, Vals.toStrs, Vals.zeros, Nat.reduceBEq, Nat.reduceAdd, Nat.reduceEqDiff, cond_true, cond_false, Option.map_some, Option.map_none, List.length_cons, List.length_nil, List.replicate, List.set_cons_zero, List.set_cons_succ, Nat.reduceLT, Bool.not_true, Bool.not_false, Int.toNat_natCast, inR, Nat.zero_add, Int.toNat_zero, reduceCtorEq, IntKind.bits, List.nil_append, List.cons_append, Nat.add_zero, Nat.sub_zero, noughts_len, List.map_cons, List.map_nil, zp, zu]) | refine And.intro ?_ (fun hif => (hif trivial).elim) | (intro hif; try (first | contradiction | (exfalso; omega))))
          refine hK1 (k + 1, _, m6) _ _ rfl rfl ⟨by simp only; omega, by simp only [List.length_set]; exact hTl, hgm.trans g6, r6, fun hO i hi => ?_⟩ (by simp only; omega)
          simp only at hi ⊢
          have hd1 : ((y : Int) - x - 1).toNat = (((dOf net).getD k 0) - 1).toNat := by rw [d1]
          rw [hd1, List.getD_eq_getElem?_getD, List.getElem?_set]
          rcases Nat.lt_succ_iff_lt_or_eq.1 hi with c | rfl
          · have hne := hO k (by omega) i c
            have q1 := hdr i (by omega)
            have q2 := hdr k hlt
            rw [if_neg (by omega), ← List.getD_eq_getElem?_getD]
            exact hT hO i c
          · have q2 := hdr i hlt
            rw [if_pos rfl, if_pos (by omega), d2]
            rfl
        · obtain rfl : k = (wires net).length := by omega
          have cZ := fun mm => spec_l1Size_w (orTo (dOf net) (wires net).length) hol mm
          by_cases hO : Once (dOf net)
          · have hTN := hto.2 hO
            have hz := hso.2 hO
            rw [hz] at cZ
            have hT := hT hO
            have hTe : T = tabL net := by
              have hlen := tabL_len net
              refine List.ext_getElem (by omega) fun i h1 h2 => ?_
              obtain ⟨p1, p2⟩ := own_some hTN.2.2 hTN.2.1 (k := i) (by omega)
              obtain ⟨j, hj, e1, e2⟩ := own_diff hTN.2.2 p1 p2
              obtain ⟨d1, d2⟩ := wire_d hj e1 (by omega) p1
              have := hT j hj
              rw [d1, d2, show (((lowAt net i + i + 1 : Nat) : Int) - (lowAt net i : Int) - 1).toNat = i by omega] at this
              have g1 : T.getD i 0 = T[i] := by rw [List.getD_eq_getElem?_getD, List.getElem?_eq_getElem h1]; rfl
              have g2 : (tabL net).getD i 0 = (tabL net)[i] := by rw [List.getD_eq_getElem?_getD, List.getElem?_eq_getElem h2]; rfl
              rw [← g1, ← g2, this, tabL_get (by omega)]
            have key := hQ ⟨.row m1.length, 0, net.length - 1⟩ mm (grow00 (hgm.pre hg02.pre0 hwf (by omega)) ((hg02.any _ _).trans (hgm.mono (by omega) (by have := hgm.le; omega)))) (by
              rw [tableOf, if_pos hTN, ← hTe, ← hTl]
              exact (show Obj Ty.int m.length mm.length mm ⟨.row m1.length, 0, T.length⟩ (.ints .i64 T) from .inr ⟨m1.length, m1.length, by omega, get_lt hrm, rfl, hrm⟩).held)
            rw [decide_eq_true hTN] at key
            repeat' (first | refine xA ?_ | refine xB ?_ | refine xC ?_ | refine xD ?_ | refine xE ?_ | refine xF ?_ | refine xG ?_ | refine xH ?_ | refine xI rfl ?_ | refine xJ ?_ | refine xK ?_ | refine xL ?_ | refine xM rfl ?_ | refine xN rfl ?_ | refine xO rfl ?_ | (first | refine xP rfl (fun hif => ?_) (fun hif => ?_) | refine xQ rfl (fun hif => ?_) (fun hif => ?_) | refine xR rfl (fun hif => ?_) (fun hif => ?_) | refine xS rfl (fun hif => ?_) (fun hif => ?_)) <;> try (first | contradiction | (exfalso; omega)) | (refine hK _ _ ?_; clear hK K) | refine AQuiet.call (cZ _) trivial ?_ | refine AQuiet.callq (cZ _) trivial ?_ | (refine And.intro (by first | omega | assumption | (constructor <;> omega)) ?_) | (refine And.intro (fun hif => ?_) (fun hif => ?_) <;> try (first | contradiction | (exfalso; omega))) | ((first | refine xT fun K hK => ?_ | refine xU fun K hK => ?_ | refine yB (fun K hK => ?_) (fun K hK => ?_) | refine xV ?_ | refine yA ?_ | refine xW ?_ | refine xX ?_ | refine xY ?_ | refine xZ ?_) <;> simp only [↓awpOps, ↓awpKeep, ↓awpKeepF, ↓aop, ↓aopQ, ↓abin, ↓aun, ↓onSome_some, ↓Kont_at, ↓KM_at, ↓KV_at, ↓KU_at, refId_row, Frame.ev, Frame.evs, Frame.evOr, Frame.put, Frame.keep, get_nil, get_cons, argFrame, resOf, fillA, Vals.len, Vals.get, Vals.set, Vals.app, Vals.sub, Vals.take, Vals.ofAgg_cons, Vals.ofList, Vals.toInts, Vals.toBools, Vals.toSls, Vals.toStrs, Vals.zeros, Nat.reduceBEq, Nat.reduceAdd, Nat.reduceEqDiff, cond_true, cond_false, Option.map_some, Option.map_none, List.length_cons, List.length_nil, List.replicate, List.set_cons_zero, List.set_cons_succ, Nat.reduceLT, Bool.not_true, Bool.not_false, Int.toNat_natCast, inR, Nat.zero_add, Int.toNat_zero, reduceCtorEq, IntKind.bits, List.nil_append, List.cons_append, Nat.add_zero, Nat.sub_zero, noughts_len, List.map_cons, List.map_nil, zp, zu]) | refine And.intro ?_ (fun hif => (hif trivial).elim) | (intro hif; try (first | contradiction | (exfalso; omega))))
            exact key
          · have hz : ¬ sig 20 (bz (orTo (dOf net) (wires net).length)) = ((wires net).length : Int) := fun c => hO (hso.1 c)
            have hn := hno (fun c => hO (hto.1 c)) mm (grow00 (hgm.pre hg02.pre0 hwf (by omega)) ((hg02.any _ _).trans (hgm.mono (by omega) (by have := hgm.le; omega))))
            generalize sig 20 (bz (orTo (dOf net) (wires net).length)) = z at *
            repeat' (first | refine xA ?_ | refine xB ?_ | refine xC ?_ | refine xD ?_ | refine xE ?_ | refine xF ?_ | refine xG ?_ | refine xH ?_ | refine xI rfl ?_ | refine xJ ?_ | refine xK ?_ | refine xL ?_ | refine xM rfl ?_ | refine xN rfl ?_ | refine xO rfl ?_ | (first | refine xP rfl (fun hif => ?_) (fun hif => ?_) | refine xQ rfl (fun hif => ?_) (fun hif => ?_) | refine xR rfl (fun hif => ?_) (fun hif => ?_) | refine xS rfl (fun hif => ?_) (fun hif => ?_)) <;> try (first | contradiction | (exfalso; omega)) | (refine hK _ _ ?_; clear hK K) | refine AQuiet.call (cZ _) trivial ?_ | refine AQuiet.callq (cZ _) trivial ?_ | (refine And.intro (by first | omega | assumption | (constructor <;> omega)) ?_) | (refine And.intro (fun hif => ?_) (fun hif => ?_) <;> try (first | contradiction | (exfalso; omega))) | ((first | refine xT fun K hK => ?_ | refine xU fun K hK => ?_ | refine yB (fun K hK => ?_) (fun K hK => ?_) | refine xV ?_ | refine yA ?_ | refine xW ?_ | refine xX ?_ | refine xY ?_ | refine xZ ?_) <;> simp only [↓awpOps, ↓awpKeep, ↓awpKeepF, ↓aop, ↓aopQ, ↓abin, ↓aun, ↓onSome_some, ↓Kont_at, ↓KM_at, ↓KV_at, ↓KU_at, refId_row, Frame.ev, Frame.evs, Frame.evOr, Frame.put, Frame.keep, get_nil, get_cons, argFrame, resOf, fillA, Vals.len, Vals.get, Vals.set, Vals.app, Vals.sub, Vals.take, Vals.ofAgg_cons, Vals.ofList, Vals.toInts, Vals.toBools, Vals.toSls, Vals.toStrs, Vals.zeros, Nat.reduceBEq, Nat.reduceAdd, Nat.reduceEqDiff, cond_true, cond_false, Option.map_some, Option.map_none, List.length_cons, List.length_nil, List.replicate, List.set_cons_zero, List.set_cons_succ, Nat.reduceLT, Bool.not_true, Bool.not_false, Int.toNat_natCast, inR, Nat.zero_add, Int.toNat_zero, reduceCtorEq, IntKind.bits, List.nil_append, List.cons_append, Nat.add_zero, Nat.sub_zero, noughts_len, List.map_cons, List.map_nil, zp, zu]) | refine And.intro ?_ (fun hif => (hif trivial).elim) | (intro hif; try (first | contradiction | (exfalso; omega))))
            exact hn
      · have hnT : ¬ TabNet net := fun c => hq c.2.1
        have hqI : ((wires net).length : Int) ≠ (net.length : Int) - 1 := by omega
        repeat' (first | refine xA ?_ | refine xB ?_ | refine xC ?_ | refine xD ?_ | refine xE ?_ | refine xF ?_ | refine xG ?_ | refine xH ?_ | refine xI rfl ?_ | refine xJ ?_ | refine xK ?_ | refine xL ?_ | refine xM rfl ?_ | refine xN rfl ?_ | refine xO rfl ?_ | (first | refine xP rfl (fun hif => ?_) (fun hif => ?_) | refine xQ rfl (fun hif => ?_) (fun hif => ?_) | refine xR rfl (fun hif => ?_) (fun hif => ?_) | refine xS rfl (fun hif => ?_) (fun hif => ?_)) <;> try (first | contradiction | (exfalso; omega)) | (refine hK _ _ ?_; clear hK K) | refine AQuiet.call cN trivial ?_ | refine AQuiet.callq cN trivial ?_ | refine AQuiet.call (cL _) trivial ?_ | refine AQuiet.callq (cL _) trivial ?_ | (refine spec_l1Wires_g hs hN fun s1 m1 hg1 hL => ?_; obtain ⟨sref, soff, slen⟩ := s1; obtain rfl : slen = (wires net).length := hL.len) | (refine And.intro (by first | omega | assumption | (constructor <;> omega)) ?_) | (refine And.intro (fun hif => ?_) (fun hif => ?_) <;> try (first | contradiction | (exfalso; omega))) | ((first | refine xT fun K hK => ?_ | refine xU fun K hK => ?_ | refine yB (fun K hK => ?_) (fun K hK => ?_) | refine xV ?_ | refine yA ?_ | refine xW ?_ | refine xX ?_ | refine xY ?_ | refine xZ ?_) <;> simp only [↓awpOps, ↓awpKeep, ↓awpKeepF, ↓aop, ↓aopQ, ↓abin, ↓aun, ↓onSome_some, ↓Kont_at, ↓KM_at, ↓KV_at, ↓KU_at, refId_row, Frame.ev, Frame.evs, Frame.evOr, Frame.put, Frame.keep, get_nil, get_cons, argFrame, resOf, fillA, Vals.len, Vals.get, Vals.set, Vals.app, Vals.sub, Vals.take, Vals.ofAgg_cons, Vals.ofList, Vals.toInts, Vals.toBools, Vals.toSls, Vals.toStrs, Vals.zeros, Nat.reduceBEq, Nat.reduceAdd, Nat.reduceEqDiff, cond_true, cond_false, Option.map_some, Option.map_none, List.length_cons, List.length_nil, List.replicate, List.set_cons_zero, List.set_cons_succ, Nat.reduceLT, Bool.not_true, Bool.not_false, Int.toNat_natCast, inR, Nat.zero_add, Int.toNat_zero, reduceCtorEq, IntKind.bits, List.nil_append, List.cons_append, Nat.add_zero, Nat.sub_zero, noughts_len, List.map_cons, List.map_nil, zp, zu]) | refine And.intro ?_ (fun hif => (hif trivial).elim) | (intro hif; try (first | contradiction | (exfalso; omega))))
        exact hno hnT m1 hg1
    · have cL := fun mm => (spec_l1In (net.length : Int) 2 6 mm).no h2
      repeat' (first | refine xA ?_ | refine xB ?_ | refine xC ?_ | refine xD ?_ | refine xE ?_ | refine xF ?_ | refine xG ?_ | refine xH ?_ | refine xI rfl ?_ | refine xJ ?_ | refine xK ?_ | refine xL ?_ | refine xM rfl ?_ | refine xN rfl ?_ | refine xO rfl ?_ | (first | refine xP rfl (fun hif => ?_) (fun hif => ?_) | refine xQ rfl (fun hif => ?_) (fun hif => ?_) | refine xR rfl (fun hif => ?_) (fun hif => ?_) | refine xS rfl (fun hif => ?_) (fun hif => ?_)) <;> try (first | contradiction | (exfalso; omega)) | (refine hK _ _ ?_; clear hK K) | refine AQuiet.call cN trivial ?_ | refine AQuiet.callq cN trivial ?_ | refine AQuiet.call (cL _) trivial ?_ | refine AQuiet.callq (cL _) trivial ?_ | (refine And.intro (by first | omega | assumption | (constructor <;> omega)) ?_) | (refine And.intro (fun hif => ?_) (fun hif => ?_) <;> try (first | contradiction | (exfalso; omega))) | ((first | refine xT fun K hK => ?_ | refine xU fun K hK => ?_ | refine yB (fun K hK => ?_) (fun K hK => ?_) | refine xV ?_ | refine yA ?_ | refine xW ?_ | refine xX ?_ | refine xY ?_ | refine xZ ?_) <;> simp only [↓awpOps, ↓awpKeep, ↓awpKeepF, ↓aop, ↓aopQ, ↓abin, ↓aun, ↓onSome_some, ↓Kont_at, ↓KM_at, ↓KV_at, ↓KU_at, refId_row, Frame.ev, Frame.evs, Frame.evOr, Frame.put, Frame.keep, get_nil, get_cons, argFrame, resOf, fillA, Vals.len, Vals.get, Vals.set, Vals.app, Vals.sub, Vals.take, Vals.ofAgg_cons, Vals.ofList, Vals.toInts, Vals.toBools, Vals.toSls, Vals.toStrs, Vals.zeros, Nat.reduceBEq, Nat.reduceAdd, Nat.reduceEqDiff, cond_true, cond_false, Option.map_some, Option.map_none, List.length_cons, List.length_nil, List.replicate, List.set_cons_zero, List.set_cons_succ, Nat.reduceLT, Bool.not_true, Bool.not_false, Int.toNat_natCast, inR, Nat.zero_add, Int.toNat_zero, reduceCtorEq, IntKind.bits, List.nil_append, List.cons_append, Nat.add_zero, Nat.sub_zero, noughts_len, List.map_cons, List.map_nil, zp, zu]) | refine And.intro ?_ (fun hif => (hif trivial).elim) | (intro hif; try (first | contradiction | (exfalso; omega))))
      exact hno (fun c => h2 (by have := c.1; omega)) m (Grow.refl hwf _ _)
  · have cN := spec_NetOk_b false hs (decide_eq_false hN)
    repeat' (first | refine xA ?_ | refine xB ?_ | refine xC ?_ | refine xD ?_ | refine xE ?_ | refine xF ?_ | refine xG ?_ | refine xH ?_ | refine xI rfl ?_ | refine xJ ?_ | refine xK ?_ | refine xL ?_ | refine xM rfl ?_ | refine xN rfl ?_ | refine xO rfl ?_ | (first | refine xP rfl (fun hif => ?_) (fun hif => ?_) | refine xQ rfl (fun hif => ?_) (fun hif => ?_) | refine xR rfl (fun hif => ?_) (fun hif => ?_) | refine xS rfl (fun hif => ?_) (fun hif => ?_)) <;> try (first | contradiction | (exfalso; omega)) | (refine hK _ _ ?_; clear hK K) | refine AQuiet.call cN trivial ?_ | refine AQuiet.callq cN trivial ?_ | (refine And.intro (by first | omega | assumption | (constructor <;> omega)) ?_) | (refine And.intro (fun hif => ?_) (fun hif => ?_) <;> try (first | contradiction | (exfalso; omega))) | ((first | refine xT fun K hK => ?_ | refine xU fun K hK => ?_ | refine yB (fun K hK => ?_) (fun K hK => ?_) | refine xV ?_ | refine yA ?_ | refine xW ?_ | refine xX ?_ | refine xY ?_ | refine xZ ?_) <;> simp only [↓awpOps, ↓awpKeep, ↓awpKeepF, ↓aop, ↓aopQ, ↓abin, ↓aun, ↓onSome_some, ↓Kont_at, ↓KM_at, ↓KV_at, ↓KU_at, refId_row, Frame.ev, Frame.evs, Frame.evOr, Frame.put, Frame.keep, get_nil, get_cons, argFrame, resOf, fillA, Vals.len, Vals.get, Vals.set, Vals.app, Vals.sub, Vals.take, Vals.ofAgg_cons, Vals.ofList, Vals.toInts, Vals.toBools, Vals.toSls, Vals.toStrs, Vals.zeros, Nat.reduceBEq, Nat.reduceAdd, Nat.reduceEqDiff, cond_true, cond_false, Option.map_some, Option.map_none, List.length_cons, List.length_nil, List.replicate, List.set_cons_zero, List.set_cons_succ, Nat.reduceLT, Bool.not_true, Bool.not_false, Int.toNat_natCast, inR, Nat.zero_add, Int.toNat_zero, reduceCtorEq, IntKind.bits, List.nil_append, List.cons_append, Nat.add_zero, Nat.sub_zero, noughts_len, List.map_cons, List.map_nil, zp, zu]) | refine And.intro ?_ (fun hif => (hif trivial).elim) | (intro hif; try (first | contradiction | (exfalso; omega))))
    exact hno (fun c => hN c.2.2.ok) m (Grow.refl hwf _ _)

end Go.Abs
