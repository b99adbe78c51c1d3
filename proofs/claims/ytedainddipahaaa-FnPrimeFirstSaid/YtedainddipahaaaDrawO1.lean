/- The draws of chapter 9. Own work; no condition. -/
import Derived.Test.YtedainddipahaaaDrawG2
import Derived.Test.YtedainddipahaaaSpecG2
import Derived.Test.YtedainddipahaaaDraw3
set_option maxRecDepth 100000
set_option linter.unusedSimpArgs false
set_option linter.unusedVariables false
namespace Go.Abs
open Go.Proofs
attribute [local irreducible] awp awpOps awpKeep KeepK awpKeepF KeepF aloop ALoop ACalls ACallq AQuiet retPost retPostA AExit.thn AExit.blk aApp aSt aStA

/-- append(s, x[xo:xo+xl]...): a part of a row. -/
theorem app_piece {e : TypeId} {s : SV} {m : Heap} {K : XV → Heap → Prop} {l L : List Int} {f xi xo xl ex fx : Nat} {ox : Bool} (hwf : m.wf) (hs : Acc e f m s (.ints .i64 l)) (hne : s ≠ SV.nil) (hrx : m[xi]? = some ⟨ex, fx, ox, .ints .i64 L⟩) (hxl : xo + xl ≤ L.length) (hlen : l.length + xl ≤ 1000000000)
    (hk : ∀ (s' : SV) (m' : Heap), m <+: m' → Grow f (f + 1) m m' → Acc e f m' s' (.ints .i64 (l ++ (L.drop xo).take xl)) → s' ≠ SV.nil → K (.one (.sl s')) m') : aApp e s ⟨.row xi, xo, xl⟩ m K := by
  rcases hs with ⟨e0, _⟩ | ⟨id, rfl, hid, hfam⟩
  · exact absurd e0 hne
  · have hfid := hwf id _ hid
    have hil := get_lt hid
    simp only at hfid
    have hdl : ((L.drop xo).take xl).length = xl := by rw [List.length_take, List.length_drop]; omega
    have ht : (Vals.ints .i64 l).app ((Vals.ints .i64 L).sub xo xl) = some (.ints .i64 (l ++ (L.drop xo).take xl)) := by simp [Vals.app, Vals.sub]
    simp only [aApp, hid, hrx, Nat.zero_add, Vals.take_len, ht]
    simp only [Vals.len] at hfam ⊢
    refine ⟨⟨hxl, by omega⟩, ⟨trivial, trivial, Nat.le_refl _, trivial⟩, ?_⟩
    rw [cutFam_self hfam]
    refine hk _ _ (prefix_push _ _) ⟨by simp, fun i r hr _ => row_at_push hr _, fun i r hi hr => ?_, fun i r hi hr => ?_, wf_push hwf (by omega)⟩ (.inr ⟨m.length, by simp only [Vals.len, List.length_append, hdl], get_last _ _, fun j r hr ho hf => ?_⟩) (fun c => by cases c)
    · rcases get_push hr with ⟨_, h2⟩ | ⟨h1, _⟩
      · exact ⟨r, h2, rfl, rfl, Nat.le_refl _⟩
      · omega
    · rcases get_push hr with ⟨h1, _⟩ | ⟨_, rfl⟩
      · omega
      · exact .inr ⟨Nat.le_refl _, Nat.lt_succ_self _⟩
    · rcases get_push hr with ⟨_, h2⟩ | ⟨_, rfl⟩
      · have := hfam j r h2 ho hf; simp only [Vals.len, List.length_append]; omega
      · exact Nat.le_refl _
theorem app_int_k {s : SV} {m : Heap} {K : XV → Heap → Prop} {e : TypeId} {l : List Int} {z : Int} {f : Nat} (hwf : m.wf) (hs : Acc e f m s (.ints .i64 l)) (hne : s ≠ SV.nil) (hf : f < m.length) (hlen : l.length ≤ 1000000)
    (hk : ∀ (s' : SV) (m' : Heap), m <+: m' → Grow f (f + 1) m m' → Acc e f m' s' (.ints .i64 (l ++ [z])) → s' ≠ SV.nil → K (.one (.sl s')) m') : aApp e s ⟨.row m.length, 0, 1⟩ (m ++ [⟨e, m.length, true, .ints .i64 [z]⟩]) K := by
  have g := Grow.push hwf e true (.ints .i64 [z])
  refine app_obj (a := m.length) (b := m.length + 1) (u := .ints .i64 [z]) g.wf (hs.grow0 g hf) hne (obj_new e _ rfl (Nat.le_refl _) (Nat.lt_succ_self _)) (by simp only [Vals.len, List.length_cons, List.length_nil]; omega) (by simp [Vals.app]) fun s' m' hp hg ha hn => hk s' m' ((prefix_push _ _).trans hp) ((g.any _ _).trans hg) ha hn
theorem app_far {e : TypeId} {s : SV} {m : Heap} {K : XV → Heap → Prop} {l : List Int} {f : Nat} {a : Addr} (hs : Acc e f m s (.ints .i64 l)) (hne : s ≠ SV.nil) (hk : K (.one (.sl s)) m) : aApp e s ⟨.far a, 0, 0⟩ m K := by
  rcases hs with ⟨e0, _⟩ | ⟨id, rfl, hid, hfam⟩
  · exact absurd e0 hne
  · simp only [aApp, hid]
    exact ⟨⟨trivial, trivial, Nat.le_refl _⟩, hk⟩
theorem Acc.row {e : TypeId} {f : Nat} {m : Heap} {s : SV} {l : List Int} (h : Acc e f m s (.ints .i64 l)) (hne : s ≠ SV.nil) : ∃ id, s = ⟨.row id, 0, l.length⟩ ∧ m[id]? = some ⟨e, f, true, .ints .i64 l⟩ := by
  rcases h with ⟨e0, _⟩ | ⟨id, rfl, hid, _⟩
  · exact absurd e0 hne
  · exact ⟨id, rfl, hid⟩

/-- What a draw keeps of what was there. -/
def Keeps (rid : Nat) (m m' : Heap) : Prop := ∀ a b s l, rid + 1 ≤ a → b ≤ m.length → Held a b m s l → Held a b m' s l
theorem Keeps.grow {rid c d : Nat} {m m1 m2 : Heap} (h : Keeps rid m m1) (g : Grow c d m1 m2) (hd : d ≤ rid + 1 ∨ m.length ≤ c) : Keeps rid m m2 := fun a b s l ha hb hh => (h a b s l ha hb hh).grow g (by omega)

set_option maxHeartbeats 8000000 in
theorem spec_l20Order {m0 m : Heap} {rid : Nat} {b : SV} {bl : List Int} {p : Int} {many : Nat} {K : XV → Heap → Prop} (h : IsRd m0 m rid b bl p) (hwf0 : m0.wf) (hp : 0 ≤ p ∧ p < 900000) (hm6 : many ≤ 6) (hwf : m.wf)
    (hQ : ∀ (s : SV) (m' : Heap) (row : List Int) (q : Int), IsRd m0 m' rid b bl q → (p ≤ q ∧ q ≤ p + 6) → (∃ id f, s = ⟨.row id, 0, row.length⟩ ∧ m.length ≤ f ∧ f < m'.length ∧ m'[id]? = some ⟨Ty.int, f, true, .ints .i64 row⟩) → m'.wf → m.length ≤ m'.length → Keeps rid m m' → row.length = many → (row.Nodup ∧ ∀ z ∈ row, 0 ≤ z ∧ z < many) → K (.one (.sl s)) m') : ACalls Try.prog F.spec_l20Order [.one (.ptr rid 0), .one (.int .i64 many)] m K := by
  refine afn T.spec_l20Order (by rfl) ?_
  have hle0 := h.pre.length_le
  have hrm := get_lt h.row
  have hgT := Grow.push hwf Ty.int true (.ints .i64 [])
  have hRT := h.grow hwf0 (hgT.any m.length m.length) (.inl hrm) (by omega)
  repeat' (first | refine xA ?_ | refine xB ?_ | refine xC ?_ | refine xD ?_ | refine xE ?_ | refine xF ?_ | refine xG ?_ | refine xH ?_ | refine xI rfl ?_ | refine xJ ?_ | refine xK ?_ | refine xL ?_ | refine xM rfl ?_ | refine xN rfl ?_ | refine xO rfl ?_ | (first | refine xP rfl (fun hif => ?_) (fun hif => ?_) | refine xQ rfl (fun hif => ?_) (fun hif => ?_) | refine xR rfl (fun hif => ?_) (fun hif => ?_) | refine xS rfl (fun hif => ?_) (fun hif => ?_)) <;> try (first | contradiction | (exfalso; omega)) | (refine hK _ _ ?_; clear hK K) | (refine And.intro (by first | omega | assumption | (constructor <;> omega)) ?_) | (refine And.intro (fun hif => ?_) (fun hif => ?_) <;> try (first | contradiction | (exfalso; omega))) | ((first | refine xT fun K hK => ?_ | refine xU fun K hK => ?_ | refine yB (fun K hK => ?_) (fun K hK => ?_) | refine xV ?_ | refine yA ?_ | refine xW ?_ | refine xX ?_ | refine xY ?_ | refine xZ ?_) <;> simp only [↓awpOps, ↓awpKeep, ↓awpKeepF, ↓aop, ↓aopQ, ↓abin, ↓aun, ↓onSome_some, ↓Kont_at, ↓KM_at, ↓KV_at, ↓KU_at, refId_row, Frame.ev, Frame.evs, Frame.evOr, Frame.put, Frame.keep, get_nil, get_cons, argFrame, resOf, fillA, Vals.len, Vals.get, Vals.set, Vals.app, Vals.sub, Vals.take, Vals.ofAgg_cons, Vals.ofList, Vals.toInts, Vals.toBools, Vals.toSls, Vals.toStrs, Vals.zeros, Nat.reduceBEq, Nat.reduceAdd, Nat.reduceEqDiff, cond_true, cond_false, Option.map_some, Option.map_none, List.length_cons, List.length_nil, List.replicate, List.set_cons_zero, List.set_cons_succ, Nat.reduceLT, Bool.not_true, Bool.not_false, Int.toNat_natCast, inR, Nat.zero_add, Int.toNat_zero, reduceCtorEq, IntKind.bits, List.nil_append, List.cons_append, Nat.add_zero, Nat.sub_zero, noughts_len, List.map_cons, List.map_nil, zp, zu]) | refine And.intro ?_ (fun hif => (hif trivial).elim) | (intro hif; try (first | contradiction | (exfalso; omega))))
  refine awp_loop ?_
  refine ALoop.by [0, 1, 5, 6] (fun a : Nat × Int × SV × Nat × List Int × Heap => [(0, .one (.ptr rid 0)), (1, .one (.int .i64 many)), (5, .one (.sl a.2.2.1)), (6, .one (.int .i64 a.1))]) (fun a => a.2.2.2.2.2)
    (fun a => a.1 ≤ many ∧ (p ≤ a.2.1 ∧ a.2.1 ≤ p + a.1) ∧ IsRd m0 a.2.2.2.2.2 rid b bl a.2.1 ∧ Keeps rid m a.2.2.2.2.2 ∧ (Acc Ty.int a.2.2.2.1 a.2.2.2.2.2 a.2.2.1 (.ints .i64 a.2.2.2.2.1) ∧ a.2.2.1 ≠ SV.nil) ∧ (m.length ≤ a.2.2.2.1 ∧ a.2.2.2.1 < a.2.2.2.2.2.length) ∧ a.2.2.2.2.2.wf ∧ m.length ≤ a.2.2.2.2.2.length ∧ a.2.2.2.2.1.length = a.1 ∧ a.2.2.2.2.1.Nodup ∧ ∀ z ∈ a.2.2.2.2.1, 0 ≤ z ∧ z < a.1)
    (fun a => many - a.1) (0, p, ⟨.row m.length, 0, 0⟩, m.length, [], m ++ [⟨Ty.int, m.length, true, .ints .i64 []⟩]) rfl rfl
    ⟨Nat.zero_le _, by simp, hRT, fun a b s l ha hb hh => hh.grow0 hgT, ⟨acc_new hwf _ _ rfl, fun c => by cases c⟩, by simp, hgT.wf, by simp, rfl, List.nodup_nil, fun z hz => by cases hz⟩ ?_
  rintro ⟨k, q, s2, f, l, mm⟩ ⟨hk, ⟨hqa, hqb⟩, hRm, hKm, ⟨hAm, hnm⟩, ⟨hf1, hf2⟩, hwm, hlm, hlen, hnd, hlow⟩ K1 hK1
  simp only at hk hqa hqb hRm hKm hAm hnm hf1 hf2 hwm hlm hlen hnd hlow
  obtain ⟨oid, rfl, hro⟩ := hAm.row hnm
  have hol := get_lt hro
  have made : ∀ (at' : Nat) (A B : List Int), A ++ B = l → (A ++ [(k : Int)] ++ B).Nodup ∧ ∀ z ∈ A ++ [(k : Int)] ++ B, 0 ≤ z ∧ z < ((k + 1 : Nat) : Int) := fun _ A B hAB => by
    have hperm : (A ++ [(k : Int)] ++ B).Perm ((k : Int) :: l) := by
      rw [← hAB, List.append_assoc]
      exact List.perm_middle
    refine ⟨hperm.nodup_iff.2 (List.nodup_cons.2 ⟨fun c => by have := hlow _ c; omega, hnd⟩), fun z hz => ?_⟩
    rcases List.mem_cons.1 (hperm.mem_iff.1 hz) with rfl | c
    · omega
    · have := hlow z c; omega
  by_cases hlt : k < many
  · repeat' (first | refine xA ?_ | refine xB ?_ | refine xC ?_ | refine xD ?_ | refine xE ?_ | refine xF ?_ | refine xG ?_ | refine xH ?_ | refine xI rfl ?_ | refine xJ ?_ | refine xK ?_ | refine xL ?_ | refine xM rfl ?_ | refine xN rfl ?_ | refine xO rfl ?_ | (first | refine xP rfl (fun hif => ?_) (fun hif => ?_) | refine xQ rfl (fun hif => ?_) (fun hif => ?_) | refine xR rfl (fun hif => ?_) (fun hif => ?_) | refine xS rfl (fun hif => ?_) (fun hif => ?_)) <;> try (first | contradiction | (exfalso; omega)) | (refine hK _ _ ?_; clear hK K) | (refine pick_g hRm hwm (by omega) (by omega) fun x m1 hx0 hx hg1 hl1 hR1 => ?_; obtain ⟨at', rfl⟩ := Int.eq_ofNat_of_zero_le hx0; have hr1 := hg1.keep _ _ hro (by simp only; omega); have he := Grow.push hg1.wf Ty.int true (.ints .i64 []); have hr2 := row_at_push hr1 ⟨Ty.int, m1.length, true, .ints .i64 []⟩) | (refine app_piece (l := []) (L := l) (xo := 0) (xl := at') he.wf (acc_new hg1.wf Ty.int (.ints .i64 []) (n := 0) rfl) (fun c => by cases c) hr2 (by omega) (by simp only [List.length_nil]; omega) fun s3 m3 hp3 hg3 hA3 hn3 => ?_; have hl3 := hp3.length_le; rw [List.length_append, List.length_cons, List.length_nil] at hl3; have hr3 := hg3.keep _ _ hr2 (by simp only; omega)) | (refine app_int_k hg3.wf hA3 hn3 (by omega) (by simp only [List.nil_append, List.length_take, List.length_drop]; omega) fun s4 m4 hp4 hg4 hA4 hn4 => ?_; have hl4 := hp4.length_le; have hr4 := hg4.keep _ _ hr3 (by simp only; omega); by_cases hat : at' < l.length <;> by_cases haz : at' = 0) | (refine And.intro (.inl (.inl (by omega))) ?_) | (refine And.intro (.inl (.inr (by omega))) ?_) | (refine And.intro (.inr fun a => ?_) ?_) | (refine app_far hA4 hn4 ?_) | (refine app_piece (L := l) (xo := at') (xl := l.length - at') hg4.wf hA4 hn4 hr4 (by omega) (by simp only [List.nil_append, List.length_append, List.length_take, List.length_drop, List.length_cons, List.length_nil]; omega) fun s5 m5 hp5 hg5 hA5 hn5 => ?_) | (refine And.intro (by first | omega | assumption | (constructor <;> omega)) ?_) | (refine And.intro (fun hif => ?_) (fun hif => ?_) <;> try (first | contradiction | (exfalso; omega))) | ((first | refine xT fun K hK => ?_ | refine xU fun K hK => ?_ | refine yB (fun K hK => ?_) (fun K hK => ?_) | refine xV ?_ | refine yA ?_ | refine xW ?_ | refine xX ?_ | refine xY ?_ | refine xZ ?_) <;> simp only [↓awpOps, ↓awpKeep, ↓awpKeepF, ↓aop, ↓aopQ, ↓abin, ↓aun, ↓onSome_some, ↓Kont_at, ↓KM_at, ↓KV_at, ↓KU_at, refId_row, Frame.ev, Frame.evs, Frame.evOr, Frame.put, Frame.keep, get_nil, get_cons, argFrame, resOf, fillA, Vals.len, Vals.get, Vals.set, Vals.app, Vals.sub, Vals.take, Vals.ofAgg_cons, Vals.ofList, Vals.toInts, Vals.toBools, Vals.toSls, Vals.toStrs, Vals.zeros, Nat.reduceBEq, Nat.reduceAdd, Nat.reduceEqDiff, cond_true, cond_false, Option.map_some, Option.map_none, List.length_cons, List.length_nil, List.replicate, List.set_cons_zero, List.set_cons_succ, Nat.reduceLT, Bool.not_true, Bool.not_false, Int.toNat_natCast, inR, Nat.zero_add, Int.toNat_zero, reduceCtorEq, IntKind.bits, List.nil_append, List.cons_append, Nat.add_zero, Nat.sub_zero, noughts_len, List.map_cons, List.map_nil, zp, zu]) | refine And.intro ?_ (fun hif => (hif trivial).elim) | (intro hif; try (first | contradiction | (exfalso; omega))))
    all_goals
      first
        | (refine hK1 (k + 1, q + 1, s5, m1.length, _, m5) _ _ rfl rfl ⟨by simp only; omega, ⟨by simp only; omega, by simp only; omega⟩, ?_, ?_, ⟨hA5, hn5⟩, ⟨by simp only; omega, by simp only; have := hp5.length_le; omega⟩, hg5.wf, by simp only; have := hp5.length_le; omega, ?_, ?_⟩ (by simp only; omega)
           · exact (((hR1.grow hwf0 (he.any m1.length m1.length) (.inl (by omega)) (by omega)).grow hwf0 hg3 (by omega) (by omega)).grow hwf0 hg4 (by omega) (by omega)).grow hwf0 hg5 (by omega) (by omega)
           · exact ((((hKm.grow hg1 (by omega)).grow he (by omega)).grow hg3 (by omega)).grow hg4 (by omega)).grow hg5 (by omega)
           · simp only [List.nil_append, List.length_append, List.length_take, List.length_drop, List.length_cons, List.length_nil]; omega
           · have hm := made at' (l.take at') (l.drop at') (List.take_append_drop _ _)
             rw [List.nil_append, List.drop_zero, show (l.drop at').take (l.length - at') = l.drop at' from List.take_of_length_le (by rw [List.length_drop]; exact Nat.le_refl _)]
             exact hm)
        | (refine hK1 (k + 1, q + 1, s4, m1.length, _, m4) _ _ rfl rfl ⟨by simp only; omega, ⟨by simp only; omega, by simp only; omega⟩, ?_, ?_, ⟨hA4, hn4⟩, ⟨by simp only; omega, by simp only; omega⟩, hg4.wf, by simp only; omega, ?_, ?_⟩ (by simp only; omega)
           · exact ((hR1.grow hwf0 (he.any m1.length m1.length) (.inl (by omega)) (by omega)).grow hwf0 hg3 (by omega) (by omega)).grow hwf0 hg4 (by omega) (by omega)
           · exact (((hKm.grow hg1 (by omega)).grow he (by omega)).grow hg3 (by omega)).grow hg4 (by omega)
           · simp only [List.nil_append, List.length_append, List.length_take, List.length_drop, List.length_cons, List.length_nil]; omega
           · have hm := made at' l [] (List.append_nil _)
             rw [List.append_nil] at hm
             rw [List.nil_append, List.drop_zero, List.take_of_length_le (by omega)]
             exact hm)
  · obtain rfl : k = many := by omega
    repeat' (first | refine xA ?_ | refine xB ?_ | refine xC ?_ | refine xD ?_ | refine xE ?_ | refine xF ?_ | refine xG ?_ | refine xH ?_ | refine xI rfl ?_ | refine xJ ?_ | refine xK ?_ | refine xL ?_ | refine xM rfl ?_ | refine xN rfl ?_ | refine xO rfl ?_ | (first | refine xP rfl (fun hif => ?_) (fun hif => ?_) | refine xQ rfl (fun hif => ?_) (fun hif => ?_) | refine xR rfl (fun hif => ?_) (fun hif => ?_) | refine xS rfl (fun hif => ?_) (fun hif => ?_)) <;> try (first | contradiction | (exfalso; omega)) | (refine hK _ _ ?_; clear hK K) | (refine And.intro (by first | omega | assumption | (constructor <;> omega)) ?_) | (refine And.intro (fun hif => ?_) (fun hif => ?_) <;> try (first | contradiction | (exfalso; omega))) | ((first | refine xT fun K hK => ?_ | refine xU fun K hK => ?_ | refine yB (fun K hK => ?_) (fun K hK => ?_) | refine xV ?_ | refine yA ?_ | refine xW ?_ | refine xX ?_ | refine xY ?_ | refine xZ ?_) <;> simp only [↓awpOps, ↓awpKeep, ↓awpKeepF, ↓aop, ↓aopQ, ↓abin, ↓aun, ↓onSome_some, ↓Kont_at, ↓KM_at, ↓KV_at, ↓KU_at, refId_row, Frame.ev, Frame.evs, Frame.evOr, Frame.put, Frame.keep, get_nil, get_cons, argFrame, resOf, fillA, Vals.len, Vals.get, Vals.set, Vals.app, Vals.sub, Vals.take, Vals.ofAgg_cons, Vals.ofList, Vals.toInts, Vals.toBools, Vals.toSls, Vals.toStrs, Vals.zeros, Nat.reduceBEq, Nat.reduceAdd, Nat.reduceEqDiff, cond_true, cond_false, Option.map_some, Option.map_none, List.length_cons, List.length_nil, List.replicate, List.set_cons_zero, List.set_cons_succ, Nat.reduceLT, Bool.not_true, Bool.not_false, Int.toNat_natCast, inR, Nat.zero_add, Int.toNat_zero, reduceCtorEq, IntKind.bits, List.nil_append, List.cons_append, Nat.add_zero, Nat.sub_zero, noughts_len, List.map_cons, List.map_nil, zp, zu]) | refine And.intro ?_ (fun hif => (hif trivial).elim) | (intro hif; try (first | contradiction | (exfalso; omega))))
    exact hQ _ mm l q hRm (by omega) ⟨oid, f, rfl, hf1, hf2, hro⟩ hwm hlm hKm hlen ⟨hnd, hlow⟩

end Go.Abs
