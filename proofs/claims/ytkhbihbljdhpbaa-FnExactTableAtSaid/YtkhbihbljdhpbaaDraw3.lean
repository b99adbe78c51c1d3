/- The reader of codes, and what draws a net: each leaves a net, whatever the code. Own work; no condition. -/
import Derived.Test.YtkhbihbljdhpbaaLaws0
import Derived.Test.YtkhbihbljdhpbaaUse
import Derived.Test.YtkhbihbljdhpbaaGrow
import Derived.Test.YtkhbihbljdhpbaaWire2
set_option maxRecDepth 100000
set_option linter.unusedSimpArgs false
set_option linter.unusedVariables false
namespace Go.Abs
open Go.Proofs
attribute [local irreducible] awp awpOps awpKeep KeepK awpKeepF KeepF aloop ALoop ACalls ACallq AQuiet retPost retPostA AExit.thn AExit.blk aApp aSt aStA

def rdRow (rid : Nat) (b : SV) (p : Int) : Row := ⟨Ty.spec_l20Rd, rid, true, .mix [.sl b, .int .i64 p]⟩

/-- A reader at a place of its code. -/
structure IsRd (m0 m : Heap) (rid : Nat) (b : SV) (bl : List Int) (p : Int) : Prop where
  pre : m0 <+: m
  le : m0.length ≤ rid
  row : m[rid]? = some (rdRow rid b p)
  alone : Alone m rid
  ints : IsInts .u8 m0 b bl
  low : ∀ i, 0 ≤ (bl.getD i 0) ∧ (bl.getD i 0) ≤ 255
  len : bl.length ≤ 2000

theorem IsRd.set {m0 m : Heap} {rid : Nat} {b : SV} {bl : List Int} {p : Int} (h : IsRd m0 m rid b bl p) (q : Int) : IsRd m0 (m.set rid (rdRow rid b q)) rid b bl q :=
  ⟨prefix_set h.pre h.le, h.le, get_set_self (get_lt h.row), h.alone.set h.row rfl rfl, h.ints, h.low, h.len⟩

theorem spec_pick {m0 m : Heap} {rid : Nat} {b : SV} {bl : List Int} {p n : Int} {K : XV → Heap → Prop} (h : IsRd m0 m rid b bl p) (hp : 0 ≤ p ∧ p < 1000000) (hn : n ≤ 100000000)
    (hK : ∀ x : Int, 0 ≤ x → (x < n ∨ x = 0) → K (.one (.int .i64 x)) (m.set rid (rdRow rid b (p + 1)))) : ACalls Try.prog F.spec_l20Rd_pick [.one (.ptr rid 0), .one (.int .i64 n)] m K := by
  obtain ⟨ref, off, len⟩ := b
  obtain rfl : len = bl.length := h.ints.1
  refine afn T.spec_l20Rd_pick (by rfl) ?_
  have g0 : m.at rid 0 = some (.sl ⟨ref, off, bl.length⟩) := at_row h.row (by simp [rdRow, Vals.len])
  have g1 : m.at rid 1 = some (.int .i64 p) := at_row h.row (by simp [rdRow, Vals.len])
  have h' := h.set (p + 1)
  have f0 : Heap.at (m.set rid (rdRow rid ⟨ref, off, bl.length⟩ (p + 1))) rid 0 = some (AV.sl ⟨ref, off, bl.length⟩) := at_row h'.row (by simp [rdRow, Vals.len])
  have f1 : Heap.at (m.set rid (rdRow rid ⟨ref, off, bl.length⟩ (p + 1))) rid 1 = some (AV.int .i64 (p + 1)) := at_row h'.row (by simp [rdRow, Vals.len])
  have hs := h.ints.pre h'.pre
  have hlen := h.len
  by_cases hl : bl.length = 0
  · repeat' (first | refine xA ?_ | refine xB ?_ | refine xC ?_ | refine xD ?_ | refine xE ?_ | refine xF ?_ | refine xG ?_ | refine xH ?_ | refine xI rfl ?_ | refine xJ ?_ | refine xK ?_ | refine xL ?_ | refine xM rfl ?_ | refine xN rfl ?_ | refine xO rfl ?_ | (first | refine xP rfl (fun hif => ?_) (fun hif => ?_) | refine xQ rfl (fun hif => ?_) (fun hif => ?_) | refine xR rfl (fun hif => ?_) (fun hif => ?_) | refine xS rfl (fun hif => ?_) (fun hif => ?_)) <;> try (first | contradiction | (exfalso; omega)) | (refine hK _ _ ?_; clear hK K) | refine onSome_of g1 ?_ | refine onSome_of f0 ?_ | refine onSome_of f1 ?_ | refine st_alone h.row h.alone (by simp [rdRow, Vals.len]) rfl ?_ | (refine And.intro (by first | omega | assumption | (constructor <;> omega)) ?_) | (refine And.intro (fun hif => ?_) (fun hif => ?_) <;> try (first | contradiction | (exfalso; omega))) | ((first | refine xT fun K hK => ?_ | refine xU fun K hK => ?_ | refine yB (fun K hK => ?_) (fun K hK => ?_) | refine xV ?_ | refine yA ?_ | refine xW ?_ | refine xX ?_ | refine xY ?_ | refine xZ ?_) <;> simp only [↓awpOps, ↓awpKeep, ↓awpKeepF, ↓aop, ↓aopQ, ↓abin, ↓aun, ↓onSome_some, ↓Kont_at, ↓KM_at, ↓KV_at, ↓KU_at, refId_row, Frame.ev, Frame.evs, Frame.evOr, Frame.put, Frame.keep, get_nil, get_cons, argFrame, resOf, fillA, Vals.len, Vals.get, Vals.set, Vals.app, Vals.sub, Vals.take, Vals.ofAgg_cons, Vals.ofList, Vals.toInts, Vals.toBools, Vals.toSls, Vals.toStrs, Vals.zeros, Nat.reduceBEq, Nat.reduceAdd, Nat.reduceEqDiff, cond_true, cond_false, Option.map_some, Option.map_none, List.length_cons, List.length_nil, List.replicate, List.set_cons_zero, List.set_cons_succ, Nat.reduceLT, Bool.not_true, Bool.not_false, Int.toNat_natCast, inR, Nat.zero_add, Int.toNat_zero, reduceCtorEq, IntKind.bits, List.nil_append, List.cons_append, Nat.add_zero, Nat.sub_zero, noughts_len, List.map_cons, List.map_nil, zp, zu]) | refine And.intro ?_ (fun hif => (hif trivial).elim) | (intro hif; try (first | contradiction | (exfalso; omega))))
    all_goals exact hK 0 (Int.le_refl _) (.inr rfl)
  · have e1 : ∀ z : Int, 0 ≤ z → 0 ≤ z % (bl.length : Int) ∧ z % (bl.length : Int) < bl.length := fun z _ => ⟨Int.emod_nonneg _ (by omega), Int.emod_lt_of_pos _ (by omega)⟩
    have e2 : ∀ z : Int, 0 ≤ z → 0 ≤ z / (bl.length : Int) ∧ z / (bl.length : Int) ≤ z := fun z hz => ⟨Int.ediv_nonneg hz (by omega), Int.ediv_le_self _ hz⟩
    have hx : ∀ z : Int, 0 ≤ z → z < 4611686018427387904 → 0 ≤ bxorInt .i64 z (z / 64) := fun z h0 h1 => by
      obtain ⟨x, rfl⟩ := Int.eq_ofNat_of_zero_le h0
      rw [show ((x : Int) / 64) = ((x / 64 : Nat) : Int) by simp, bxor_nat _ _ (by omega) (by omega)]
      omega
    have a0 := h.low (p + 1 - 1).toNat
    have b1 := e1 (p + 1 - 1) (by omega)
    have b2 := e1 ((p + 1 - 1) * 7 + 3) (by omega)
    have b3 := e2 (p + 1 - 1) (by omega)
    have a1 := h.low ((p + 1 - 1) % (bl.length : Int)).toNat
    have a2 := h.low (((p + 1 - 1) * 7 + 3) % (bl.length : Int)).toNat
    repeat' (first | refine xA ?_ | refine xB ?_ | refine xC ?_ | refine xD ?_ | refine xE ?_ | refine xF ?_ | refine xG ?_ | refine xH ?_ | refine xI rfl ?_ | refine xJ ?_ | refine xK ?_ | refine xL ?_ | refine xM rfl ?_ | refine xN rfl ?_ | refine xO rfl ?_ | (first | refine xP rfl (fun hif => ?_) (fun hif => ?_) | refine xQ rfl (fun hif => ?_) (fun hif => ?_) | refine xR rfl (fun hif => ?_) (fun hif => ?_) | refine xS rfl (fun hif => ?_) (fun hif => ?_)) <;> try (first | contradiction | (exfalso; omega)) | (refine hK _ _ ?_; clear hK K) | refine onSome_of g1 ?_ | refine onSome_of f0 ?_ | refine onSome_of f1 ?_ | refine st_alone h.row h.alone (by simp [rdRow, Vals.len]) rfl ?_ | refine onSome_of (hs.2 _ (by omega)) ?_ | refine And.intro b1 ?_ | refine And.intro b2 ?_ | refine And.intro ⟨.inl (hx _ (by omega) (by omega)), by omega⟩ ?_ | (refine And.intro (by first | omega | assumption | (constructor <;> omega)) ?_) | (refine And.intro (fun hif => ?_) (fun hif => ?_) <;> try (first | contradiction | (exfalso; omega))) | ((first | refine xT fun K hK => ?_ | refine xU fun K hK => ?_ | refine yB (fun K hK => ?_) (fun K hK => ?_) | refine xV ?_ | refine yA ?_ | refine xW ?_ | refine xX ?_ | refine xY ?_ | refine xZ ?_) <;> simp only [↓awpOps, ↓awpKeep, ↓awpKeepF, ↓aop, ↓aopQ, ↓abin, ↓aun, ↓onSome_some, ↓Kont_at, ↓KM_at, ↓KV_at, ↓KU_at, refId_row, Frame.ev, Frame.evs, Frame.evOr, Frame.put, Frame.keep, get_nil, get_cons, argFrame, resOf, fillA, Vals.len, Vals.get, Vals.set, Vals.app, Vals.sub, Vals.take, Vals.ofAgg_cons, Vals.ofList, Vals.toInts, Vals.toBools, Vals.toSls, Vals.toStrs, Vals.zeros, Nat.reduceBEq, Nat.reduceAdd, Nat.reduceEqDiff, cond_true, cond_false, Option.map_some, Option.map_none, List.length_cons, List.length_nil, List.replicate, List.set_cons_zero, List.set_cons_succ, Nat.reduceLT, Bool.not_true, Bool.not_false, Int.toNat_natCast, inR, Nat.zero_add, Int.toNat_zero, reduceCtorEq, IntKind.bits, List.nil_append, List.cons_append, Nat.add_zero, Nat.sub_zero, noughts_len, List.map_cons, List.map_nil, zp, zu]) | refine And.intro ?_ (fun hif => (hif trivial).elim) | (intro hif; try (first | contradiction | (exfalso; omega))))
    all_goals first | exact hK _ (Int.emod_nonneg _ (by omega)) (.inl (Int.emod_lt_of_pos _ (by omega))) | exact hK 0 (Int.le_refl _) (.inr rfl)

end Go.Abs

/- What draws a net leaves some net, whatever the code. Own work; no condition. -/
set_option maxRecDepth 100000
set_option linter.unusedSimpArgs false
set_option linter.unusedVariables false
namespace Go.Abs
open Go.Proofs
attribute [local irreducible] awp awpOps awpKeep KeepK awpKeepF KeepF aloop ALoop ACalls ACallq AQuiet retPost retPostA AExit.thn AExit.blk aApp aSt aStA

theorem spec_l20Open {s : SV} {l : List Int} {m : Heap} {K : XV → Heap → Prop} (hs : IsInts .u8 m s l) (hw : ∀ i, 0 ≤ (l.getD i 0) ∧ (l.getD i 0) ≤ 255)
    (hK : ∀ (b : SV) (bl : List Int), IsRd m (m ++ [rdRow m.length b 0]) m.length b bl 0 → m.wf → K (.one (.ptr m.length 0)) (m ++ [rdRow m.length b 0])) : ACalls Try.prog F.spec_l20Open [.one (.sl s)] m K := by
  obtain ⟨ref, off, len⟩ := s
  obtain rfl : len = l.length := hs.1
  refine ACalls.wf fun hwf => ?_
  refine afn T.spec_l20Open (by rfl) ?_
  have hal : ∀ b, Alone (m ++ [rdRow m.length b 0]) m.length := fun b => alone_new hwf _ _ _
  repeat' (first | refine xA ?_ | refine xB ?_ | refine xC ?_ | refine xD ?_ | refine xE ?_ | refine xF ?_ | refine xG ?_ | refine xH ?_ | refine xI rfl ?_ | refine xJ ?_ | refine xK ?_ | refine xL ?_ | refine xM rfl ?_ | refine xN rfl ?_ | refine xO rfl ?_ | (first | refine xP rfl (fun hif => ?_) (fun hif => ?_) | refine xQ rfl (fun hif => ?_) (fun hif => ?_) | refine xR rfl (fun hif => ?_) (fun hif => ?_) | refine xS rfl (fun hif => ?_) (fun hif => ?_)) <;> try (first | contradiction | (exfalso; omega)) | (refine hK _ _ ?_; clear hK K) | (refine And.intro (by first | omega | assumption | (constructor <;> omega)) ?_) | (refine And.intro (fun hif => ?_) (fun hif => ?_) <;> try (first | contradiction | (exfalso; omega))) | ((first | refine xT fun K hK => ?_ | refine xU fun K hK => ?_ | refine yB (fun K hK => ?_) (fun K hK => ?_) | refine xV ?_ | refine yA ?_ | refine xW ?_ | refine xX ?_ | refine xY ?_ | refine xZ ?_) <;> simp only [↓awpOps, ↓awpKeep, ↓awpKeepF, ↓aop, ↓aopQ, ↓abin, ↓aun, ↓onSome_some, ↓Kont_at, ↓KM_at, ↓KV_at, ↓KU_at, refId_row, Frame.ev, Frame.evs, Frame.evOr, Frame.put, Frame.keep, get_nil, get_cons, argFrame, resOf, fillA, Vals.len, Vals.get, Vals.set, Vals.app, Vals.sub, Vals.take, Vals.ofAgg_cons, Vals.ofList, Vals.toInts, Vals.toBools, Vals.toSls, Vals.toStrs, Vals.zeros, Nat.reduceBEq, Nat.reduceAdd, Nat.reduceEqDiff, cond_true, cond_false, Option.map_some, Option.map_none, List.length_cons, List.length_nil, List.replicate, List.set_cons_zero, List.set_cons_succ, Nat.reduceLT, Bool.not_true, Bool.not_false, Int.toNat_natCast, inR, Nat.zero_add, Int.toNat_zero, reduceCtorEq, IntKind.bits, List.nil_append, List.cons_append, Nat.add_zero, Nat.sub_zero, noughts_len, List.map_cons, List.map_nil, zp, zu]) | refine And.intro ?_ (fun hif => (hif trivial).elim) | (intro hif; try (first | contradiction | (exfalso; omega))))
  · refine hK ⟨ref, off, 2000⟩ (l.take 2000) ⟨prefix_push _ _, Nat.le_refl _, get_last _ _, hal _, ⟨by simp only [List.length_take]; omega, fun i hi => ?_⟩, fun i => ?_, by simp only [List.length_take]; omega⟩ hwf
    · simp only [List.length_take] at hi
      have h := hs.2 i (by omega)
      rw [h]
      simp only [List.getD_eq_getElem?_getD, List.getElem?_take]
      rw [if_pos (by omega)]
    · simp only [List.getD_eq_getElem?_getD, List.getElem?_take]
      split
      · have := hw i
        simpa only [List.getD_eq_getElem?_getD] using this
      · simp
  · exact hK ⟨ref, off, l.length⟩ l ⟨prefix_push _ _, Nat.le_refl _, get_last _ _, hal _, hs, hw, by omega⟩ hwf

theorem spec_odd {m0 m : Heap} {rid : Nat} {b : SV} {bl : List Int} {p n : Int} {K : XV → Heap → Prop} (h : IsRd m0 m rid b bl p) (hp : 0 ≤ p ∧ p < 1000000) (hn : 1 ≤ n ∧ n ≤ 1000000)
    (hK : ∀ x : Bool, K (.one (.bool x)) (m.set rid (rdRow rid b (p + 1)))) : ACalls Try.prog F.spec_l20Rd_odd [.one (.ptr rid 0), .one (.int .i64 n)] m K := by
  refine afn T.spec_l20Rd_odd (by rfl) ?_
  repeat' (first | refine xA ?_ | refine xB ?_ | refine xC ?_ | refine xD ?_ | refine xE ?_ | refine xF ?_ | refine xG ?_ | refine xH ?_ | refine xI rfl ?_ | refine xJ ?_ | refine xK ?_ | refine xL ?_ | refine xM rfl ?_ | refine xN rfl ?_ | refine xO rfl ?_ | (first | refine xP rfl (fun hif => ?_) (fun hif => ?_) | refine xQ rfl (fun hif => ?_) (fun hif => ?_) | refine xR rfl (fun hif => ?_) (fun hif => ?_) | refine xS rfl (fun hif => ?_) (fun hif => ?_)) <;> try (first | contradiction | (exfalso; omega)) | (refine hK _ _ ?_; clear hK K) | refine spec_pick h hp (by omega) fun x hx0 hx => ?_ | (refine And.intro (by first | omega | assumption | (constructor <;> omega)) ?_) | (refine And.intro (fun hif => ?_) (fun hif => ?_) <;> try (first | contradiction | (exfalso; omega))) | ((first | refine xT fun K hK => ?_ | refine xU fun K hK => ?_ | refine yB (fun K hK => ?_) (fun K hK => ?_) | refine xV ?_ | refine yA ?_ | refine xW ?_ | refine xX ?_ | refine xY ?_ | refine xZ ?_) <;> simp only [↓awpOps, ↓awpKeep, ↓awpKeepF, ↓aop, ↓aopQ, ↓abin, ↓aun, ↓onSome_some, ↓Kont_at, ↓KM_at, ↓KV_at, ↓KU_at, refId_row, Frame.ev, Frame.evs, Frame.evOr, Frame.put, Frame.keep, get_nil, get_cons, argFrame, resOf, fillA, Vals.len, Vals.get, Vals.set, Vals.app, Vals.sub, Vals.take, Vals.ofAgg_cons, Vals.ofList, Vals.toInts, Vals.toBools, Vals.toSls, Vals.toStrs, Vals.zeros, Nat.reduceBEq, Nat.reduceAdd, Nat.reduceEqDiff, cond_true, cond_false, Option.map_some, Option.map_none, List.length_cons, List.length_nil, List.replicate, List.set_cons_zero, List.set_cons_succ, Nat.reduceLT, Bool.not_true, Bool.not_false, Int.toNat_natCast, inR, Nat.zero_add, Int.toNat_zero, reduceCtorEq, IntKind.bits, List.nil_append, List.cons_append, Nat.add_zero, Nat.sub_zero, noughts_len, List.map_cons, List.map_nil, zp, zu]) | refine And.intro ?_ (fun hif => (hif trivial).elim) | (intro hif; try (first | contradiction | (exfalso; omega))))
  all_goals exact hK _

/-- The row of numbers behind all that was there. -/
abbrev nRow (m : Heap) (l : List Int) : Row := ⟨3, m.length, true, .ints .i64 l⟩

theorem IsRd.net {m0 m : Heap} {rid : Nat} {b : SV} {bl : List Int} {p : Int} (h : IsRd m0 m rid b bl p) (q : Int) (l : List Int) : IsRd m0 (m.set rid (rdRow rid b q) ++ [nRow m l]) rid b bl q := by
  have h' := h.set q
  have hl : (m.set rid (rdRow rid b q)).length = m.length := List.length_set
  refine ⟨h'.pre.trans (prefix_push _ _), h.le, row_at_push h'.row _, ?_, h.ints, h.low, h.len⟩
  have := h'.alone.push (get_lt h'.row) 3 true (.ints .i64 l)
  rw [hl] at this
  exact this

theorem set_net {m : Heap} {rid : Nat} (h : rid < m.length) (x y z : Row) : List.set (m.set rid x ++ [z]) rid y = m.set rid y ++ [z] := by
  rw [List.set_append_left _ _ (by rw [List.length_set]; exact h), List.set_set]

theorem pick_net {m0 m : Heap} {rid : Nat} {b : SV} {bl l : List Int} {p q n : Int} {K : XV → Heap → Prop} (h : IsRd m0 m rid b bl p) (hq : 0 ≤ q ∧ q < 1000000) (hn : n ≤ 1000000)
    (hK : ∀ x : Int, 0 ≤ x → (x < n ∨ x = 0) → K (.one (.int .i64 x)) (m.set rid (rdRow rid b (q + 1)) ++ [nRow m l])) : ACalls Try.prog F.spec_l20Rd_pick [.one (.ptr rid 0), .one (.int .i64 n)] (m.set rid (rdRow rid b q) ++ [nRow m l]) K := by
  refine spec_pick (h.net q l) hq (by omega) fun x h1 h2 => ?_
  rw [set_net (get_lt h.row)]
  exact hK x h1 h2

theorem odd_net {m0 m : Heap} {rid : Nat} {b : SV} {bl l : List Int} {p q n : Int} {K : XV → Heap → Prop} (h : IsRd m0 m rid b bl p) (hq : 0 ≤ q ∧ q < 1000000) (hn : 1 ≤ n ∧ n ≤ 1000000)
    (hK : ∀ x : Bool, K (.one (.bool x)) (m.set rid (rdRow rid b (q + 1)) ++ [nRow m l])) : ACalls Try.prog F.spec_l20Rd_odd [.one (.ptr rid 0), .one (.int .i64 n)] (m.set rid (rdRow rid b q) ++ [nRow m l]) K := by
  refine spec_odd (h.net q l) hq hn fun x => ?_
  rw [set_net (get_lt h.row)]
  exact hK x

theorem at_net {m : Heap} {rid k : Nat} {r : Row} {l : List Int} (hk : k < l.length) : Heap.at (m.set rid r ++ [nRow m l]) m.length k = some (.int .i64 ((l.getD k 0))) := by
  have h := get_last (m.set rid r) (nRow m l)
  rw [List.length_set] at h
  exact at_row h hk

theorem st_net {m : Heap} {rid k : Nat} {r : Row} {l : List Int} {z : Int} {K : Heap → Prop} (hwf : Heap.wf (m.set rid r)) (hk : k < l.length) (h : K (m.set rid r ++ [nRow m (l.set k z)])) : aSt (m.set rid r ++ [nRow m l]) m.length k (.int .i64 z) K := by
  have := @st_last (m.set rid r) hwf 3 k (.int .i64 z) (.ints .i64 l) (.ints .i64 (l.set k z)) K hk (by simp [Vals.set])
  rw [List.length_set] at this
  exact this h

theorem grow_set {m : Heap} {i : Nat} {r r' : Row} (hwf : m.wf) (h : m[i]? = some r) (hf : r'.fam = r.fam) (ho : r'.own = r.own) (hl : r'.vals.len ≤ r.vals.len) : Grow r.fam (r.fam + 1) m (m.set i r') := by
  have hil := get_lt h
  refine ⟨by rw [List.length_set]; exact Nat.le_refl _, fun j s hs hn => ?_, fun j s hj hs => ?_, fun j s hj hs => ?_, wf_set hwf (by rw [hf]; exact hwf i r h)⟩
  · rw [get_set_ne (fun e => by subst e; rw [h] at hs; cases hs; omega)]
    exact hs
  · by_cases e : i = j
    · subst e
      rw [get_set_self hil] at hs
      cases hs
      exact ⟨r, h, hf.symm, ho.symm, hl⟩
    · rw [get_set_ne e] at hs
      exact ⟨s, hs, rfl, rfl, Nat.le_refl _⟩
  · have := get_lt hs
    rw [List.length_set] at this
    omega

theorem IsRd.wf_of {m0 m : Heap} {rid : Nat} {b : SV} {bl : List Int} {p q : Int} (h : IsRd m0 m rid b bl p) (hwf : Heap.wf (m.set rid (rdRow rid b q))) : m.wf := fun id r hr => by
  by_cases c : rid = id
  · subst c
    rw [h.row] at hr
    cases hr
    exact Nat.le_refl _
  · exact hwf id r (by rw [List.getElem?_set_ne c]; exact hr)
theorem grow_net {m0 m : Heap} {rid : Nat} {b : SV} {bl : List Int} {p q : Int} (h : IsRd m0 m rid b bl p) (hwf : Heap.wf (m.set rid (rdRow rid b q))) (l : List Int) : Grow rid (rid + 1) m (m.set rid (rdRow rid b q) ++ [nRow m l]) := by
  have g1 := grow_set (h.wf_of hwf) h.row (r' := rdRow rid b q) rfl rfl (Nat.le_refl _)
  have g2 := Grow.push g1.wf 3 true (.ints .i64 l)
  rw [List.length_set] at g2
  exact g1.trans (g2.any _ _)

/-- A net that was drawn, and the reader behind it. -/
structure Drawn (m0 m m' : Heap) (rid : Nat) (b : SV) (bl : List Int) (p : Int) (s : SV) (net : List Int) : Prop where
  rd : ∃ q, IsRd m0 m' rid b bl q ∧ p ≤ q ∧ q ≤ p + 200
  own : ∃ id, OwnInts m.length m' s net id
  wf : m'.wf
  six : net.length ≤ 6
  grow : Grow rid (rid + 1) m m'

theorem drawn_net {m0 m : Heap} {rid : Nat} {b : SV} {bl l : List Int} {p q : Int} (h : IsRd m0 m rid b bl p) (hwf : Heap.wf (m.set rid (rdRow rid b q))) (hq : p ≤ q ∧ q ≤ p + 200) {n : Nat} (hn : n = l.length) (h6 : l.length ≤ 6) : Drawn m0 m (m.set rid (rdRow rid b q) ++ [nRow m l]) rid b bl p ⟨.row m.length, 0, n⟩ l := by
  subst hn
  have ho := ownInts_new hwf l
  rw [List.length_set] at ho
  have hw := wf_push (e := 3) (f := m.length) (v := .ints .i64 l) (o := true) hwf (by rw [List.length_set]; exact Nat.le_refl _)
  exact ⟨⟨q, h.net q l, hq.1, hq.2⟩, ⟨m.length, ho⟩, hw, h6, grow_net h hwf l⟩

theorem IsRd.push {m0 m : Heap} {rid : Nat} {b : SV} {bl : List Int} {p : Int} (h : IsRd m0 m rid b bl p) (e : TypeId) (o : Bool) (v : Vals) : IsRd m0 (m ++ [⟨e, m.length, o, v⟩]) rid b bl p :=
  ⟨h.pre.trans (prefix_push _ _), h.le, row_at_push h.row _, h.alone.push (get_lt h.row) _ _ _, h.ints, h.low, h.len⟩

theorem drawn_nil {m0 m : Heap} {rid : Nat} {b : SV} {bl l : List Int} {p q : Int} (h : IsRd m0 m rid b bl p) (hwf : Heap.wf (m.set rid (rdRow rid b q))) (hq : p ≤ q ∧ q ≤ p + 200) :
    Drawn m0 m (m.set rid (rdRow rid b q) ++ [nRow m l] ++ [⟨3, List.length (m.set rid (rdRow rid b q) ++ [nRow m l]), true, .ints .i64 []⟩]) rid b bl p ⟨.row (List.length (m.set rid (rdRow rid b q) ++ [nRow m l])), 0, 0⟩ [] := by
  have hdw := wf_push (e := 3) (f := m.length) (v := .ints .i64 l) (o := true) hwf (by rw [List.length_set]; exact Nat.le_refl _)
  have hlen : m.length ≤ List.length (m.set rid (rdRow rid b q) ++ [nRow m l]) := by simp
  have ho := ownInts_new hdw []
  exact ⟨⟨q, (h.net q l).push _ _ _, hq.1, hq.2⟩, ⟨_, Nat.le_trans hlen ho.le, ho.is, ho.row, ho.alone⟩, wf_push hdw (Nat.le_refl _), by simp, (grow_net h hwf l).trans ((Grow.push hdw 3 true (.ints .i64 [])).any _ _)⟩

set_option maxHeartbeats 8000000 in
theorem spec_l20Net {m0 m : Heap} {rid : Nat} {b : SV} {bl : List Int} {p n : Int} {K : XV → Heap → Prop} (h : IsRd m0 m rid b bl p) (hp : 0 ≤ p ∧ p < 900000) (hn : 1 ≤ n ∧ n ≤ 1000000) (hwf : m.wf)
    (hK : ∀ (s' : SV) (m' : Heap) (net : List Int), Drawn m0 m m' rid b bl p s' net → K (.one (.sl s')) m') : ACalls Try.prog F.spec_l20Net [.one (.ptr rid 0), .one (.int .i64 n)] m K := by
  refine afn T.spec_l20Net (by rfl) ?_
  have hM : ∀ q, Heap.wf (m.set rid (rdRow rid b q)) := fun q => wf_set hwf (Nat.le_refl _)
  repeat' (first | refine xA ?_ | refine xB ?_ | refine xC ?_ | refine xD ?_ | refine xE ?_ | refine xF ?_ | refine xG ?_ | refine xH ?_ | refine xI rfl ?_ | refine xJ ?_ | refine xK ?_ | refine xL ?_ | refine xM rfl ?_ | refine xN rfl ?_ | refine xO rfl ?_ | (first | refine xP rfl (fun hif => ?_) (fun hif => ?_) | refine xQ rfl (fun hif => ?_) (fun hif => ?_) | refine xR rfl (fun hif => ?_) (fun hif => ?_) | refine xS rfl (fun hif => ?_) (fun hif => ?_)) <;> try (first | contradiction | (exfalso; omega)) | (refine hK _ _ ?_; clear hK K) | refine spec_pick h (by omega) (by omega) fun x hx0 hx => ?_ | refine pick_net h (by omega) (by omega) fun z hz0 hz => ?_ | simp only [List.length_set] | (refine And.intro (by first | omega | assumption | (constructor <;> omega)) ?_) | (refine And.intro (fun hif => ?_) (fun hif => ?_) <;> try (first | contradiction | (exfalso; omega))) | ((first | refine xT fun K hK => ?_ | refine xU fun K hK => ?_ | refine yB (fun K hK => ?_) (fun K hK => ?_) | refine xV ?_ | refine yA ?_ | refine xW ?_ | refine xX ?_ | refine xY ?_ | refine xZ ?_) <;> simp only [↓awpOps, ↓awpKeep, ↓awpKeepF, ↓aop, ↓aopQ, ↓abin, ↓aun, ↓onSome_some, ↓Kont_at, ↓KM_at, ↓KV_at, ↓KU_at, refId_row, Frame.ev, Frame.evs, Frame.evOr, Frame.put, Frame.keep, get_nil, get_cons, argFrame, resOf, fillA, Vals.len, Vals.get, Vals.set, Vals.app, Vals.sub, Vals.take, Vals.ofAgg_cons, Vals.ofList, Vals.toInts, Vals.toBools, Vals.toSls, Vals.toStrs, Vals.zeros, Nat.reduceBEq, Nat.reduceAdd, Nat.reduceEqDiff, cond_true, cond_false, Option.map_some, Option.map_none, List.length_cons, List.length_nil, List.replicate, List.set_cons_zero, List.set_cons_succ, Nat.reduceLT, Bool.not_true, Bool.not_false, Int.toNat_natCast, inR, Nat.zero_add, Int.toNat_zero, reduceCtorEq, IntKind.bits, List.nil_append, List.cons_append, Nat.add_zero, Nat.sub_zero, noughts_len, List.map_cons, List.map_nil, zp, zu]) | refine And.intro ?_ (fun hif => (hif trivial).elim) | (intro hif; try (first | contradiction | (exfalso; omega))))
  refine awp_loop ?_
  refine ALoop.by [0, 1, 5, 6, 7, 8] (fun a : Nat × Int × List Int => [(0, .one (.ptr rid 0)), (1, .one (.int .i64 n)), (5, .one (.int .i64 (1 + x))), (6, .one (.sl ⟨.row m.length, 0, (1 + x).toNat⟩)), (7, .one (.int .i64 z)), (8, .one (.int .i64 a.1))]) (fun a => m.set rid (rdRow rid b a.2.1) ++ [nRow m a.2.2]) (fun a => a.1 ≤ (1 + x).toNat ∧ a.2.2.length = (1 + x).toNat ∧ p ≤ a.2.1 ∧ a.2.1 ≤ p + 2 + 12 * a.1) (fun a => (1 + x).toNat - a.1) (0, p + 1 + 1, List.replicate (1 + x).toNat 0) rfl rfl ⟨Nat.zero_le _, by simp, by simp only; omega, by simp only; omega⟩ ?_
  rintro ⟨k, q, l⟩ ⟨hk, hl, hq1, hq2⟩ K1 hK1
  simp only at hk hl hq1 hq2
  have hpx := pow_bounds (p := (1 + x - 1).toNat) (by omega)
  have hl0 : 0 < l.length := by omega
  repeat' (first | refine xA ?_ | refine xB ?_ | refine xC ?_ | refine xD ?_ | refine xE ?_ | refine xF ?_ | refine xG ?_ | refine xH ?_ | refine xI rfl ?_ | refine xJ ?_ | refine xK ?_ | refine xL ?_ | refine xM rfl ?_ | refine xN rfl ?_ | refine xO rfl ?_ | (first | refine xP rfl (fun hif => ?_) (fun hif => ?_) | refine xQ rfl (fun hif => ?_) (fun hif => ?_) | refine xR rfl (fun hif => ?_) (fun hif => ?_) | refine xS rfl (fun hif => ?_) (fun hif => ?_)) <;> try (first | contradiction | (exfalso; omega)) | (refine hK _ _ ?_; clear hK K) | refine odd_net h (by omega) hn fun o => ?_ | refine pick_net h (by omega) (by omega) fun w hw0 hw => ?_ | refine onSome_of (at_net (by omega)) ?_ | refine onSome_of (at_net (by rw [List.length_set]; omega)) ?_ | refine st_net (hM _) (by omega) ?_ | refine st_net (hM _) (by rw [List.length_set]; omega) ?_ | (refine And.intro (by first | omega | assumption | (constructor <;> omega)) ?_) | (refine And.intro (fun hif => ?_) (fun hif => ?_) <;> try (first | contradiction | (exfalso; omega))) | ((first | refine xT fun K hK => ?_ | refine xU fun K hK => ?_ | refine yB (fun K hK => ?_) (fun K hK => ?_) | refine xV ?_ | refine yA ?_ | refine xW ?_ | refine xX ?_ | refine xY ?_ | refine xZ ?_) <;> simp only [↓awpOps, ↓awpKeep, ↓awpKeepF, ↓aop, ↓aopQ, ↓abin, ↓aun, ↓onSome_some, ↓Kont_at, ↓KM_at, ↓KV_at, ↓KU_at, refId_row, Frame.ev, Frame.evs, Frame.evOr, Frame.put, Frame.keep, get_nil, get_cons, argFrame, resOf, fillA, Vals.len, Vals.get, Vals.set, Vals.app, Vals.sub, Vals.take, Vals.ofAgg_cons, Vals.ofList, Vals.toInts, Vals.toBools, Vals.toSls, Vals.toStrs, Vals.zeros, Nat.reduceBEq, Nat.reduceAdd, Nat.reduceEqDiff, cond_true, cond_false, Option.map_some, Option.map_none, List.length_cons, List.length_nil, List.replicate, List.set_cons_zero, List.set_cons_succ, Nat.reduceLT, Bool.not_true, Bool.not_false, Int.toNat_natCast, inR, Nat.zero_add, Int.toNat_zero, reduceCtorEq, IntKind.bits, List.nil_append, List.cons_append, Nat.add_zero, Nat.sub_zero, noughts_len, List.map_cons, List.map_nil, zp, zu]) | refine And.intro ?_ (fun hif => (hif trivial).elim) | (intro hif; try (first | contradiction | (exfalso; omega))))
  · refine awp_loop ?_
    have hpk := pow_bounds (p := k) (by omega)
    refine ALoop.by [0, 1, 5, 6, 7, 8, 9] (fun a : Nat × Int × List Int => [(0, .one (.ptr rid 0)), (1, .one (.int .i64 n)), (5, .one (.int .i64 (1 + x))), (6, .one (.sl ⟨.row m.length, 0, (1 + x).toNat⟩)), (7, .one (.int .i64 z)), (8, .one (.int .i64 k)), (9, .one (.int .i64 a.1))]) (fun a => m.set rid (rdRow rid b a.2.1) ++ [nRow m a.2.2]) (fun a => a.1 ≤ k ∧ a.2.2.length = (1 + x).toNat ∧ p ≤ a.2.1 ∧ a.2.1 ≤ p + 2 + 12 * k + 2 * a.1) (fun a => k - a.1) (0, q, l) rfl rfl ⟨Nat.zero_le _, hl, hq1, by simp only; omega⟩ ?_
    rintro ⟨j, q2, l2⟩ ⟨hj, hl2, hq3, hq4⟩ K2 hK2
    simp only at hj hl2 hq3 hq4
    have hpj := pow_bounds (p := j) (by omega)
    have hkl : k < l2.length := by omega
    repeat' (first | refine xA ?_ | refine xB ?_ | refine xC ?_ | refine xD ?_ | refine xE ?_ | refine xF ?_ | refine xG ?_ | refine xH ?_ | refine xI rfl ?_ | refine xJ ?_ | refine xK ?_ | refine xL ?_ | refine xM rfl ?_ | refine xN rfl ?_ | refine xO rfl ?_ | (first | refine xP rfl (fun hif => ?_) (fun hif => ?_) | refine xQ rfl (fun hif => ?_) (fun hif => ?_) | refine xR rfl (fun hif => ?_) (fun hif => ?_) | refine xS rfl (fun hif => ?_) (fun hif => ?_)) <;> try (first | contradiction | (exfalso; omega)) | (refine hK _ _ ?_; clear hK K) | refine pick_net h (by omega) (by omega) fun w hw0 hw => ?_ | refine onSome_of (at_net (by omega)) ?_ | refine onSome_of (at_net (by rw [List.length_set]; omega)) ?_ | refine st_net (hM _) (by omega) ?_ | refine st_net (hM _) (by rw [List.length_set]; omega) ?_ | (refine And.intro (by first | omega | assumption | (constructor <;> omega)) ?_) | (refine And.intro (fun hif => ?_) (fun hif => ?_) <;> try (first | contradiction | (exfalso; omega))) | ((first | refine xT fun K hK => ?_ | refine xU fun K hK => ?_ | refine yB (fun K hK => ?_) (fun K hK => ?_) | refine xV ?_ | refine yA ?_ | refine xW ?_ | refine xX ?_ | refine xY ?_ | refine xZ ?_) <;> simp only [↓awpOps, ↓awpKeep, ↓awpKeepF, ↓aop, ↓aopQ, ↓abin, ↓aun, ↓onSome_some, ↓Kont_at, ↓KM_at, ↓KV_at, ↓KU_at, refId_row, Frame.ev, Frame.evs, Frame.evOr, Frame.put, Frame.keep, get_nil, get_cons, argFrame, resOf, fillA, Vals.len, Vals.get, Vals.set, Vals.app, Vals.sub, Vals.take, Vals.ofAgg_cons, Vals.ofList, Vals.toInts, Vals.toBools, Vals.toSls, Vals.toStrs, Vals.zeros, Nat.reduceBEq, Nat.reduceAdd, Nat.reduceEqDiff, cond_true, cond_false, Option.map_some, Option.map_none, List.length_cons, List.length_nil, List.replicate, List.set_cons_zero, List.set_cons_succ, Nat.reduceLT, Bool.not_true, Bool.not_false, Int.toNat_natCast, inR, Nat.zero_add, Int.toNat_zero, reduceCtorEq, IntKind.bits, List.nil_append, List.cons_append, Nat.add_zero, Nat.sub_zero, noughts_len, List.map_cons, List.map_nil, zp, zu]) | refine And.intro ?_ (fun hif => (hif trivial).elim) | (intro hif; try (first | contradiction | (exfalso; omega))))
    all_goals first
      | exact hK2 (j + 1, _, _) _ _ rfl rfl ⟨by simp only; omega, by first | exact hl2 | (simp only [List.length_set]; exact hl2), by simp only; omega, by simp only; omega⟩ (by simp only; omega)
      | exact hK1 (k + 1, _, _) _ _ rfl rfl ⟨by simp only; omega, hl2, by simp only; omega, by simp only; omega⟩ (by simp only; omega)
  all_goals first
    | exact hK _ _ _ (drawn_net h (hM _) ⟨by omega, by omega⟩ (by first | exact hl.symm | (simp only [List.length_set]; exact hl.symm)) (by first | omega | (simp only [List.length_set]; omega)))
    | exact hK _ _ _ (drawn_nil h (hM _) ⟨by omega, by omega⟩)

theorem draw_net {s : SV} {l : List Int} {m : Heap} {K : XV → Heap → Prop} {n : Int} (hn : 1 ≤ n ∧ n ≤ 1000000) (hs : IsInts .u8 m s l) (hw : ∀ i, 0 ≤ (l.getD i 0) ∧ (l.getD i 0) ≤ 255)
    (hK : ∀ (s' : SV) (m' : Heap) (net : List Int) (id : Nat), m <+: m' → m'.wf → OwnInts m.length m' s' net id → K (.one (.sl s')) m') :
    ∀ (b : SV) (bl : List Int), IsRd m (m ++ [rdRow m.length b 0]) m.length b bl 0 → m.wf → ACalls Try.prog F.spec_l20Net [.one (.ptr m.length 0), .one (.int .i64 n)] (m ++ [rdRow m.length b 0]) K := by
  intro b bl h hwf
  refine spec_l20Net h ⟨Int.le_refl _, by decide⟩ hn (wf_push hwf (Nat.le_refl _)) fun s' m' net hd => ?_
  obtain ⟨q, hr, _⟩ := hd.rd
  obtain ⟨id, ho⟩ := hd.own
  exact hK s' m' net id hr.pre hd.wf ⟨Nat.le_trans (by simp) ho.le, ho.is, ho.row, ho.alone⟩

end Go.Abs

/- What draws a net and a row leaves some net and some row, whatever the code. Own work; no condition. -/
set_option maxRecDepth 100000
set_option linter.unusedSimpArgs false
set_option linter.unusedVariables false
namespace Go.Abs
open Go.Proofs
attribute [local irreducible] awp awpOps awpKeep KeepK awpKeepF KeepF aloop ALoop ACalls ACallq AQuiet retPost retPostA AExit.thn AExit.blk aApp aSt aStA

theorem IsRd.grow {m0 m m' : Heap} {rid c d : Nat} {b : SV} {bl : List Int} {p : Int} (h : IsRd m0 m rid b bl p) (hwf : m0.wf) (g : Grow c d m m') (hc : rid < c ∨ d ≤ rid) (h0 : m0.length ≤ c) : IsRd m0 m' rid b bl p := by
  refine ⟨g.pre h.pre hwf h0, h.le, g.keep rid _ h.row (by simp only [rdRow]; omega), fun j r hr ho hf => ?_, h.ints, h.low, h.len⟩
  by_cases hj : j < m.length
  · obtain ⟨r0, e1, e2, e3, _⟩ := g.old j r hj hr
    exact h.alone j r0 e1 (e3.trans ho) (e2.trans hf)
  · have := get_lt h.row
    rcases g.new j r (by omega) hr with h1 | h1 <;> omega

/-- A draw, what it changes told. -/
theorem pick_g {m0 m : Heap} {rid : Nat} {b : SV} {bl : List Int} {p n : Int} {K : XV → Heap → Prop} (h : IsRd m0 m rid b bl p) (hwf : m.wf) (hp : 0 ≤ p ∧ p < 1000000) (hn : n ≤ 100000000)
    (hK : ∀ (x : Int) (m' : Heap), 0 ≤ x → (x < n ∨ x = 0) → Grow rid (rid + 1) m m' → m'.length = m.length → IsRd m0 m' rid b bl (p + 1) → K (.one (.int .i64 x)) m') : ACalls Try.prog F.spec_l20Rd_pick [.one (.ptr rid 0), .one (.int .i64 n)] m K :=
  spec_pick h hp hn fun x h1 h2 => hK x _ h1 h2 (grow_set hwf h.row rfl rfl (Nat.le_refl _)) List.length_set (h.set _)

theorem odd_g {m0 m : Heap} {rid : Nat} {b : SV} {bl : List Int} {p n : Int} {K : XV → Heap → Prop} (h : IsRd m0 m rid b bl p) (hwf : m.wf) (hp : 0 ≤ p ∧ p < 1000000) (hn : 1 ≤ n ∧ n ≤ 1000000)
    (hK : ∀ (x : Bool) (m' : Heap), Grow rid (rid + 1) m m' → m'.length = m.length → IsRd m0 m' rid b bl (p + 1) → K (.one (.bool x)) m') : ACalls Try.prog F.spec_l20Rd_odd [.one (.ptr rid 0), .one (.int .i64 n)] m K :=
  spec_odd h hp hn fun x => hK x _ (grow_set hwf h.row rfl rfl (Nat.le_refl _)) List.length_set (h.set _)

/-- A slice of numbers in rows of families in a..b. -/
def Held (a b : Nat) (m : Heap) (s : SV) (l : List Int) : Prop :=
  s.len = l.length ∧ ∀ i, i < l.length → ∃ r, m[s.ref.id]? = some r ∧ a ≤ r.fam ∧ r.fam < b ∧ s.off + i < r.vals.len ∧ r.vals.get (s.off + i) = .int .i64 (l.getD i 0)
theorem Held.isInts {a b : Nat} {m : Heap} {s : SV} {l : List Int} (h : Held a b m s l) : IsInts .i64 m s l :=
  ⟨h.1, fun i hi => by obtain ⟨r, h1, _, _, h4, h5⟩ := h.2 i hi; rw [at_row h1 h4, h5]⟩
theorem Held.grow {a b c d : Nat} {m m' : Heap} {s : SV} {l : List Int} (h : Held a b m s l) (g : Grow c d m m') (hd : b ≤ c ∨ d ≤ a) : Held a b m' s l :=
  ⟨h.1, fun i hi => by obtain ⟨r, h1, h2, h3, h4⟩ := h.2 i hi; exact ⟨r, g.keep _ _ h1 (by omega), h2, h3, h4⟩⟩
theorem Held.mono {a b a' b' : Nat} {m : Heap} {s : SV} {l : List Int} (h : Held a b m s l) (ha : a' ≤ a) (hb : b ≤ b') : Held a' b' m s l :=
  ⟨h.1, fun i hi => by obtain ⟨r, h1, h2, h3, h4⟩ := h.2 i hi; exact ⟨r, h1, by omega, by omega, h4⟩⟩
theorem Obj.held {e : TypeId} {a b : Nat} {m : Heap} {s : SV} {l : List Int} (h : Obj e a b m s (.ints .i64 l)) : Held a b m s l := by
  refine ⟨h.len, fun i hi => ?_⟩
  rcases h with ⟨_, h0⟩ | ⟨id, f, h1, h2, rfl, h4⟩
  · simp only [Vals.len] at h0; omega
  · exact ⟨_, h4, h1, h2, by simp only [Vals.len]; omega, by simp [Vals.get]⟩
theorem Held.take {a b : Nat} {m : Heap} {s : SV} {l : List Int} (h : Held a b m s l) {n : Nat} (hn : n ≤ l.length) : Held a b m ⟨s.ref, s.off, n⟩ (l.take n) := by
  refine ⟨by simp only [List.length_take]; omega, fun i hi => ?_⟩
  rw [List.length_take] at hi
  obtain ⟨r, h1, h2, h3, h4, h5⟩ := h.2 i (by omega)
  refine ⟨r, h1, h2, h3, h4, ?_⟩
  rw [h5]
  simp only [List.getD_eq_getElem?_getD, List.getElem?_take]
  rw [if_pos (by omega)]

/-- A net and a row that were drawn, and the reader behind them. -/
structure Drawn2 (m0 m' : Heap) (rid : Nat) (b : SV) (bl : List Int) (p : Int) (s s' : SV) (net row : List Int) : Prop where
  rd : ∃ q, IsRd m0 m' rid b bl q ∧ p ≤ q ∧ q ≤ p + 300
  hnet : Held (rid + 1) m'.length m' s net
  hrow : Held (rid + 1) m'.length m' s' row
  wf : m'.wf
  six : net.length ≤ 6
  six' : row.length ≤ 6

end Go.Abs

/- The draws of one net; the laws' own counting. Own work; no condition. -/
set_option maxRecDepth 100000
set_option linter.unusedSimpArgs false
set_option linter.unusedVariables false
namespace Go.Abs
open Go.Proofs
attribute [local irreducible] awp awpOps awpKeep KeepK awpKeepF KeepF aloop ALoop ACalls ACallq AQuiet retPost retPostA AExit.thn AExit.blk aApp aSt aStA

theorem byte_range {l : List Int} (hw : ∀ z ∈ l, (Lit.int .u8 z).wf = true) (i : Nat) : 0 ≤ (l.getD i 0) ∧ (l.getD i 0) ≤ 255 := by
  by_cases hi : i < l.length
  · have h := hw l[i] (List.getElem_mem hi)
    rw [List.getD_eq_getElem?_getD, List.getElem?_eq_getElem hi]
    have h2 := Bool.and_eq_true_iff.1 h
    exact ⟨of_decide_eq_true h2.1, of_decide_eq_true h2.2⟩
  · rw [List.getD_eq_getElem?_getD, List.getElem?_eq_none (by omega)]
    simp

end Go.Abs
