/- ShapeNet of both, by contracts. Own work; no condition. -/
import Derived.Test.YtnkmcllbljjeoaaGrow
import Derived.Test.YtnkmcllbljjeoaaLaws0
import Derived.Test.YtnkmcllbljjeoaaWire2
import Derived.Test.YtnkmcllbljjeoaaSpecG2
set_option maxRecDepth 100000
set_option linter.unusedSimpArgs false
set_option linter.unusedVariables false
namespace Go.Abs
open Go.Proofs
attribute [local irreducible] awp awpOps awpKeep KeepK aloop ALoop ACalls ACallq AQuiet retPost retPostA AExit.thn AExit.blk aApp aSt aStA

def shapeOk (kind places : Int) : Prop := (0 ≤ kind ∧ kind ≤ 2) ∧ (1 ≤ places ∧ places ≤ 6) ∧ ¬ (kind = 1 ∧ places < 3)
instance (kind places : Int) : Decidable (shapeOk kind places) := by unfold shapeOk; infer_instance
end Go.Abs

/- The draw of a net of few wires. Own work; no condition. -/
set_option maxRecDepth 100000
set_option linter.unusedSimpArgs false
set_option linter.unusedVariables false
namespace Go.Abs
open Go.Proofs
attribute [local irreducible] awp awpOps awpKeep KeepK aloop ALoop ACalls ACallq AQuiet retPost retPostA AExit.thn AExit.blk aApp aSt aStA

theorem Lists.wire_row {a b : Nat} {m : Heap} {s : SV} {net : List Int} (h : Lists a b m s (wires net)) {i : Nat} (hi : i < (wires net).length) :
    ∃ x y wi gi : Nat, m.at (s.ref.id) (s.off + i) = some (.sl ⟨.row wi, 0, 2⟩) ∧ (a ≤ gi ∧ gi < b ∧ m[wi]? = some ⟨Ty.int, gi, true, .ints .i64 [(x : Int), (y : Int)]⟩) ∧ x < net.length ∧ x < y ∧ y < net.length ∧ bit ((net.getD x 0)) y = true := by
  obtain ⟨svs, f, h1, h2, h4, h5⟩ := h
  obtain ⟨x, y, g1, g2, g3, g4, g5⟩ := wire_at hi
  obtain ⟨wi, gi, p1, p2, _, q1, q2, _⟩ := h5 i hi
  rw [g1] at q1 q2
  have h0 := ((h1.obj' h2).isSls).2 i (by omega)
  rw [q1] at h0
  exact ⟨x, y, wi, gi, h0, ⟨p1, p2, q2⟩, g2, g3, g4, g5⟩
theorem at_w0 {m : Heap} {wi gi : Nat} {x y : Int} (h : m[wi]? = some ⟨Ty.int, gi, true, .ints .i64 [x, y]⟩) : m.at wi 0 = some (.int .i64 x) := at_row h (by simp [Vals.len])
theorem at_w1 {m : Heap} {wi gi : Nat} {x y : Int} (h : m[wi]? = some ⟨Ty.int, gi, true, .ints .i64 [x, y]⟩) : m.at wi 1 = some (.int .i64 y) := at_row h (by simp [Vals.len])

set_option maxHeartbeats 4000000 in
theorem spec_l20Thin {m0 m : Heap} {rid : Nat} {b : SV} {bl : List Int} {p n : Int} {K : XV → Heap → Prop} (h : IsRd m0 m rid b bl p) (hwf0 : m0.wf) (hp : 0 ≤ p ∧ p < 800000) (hn : 1 ≤ n ∧ n ≤ 1000000) (hwf : m.wf)
    (hQ : ∀ (s' : SV) (m' : Heap) (net : List Int), (∃ q, IsRd m0 m' rid b bl q ∧ p ≤ q ∧ q ≤ p + 300) → Held (rid + 1) m'.length m' s' net → m'.wf → m.length ≤ m'.length → net.length ≤ 6 → K (.one (.sl s')) m') : ACalls Try.prog F.spec_l20Thin [.one (.ptr rid 0), .one (.int .i64 n)] m K := by
  refine afn T.spec_l20Thin (by rfl) ?_
  repeat' (first | refine xA ?_ | refine xB ?_ | refine xC ?_ | refine xD ?_ | refine xE ?_ | refine xF ?_ | refine xG ?_ | refine xH ?_ | refine xI rfl ?_ | refine xJ ?_ | refine xK ?_ | refine xL ?_ | refine xM rfl ?_ | refine xN rfl ?_ | refine xO rfl ?_ | (first | refine xP rfl (fun hif => ?_) (fun hif => ?_) | refine xQ rfl (fun hif => ?_) (fun hif => ?_) | refine xR rfl (fun hif => ?_) (fun hif => ?_) | refine xS rfl (fun hif => ?_) (fun hif => ?_)) <;> try (first | contradiction | (exfalso; omega)) | (refine hK _ _ ?_; clear hK K) | refine spec_l20Net h (by omega) hn hwf fun s1 m1 net1 hd => ?_ | (refine And.intro (by first | omega | assumption | (constructor <;> omega)) ?_) | (refine And.intro (fun hif => ?_) (fun hif => ?_) <;> try (first | contradiction | (exfalso; omega))) | ((first | refine xT fun K hK => ?_ | refine xU fun K hK => ?_ | refine xV ?_ | refine xW ?_ | refine xX ?_ | refine xY ?_ | refine xZ ?_); simp only [↓awpOps, ↓awpKeep, ↓aop, ↓aopQ, ↓abin, ↓aun, ↓onSome_some, ↓Kont_at, ↓KM_at, ↓KV_at, ↓KU_at, refId_row, Frame.ev, Frame.evs, Frame.evOr, Frame.put, Frame.keep, get_nil, get_cons, argFrame, resOf, fillA, Vals.len, Vals.get, Vals.set, Vals.app, Vals.sub, Vals.take, Vals.ofAgg_cons, Vals.ofList, Vals.toInts, Vals.toBools, Vals.toSls, Vals.toStrs, Vals.zeros, Nat.reduceBEq, Nat.reduceAdd, Nat.reduceEqDiff, cond_true, cond_false, Option.map_some, Option.map_none, List.length_cons, List.length_nil, List.replicate, List.set_cons_zero, List.set_cons_succ, Nat.reduceLT, Bool.not_true, Bool.not_false, Int.toNat_natCast, inR, Nat.zero_add, Int.toNat_zero, reduceCtorEq, IntKind.bits, List.nil_append, List.cons_append, Nat.add_zero, Nat.sub_zero, List.map_cons, List.map_nil, zp, zu]) | refine And.intro ?_ (fun hif => (hif trivial).elim) | (intro hif; try (first | contradiction | (exfalso; omega))))
  obtain ⟨q1, hR1, hq1, hq2⟩ := hd.rd
  obtain ⟨id, ho⟩ := hd.own
  have h6 := hd.six
  have hw1 := hd.wf
  have his := ho.is
  subst his
  have hidl := ho.le
  have hrm := get_lt h.row
  have hle0 := h.pre.length_le
  have hW1 : NetOk net1 → (wires net1).length ≤ 36 := fun hN => wires_len hN
  refine awp_loop ?_
  refine ALoop.by [0, 5] (fun a : List Int × Int × Heap => [(0, .one (.ptr rid 0)), (5, .one (.sl ⟨.row id, 0, net1.length⟩))]) (fun a => a.2.2)
    (fun a => a.1.length = net1.length ∧ (q1 ≤ a.2.1 ∧ (NetOk a.1 → a.2.1 + (wires a.1).length ≤ q1 + 36) ∧ a.2.1 ≤ q1 + 36) ∧ IsRd m0 a.2.2 rid b bl a.2.1 ∧ a.2.2[id]? = some ⟨3, id, true, .ints .i64 a.1⟩ ∧ a.2.2.wf ∧ m1.length ≤ a.2.2.length)
    (fun a => (wires a.1).length) (net1, q1, m1) rfl rfl ⟨rfl, ⟨Int.le_refl _, fun hN => by have := hW1 hN; simp only; omega, by simp only; omega⟩, hR1, ho.row, hw1, Nat.le_refl _⟩ ?_
  rintro ⟨net, q, m2⟩ ⟨hnl, ⟨hqa, hqb, hqc⟩, hR2, hrow2, hw2, hl2⟩ K1 hK1
  simp only at hnl hqa hqb hqc hR2 hrow2 hw2 hl2
  have hI2 : IsInts .i64 m2 ⟨.row id, 0, net1.length⟩ net := ⟨hnl.symm, fun i hi => by rw [Nat.zero_add]; exact at_row hrow2 hi⟩
  have hid2 := get_lt hrow2
  have hr2 := get_lt hR2.row
  by_cases hN : NetOk net
  · have hWn := wires_len hN
    by_cases hgt : 8 < (wires net).length
    · repeat' (first | refine xA ?_ | refine xB ?_ | refine xC ?_ | refine xD ?_ | refine xE ?_ | refine xF ?_ | refine xG ?_ | refine xH ?_ | refine xI rfl ?_ | refine xJ ?_ | refine xK ?_ | refine xL ?_ | refine xM rfl ?_ | refine xN rfl ?_ | refine xO rfl ?_ | (first | refine xP rfl (fun hif => ?_) (fun hif => ?_) | refine xQ rfl (fun hif => ?_) (fun hif => ?_) | refine xR rfl (fun hif => ?_) (fun hif => ?_) | refine xS rfl (fun hif => ?_) (fun hif => ?_)) <;> try (first | contradiction | (exfalso; omega)) | (refine hK _ _ ?_; clear hK K) | refine AQuiet.call (spec_NetOk_t hI2 hN) trivial ?_ | (refine spec_l1Wires_g hI2 hN fun s3 m3 hg3 hL3 => ?_; obtain ⟨sref, soff, slen⟩ := s3; obtain rfl : slen = (wires net).length := hL3.len) | (refine And.intro (by first | omega | assumption | (constructor <;> omega)) ?_) | (refine And.intro (fun hif => ?_) (fun hif => ?_) <;> try (first | contradiction | (exfalso; omega))) | ((first | refine xT fun K hK => ?_ | refine xU fun K hK => ?_ | refine xV ?_ | refine xW ?_ | refine xX ?_ | refine xY ?_ | refine xZ ?_); simp only [↓awpOps, ↓awpKeep, ↓aop, ↓aopQ, ↓abin, ↓aun, ↓onSome_some, ↓Kont_at, ↓KM_at, ↓KV_at, ↓KU_at, refId_row, Frame.ev, Frame.evs, Frame.evOr, Frame.put, Frame.keep, get_nil, get_cons, argFrame, resOf, fillA, Vals.len, Vals.get, Vals.set, Vals.app, Vals.sub, Vals.take, Vals.ofAgg_cons, Vals.ofList, Vals.toInts, Vals.toBools, Vals.toSls, Vals.toStrs, Vals.zeros, Nat.reduceBEq, Nat.reduceAdd, Nat.reduceEqDiff, cond_true, cond_false, Option.map_some, Option.map_none, List.length_cons, List.length_nil, List.replicate, List.set_cons_zero, List.set_cons_succ, Nat.reduceLT, Bool.not_true, Bool.not_false, Int.toNat_natCast, inR, Nat.zero_add, Int.toNat_zero, reduceCtorEq, IntKind.bits, List.nil_append, List.cons_append, Nat.add_zero, Nat.sub_zero, List.map_cons, List.map_nil, zp, zu]) | refine And.intro ?_ (fun hif => (hif trivial).elim) | (intro hif; try (first | contradiction | (exfalso; omega))))
      have hg3' := hg3
      have hrow3 := hg3.keep _ _ hrow2 (.inr (Nat.zero_le _))
      have hI3 : IsInts .i64 m3 ⟨.row id, 0, net1.length⟩ net := ⟨hnl.symm, fun i hi => by rw [Nat.zero_add]; exact at_row hrow3 hi⟩
      have hR3 := hR2.grow hwf0 (hg3.any m2.length m2.length) (.inl hr2) (by omega)
      have hl3 := hg3.le
      have hqb' := hqb hN
      repeat' (first | refine xA ?_ | refine xB ?_ | refine xC ?_ | refine xD ?_ | refine xE ?_ | refine xF ?_ | refine xG ?_ | refine xH ?_ | refine xI rfl ?_ | refine xJ ?_ | refine xK ?_ | refine xL ?_ | refine xM rfl ?_ | refine xN rfl ?_ | refine xO rfl ?_ | (first | refine xP rfl (fun hif => ?_) (fun hif => ?_) | refine xQ rfl (fun hif => ?_) (fun hif => ?_) | refine xR rfl (fun hif => ?_) (fun hif => ?_) | refine xS rfl (fun hif => ?_) (fun hif => ?_)) <;> try (first | contradiction | (exfalso; omega)) | (refine hK _ _ ?_; clear hK K) | (refine spec_l1Wires_g hI3 hN fun s4 m4 hg4 hL4 => ?_; obtain ⟨tref, toff, tlen⟩ := s4; obtain rfl : tlen = (wires net).length := hL4.len) | (refine And.intro (by first | omega | assumption | (constructor <;> omega)) ?_) | (refine And.intro (fun hif => ?_) (fun hif => ?_) <;> try (first | contradiction | (exfalso; omega))) | ((first | refine xT fun K hK => ?_ | refine xU fun K hK => ?_ | refine xV ?_ | refine xW ?_ | refine xX ?_ | refine xY ?_ | refine xZ ?_); simp only [↓awpOps, ↓awpKeep, ↓aop, ↓aopQ, ↓abin, ↓aun, ↓onSome_some, ↓Kont_at, ↓KM_at, ↓KV_at, ↓KU_at, refId_row, Frame.ev, Frame.evs, Frame.evOr, Frame.put, Frame.keep, get_nil, get_cons, argFrame, resOf, fillA, Vals.len, Vals.get, Vals.set, Vals.app, Vals.sub, Vals.take, Vals.ofAgg_cons, Vals.ofList, Vals.toInts, Vals.toBools, Vals.toSls, Vals.toStrs, Vals.zeros, Nat.reduceBEq, Nat.reduceAdd, Nat.reduceEqDiff, cond_true, cond_false, Option.map_some, Option.map_none, List.length_cons, List.length_nil, List.replicate, List.set_cons_zero, List.set_cons_succ, Nat.reduceLT, Bool.not_true, Bool.not_false, Int.toNat_natCast, inR, Nat.zero_add, Int.toNat_zero, reduceCtorEq, IntKind.bits, List.nil_append, List.cons_append, Nat.add_zero, Nat.sub_zero, List.map_cons, List.map_nil, zp, zu]) | refine And.intro ?_ (fun hif => (hif trivial).elim) | (intro hif; try (first | contradiction | (exfalso; omega))))
      have hrow4 := hg4.keep _ _ hrow3 (.inr (Nat.zero_le _))
      have hR4 := hR3.grow hwf0 (hg4.any m3.length m3.length) (.inl (by omega)) (by omega)
      have hl4 := hg4.le
      have hLo4 : LObj m3.length m4.length m4 ⟨tref, toff, (wires net).length⟩ (wires net) := ⟨hg4.wf, hL4⟩
      repeat' (first | refine xA ?_ | refine xB ?_ | refine xC ?_ | refine xD ?_ | refine xE ?_ | refine xF ?_ | refine xG ?_ | refine xH ?_ | refine xI rfl ?_ | refine xJ ?_ | refine xK ?_ | refine xL ?_ | refine xM rfl ?_ | refine xN rfl ?_ | refine xO rfl ?_ | (first | refine xP rfl (fun hif => ?_) (fun hif => ?_) | refine xQ rfl (fun hif => ?_) (fun hif => ?_) | refine xR rfl (fun hif => ?_) (fun hif => ?_) | refine xS rfl (fun hif => ?_) (fun hif => ?_)) <;> try (first | contradiction | (exfalso; omega)) | (refine hK _ _ ?_; clear hK K) | refine pick_g hR4 hg4.wf (by omega) (by omega) fun x m5 hx0 hx hg5 hl5 hR5 => ?_ | (refine And.intro (by first | omega | assumption | (constructor <;> omega)) ?_) | (refine And.intro (fun hif => ?_) (fun hif => ?_) <;> try (first | contradiction | (exfalso; omega))) | ((first | refine xT fun K hK => ?_ | refine xU fun K hK => ?_ | refine xV ?_ | refine xW ?_ | refine xX ?_ | refine xY ?_ | refine xZ ?_); simp only [↓awpOps, ↓awpKeep, ↓aop, ↓aopQ, ↓abin, ↓aun, ↓onSome_some, ↓Kont_at, ↓KM_at, ↓KV_at, ↓KU_at, refId_row, Frame.ev, Frame.evs, Frame.evOr, Frame.put, Frame.keep, get_nil, get_cons, argFrame, resOf, fillA, Vals.len, Vals.get, Vals.set, Vals.app, Vals.sub, Vals.take, Vals.ofAgg_cons, Vals.ofList, Vals.toInts, Vals.toBools, Vals.toSls, Vals.toStrs, Vals.zeros, Nat.reduceBEq, Nat.reduceAdd, Nat.reduceEqDiff, cond_true, cond_false, Option.map_some, Option.map_none, List.length_cons, List.length_nil, List.replicate, List.set_cons_zero, List.set_cons_succ, Nat.reduceLT, Bool.not_true, Bool.not_false, Int.toNat_natCast, inR, Nat.zero_add, Int.toNat_zero, reduceCtorEq, IntKind.bits, List.nil_append, List.cons_append, Nat.add_zero, Nat.sub_zero, List.map_cons, List.map_nil, zp, zu]) | refine And.intro ?_ (fun hif => (hif trivial).elim) | (intro hif; try (first | contradiction | (exfalso; omega))))
      have hrow5 := hg5.keep _ _ hrow4 (by simp only; omega)
      have hLo5 := hLo4.grow hg5 (by omega)
      obtain ⟨a, c, wi, gi, f1, ⟨fa, fb, fr⟩, f4, f5, f6, f7⟩ := hLo5.is.wire_row (i := x.toNat) (by omega)
      have f2 := at_w0 fr
      have f3 := at_w1 fr
      have ha := pow_bounds (p := a) (by omega)
      have hc := pow_bounds (p := c) (by omega)
      have ka := at_row hrow5 (off := a) (by simp only [Vals.len]; omega)
      simp only [Vals.get] at ka
      have hxa := bxor_less (hN.small f4) (by omega : c < 6) f7
      repeat' (first | refine xA ?_ | refine xB ?_ | refine xC ?_ | refine xD ?_ | refine xE ?_ | refine xF ?_ | refine xG ?_ | refine xH ?_ | refine xI rfl ?_ | refine xJ ?_ | refine xK ?_ | refine xL ?_ | refine xM rfl ?_ | refine xN rfl ?_ | refine xO rfl ?_ | (first | refine xP rfl (fun hif => ?_) (fun hif => ?_) | refine xQ rfl (fun hif => ?_) (fun hif => ?_) | refine xR rfl (fun hif => ?_) (fun hif => ?_) | refine xS rfl (fun hif => ?_) (fun hif => ?_)) <;> try (first | contradiction | (exfalso; omega)) | (refine hK _ _ ?_; clear hK K) | refine onSome_of f1 ?_ | refine onSome_of f2 ?_ | refine onSome_of f3 ?_ | refine onSome_of ka ?_ | rw [hxa] | (refine st_row hg5.wf hrow5 (by simp only [Vals.len]; omega) rfl fun m6 hg6 hl6 hr6 => ?_) | (refine And.intro (by first | omega | assumption | (constructor <;> omega)) ?_) | (refine And.intro (fun hif => ?_) (fun hif => ?_) <;> try (first | contradiction | (exfalso; omega))) | ((first | refine xT fun K hK => ?_ | refine xU fun K hK => ?_ | refine xV ?_ | refine xW ?_ | refine xX ?_ | refine xY ?_ | refine xZ ?_); simp only [↓awpOps, ↓awpKeep, ↓aop, ↓aopQ, ↓abin, ↓aun, ↓onSome_some, ↓Kont_at, ↓KM_at, ↓KV_at, ↓KU_at, refId_row, Frame.ev, Frame.evs, Frame.evOr, Frame.put, Frame.keep, get_nil, get_cons, argFrame, resOf, fillA, Vals.len, Vals.get, Vals.set, Vals.app, Vals.sub, Vals.take, Vals.ofAgg_cons, Vals.ofList, Vals.toInts, Vals.toBools, Vals.toSls, Vals.toStrs, Vals.zeros, Nat.reduceBEq, Nat.reduceAdd, Nat.reduceEqDiff, cond_true, cond_false, Option.map_some, Option.map_none, List.length_cons, List.length_nil, List.replicate, List.set_cons_zero, List.set_cons_succ, Nat.reduceLT, Bool.not_true, Bool.not_false, Int.toNat_natCast, inR, Nat.zero_add, Int.toNat_zero, reduceCtorEq, IntKind.bits, List.nil_append, List.cons_append, Nat.add_zero, Nat.sub_zero, List.map_cons, List.map_nil, zp, zu]) | refine And.intro ?_ (fun hif => (hif trivial).elim) | (intro hif; try (first | contradiction | (exfalso; omega))))
      have fr6 := hg6.keep _ _ fr (by simp only; omega)
      have j2 := at_w0 fr6
      have j3 := at_w1 fr6
      have jc := at_row hr6 (off := c) (by simp only [Vals.len, List.length_set]; omega)
      simp only [Vals.get] at jc
      have e1c : (net.set a ((net.getD a 0) - 2 ^ c)).getD c 0 = (net.getD c 0) := less1_b hN f4 f6 (by omega) f7
      have hxc := bxor_less (hN.small f6) (by omega : a < 6) (by rw [hN.sym f6 f4]; exact f7)
      rw [e1c] at jc
      repeat' (first | refine xA ?_ | refine xB ?_ | refine xC ?_ | refine xD ?_ | refine xE ?_ | refine xF ?_ | refine xG ?_ | refine xH ?_ | refine xI rfl ?_ | refine xJ ?_ | refine xK ?_ | refine xL ?_ | refine xM rfl ?_ | refine xN rfl ?_ | refine xO rfl ?_ | (first | refine xP rfl (fun hif => ?_) (fun hif => ?_) | refine xQ rfl (fun hif => ?_) (fun hif => ?_) | refine xR rfl (fun hif => ?_) (fun hif => ?_) | refine xS rfl (fun hif => ?_) (fun hif => ?_)) <;> try (first | contradiction | (exfalso; omega)) | (refine hK _ _ ?_; clear hK K) | refine onSome_of j2 ?_ | refine onSome_of j3 ?_ | refine onSome_of jc ?_ | rw [hxc] | (refine st_row hg6.wf hr6 (by simp only [Vals.len, List.length_set]; omega) rfl fun m7 hg7 hl7 hr7 => ?_) | (refine And.intro (by first | omega | assumption | (constructor <;> omega)) ?_) | (refine And.intro (fun hif => ?_) (fun hif => ?_) <;> try (first | contradiction | (exfalso; omega))) | ((first | refine xT fun K hK => ?_ | refine xU fun K hK => ?_ | refine xV ?_ | refine xW ?_ | refine xX ?_ | refine xY ?_ | refine xZ ?_); simp only [↓awpOps, ↓awpKeep, ↓aop, ↓aopQ, ↓abin, ↓aun, ↓onSome_some, ↓Kont_at, ↓KM_at, ↓KV_at, ↓KU_at, refId_row, Frame.ev, Frame.evs, Frame.evOr, Frame.put, Frame.keep, get_nil, get_cons, argFrame, resOf, fillA, Vals.len, Vals.get, Vals.set, Vals.app, Vals.sub, Vals.take, Vals.ofAgg_cons, Vals.ofList, Vals.toInts, Vals.toBools, Vals.toSls, Vals.toStrs, Vals.zeros, Nat.reduceBEq, Nat.reduceAdd, Nat.reduceEqDiff, cond_true, cond_false, Option.map_some, Option.map_none, List.length_cons, List.length_nil, List.replicate, List.set_cons_zero, List.set_cons_succ, Nat.reduceLT, Bool.not_true, Bool.not_false, Int.toNat_natCast, inR, Nat.zero_add, Int.toNat_zero, reduceCtorEq, IntKind.bits, List.nil_append, List.cons_append, Nat.add_zero, Nat.sub_zero, List.map_cons, List.map_nil, zp, zu]) | refine And.intro ?_ (fun hif => (hif trivial).elim) | (intro hif; try (first | contradiction | (exfalso; omega))))
      have e2 : (net.set a ((net.getD a 0) - 2 ^ c)).set c ((net.getD c 0) - 2 ^ a) = less2 net a c := by rw [less2, less1, e1c]
      rw [e2] at hr7
      have hY := less2_yes hN f4 f6 (by omega) f7
      have hwl := wires_less2 hN f4 f6 (by omega) f7
      have hR7 := (hR5.grow hwf0 hg6 (by omega) (by omega)).grow hwf0 hg7 (by omega) (by omega)
      exact hK1 (less2 net a c, q + 1, m7) _ _ rfl rfl ⟨by simp only [less2_len]; exact hnl, ⟨by simp only; omega, fun _ => by simp only; omega, by simp only; omega⟩, hR7, hr7, hg7.wf, by simp only; omega⟩ (by simp only; omega)
    · repeat' (first | refine xA ?_ | refine xB ?_ | refine xC ?_ | refine xD ?_ | refine xE ?_ | refine xF ?_ | refine xG ?_ | refine xH ?_ | refine xI rfl ?_ | refine xJ ?_ | refine xK ?_ | refine xL ?_ | refine xM rfl ?_ | refine xN rfl ?_ | refine xO rfl ?_ | (first | refine xP rfl (fun hif => ?_) (fun hif => ?_) | refine xQ rfl (fun hif => ?_) (fun hif => ?_) | refine xR rfl (fun hif => ?_) (fun hif => ?_) | refine xS rfl (fun hif => ?_) (fun hif => ?_)) <;> try (first | contradiction | (exfalso; omega)) | (refine hK _ _ ?_; clear hK K) | refine AQuiet.call (spec_NetOk_t hI2 hN) trivial ?_ | (refine spec_l1Wires_g hI2 hN fun s3 m3 hg3 hL3 => ?_; obtain ⟨sref, soff, slen⟩ := s3; obtain rfl : slen = (wires net).length := hL3.len) | (refine And.intro (by first | omega | assumption | (constructor <;> omega)) ?_) | (refine And.intro (fun hif => ?_) (fun hif => ?_) <;> try (first | contradiction | (exfalso; omega))) | ((first | refine xT fun K hK => ?_ | refine xU fun K hK => ?_ | refine xV ?_ | refine xW ?_ | refine xX ?_ | refine xY ?_ | refine xZ ?_); simp only [↓awpOps, ↓awpKeep, ↓aop, ↓aopQ, ↓abin, ↓aun, ↓onSome_some, ↓Kont_at, ↓KM_at, ↓KV_at, ↓KU_at, refId_row, Frame.ev, Frame.evs, Frame.evOr, Frame.put, Frame.keep, get_nil, get_cons, argFrame, resOf, fillA, Vals.len, Vals.get, Vals.set, Vals.app, Vals.sub, Vals.take, Vals.ofAgg_cons, Vals.ofList, Vals.toInts, Vals.toBools, Vals.toSls, Vals.toStrs, Vals.zeros, Nat.reduceBEq, Nat.reduceAdd, Nat.reduceEqDiff, cond_true, cond_false, Option.map_some, Option.map_none, List.length_cons, List.length_nil, List.replicate, List.set_cons_zero, List.set_cons_succ, Nat.reduceLT, Bool.not_true, Bool.not_false, Int.toNat_natCast, inR, Nat.zero_add, Int.toNat_zero, reduceCtorEq, IntKind.bits, List.nil_append, List.cons_append, Nat.add_zero, Nat.sub_zero, List.map_cons, List.map_nil, zp, zu]) | refine And.intro ?_ (fun hif => (hif trivial).elim) | (intro hif; try (first | contradiction | (exfalso; omega))))
      have hrow3 := hg3.keep _ _ hrow2 (.inr (Nat.zero_le _))
      have hl3 := hg3.le
      have hO : Held id (id + 1) m3 ⟨.row id, 0, net.length⟩ net := Obj.held (.inr ⟨id, id, Nat.le_refl _, Nat.lt_succ_self _, rfl, hrow3⟩)
      rw [hnl] at hO
      have hR3 := hR2.grow hwf0 (hg3.any m2.length m2.length) (.inl hr2) (by omega)
      repeat' (first | refine xA ?_ | refine xB ?_ | refine xC ?_ | refine xD ?_ | refine xE ?_ | refine xF ?_ | refine xG ?_ | refine xH ?_ | refine xI rfl ?_ | refine xJ ?_ | refine xK ?_ | refine xL ?_ | refine xM rfl ?_ | refine xN rfl ?_ | refine xO rfl ?_ | (first | refine xP rfl (fun hif => ?_) (fun hif => ?_) | refine xQ rfl (fun hif => ?_) (fun hif => ?_) | refine xR rfl (fun hif => ?_) (fun hif => ?_) | refine xS rfl (fun hif => ?_) (fun hif => ?_)) <;> try (first | contradiction | (exfalso; omega)) | (refine hK _ _ ?_; clear hK K) | (refine And.intro (by first | omega | assumption | (constructor <;> omega)) ?_) | (refine And.intro (fun hif => ?_) (fun hif => ?_) <;> try (first | contradiction | (exfalso; omega))) | ((first | refine xT fun K hK => ?_ | refine xU fun K hK => ?_ | refine xV ?_ | refine xW ?_ | refine xX ?_ | refine xY ?_ | refine xZ ?_); simp only [↓awpOps, ↓awpKeep, ↓aop, ↓aopQ, ↓abin, ↓aun, ↓onSome_some, ↓Kont_at, ↓KM_at, ↓KV_at, ↓KU_at, refId_row, Frame.ev, Frame.evs, Frame.evOr, Frame.put, Frame.keep, get_nil, get_cons, argFrame, resOf, fillA, Vals.len, Vals.get, Vals.set, Vals.app, Vals.sub, Vals.take, Vals.ofAgg_cons, Vals.ofList, Vals.toInts, Vals.toBools, Vals.toSls, Vals.toStrs, Vals.zeros, Nat.reduceBEq, Nat.reduceAdd, Nat.reduceEqDiff, cond_true, cond_false, Option.map_some, Option.map_none, List.length_cons, List.length_nil, List.replicate, List.set_cons_zero, List.set_cons_succ, Nat.reduceLT, Bool.not_true, Bool.not_false, Int.toNat_natCast, inR, Nat.zero_add, Int.toNat_zero, reduceCtorEq, IntKind.bits, List.nil_append, List.cons_append, Nat.add_zero, Nat.sub_zero, List.map_cons, List.map_nil, zp, zu]) | refine And.intro ?_ (fun hif => (hif trivial).elim) | (intro hif; try (first | contradiction | (exfalso; omega))))
      all_goals exact hQ _ m3 net ⟨q, hR3, by omega, by omega⟩ (hO.mono (by omega) (by omega)) hg3.wf (by have := ho.row; have := get_lt this; omega) (by omega)
  · have hO : Held id (id + 1) m2 ⟨.row id, 0, net.length⟩ net := Obj.held (.inr ⟨id, id, Nat.le_refl _, Nat.lt_succ_self _, rfl, hrow2⟩)
    rw [hnl] at hO
    repeat' (first | refine xA ?_ | refine xB ?_ | refine xC ?_ | refine xD ?_ | refine xE ?_ | refine xF ?_ | refine xG ?_ | refine xH ?_ | refine xI rfl ?_ | refine xJ ?_ | refine xK ?_ | refine xL ?_ | refine xM rfl ?_ | refine xN rfl ?_ | refine xO rfl ?_ | (first | refine xP rfl (fun hif => ?_) (fun hif => ?_) | refine xQ rfl (fun hif => ?_) (fun hif => ?_) | refine xR rfl (fun hif => ?_) (fun hif => ?_) | refine xS rfl (fun hif => ?_) (fun hif => ?_)) <;> try (first | contradiction | (exfalso; omega)) | (refine hK _ _ ?_; clear hK K) | refine AQuiet.call (spec_NetOk_f hI2 hN) trivial ?_ | (refine And.intro (by first | omega | assumption | (constructor <;> omega)) ?_) | (refine And.intro (fun hif => ?_) (fun hif => ?_) <;> try (first | contradiction | (exfalso; omega))) | ((first | refine xT fun K hK => ?_ | refine xU fun K hK => ?_ | refine xV ?_ | refine xW ?_ | refine xX ?_ | refine xY ?_ | refine xZ ?_); simp only [↓awpOps, ↓awpKeep, ↓aop, ↓aopQ, ↓abin, ↓aun, ↓onSome_some, ↓Kont_at, ↓KM_at, ↓KV_at, ↓KU_at, refId_row, Frame.ev, Frame.evs, Frame.evOr, Frame.put, Frame.keep, get_nil, get_cons, argFrame, resOf, fillA, Vals.len, Vals.get, Vals.set, Vals.app, Vals.sub, Vals.take, Vals.ofAgg_cons, Vals.ofList, Vals.toInts, Vals.toBools, Vals.toSls, Vals.toStrs, Vals.zeros, Nat.reduceBEq, Nat.reduceAdd, Nat.reduceEqDiff, cond_true, cond_false, Option.map_some, Option.map_none, List.length_cons, List.length_nil, List.replicate, List.set_cons_zero, List.set_cons_succ, Nat.reduceLT, Bool.not_true, Bool.not_false, Int.toNat_natCast, inR, Nat.zero_add, Int.toNat_zero, reduceCtorEq, IntKind.bits, List.nil_append, List.cons_append, Nat.add_zero, Nat.sub_zero, List.map_cons, List.map_nil, zp, zu]) | refine And.intro ?_ (fun hif => (hif trivial).elim) | (intro hif; try (first | contradiction | (exfalso; omega))))
    all_goals exact hQ _ m2 net ⟨q, hR2, by omega, by omega⟩ (hO.mono (by omega) (by omega)) hw2 (by have := ho.row; have := get_lt this; omega) (by omega)

end Go.Abs

/- The draws of chapter 3. Own work; no condition. -/
set_option maxRecDepth 100000
set_option linter.unusedSimpArgs false
set_option linter.unusedVariables false
namespace Go.Abs
open Go.Proofs
attribute [local irreducible] awp awpOps awpKeep KeepK aloop ALoop ACalls ACallq AQuiet retPost retPostA AExit.thn AExit.blk aApp aSt aStA

end Go.Abs
