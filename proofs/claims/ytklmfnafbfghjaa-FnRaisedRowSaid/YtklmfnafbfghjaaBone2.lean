/- Caterpillars: what is known of each tree; the model's functions, by contracts. Own work; no condition. -/
import Derived.Test.YtklmfnafbfghjaaBone1
import Derived.Test.YtklmfnafbfghjaaSpecG2
set_option maxRecDepth 100000
set_option linter.unusedSimpArgs false
set_option linter.unusedVariables false
namespace Go.Abs
open Go.Proofs
attribute [local irreducible] awp awpOps awpKeep KeepK awpKeepF KeepF aloop ALoop ACalls ACallq AQuiet retPost retPostA AExit.thn AExit.blk aApp aSt aStA
open Parts

theorem inn_succ (N k : Nat) : inn N (k + 1) = if 2 ≤ pc (row N k) then inn N k + 2 ^ k else inn N k := by
  have e : inn N (k + 1) = frc (inn N k) fun s => bif Nat.ble 2 (pc (row N k)) then Nat.add s (Nat.pow 2 k) else s := rfl
  rw [e, frc_eq]
  cases hb : Nat.ble 2 (pc (row N k)) with
  | true => rw [if_pos (Nat.le_of_ble_eq_true hb)]; rfl
  | false => rw [if_neg fun c => (by rw [Nat.ble_eq_true_of_le c] at hb; cases hb)]; rfl
theorem inn_lt (N : Nat) : ∀ k, inn N k < 2 ^ k
  | 0 => Nat.one_pos
  | k + 1 => by
    have ih := inn_lt N k
    rw [inn_succ, Nat.pow_succ]
    split <;> omega
theorem bor_add {x k : Nat} (h : x < 2 ^ k) (hk : k < 6) : borInt .i64 (x : Int) ((2 : Int) ^ k) = ((x + 2 ^ k : Nat) : Int) := by
  have h2 := pow_lt64 hk
  have e : ((2 : Int) ^ k) = ((2 ^ k : Nat) : Int) := by simp
  rw [e, bor_nat x (2 ^ k) (by omega) (by omega)]
  congr 1
  have := Nat.two_pow_add_eq_or_of_lt h 1
  rw [Nat.mul_one] at this
  rw [Nat.or_comm, ← this, Nat.add_comm]
theorem inn64 {net : List Int} (h : NetOk net) {k : Nat} (hk : k ≤ net.length) : inn (pk net) k < 64 := by
  have h6 := h.six
  have h1 := inn_lt (pk net) k
  have h2 := full_lt (n := k) (by omega)
  omega

theorem spec_l4Inner (s : SV) (net : List Int) (m : Heap) (hs : IsInts .i64 m s net) (hN : NetOk net) : AQuiet Try.prog F.spec_l4Inner [.one (.sl s)] m (.one (.int .i64 (inn (pk net) net.length))) := by
  obtain ⟨ref, off, len⟩ := s
  obtain rfl : len = net.length := hs.1
  have h6 := hN.six
  refine aqn T.spec_l4Inner (by rfl) ?_
  repeat' (first | refine xA ?_ | refine xB ?_ | refine xC ?_ | refine xD ?_ | refine xE ?_ | refine xF ?_ | refine xG ?_ | refine xH ?_ | refine xI rfl ?_ | refine xJ ?_ | refine xK ?_ | refine xL ?_ | refine xM rfl ?_ | refine xN rfl ?_ | refine xO rfl ?_ | (first | refine xP rfl (fun hif => ?_) (fun hif => ?_) | refine xQ rfl (fun hif => ?_) (fun hif => ?_) | refine xR rfl (fun hif => ?_) (fun hif => ?_) | refine xS rfl (fun hif => ?_) (fun hif => ?_)) <;> try (first | contradiction | (exfalso; omega)) | (refine hK _ _ ?_; clear hK K) | (refine And.intro (by first | omega | assumption | (constructor <;> omega)) ?_) | (refine And.intro (fun hif => ?_) (fun hif => ?_) <;> try (first | contradiction | (exfalso; omega))) | ((first | refine xT fun K hK => ?_ | refine xU fun K hK => ?_ | refine yB (fun K hK => ?_) (fun K hK => ?_) | refine xV ?_ | refine yA ?_ | refine xW ?_ | refine xX ?_ | refine xY ?_ | refine xZ ?_) <;> simp only [↓awpOps, ↓awpKeep, ↓awpKeepF, ↓aop, ↓aopQ, ↓abin, ↓aun, ↓onSome_some, ↓Kont_at, ↓KM_at, ↓KV_at, ↓KU_at, refId_row, Frame.ev, Frame.evs, Frame.evOr, Frame.put, Frame.keep, get_nil, get_cons, argFrame, resOf, fillA, Vals.len, Vals.get, Vals.set, Vals.app, Vals.sub, Vals.take, Vals.ofAgg_cons, Vals.ofList, Vals.toInts, Vals.toBools, Vals.toSls, Vals.toStrs, Vals.zeros, Nat.reduceBEq, Nat.reduceAdd, Nat.reduceEqDiff, cond_true, cond_false, Option.map_some, Option.map_none, List.length_cons, List.length_nil, List.replicate, List.set_cons_zero, List.set_cons_succ, Nat.reduceLT, Bool.not_true, Bool.not_false, Int.toNat_natCast, inR, Nat.zero_add, Int.toNat_zero, reduceCtorEq, IntKind.bits, List.nil_append, List.cons_append, Nat.add_zero, Nat.sub_zero, noughts_len, List.map_cons, List.map_nil, zp, zu]) | refine And.intro ?_ (fun hif => (hif trivial).elim) | (intro hif; try (first | contradiction | (exfalso; omega))))
  refine awp_loop ?_
  refine ALoop.by [0, 3, 4] (fun a : Nat => [(0, .one (.sl ⟨ref, off, net.length⟩)), (3, .one (.int .i64 (inn (pk net) a))), (4, .one (.int .i64 a))]) (fun _ => m) (fun a => a ≤ net.length) (fun a => net.length - a) 0 rfl rfl (Nat.zero_le _) ?_
  rintro k hk K1 hK1
  by_cases hlt : k < net.length
  · have hpk := pow_bounds (p := k) (by omega)
    have e1 := bor_add (inn_lt (pk net) k) (show k < 6 by omega)
    have e2 := inn_succ (pk net) k
    rw [row_of hN (by omega)] at e2
    by_cases h2 : 2 ≤ pc (nrow net k)
    · rw [if_pos h2] at e2
      unfold nrow at h2
      repeat' (first | refine xA ?_ | refine xB ?_ | refine xC ?_ | refine xD ?_ | refine xE ?_ | refine xF ?_ | refine xG ?_ | refine xH ?_ | refine xI rfl ?_ | refine xJ ?_ | refine xK ?_ | refine xL ?_ | refine xM rfl ?_ | refine xN rfl ?_ | refine xO rfl ?_ | (first | refine xP rfl (fun hif => ?_) (fun hif => ?_) | refine xQ rfl (fun hif => ?_) (fun hif => ?_) | refine xR rfl (fun hif => ?_) (fun hif => ?_) | refine xS rfl (fun hif => ?_) (fun hif => ?_)) <;> try (first | contradiction | (exfalso; omega)) | (refine hK _ _ ?_; clear hK K) | refine onSome_of (hs.2 _ (by omega)) ?_ | refine AQuiet.call (spec_l1Size _ (hN.small (by omega)).1 (hN.small (by omega)).2 _) trivial ?_ | (refine And.intro (by first | omega | assumption | (constructor <;> omega)) ?_) | (refine And.intro (fun hif => ?_) (fun hif => ?_) <;> try (first | contradiction | (exfalso; omega))) | ((first | refine xT fun K hK => ?_ | refine xU fun K hK => ?_ | refine yB (fun K hK => ?_) (fun K hK => ?_) | refine xV ?_ | refine yA ?_ | refine xW ?_ | refine xX ?_ | refine xY ?_ | refine xZ ?_) <;> simp only [↓awpOps, ↓awpKeep, ↓awpKeepF, ↓aop, ↓aopQ, ↓abin, ↓aun, ↓onSome_some, ↓Kont_at, ↓KM_at, ↓KV_at, ↓KU_at, refId_row, Frame.ev, Frame.evs, Frame.evOr, Frame.put, Frame.keep, get_nil, get_cons, argFrame, resOf, fillA, Vals.len, Vals.get, Vals.set, Vals.app, Vals.sub, Vals.take, Vals.ofAgg_cons, Vals.ofList, Vals.toInts, Vals.toBools, Vals.toSls, Vals.toStrs, Vals.zeros, Nat.reduceBEq, Nat.reduceAdd, Nat.reduceEqDiff, cond_true, cond_false, Option.map_some, Option.map_none, List.length_cons, List.length_nil, List.replicate, List.set_cons_zero, List.set_cons_succ, Nat.reduceLT, Bool.not_true, Bool.not_false, Int.toNat_natCast, inR, Nat.zero_add, Int.toNat_zero, reduceCtorEq, IntKind.bits, List.nil_append, List.cons_append, Nat.add_zero, Nat.sub_zero, noughts_len, List.map_cons, List.map_nil, zp, zu]) | refine And.intro ?_ (fun hif => (hif trivial).elim) | (intro hif; try (first | contradiction | (exfalso; omega))))
      all_goals exact hK1 (k + 1) _ _ (by rw [e2, ← e1]; rfl) rfl (by omega) (by omega)
    · rw [if_neg h2] at e2
      unfold nrow at h2
      repeat' (first | refine xA ?_ | refine xB ?_ | refine xC ?_ | refine xD ?_ | refine xE ?_ | refine xF ?_ | refine xG ?_ | refine xH ?_ | refine xI rfl ?_ | refine xJ ?_ | refine xK ?_ | refine xL ?_ | refine xM rfl ?_ | refine xN rfl ?_ | refine xO rfl ?_ | (first | refine xP rfl (fun hif => ?_) (fun hif => ?_) | refine xQ rfl (fun hif => ?_) (fun hif => ?_) | refine xR rfl (fun hif => ?_) (fun hif => ?_) | refine xS rfl (fun hif => ?_) (fun hif => ?_)) <;> try (first | contradiction | (exfalso; omega)) | (refine hK _ _ ?_; clear hK K) | refine onSome_of (hs.2 _ (by omega)) ?_ | refine AQuiet.call (spec_l1Size _ (hN.small (by omega)).1 (hN.small (by omega)).2 _) trivial ?_ | (refine And.intro (by first | omega | assumption | (constructor <;> omega)) ?_) | (refine And.intro (fun hif => ?_) (fun hif => ?_) <;> try (first | contradiction | (exfalso; omega))) | ((first | refine xT fun K hK => ?_ | refine xU fun K hK => ?_ | refine yB (fun K hK => ?_) (fun K hK => ?_) | refine xV ?_ | refine yA ?_ | refine xW ?_ | refine xX ?_ | refine xY ?_ | refine xZ ?_) <;> simp only [↓awpOps, ↓awpKeep, ↓awpKeepF, ↓aop, ↓aopQ, ↓abin, ↓aun, ↓onSome_some, ↓Kont_at, ↓KM_at, ↓KV_at, ↓KU_at, refId_row, Frame.ev, Frame.evs, Frame.evOr, Frame.put, Frame.keep, get_nil, get_cons, argFrame, resOf, fillA, Vals.len, Vals.get, Vals.set, Vals.app, Vals.sub, Vals.take, Vals.ofAgg_cons, Vals.ofList, Vals.toInts, Vals.toBools, Vals.toSls, Vals.toStrs, Vals.zeros, Nat.reduceBEq, Nat.reduceAdd, Nat.reduceEqDiff, cond_true, cond_false, Option.map_some, Option.map_none, List.length_cons, List.length_nil, List.replicate, List.set_cons_zero, List.set_cons_succ, Nat.reduceLT, Bool.not_true, Bool.not_false, Int.toNat_natCast, inR, Nat.zero_add, Int.toNat_zero, reduceCtorEq, IntKind.bits, List.nil_append, List.cons_append, Nat.add_zero, Nat.sub_zero, noughts_len, List.map_cons, List.map_nil, zp, zu]) | refine And.intro ?_ (fun hif => (hif trivial).elim) | (intro hif; try (first | contradiction | (exfalso; omega))))
      all_goals exact hK1 (k + 1) _ _ (by rw [e2]; rfl) rfl (by omega) (by omega)
  · obtain rfl : k = net.length := by omega
    repeat' (first | refine xA ?_ | refine xB ?_ | refine xC ?_ | refine xD ?_ | refine xE ?_ | refine xF ?_ | refine xG ?_ | refine xH ?_ | refine xI rfl ?_ | refine xJ ?_ | refine xK ?_ | refine xL ?_ | refine xM rfl ?_ | refine xN rfl ?_ | refine xO rfl ?_ | (first | refine xP rfl (fun hif => ?_) (fun hif => ?_) | refine xQ rfl (fun hif => ?_) (fun hif => ?_) | refine xR rfl (fun hif => ?_) (fun hif => ?_) | refine xS rfl (fun hif => ?_) (fun hif => ?_)) <;> try (first | contradiction | (exfalso; omega)) | (refine hK _ _ ?_; clear hK K) | (refine And.intro (by first | omega | assumption | (constructor <;> omega)) ?_) | (refine And.intro (fun hif => ?_) (fun hif => ?_) <;> try (first | contradiction | (exfalso; omega))) | ((first | refine xT fun K hK => ?_ | refine xU fun K hK => ?_ | refine yB (fun K hK => ?_) (fun K hK => ?_) | refine xV ?_ | refine yA ?_ | refine xW ?_ | refine xX ?_ | refine xY ?_ | refine xZ ?_) <;> simp only [↓awpOps, ↓awpKeep, ↓awpKeepF, ↓aop, ↓aopQ, ↓abin, ↓aun, ↓onSome_some, ↓Kont_at, ↓KM_at, ↓KV_at, ↓KU_at, refId_row, Frame.ev, Frame.evs, Frame.evOr, Frame.put, Frame.keep, get_nil, get_cons, argFrame, resOf, fillA, Vals.len, Vals.get, Vals.set, Vals.app, Vals.sub, Vals.take, Vals.ofAgg_cons, Vals.ofList, Vals.toInts, Vals.toBools, Vals.toSls, Vals.toStrs, Vals.zeros, Nat.reduceBEq, Nat.reduceAdd, Nat.reduceEqDiff, cond_true, cond_false, Option.map_some, Option.map_none, List.length_cons, List.length_nil, List.replicate, List.set_cons_zero, List.set_cons_succ, Nat.reduceLT, Bool.not_true, Bool.not_false, Int.toNat_natCast, inR, Nat.zero_add, Int.toNat_zero, reduceCtorEq, IntKind.bits, List.nil_append, List.cons_append, Nat.add_zero, Nat.sub_zero, noughts_len, List.map_cons, List.map_nil, zp, zu]) | refine And.intro ?_ (fun hif => (hif trivial).elim) | (intro hif; try (first | contradiction | (exfalso; omega))))
    (first | exact List.prefix_rfl | exact ⟨rfl, List.prefix_rfl⟩ | exact ⟨by simp, List.prefix_rfl⟩)

/-- The backbone, told by one number. -/
noncomputable def boneOf (net : List Int) : Nat := boneP (pk net) net.length
noncomputable def colA (net : List Int) : Nat := Nat.mod (colsP (pk net) net.length) big
noncomputable def colB (net : List Int) : Nat := Nat.div (colsP (pk net) net.length) big
noncomputable def catRow (net : List Int) : Nat := catR (pk net) net.length

structure CatIs (net : List Int) : Prop where
  ok : NetOk net
  one : (wires net).length + 1 = net.length
  inner : ∀ k, k < net.length → pc (Nat.land (nrow net k) (inn (pk net) net.length)) ≤ 2
  bone1 : 1 ≤ boneOf net % 16
  boneN : boneOf net % 16 ≤ net.length
  boneLt : ∀ k, k < boneOf net % 16 → pa (boneOf net) k < net.length
  legs : 3 ≤ net.length → boneOf net % 16 + 2 ≤ net.length
  next : ∀ k, k + 1 < boneOf net % 16 → (nrow net (pa (boneOf net) k)).testBit (pa (boneOf net) (k + 1)) = true ∧ 2 ≤ pc (nrow net (pa (boneOf net) (k + 1)))
  colsLen : ∀ k, k ≤ boneOf net % 16 → cols (pk net) net.length (boneOf net) k % big % 16 ≤ 6 ∧ cols (pk net) net.length (boneOf net) k / big % 16 ≤ 6
  ltA : ∀ k, k < colA net % 16 → pa (colA net) k < net.length
  ltB : ∀ k, k < colB net % 16 → pa (colB net) k < net.length
  both : colA net % 16 + colB net % 16 = net.length
  colA1 : 1 ≤ colA net % 16
  uncrossed : scans (pk net) (colA net) (colB net) (colA net % 16) < 4096
  count : scans (pk net) (colA net) (colB net) (colA net % 16) / 16 = (wires net).length
  grace : Grace net (labs (catRow net) net.length)
  nought : lab (catRow net) (pa (colA net) 0) = 0

theorem cat_is {net : List Int} (h : treeOk net = true) : CatIs net := by
  obtain ⟨hN, h1, h2⟩ := of_decide_eq_true h
  have h6 := hN.six
  have hp := hN.pos
  have hF := all_of catF1 catF2 catF3 catF4 catF5 catF6 hN
  rw [partMany, if_pos hN] at h1
  rw [wiresOf, if_pos hN] at h2
  unfold catF at hF
  rw [show Nat.beq (Nat.succ (wires net).length) net.length = true by rw [show Nat.succ (wires net).length = net.length by omega]; simp] at hF
  have e1 : pm (pk net) 6 (2 ^ net.length - 1) 0 = 1 := by omega
  have e2 : Nat.sub (Nat.pow 2 net.length) 1 = 2 ^ net.length - 1 := rfl
  rw [e2, e1] at hF
  simp only [frc_eq, cond_true, show Nat.beq 1 1 = true from rfl] at hF
  obtain ⟨g1, hF⟩ := bif_and hF
  obtain ⟨g2, hF⟩ := bif_and hF
  obtain ⟨g3, hF⟩ := bif_and hF
  obtain ⟨g4, hF⟩ := bif_and hF
  obtain ⟨g5, hF⟩ := bif_and hF
  obtain ⟨g5b, hF⟩ := bif_and hF
  obtain ⟨g6, hF⟩ := bif_and hF
  obtain ⟨g7, hF⟩ := bif_and hF
  obtain ⟨g8, hF⟩ := bif_and hF
  obtain ⟨g9, hF⟩ := bif_and hF
  obtain ⟨g10, hF⟩ := bif_and hF
  obtain ⟨g11, g12⟩ := bif_and hF
  have hlt : ∀ k, k < boneOf net % 16 → pa (boneOf net) k < net.length := fun k hk => Nat.le_of_ble_eq_true (upto_all g3 k hk)
  have g10' : scans (pk net) (colA net) (colB net) (colA net % 16) < 4096 ∧ scans (pk net) (colA net) (colB net) (colA net % 16) / 16 = (wires net).length := by
    have g : (bif Nat.ble 4096 (scans (pk net) (colA net) (colB net) (colA net % 16)) then false else Nat.beq (scans (pk net) (colA net) (colB net) (colA net % 16) / 16) (wires net).length) = true := g10
    generalize scans (pk net) (colA net) (colB net) (colA net % 16) = z at g ⊢
    cases hb : Nat.ble 4096 z with
    | true => rw [hb] at g; cases g
    | false =>
      rw [hb] at g
      exact ⟨Nat.lt_of_not_le fun c => (by rw [Nat.ble_eq_true_of_le c] at hb; cases hb), Nat.eq_of_beq_eq_true g⟩
  have hle : 1 ≤ boneOf net % 16 := Nat.le_of_ble_eq_true g2
  have g4' : (bif Nat.ble net.length 2 then Nat.ble (boneOf net % 16) net.length else Nat.ble (boneOf net % 16 + 2) net.length) = true := g4
  have hleg : boneOf net % 16 ≤ net.length ∧ (3 ≤ net.length → boneOf net % 16 + 2 ≤ net.length) := by
    generalize boneOf net % 16 = z at g4' ⊢
    cases hb : Nat.ble net.length 2 with
    | true => rw [hb] at g4'; have := Nat.le_of_ble_eq_true hb; have := Nat.le_of_ble_eq_true g4'; exact ⟨by omega, fun _ => by omega⟩
    | false => rw [hb] at g4'; have := Nat.le_of_ble_eq_true g4'; exact ⟨by omega, fun _ => by omega⟩
  exact ⟨hN, by omega, fun k hk => by have := Nat.le_of_ble_eq_true (upto_all g1 k hk); rw [row_of hN (by omega)] at this; exact this, hle, hleg.1, hlt, hleg.2,
    fun k hk => by
      have g := upto_all g5 (k + 1) hk
      have g : (bif has (row (pk net) (pa (boneOf net) k)) (pa (boneOf net) (k + 1)) then Nat.ble 2 (pc (row (pk net) (pa (boneOf net) (k + 1)))) else false) = true := g
      have q1 := hlt k (by omega)
      have q2 := hlt (k + 1) hk
      rw [row_of hN (by omega), row_of hN (by omega), has_tbit] at g
      obtain ⟨q3, q4⟩ := bif_and g
      exact ⟨q3, Nat.le_of_ble_eq_true q4⟩,
    fun k hk => by
      have g := upto_all g5b k (Nat.lt_succ_of_le hk)
      obtain ⟨q3, q4⟩ := bif_and (show (bif Nat.ble (cols (pk net) net.length (boneOf net) k % big % 16) 6 then Nat.ble (cols (pk net) net.length (boneOf net) k / big % 16) 6 else false) = true from g)
      exact ⟨Nat.le_of_ble_eq_true q3, Nat.le_of_ble_eq_true q4⟩,
    fun k hk => Nat.le_of_ble_eq_true (upto_all g6 k hk), fun k hk => Nat.le_of_ble_eq_true (upto_all g7 k hk), Nat.eq_of_beq_eq_true g8, Nat.le_of_ble_eq_true g9, g10'.1, g10'.2, okRow_grace hN g11, Nat.eq_of_beq_eq_true g12⟩

theorem spec_CaterpillarOk (s : SV) (net : List Int) (m : Heap) (hs : IsInts .i64 m s net) : AQuiet Try.prog F.spec_CaterpillarOk [.one (.sl s)] m (.one (.bool (treeOk net))) := by
  have ht := spec_TreeOk s net m hs
  obtain ⟨ref, off, len⟩ := s
  obtain rfl : len = net.length := hs.1
  refine aqn T.spec_CaterpillarOk (by rfl) ?_
  cases hT : treeOk net with
  | true =>
    rw [hT] at ht
    have hC := cat_is hT
    have hN := hC.ok
    have h6 := hN.six
    repeat' (first | refine xA ?_ | refine xB ?_ | refine xC ?_ | refine xD ?_ | refine xE ?_ | refine xF ?_ | refine xG ?_ | refine xH ?_ | refine xI rfl ?_ | refine xJ ?_ | refine xK ?_ | refine xL ?_ | refine xM rfl ?_ | refine xN rfl ?_ | refine xO rfl ?_ | (first | refine xP rfl (fun hif => ?_) (fun hif => ?_) | refine xQ rfl (fun hif => ?_) (fun hif => ?_) | refine xR rfl (fun hif => ?_) (fun hif => ?_) | refine xS rfl (fun hif => ?_) (fun hif => ?_)) <;> try (first | contradiction | (exfalso; omega)) | (refine hK _ _ ?_; clear hK K) | (refine And.intro (by first | omega | assumption | (constructor <;> omega)) ?_) | (refine And.intro (fun hif => ?_) (fun hif => ?_) <;> try (first | contradiction | (exfalso; omega))) | ((first | refine xT fun K hK => ?_ | refine xU fun K hK => ?_ | refine yB (fun K hK => ?_) (fun K hK => ?_) | refine xV ?_ | refine yA ?_ | refine xW ?_ | refine xX ?_ | refine xY ?_ | refine xZ ?_) <;> simp only [↓awpOps, ↓awpKeep, ↓awpKeepF, ↓aop, ↓aopQ, ↓abin, ↓aun, ↓onSome_some, ↓Kont_at, ↓KM_at, ↓KV_at, ↓KU_at, refId_row, Frame.ev, Frame.evs, Frame.evOr, Frame.put, Frame.keep, get_nil, get_cons, argFrame, resOf, fillA, Vals.len, Vals.get, Vals.set, Vals.app, Vals.sub, Vals.take, Vals.ofAgg_cons, Vals.ofList, Vals.toInts, Vals.toBools, Vals.toSls, Vals.toStrs, Vals.zeros, Nat.reduceBEq, Nat.reduceAdd, Nat.reduceEqDiff, cond_true, cond_false, Option.map_some, Option.map_none, List.length_cons, List.length_nil, List.replicate, List.set_cons_zero, List.set_cons_succ, Nat.reduceLT, Bool.not_true, Bool.not_false, Int.toNat_natCast, inR, Nat.zero_add, Int.toNat_zero, reduceCtorEq, IntKind.bits, List.nil_append, List.cons_append, Nat.add_zero, Nat.sub_zero, noughts_len, List.map_cons, List.map_nil, zp, zu]) | refine And.intro ?_ (fun hif => (hif trivial).elim) | (intro hif; try (first | contradiction | (exfalso; omega))))
    refine awp_loop ?_
    refine ALoop.by [0, 3] (fun a : Nat => [(0, .one (.sl ⟨ref, off, net.length⟩)), (3, .one (.int .i64 a))]) (fun _ => m) (fun a => a ≤ net.length) (fun a => net.length - a) 0 rfl rfl (Nat.zero_le _) ?_
    rintro k hk K1 hK1
    by_cases hlt : k < net.length
    · have e1 : (net.getD k 0) = ((nrow net k : Nat) : Int) := (Int.toNat_of_nonneg (hN.low k hlt)).symm
      have l1 := nrow_lt hN k
      have l2 := inn64 hN (Nat.le_refl net.length)
      have e2 := band_land l1 l2
      have l3 : Nat.land (nrow net k) (inn (pk net) net.length) < 64 := Nat.lt_of_le_of_lt Nat.and_le_left l1
      have hsz := spec_l1Size ((Nat.land (nrow net k) (inn (pk net) net.length) : Nat) : Int) (by omega) (by omega) m
      rw [← e2, ← e1] at hsz
      have hin := hC.inner k hlt
      rw [show (bandInt .i64 ((net.getD k 0)) ((inn (pk net) net.length : Nat) : Int)).toNat = Nat.land (nrow net k) (inn (pk net) net.length) by rw [e1, e2]; rfl] at hsz
      repeat' (first | refine xA ?_ | refine xB ?_ | refine xC ?_ | refine xD ?_ | refine xE ?_ | refine xF ?_ | refine xG ?_ | refine xH ?_ | refine xI rfl ?_ | refine xJ ?_ | refine xK ?_ | refine xL ?_ | refine xM rfl ?_ | refine xN rfl ?_ | refine xO rfl ?_ | (first | refine xP rfl (fun hif => ?_) (fun hif => ?_) | refine xQ rfl (fun hif => ?_) (fun hif => ?_) | refine xR rfl (fun hif => ?_) (fun hif => ?_) | refine xS rfl (fun hif => ?_) (fun hif => ?_)) <;> try (first | contradiction | (exfalso; omega)) | (refine hK _ _ ?_; clear hK K) | refine onSome_of (hs.2 _ (by omega)) ?_ | refine AQuiet.call ht trivial ?_ | refine AQuiet.callq (spec_l4Inner _ net _ hs hN) trivial ?_ | refine AQuiet.callq hsz trivial ?_ | (refine And.intro (by first | omega | assumption | (constructor <;> omega)) ?_) | (refine And.intro (fun hif => ?_) (fun hif => ?_) <;> try (first | contradiction | (exfalso; omega))) | ((first | refine xT fun K hK => ?_ | refine xU fun K hK => ?_ | refine yB (fun K hK => ?_) (fun K hK => ?_) | refine xV ?_ | refine yA ?_ | refine xW ?_ | refine xX ?_ | refine xY ?_ | refine xZ ?_) <;> simp only [↓awpOps, ↓awpKeep, ↓awpKeepF, ↓aop, ↓aopQ, ↓abin, ↓aun, ↓onSome_some, ↓Kont_at, ↓KM_at, ↓KV_at, ↓KU_at, refId_row, Frame.ev, Frame.evs, Frame.evOr, Frame.put, Frame.keep, get_nil, get_cons, argFrame, resOf, fillA, Vals.len, Vals.get, Vals.set, Vals.app, Vals.sub, Vals.take, Vals.ofAgg_cons, Vals.ofList, Vals.toInts, Vals.toBools, Vals.toSls, Vals.toStrs, Vals.zeros, Nat.reduceBEq, Nat.reduceAdd, Nat.reduceEqDiff, cond_true, cond_false, Option.map_some, Option.map_none, List.length_cons, List.length_nil, List.replicate, List.set_cons_zero, List.set_cons_succ, Nat.reduceLT, Bool.not_true, Bool.not_false, Int.toNat_natCast, inR, Nat.zero_add, Int.toNat_zero, reduceCtorEq, IntKind.bits, List.nil_append, List.cons_append, Nat.add_zero, Nat.sub_zero, noughts_len, List.map_cons, List.map_nil, zp, zu]) | refine And.intro ?_ (fun hif => (hif trivial).elim) | (intro hif; try (first | contradiction | (exfalso; omega))))
      all_goals exact hK1 (k + 1) _ _ rfl rfl (by omega) (by omega)
    · obtain rfl : k = net.length := by omega
      repeat' (first | refine xA ?_ | refine xB ?_ | refine xC ?_ | refine xD ?_ | refine xE ?_ | refine xF ?_ | refine xG ?_ | refine xH ?_ | refine xI rfl ?_ | refine xJ ?_ | refine xK ?_ | refine xL ?_ | refine xM rfl ?_ | refine xN rfl ?_ | refine xO rfl ?_ | (first | refine xP rfl (fun hif => ?_) (fun hif => ?_) | refine xQ rfl (fun hif => ?_) (fun hif => ?_) | refine xR rfl (fun hif => ?_) (fun hif => ?_) | refine xS rfl (fun hif => ?_) (fun hif => ?_)) <;> try (first | contradiction | (exfalso; omega)) | (refine hK _ _ ?_; clear hK K) | refine AQuiet.call ht trivial ?_ | (refine And.intro (by first | omega | assumption | (constructor <;> omega)) ?_) | (refine And.intro (fun hif => ?_) (fun hif => ?_) <;> try (first | contradiction | (exfalso; omega))) | ((first | refine xT fun K hK => ?_ | refine xU fun K hK => ?_ | refine yB (fun K hK => ?_) (fun K hK => ?_) | refine xV ?_ | refine yA ?_ | refine xW ?_ | refine xX ?_ | refine xY ?_ | refine xZ ?_) <;> simp only [↓awpOps, ↓awpKeep, ↓awpKeepF, ↓aop, ↓aopQ, ↓abin, ↓aun, ↓onSome_some, ↓Kont_at, ↓KM_at, ↓KV_at, ↓KU_at, refId_row, Frame.ev, Frame.evs, Frame.evOr, Frame.put, Frame.keep, get_nil, get_cons, argFrame, resOf, fillA, Vals.len, Vals.get, Vals.set, Vals.app, Vals.sub, Vals.take, Vals.ofAgg_cons, Vals.ofList, Vals.toInts, Vals.toBools, Vals.toSls, Vals.toStrs, Vals.zeros, Nat.reduceBEq, Nat.reduceAdd, Nat.reduceEqDiff, cond_true, cond_false, Option.map_some, Option.map_none, List.length_cons, List.length_nil, List.replicate, List.set_cons_zero, List.set_cons_succ, Nat.reduceLT, Bool.not_true, Bool.not_false, Int.toNat_natCast, inR, Nat.zero_add, Int.toNat_zero, reduceCtorEq, IntKind.bits, List.nil_append, List.cons_append, Nat.add_zero, Nat.sub_zero, noughts_len, List.map_cons, List.map_nil, zp, zu]) | refine And.intro ?_ (fun hif => (hif trivial).elim) | (intro hif; try (first | contradiction | (exfalso; omega))))
      (first | exact List.prefix_rfl | exact ⟨rfl, List.prefix_rfl⟩ | exact ⟨by simp, List.prefix_rfl⟩)
  | false =>
    rw [hT] at ht
    repeat' (first | refine xA ?_ | refine xB ?_ | refine xC ?_ | refine xD ?_ | refine xE ?_ | refine xF ?_ | refine xG ?_ | refine xH ?_ | refine xI rfl ?_ | refine xJ ?_ | refine xK ?_ | refine xL ?_ | refine xM rfl ?_ | refine xN rfl ?_ | refine xO rfl ?_ | (first | refine xP rfl (fun hif => ?_) (fun hif => ?_) | refine xQ rfl (fun hif => ?_) (fun hif => ?_) | refine xR rfl (fun hif => ?_) (fun hif => ?_) | refine xS rfl (fun hif => ?_) (fun hif => ?_)) <;> try (first | contradiction | (exfalso; omega)) | (refine hK _ _ ?_; clear hK K) | (refine And.intro (by first | omega | assumption | (constructor <;> omega)) ?_) | (refine And.intro (fun hif => ?_) (fun hif => ?_) <;> try (first | contradiction | (exfalso; omega))) | ((first | refine xT fun K hK => ?_ | refine xU fun K hK => ?_ | refine yB (fun K hK => ?_) (fun K hK => ?_) | refine xV ?_ | refine yA ?_ | refine xW ?_ | refine xX ?_ | refine xY ?_ | refine xZ ?_) <;> simp only [↓awpOps, ↓awpKeep, ↓awpKeepF, ↓aop, ↓aopQ, ↓abin, ↓aun, ↓onSome_some, ↓Kont_at, ↓KM_at, ↓KV_at, ↓KU_at, refId_row, Frame.ev, Frame.evs, Frame.evOr, Frame.put, Frame.keep, get_nil, get_cons, argFrame, resOf, fillA, Vals.len, Vals.get, Vals.set, Vals.app, Vals.sub, Vals.take, Vals.ofAgg_cons, Vals.ofList, Vals.toInts, Vals.toBools, Vals.toSls, Vals.toStrs, Vals.zeros, Nat.reduceBEq, Nat.reduceAdd, Nat.reduceEqDiff, cond_true, cond_false, Option.map_some, Option.map_none, List.length_cons, List.length_nil, List.replicate, List.set_cons_zero, List.set_cons_succ, Nat.reduceLT, Bool.not_true, Bool.not_false, Int.toNat_natCast, inR, Nat.zero_add, Int.toNat_zero, reduceCtorEq, IntKind.bits, List.nil_append, List.cons_append, Nat.add_zero, Nat.sub_zero, noughts_len, List.map_cons, List.map_nil, zp, zu]) | refine And.intro ?_ (fun hif => (hif trivial).elim) | (intro hif; try (first | contradiction | (exfalso; omega))))
    refine awp_loop ?_
    refine ALoop.by [0, 3] (fun _ : Unit => [(0, .one (.sl ⟨ref, off, net.length⟩)), (3, .one (.int .i64 0))]) (fun _ => m) (fun _ => True) (fun _ => 0) () rfl rfl trivial ?_
    rintro _ _ K1 hK1
    repeat' (first | refine xA ?_ | refine xB ?_ | refine xC ?_ | refine xD ?_ | refine xE ?_ | refine xF ?_ | refine xG ?_ | refine xH ?_ | refine xI rfl ?_ | refine xJ ?_ | refine xK ?_ | refine xL ?_ | refine xM rfl ?_ | refine xN rfl ?_ | refine xO rfl ?_ | (first | refine xP rfl (fun hif => ?_) (fun hif => ?_) | refine xQ rfl (fun hif => ?_) (fun hif => ?_) | refine xR rfl (fun hif => ?_) (fun hif => ?_) | refine xS rfl (fun hif => ?_) (fun hif => ?_)) <;> try (first | contradiction | (exfalso; omega)) | (refine hK _ _ ?_; clear hK K) | refine AQuiet.call ht trivial ?_ | (refine And.intro (by first | omega | assumption | (constructor <;> omega)) ?_) | (refine And.intro (fun hif => ?_) (fun hif => ?_) <;> try (first | contradiction | (exfalso; omega))) | ((first | refine xT fun K hK => ?_ | refine xU fun K hK => ?_ | refine yB (fun K hK => ?_) (fun K hK => ?_) | refine xV ?_ | refine yA ?_ | refine xW ?_ | refine xX ?_ | refine xY ?_ | refine xZ ?_) <;> simp only [↓awpOps, ↓awpKeep, ↓awpKeepF, ↓aop, ↓aopQ, ↓abin, ↓aun, ↓onSome_some, ↓Kont_at, ↓KM_at, ↓KV_at, ↓KU_at, refId_row, Frame.ev, Frame.evs, Frame.evOr, Frame.put, Frame.keep, get_nil, get_cons, argFrame, resOf, fillA, Vals.len, Vals.get, Vals.set, Vals.app, Vals.sub, Vals.take, Vals.ofAgg_cons, Vals.ofList, Vals.toInts, Vals.toBools, Vals.toSls, Vals.toStrs, Vals.zeros, Nat.reduceBEq, Nat.reduceAdd, Nat.reduceEqDiff, cond_true, cond_false, Option.map_some, Option.map_none, List.length_cons, List.length_nil, List.replicate, List.set_cons_zero, List.set_cons_succ, Nat.reduceLT, Bool.not_true, Bool.not_false, Int.toNat_natCast, inR, Nat.zero_add, Int.toNat_zero, reduceCtorEq, IntKind.bits, List.nil_append, List.cons_append, Nat.add_zero, Nat.sub_zero, noughts_len, List.map_cons, List.map_nil, zp, zu]) | refine And.intro ?_ (fun hif => (hif trivial).elim) | (intro hif; try (first | contradiction | (exfalso; omega))))
    all_goals first | exact ⟨rfl, List.prefix_rfl⟩ | exact List.prefix_rfl

end Go.Abs
