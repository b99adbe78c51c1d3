/- The model's backbone of a caterpillar, by its contract. Own work; no condition. -/
import Derived.Test.YtklmfnafbfghjaaBone2
set_option maxRecDepth 100000
set_option linter.unusedSimpArgs false
set_option linter.unusedVariables false
namespace Go.Abs
open Go.Proofs
attribute [local irreducible] awp awpOps awpKeep KeepK awpKeepF KeepF aloop ALoop ACalls ACallq AQuiet retPost retPostA AExit.thn AExit.blk aApp aSt aStA
open Parts

theorem stt_succ (N I n d : Nat) : stt N I n (d + 1) = if I.testBit (n - (d + 1)) = true ∧ pc (Nat.land (row N (n - (d + 1))) I) ≤ 1 then n - (d + 1) + 1 else stt N I n d := by
  have e : stt N I n (d + 1) = frc (Nat.sub n (Nat.succ d)) fun k => bif (bif has I k then Nat.ble (pc (Nat.land (row N k) I)) 1 else false) then Nat.succ k else stt N I n d := rfl
  rw [e, frc_eq, has_tbit]
  have e2 : Nat.sub n (Nat.succ d) = n - (d + 1) := rfl
  rw [e2]
  cases hI : I.testBit (n - (d + 1)) with
  | false => rw [if_neg fun c => by cases c.1]; rfl
  | true =>
    cases hb : Nat.ble (pc (Nat.land (row N (n - (d + 1))) I)) 1 with
    | true => rw [if_pos ⟨rfl, Nat.le_of_ble_eq_true hb⟩]; rfl
    | false => rw [if_neg fun c => (by rw [Nat.ble_eq_true_of_le c.2] at hb; cases hb)]; rfl
theorem stt_le (N I n : Nat) : ∀ d, d ≤ n → stt N I n d ≤ n
  | 0, _ => Nat.zero_le _
  | d + 1, h => by
    have ih := stt_le N I n d (by omega)
    rw [stt_succ]
    split <;> omega
theorem nx_succ (X k : Nat) : nx X (k + 1) = if X.testBit k = true then k + 1 else nx X k := by
  have e : nx X (k + 1) = bif has X k then Nat.succ k else nx X k := rfl
  rw [e, has_tbit]
  cases hX : X.testBit k with
  | true => rfl
  | false => rfl
theorem nx_le (X : Nat) : ∀ k, nx X k ≤ k
  | 0 => Nat.le_refl _
  | k + 1 => by have ih := nx_le X k; rw [nx_succ]; split <;> omega
theorem bn_none (N n f left P : Nat) : bn N n f 0 left P = P := by cases f <;> rfl
theorem bn_out (N n a left P : Nat) : bn N n 0 (a + 1) left P = 15 := rfl
theorem bn_next (N n f a left P : Nat) : bn N n (f + 1) (a + 1) left P = bn N n f (nx (Nat.land (row N a) (less left (2 ^ a))) n) (less left (2 ^ a)) (psh P a) := by
  have e : bn N n (f + 1) (a + 1) left P = frc (Nat.pred (a + 1)) fun a => frc (less left (Nat.pow 2 a)) fun l1 => frc (nx (Nat.land (row N a) l1) n) fun a1 => frc (psh P a) fun P1 => bn N n f a1 l1 P1 := rfl
  simp only [frc_eq] at e
  exact e

theorem lab_div (R k : Nat) : lab R k = R / 256 ^ k % 256 := by
  have e : lab R k = (R >>> (8 * k)) &&& (2 ^ 8 - 1) := rfl
  rw [e, Nat.and_two_pow_sub_one_eq_mod, Nat.shiftRight_eq_div_pow, Nat.pow_mul]
theorem lab_below {R a L k : Nat} (hk : k < L) : lab (R + a * 256 ^ L) k = lab R k := by
  rw [lab_div, lab_div]
  obtain ⟨d, rfl⟩ : ∃ d, L = k + (d + 1) := ⟨L - k - 1, by omega⟩
  have e : a * 256 ^ (k + (d + 1)) = 256 ^ k * (256 * (a * 256 ^ d)) := by
    rw [Nat.pow_add, Nat.pow_succ, Nat.mul_comm (256 ^ d) 256, Nat.mul_left_comm a, Nat.mul_left_comm a]
  rw [e, Nat.add_mul_div_left _ _ (Nat.pow_pos (by decide)), Nat.add_mul_mod_self_left]
theorem lab_at {R a L : Nat} (hR : R < 256 ^ L) (ha : a < 256) : lab (R + a * 256 ^ L) L = a := by
  rw [lab_div, Nat.add_mul_div_right _ _ (Nat.pow_pos (by decide)), Nat.div_eq_of_lt hR, Nat.zero_add, Nat.mod_eq_of_lt ha]

/-- The list that a number tells, with its length. -/
def plist (P : Nat) : List Int := labs (P / 16) (P % 16)
/-- A number that tells a list. -/
structure PIs (P : Nat) : Prop where
  small : P / 16 < 256 ^ (P % 16)
theorem plist_len (P : Nat) : (plist P).length = P % 16 := labs_len _ _
theorem plist_get {P k : Nat} (h : k < P % 16) : (plist P).getD k 0 = (pa P k : Int) := labs_get h
theorem psh_parts {P a : Nat} (h : P % 16 < 15) : psh P a / 16 = P / 16 + a * 256 ^ (P % 16) ∧ psh P a % 16 = P % 16 + 1 := by
  have e : psh P a = P + (a * (16 * 256 ^ (P % 16)) + 1) := rfl
  have e2 : a * (16 * 256 ^ (P % 16)) = 16 * (a * 256 ^ (P % 16)) := by rw [Nat.mul_left_comm]
  rw [e, e2]
  generalize a * 256 ^ (P % 16) = z
  omega
theorem psh_is {P a : Nat} (hP : PIs P) (h : P % 16 < 15) (ha : a < 256) : PIs (psh P a) ∧ plist (psh P a) = plist P ++ [(a : Int)] := by
  obtain ⟨e1, e2⟩ := psh_parts (a := a) h
  have hs := hP.small
  refine ⟨⟨?_⟩, ?_⟩
  · rw [e1, e2, Nat.pow_succ]
    have : a * 256 ^ (P % 16) ≤ 255 * 256 ^ (P % 16) := Nat.mul_le_mul_right _ (by omega)
    omega
  · refine List.ext_getElem (by rw [plist_len, List.length_append, plist_len, e2]; rfl) fun i h1 h2 => ?_
    have g : ∀ (l : List Int) (hi : i < l.length), l[i] = l.getD i 0 := fun l hi => by simp [List.getD_eq_getElem?_getD, hi]
    rw [plist_len, e2] at h1
    rw [g, plist_get (by rw [e2]; exact h1)]
    unfold pa
    have e3 : Nat.div (psh P a) 16 = P / 16 + a * 256 ^ (P % 16) := e1
    rw [e3]
    by_cases hi : i < P % 16
    · rw [lab_below hi, List.getElem_append_left (by rw [plist_len]; exact hi), g, plist_get hi]; rfl
    · obtain rfl : i = P % 16 := by omega
      rw [lab_at hs ha, List.getElem_append_right (by rw [plist_len]; exact Nat.le_refl _)]
      simp [plist_len]

/-- The backbone as a list. -/
noncomputable def boneL (net : List Int) : List Int := if treeOk net = true then plist (boneOf net) else []
theorem boneOf_zero {net : List Int} (h : inn (pk net) net.length = 0) : boneOf net = 1 := by
  have e : boneOf net = frc (inn (pk net) net.length) fun I => bif Nat.beq I 0 then 1 else frc (stt (pk net) I net.length net.length) fun s => bn (pk net) net.length 7 s I 0 := rfl
  rw [e, frc_eq, h]; rfl
theorem boneOf_bn {net : List Int} (h : inn (pk net) net.length ≠ 0) : boneOf net = bn (pk net) net.length 7 (stt (pk net) (inn (pk net) net.length) net.length net.length) (inn (pk net) net.length) 0 := by
  have e : boneOf net = frc (inn (pk net) net.length) fun I => bif Nat.beq I 0 then 1 else frc (stt (pk net) I net.length net.length) fun s => bn (pk net) net.length 7 s I 0 := rfl
  rw [e]
  simp only [frc_eq]
  cases hb : Nat.beq (inn (pk net) net.length) 0 with
  | true => exact absurd (Nat.eq_of_beq_eq_true hb) h
  | false => rfl

end Go.Abs

/- The model's backbone of a caterpillar, by its contract. Own work; no condition. -/
set_option maxRecDepth 100000
set_option linter.unusedSimpArgs false
set_option linter.unusedVariables false
namespace Go.Abs
open Go.Proofs
attribute [local irreducible] awp awpOps awpKeep KeepK awpKeepF KeepF aloop ALoop ACalls ACallq AQuiet retPost retPostA AExit.thn AExit.blk aApp aSt aStA
open Parts

theorem spec_CaterpillarOk_v {s : SV} {net : List Int} {m : Heap} {b : Bool} (hs : IsInts .i64 m s net) (hb : treeOk net = b) : AQuiet Try.prog F.spec_CaterpillarOk [.one (.sl s)] m (.one (.bool b)) := hb ▸ spec_CaterpillarOk s net m hs
theorem land_lt {x : Nat} (y : Nat) (h : x < 64) : Nat.land x y < 64 := Nat.lt_of_le_of_lt Nat.and_le_left h

/-- How many of a place's neighbours are in a set. -/
theorem size_land {net : List Int} (hN : NetOk net) {k : Nat} (hk : k < net.length) {I : Nat} (hI : I < 64) (m : Heap) :
    AQuiet Try.prog F.spec_l1Size [.one (.int .i64 (bandInt .i64 ((net.getD k 0)) (I : Int)))] m (.one (.int .i64 (pc (Nat.land (nrow net k) I)))) := by
  have e1 : (net.getD k 0) = ((nrow net k : Nat) : Int) := (Int.toNat_of_nonneg (hN.low k hk)).symm
  have l1 := nrow_lt hN k
  rw [e1, band_land l1 hI]
  have l3 := land_lt I l1
  exact spec_l1Size ((Nat.land (nrow net k) I : Nat) : Int) (by omega) (by omega) m

set_option maxHeartbeats 4000000 in
theorem spec_Backbone (s : SV) (net : List Int) (m : Heap) (hs : IsInts .i64 m s net) : ARet Try.prog F.spec_Backbone [.one (.sl s)] m Ty.int (.ints .i64 (boneL net)) := by
  refine arn T.spec_Backbone (by rfl) fun hwf => ?_
  have hp0 := prefix_push m ⟨Ty.int, m.length, true, .ints .i64 []⟩
  have hg0 := Grow.push hwf Ty.int true (.ints .i64 [])
  have hs0 := hs.pre hp0
  have hA := acc_new hwf Ty.int (.ints .i64 []) rfl
  have hwf0 := hg0.wf
  obtain ⟨ref, off, len⟩ := s
  obtain rfl : len = net.length := hs.1
  cases hT : treeOk net with
  | false =>
    rw [boneL, if_neg (by rw [hT]; exact Bool.noConfusion)]
    repeat' (first | refine xA ?_ | refine xB ?_ | refine xC ?_ | refine xD ?_ | refine xE ?_ | refine xF ?_ | refine xG ?_ | refine xH ?_ | refine xI rfl ?_ | refine xJ ?_ | refine xK ?_ | refine xL ?_ | refine xM rfl ?_ | refine xN rfl ?_ | refine xO rfl ?_ | (first | refine xP rfl (fun hif => ?_) (fun hif => ?_) | refine xQ rfl (fun hif => ?_) (fun hif => ?_) | refine xR rfl (fun hif => ?_) (fun hif => ?_) | refine xS rfl (fun hif => ?_) (fun hif => ?_)) <;> try (first | contradiction | (exfalso; omega)) | (refine hK _ _ ?_; clear hK K) | refine AQuiet.call (spec_CaterpillarOk_v hs0 hT) trivial ?_ | (refine And.intro (by first | omega | assumption | (constructor <;> omega)) ?_) | (refine And.intro (fun hif => ?_) (fun hif => ?_) <;> try (first | contradiction | (exfalso; omega))) | ((first | refine xT fun K hK => ?_ | refine xU fun K hK => ?_ | refine yB (fun K hK => ?_) (fun K hK => ?_) | refine xV ?_ | refine yA ?_ | refine xW ?_ | refine xX ?_ | refine xY ?_ | refine xZ ?_) <;> simp only [↓awpOps, ↓awpKeep, ↓awpKeepF, ↓aop, ↓aopQ, ↓abin, ↓aun, ↓onSome_some, ↓Kont_at, ↓KM_at, ↓KV_at, ↓KU_at, refId_row, Frame.ev, Frame.evs, Frame.evOr, Frame.put, Frame.keep, get_nil, get_cons, argFrame, resOf, fillA, Vals.len, Vals.get, Vals.set, Vals.app, Vals.sub, Vals.take, Vals.ofAgg_cons, Vals.ofList, Vals.toInts, Vals.toBools, Vals.toSls, Vals.toStrs, Vals.zeros, Nat.reduceBEq, Nat.reduceAdd, Nat.reduceEqDiff, cond_true, cond_false, Option.map_some, Option.map_none, List.length_cons, List.length_nil, List.replicate, List.set_cons_zero, List.set_cons_succ, Nat.reduceLT, Bool.not_true, Bool.not_false, Int.toNat_natCast, inR, Nat.zero_add, Int.toNat_zero, reduceCtorEq, IntKind.bits, List.nil_append, List.cons_append, Nat.add_zero, Nat.sub_zero, noughts_len, List.map_cons, List.map_nil, zp, zu]) | refine And.intro ?_ (fun hif => (hif trivial).elim) | (intro hif; try (first | contradiction | (exfalso; omega))))
    exact ⟨_, rfl, hg0, obj_new _ _ rfl (Nat.le_refl _) (by simp)⟩
  | true =>
    have hC := cat_is hT
    have hN := hC.ok
    have h6 := hN.six
    have h1 := hN.pos
    rw [boneL, if_pos hT]
    have hin := spec_l4Inner _ net _ hs0 hN
    have hI64 := inn64 hN (Nat.le_refl net.length)
    have hbz := boneOf_zero (net := net)
    have hbn := boneOf_bn (net := net)
    generalize inn (pk net) net.length = I at hin hI64 hbz hbn
    by_cases hI0 : I = 0
    · obtain rfl := hI0
      rw [hbz rfl]
      repeat' (first | refine xA ?_ | refine xB ?_ | refine xC ?_ | refine xD ?_ | refine xE ?_ | refine xF ?_ | refine xG ?_ | refine xH ?_ | refine xI rfl ?_ | refine xJ ?_ | refine xK ?_ | refine xL ?_ | refine xM rfl ?_ | refine xN rfl ?_ | refine xO rfl ?_ | (first | refine xP rfl (fun hif => ?_) (fun hif => ?_) | refine xQ rfl (fun hif => ?_) (fun hif => ?_) | refine xR rfl (fun hif => ?_) (fun hif => ?_) | refine xS rfl (fun hif => ?_) (fun hif => ?_)) <;> try (first | contradiction | (exfalso; omega)) | (refine hK _ _ ?_; clear hK K) | refine AQuiet.call (spec_CaterpillarOk_v hs0 hT) trivial ?_ | refine AQuiet.call hin trivial ?_ | refine app_int hwf0 hA (by simp) fun s3 m3 f3 hp3 hg3 hA3 hf3 hl3 => ?_ | (refine And.intro (by first | omega | assumption | (constructor <;> omega)) ?_) | (refine And.intro (fun hif => ?_) (fun hif => ?_) <;> try (first | contradiction | (exfalso; omega))) | ((first | refine xT fun K hK => ?_ | refine xU fun K hK => ?_ | refine yB (fun K hK => ?_) (fun K hK => ?_) | refine xV ?_ | refine yA ?_ | refine xW ?_ | refine xX ?_ | refine xY ?_ | refine xZ ?_) <;> simp only [↓awpOps, ↓awpKeep, ↓awpKeepF, ↓aop, ↓aopQ, ↓abin, ↓aun, ↓onSome_some, ↓Kont_at, ↓KM_at, ↓KV_at, ↓KU_at, refId_row, Frame.ev, Frame.evs, Frame.evOr, Frame.put, Frame.keep, get_nil, get_cons, argFrame, resOf, fillA, Vals.len, Vals.get, Vals.set, Vals.app, Vals.sub, Vals.take, Vals.ofAgg_cons, Vals.ofList, Vals.toInts, Vals.toBools, Vals.toSls, Vals.toStrs, Vals.zeros, Nat.reduceBEq, Nat.reduceAdd, Nat.reduceEqDiff, cond_true, cond_false, Option.map_some, Option.map_none, List.length_cons, List.length_nil, List.replicate, List.set_cons_zero, List.set_cons_succ, Nat.reduceLT, Bool.not_true, Bool.not_false, Int.toNat_natCast, inR, Nat.zero_add, Int.toNat_zero, reduceCtorEq, IntKind.bits, List.nil_append, List.cons_append, Nat.add_zero, Nat.sub_zero, noughts_len, List.map_cons, List.map_nil, zp, zu]) | refine And.intro ?_ (fun hif => (hif trivial).elim) | (intro hif; try (first | contradiction | (exfalso; omega))))
      have := hg0.le
      exact ⟨_, rfl, grow00 (hp0.trans hp3) ((hg0.any m.length m3.length).trans (hg3 _ _ (.inr ⟨Nat.le_refl _, by have := hp3.length_le; simp at this; omega⟩))), hA3.obj (by rcases hf3 with ⟨e, _⟩ | e <;> simp at * <;> omega) hl3⟩
    · have hbn := hbn hI0
      repeat' (first | refine xA ?_ | refine xB ?_ | refine xC ?_ | refine xD ?_ | refine xE ?_ | refine xF ?_ | refine xG ?_ | refine xH ?_ | refine xI rfl ?_ | refine xJ ?_ | refine xK ?_ | refine xL ?_ | refine xM rfl ?_ | refine xN rfl ?_ | refine xO rfl ?_ | (first | refine xP rfl (fun hif => ?_) (fun hif => ?_) | refine xQ rfl (fun hif => ?_) (fun hif => ?_) | refine xR rfl (fun hif => ?_) (fun hif => ?_) | refine xS rfl (fun hif => ?_) (fun hif => ?_)) <;> try (first | contradiction | (exfalso; omega)) | (refine hK _ _ ?_; clear hK K) | refine AQuiet.call (spec_CaterpillarOk_v hs0 hT) trivial ?_ | refine AQuiet.call hin trivial ?_ | (refine And.intro (by first | omega | assumption | (constructor <;> omega)) ?_) | (refine And.intro (fun hif => ?_) (fun hif => ?_) <;> try (first | contradiction | (exfalso; omega))) | ((first | refine xT fun K hK => ?_ | refine xU fun K hK => ?_ | refine yB (fun K hK => ?_) (fun K hK => ?_) | refine xV ?_ | refine yA ?_ | refine xW ?_ | refine xX ?_ | refine xY ?_ | refine xZ ?_) <;> simp only [↓awpOps, ↓awpKeep, ↓awpKeepF, ↓aop, ↓aopQ, ↓abin, ↓aun, ↓onSome_some, ↓Kont_at, ↓KM_at, ↓KV_at, ↓KU_at, refId_row, Frame.ev, Frame.evs, Frame.evOr, Frame.put, Frame.keep, get_nil, get_cons, argFrame, resOf, fillA, Vals.len, Vals.get, Vals.set, Vals.app, Vals.sub, Vals.take, Vals.ofAgg_cons, Vals.ofList, Vals.toInts, Vals.toBools, Vals.toSls, Vals.toStrs, Vals.zeros, Nat.reduceBEq, Nat.reduceAdd, Nat.reduceEqDiff, cond_true, cond_false, Option.map_some, Option.map_none, List.length_cons, List.length_nil, List.replicate, List.set_cons_zero, List.set_cons_succ, Nat.reduceLT, Bool.not_true, Bool.not_false, Int.toNat_natCast, inR, Nat.zero_add, Int.toNat_zero, reduceCtorEq, IntKind.bits, List.nil_append, List.cons_append, Nat.add_zero, Nat.sub_zero, noughts_len, List.map_cons, List.map_nil, zp, zu]) | refine And.intro ?_ (fun hif => (hif trivial).elim) | (intro hif; try (first | contradiction | (exfalso; omega))))
      refine awp_loop ?_
      refine ALoop.by [0, 3, 4, 5, 6] (fun a : Nat × Int × Int => [(0, .one (.sl ⟨ref, off, net.length⟩)), (3, .one (.sl ⟨.row m.length, 0, 0⟩)), (4, .one (.int .i64 I)), (5, .one (.int .i64 a.2.1)), (6, .one (.int .i64 a.2.2))]) (fun _ => m ++ [⟨Ty.int, m.length, true, .ints .i64 []⟩]) (fun a => a.1 ≤ net.length ∧ a.2.1 = (stt (pk net) I net.length a.1 : Int) - 1 ∧ a.2.2 = (net.length : Int) - 1 - a.1) (fun a => net.length - a.1) (0, -1, (net.length : Int) - 1) rfl rfl ⟨Nat.zero_le _, rfl, by simp⟩ ?_
      rintro ⟨d, v, kk⟩ ⟨hd, hv, hkk⟩ K1 hK1
      simp only at hd hv hkk
      by_cases hlt : d < net.length
      · obtain ⟨k, hk⟩ : ∃ k : Nat, k = net.length - (d + 1) := ⟨_, rfl⟩
        obtain rfl : kk = (k : Int) := by omega
        have hkn : k < net.length := by omega
        have e1 := stt_succ (pk net) I net.length d
        rw [← hk, row_of hN (by omega)] at e1
        have hsh : (I : Int) / 2 ^ k % 2 = if bit (I : Int) k then 1 else 0 := shr_bit (by omega)
        rw [bit_nat] at hsh
        have hnn : 0 ≤ (I : Int) / 2 ^ k := Int.ediv_nonneg (by omega) (by have := (pow_bounds (p := k) (by omega)).1; omega)
        have hpk := pow_bounds (p := k) (by omega)
        have hsz := size_land hN hkn hI64 (m ++ [⟨Ty.int, m.length, true, .ints .i64 []⟩])
        cases hb : I.testBit k with
        | false =>
          rw [hb, if_neg (by exact Bool.noConfusion)] at hsh
          rw [hb, if_neg (fun c => by cases c.1)] at e1
          repeat' (first | refine xA ?_ | refine xB ?_ | refine xC ?_ | refine xD ?_ | refine xE ?_ | refine xF ?_ | refine xG ?_ | refine xH ?_ | refine xI rfl ?_ | refine xJ ?_ | refine xK ?_ | refine xL ?_ | refine xM rfl ?_ | refine xN rfl ?_ | refine xO rfl ?_ | (first | refine xP rfl (fun hif => ?_) (fun hif => ?_) | refine xQ rfl (fun hif => ?_) (fun hif => ?_) | refine xR rfl (fun hif => ?_) (fun hif => ?_) | refine xS rfl (fun hif => ?_) (fun hif => ?_)) <;> try (first | contradiction | (exfalso; omega)) | (refine hK _ _ ?_; clear hK K) | refine onSome_of (hs0.2 _ (by omega)) ?_ | refine AQuiet.call hsz trivial ?_ | (refine And.intro (by first | omega | assumption | (constructor <;> omega)) ?_) | (refine And.intro (fun hif => ?_) (fun hif => ?_) <;> try (first | contradiction | (exfalso; omega))) | ((first | refine xT fun K hK => ?_ | refine xU fun K hK => ?_ | refine yB (fun K hK => ?_) (fun K hK => ?_) | refine xV ?_ | refine yA ?_ | refine xW ?_ | refine xX ?_ | refine xY ?_ | refine xZ ?_) <;> simp only [↓awpOps, ↓awpKeep, ↓awpKeepF, ↓aop, ↓aopQ, ↓abin, ↓aun, ↓onSome_some, ↓Kont_at, ↓KM_at, ↓KV_at, ↓KU_at, refId_row, Frame.ev, Frame.evs, Frame.evOr, Frame.put, Frame.keep, get_nil, get_cons, argFrame, resOf, fillA, Vals.len, Vals.get, Vals.set, Vals.app, Vals.sub, Vals.take, Vals.ofAgg_cons, Vals.ofList, Vals.toInts, Vals.toBools, Vals.toSls, Vals.toStrs, Vals.zeros, Nat.reduceBEq, Nat.reduceAdd, Nat.reduceEqDiff, cond_true, cond_false, Option.map_some, Option.map_none, List.length_cons, List.length_nil, List.replicate, List.set_cons_zero, List.set_cons_succ, Nat.reduceLT, Bool.not_true, Bool.not_false, Int.toNat_natCast, inR, Nat.zero_add, Int.toNat_zero, reduceCtorEq, IntKind.bits, List.nil_append, List.cons_append, Nat.add_zero, Nat.sub_zero, noughts_len, List.map_cons, List.map_nil, zp, zu]) | refine And.intro ?_ (fun hif => (hif trivial).elim) | (intro hif; try (first | contradiction | (exfalso; omega))))
          all_goals exact hK1 (d + 1, v, (k : Int) - 1) _ _ rfl rfl ⟨by simp only; omega, by simp only; omega, by simp only; omega⟩ (by simp only; omega)
        | true =>
          rw [hb, if_pos rfl] at hsh
          by_cases h2 : pc (Nat.land (nrow net k) I) ≤ 1
          · rw [hb, if_pos ⟨rfl, h2⟩] at e1
            repeat' (first | refine xA ?_ | refine xB ?_ | refine xC ?_ | refine xD ?_ | refine xE ?_ | refine xF ?_ | refine xG ?_ | refine xH ?_ | refine xI rfl ?_ | refine xJ ?_ | refine xK ?_ | refine xL ?_ | refine xM rfl ?_ | refine xN rfl ?_ | refine xO rfl ?_ | (first | refine xP rfl (fun hif => ?_) (fun hif => ?_) | refine xQ rfl (fun hif => ?_) (fun hif => ?_) | refine xR rfl (fun hif => ?_) (fun hif => ?_) | refine xS rfl (fun hif => ?_) (fun hif => ?_)) <;> try (first | contradiction | (exfalso; omega)) | (refine hK _ _ ?_; clear hK K) | refine onSome_of (hs0.2 _ (by omega)) ?_ | refine AQuiet.call hsz trivial ?_ | (refine And.intro (by first | omega | assumption | (constructor <;> omega)) ?_) | (refine And.intro (fun hif => ?_) (fun hif => ?_) <;> try (first | contradiction | (exfalso; omega))) | ((first | refine xT fun K hK => ?_ | refine xU fun K hK => ?_ | refine yB (fun K hK => ?_) (fun K hK => ?_) | refine xV ?_ | refine yA ?_ | refine xW ?_ | refine xX ?_ | refine xY ?_ | refine xZ ?_) <;> simp only [↓awpOps, ↓awpKeep, ↓awpKeepF, ↓aop, ↓aopQ, ↓abin, ↓aun, ↓onSome_some, ↓Kont_at, ↓KM_at, ↓KV_at, ↓KU_at, refId_row, Frame.ev, Frame.evs, Frame.evOr, Frame.put, Frame.keep, get_nil, get_cons, argFrame, resOf, fillA, Vals.len, Vals.get, Vals.set, Vals.app, Vals.sub, Vals.take, Vals.ofAgg_cons, Vals.ofList, Vals.toInts, Vals.toBools, Vals.toSls, Vals.toStrs, Vals.zeros, Nat.reduceBEq, Nat.reduceAdd, Nat.reduceEqDiff, cond_true, cond_false, Option.map_some, Option.map_none, List.length_cons, List.length_nil, List.replicate, List.set_cons_zero, List.set_cons_succ, Nat.reduceLT, Bool.not_true, Bool.not_false, Int.toNat_natCast, inR, Nat.zero_add, Int.toNat_zero, reduceCtorEq, IntKind.bits, List.nil_append, List.cons_append, Nat.add_zero, Nat.sub_zero, noughts_len, List.map_cons, List.map_nil, zp, zu]) | refine And.intro ?_ (fun hif => (hif trivial).elim) | (intro hif; try (first | contradiction | (exfalso; omega))))
            all_goals exact hK1 (d + 1, (k : Int), (k : Int) - 1) _ _ rfl rfl ⟨by simp only; omega, by simp only; omega, by simp only; omega⟩ (by simp only; omega)
          · rw [hb, if_neg (fun c => h2 c.2)] at e1
            repeat' (first | refine xA ?_ | refine xB ?_ | refine xC ?_ | refine xD ?_ | refine xE ?_ | refine xF ?_ | refine xG ?_ | refine xH ?_ | refine xI rfl ?_ | refine xJ ?_ | refine xK ?_ | refine xL ?_ | refine xM rfl ?_ | refine xN rfl ?_ | refine xO rfl ?_ | (first | refine xP rfl (fun hif => ?_) (fun hif => ?_) | refine xQ rfl (fun hif => ?_) (fun hif => ?_) | refine xR rfl (fun hif => ?_) (fun hif => ?_) | refine xS rfl (fun hif => ?_) (fun hif => ?_)) <;> try (first | contradiction | (exfalso; omega)) | (refine hK _ _ ?_; clear hK K) | refine onSome_of (hs0.2 _ (by omega)) ?_ | refine AQuiet.call hsz trivial ?_ | (refine And.intro (by first | omega | assumption | (constructor <;> omega)) ?_) | (refine And.intro (fun hif => ?_) (fun hif => ?_) <;> try (first | contradiction | (exfalso; omega))) | ((first | refine xT fun K hK => ?_ | refine xU fun K hK => ?_ | refine yB (fun K hK => ?_) (fun K hK => ?_) | refine xV ?_ | refine yA ?_ | refine xW ?_ | refine xX ?_ | refine xY ?_ | refine xZ ?_) <;> simp only [↓awpOps, ↓awpKeep, ↓awpKeepF, ↓aop, ↓aopQ, ↓abin, ↓aun, ↓onSome_some, ↓Kont_at, ↓KM_at, ↓KV_at, ↓KU_at, refId_row, Frame.ev, Frame.evs, Frame.evOr, Frame.put, Frame.keep, get_nil, get_cons, argFrame, resOf, fillA, Vals.len, Vals.get, Vals.set, Vals.app, Vals.sub, Vals.take, Vals.ofAgg_cons, Vals.ofList, Vals.toInts, Vals.toBools, Vals.toSls, Vals.toStrs, Vals.zeros, Nat.reduceBEq, Nat.reduceAdd, Nat.reduceEqDiff, cond_true, cond_false, Option.map_some, Option.map_none, List.length_cons, List.length_nil, List.replicate, List.set_cons_zero, List.set_cons_succ, Nat.reduceLT, Bool.not_true, Bool.not_false, Int.toNat_natCast, inR, Nat.zero_add, Int.toNat_zero, reduceCtorEq, IntKind.bits, List.nil_append, List.cons_append, Nat.add_zero, Nat.sub_zero, noughts_len, List.map_cons, List.map_nil, zp, zu]) | refine And.intro ?_ (fun hif => (hif trivial).elim) | (intro hif; try (first | contradiction | (exfalso; omega))))
            all_goals exact hK1 (d + 1, v, (k : Int) - 1) _ _ rfl rfl ⟨by simp only; omega, by simp only; omega, by simp only; omega⟩ (by simp only; omega)
      · obtain rfl : d = net.length := by omega
        have hst := stt_le (pk net) I net.length net.length (Nat.le_refl _)
        generalize stt (pk net) I net.length net.length = st at hbn hv hst
        repeat' (first | refine xA ?_ | refine xB ?_ | refine xC ?_ | refine xD ?_ | refine xE ?_ | refine xF ?_ | refine xG ?_ | refine xH ?_ | refine xI rfl ?_ | refine xJ ?_ | refine xK ?_ | refine xL ?_ | refine xM rfl ?_ | refine xN rfl ?_ | refine xO rfl ?_ | (first | refine xP rfl (fun hif => ?_) (fun hif => ?_) | refine xQ rfl (fun hif => ?_) (fun hif => ?_) | refine xR rfl (fun hif => ?_) (fun hif => ?_) | refine xS rfl (fun hif => ?_) (fun hif => ?_)) <;> try (first | contradiction | (exfalso; omega)) | (refine hK _ _ ?_; clear hK K) | (refine And.intro (by first | omega | assumption | (constructor <;> omega)) ?_) | (refine And.intro (fun hif => ?_) (fun hif => ?_) <;> try (first | contradiction | (exfalso; omega))) | ((first | refine xT fun K hK => ?_ | refine xU fun K hK => ?_ | refine yB (fun K hK => ?_) (fun K hK => ?_) | refine xV ?_ | refine yA ?_ | refine xW ?_ | refine xX ?_ | refine xY ?_ | refine xZ ?_) <;> simp only [↓awpOps, ↓awpKeep, ↓awpKeepF, ↓aop, ↓aopQ, ↓abin, ↓aun, ↓onSome_some, ↓Kont_at, ↓KM_at, ↓KV_at, ↓KU_at, refId_row, Frame.ev, Frame.evs, Frame.evOr, Frame.put, Frame.keep, get_nil, get_cons, argFrame, resOf, fillA, Vals.len, Vals.get, Vals.set, Vals.app, Vals.sub, Vals.take, Vals.ofAgg_cons, Vals.ofList, Vals.toInts, Vals.toBools, Vals.toSls, Vals.toStrs, Vals.zeros, Nat.reduceBEq, Nat.reduceAdd, Nat.reduceEqDiff, cond_true, cond_false, Option.map_some, Option.map_none, List.length_cons, List.length_nil, List.replicate, List.set_cons_zero, List.set_cons_succ, Nat.reduceLT, Bool.not_true, Bool.not_false, Int.toNat_natCast, inR, Nat.zero_add, Int.toNat_zero, reduceCtorEq, IntKind.bits, List.nil_append, List.cons_append, Nat.add_zero, Nat.sub_zero, noughts_len, List.map_cons, List.map_nil, zp, zu]) | refine And.intro ?_ (fun hif => (hif trivial).elim) | (intro hif; try (first | contradiction | (exfalso; omega))))
        refine awp_loop ?_
        refine ALoop.by [0, 3, 5, 7] (fun a : Nat × Nat × Nat × Nat × Int × SV × Nat × Heap => [(0, .one (.sl ⟨ref, off, net.length⟩)), (3, .one (.sl a.2.2.2.2.2.1)), (5, .one (.int .i64 a.2.2.2.2.1)), (7, .one (.int .i64 (a.2.2.1 : Int)))]) (fun a => a.2.2.2.2.2.2.2)
          (fun a => bn (pk net) net.length a.1 a.2.1 a.2.2.1 a.2.2.2.1 = boneOf net ∧ a.2.1 ≤ net.length ∧ a.2.2.1 < 64 ∧ a.2.2.2.2.1 = (a.2.1 : Int) - 1 ∧ a.2.2.2.1 % 16 + a.1 ≤ 7 ∧ PIs a.2.2.2.1 ∧ m <+: a.2.2.2.2.2.2.2 ∧ Grow m.length a.2.2.2.2.2.2.2.length m a.2.2.2.2.2.2.2 ∧ Acc Ty.int a.2.2.2.2.2.2.1 a.2.2.2.2.2.2.2 a.2.2.2.2.2.1 (.ints .i64 (plist a.2.2.2.1)) ∧ m.length ≤ a.2.2.2.2.2.2.1 ∧ a.2.2.2.2.2.2.1 < a.2.2.2.2.2.2.2.length)
          (fun a => a.1) (7, st, I, 0, v, _, m.length, _) rfl rfl ⟨hbn.symm, hst, hI64, hv, (show 0 % 16 + 7 ≤ 7 by decide), ⟨show 0 / 16 < 256 ^ (0 % 16) by decide⟩, hp0, hg0.any _ _, hA, Nat.le_refl _, by simp⟩ ?_
        rintro ⟨f, at1, left, P, w, s2, id, m2⟩ ⟨hbf, hat, hleft, hw, hPf, hP, hp2, hg2, hA2, hf1, hf2⟩ K2 hK2
        simp only at hbf hat hleft hw hPf hP hp2 hg2 hA2 hf1 hf2
        cases at1 with
        | zero =>
          rw [bn_none] at hbf
          obtain rfl : w = -1 := by omega
          repeat' (first | refine xA ?_ | refine xB ?_ | refine xC ?_ | refine xD ?_ | refine xE ?_ | refine xF ?_ | refine xG ?_ | refine xH ?_ | refine xI rfl ?_ | refine xJ ?_ | refine xK ?_ | refine xL ?_ | refine xM rfl ?_ | refine xN rfl ?_ | refine xO rfl ?_ | (first | refine xP rfl (fun hif => ?_) (fun hif => ?_) | refine xQ rfl (fun hif => ?_) (fun hif => ?_) | refine xR rfl (fun hif => ?_) (fun hif => ?_) | refine xS rfl (fun hif => ?_) (fun hif => ?_)) <;> try (first | contradiction | (exfalso; omega)) | (refine hK _ _ ?_; clear hK K) | (refine And.intro (by first | omega | assumption | (constructor <;> omega)) ?_) | (refine And.intro (fun hif => ?_) (fun hif => ?_) <;> try (first | contradiction | (exfalso; omega))) | ((first | refine xT fun K hK => ?_ | refine xU fun K hK => ?_ | refine yB (fun K hK => ?_) (fun K hK => ?_) | refine xV ?_ | refine yA ?_ | refine xW ?_ | refine xX ?_ | refine xY ?_ | refine xZ ?_) <;> simp only [↓awpOps, ↓awpKeep, ↓awpKeepF, ↓aop, ↓aopQ, ↓abin, ↓aun, ↓onSome_some, ↓Kont_at, ↓KM_at, ↓KV_at, ↓KU_at, refId_row, Frame.ev, Frame.evs, Frame.evOr, Frame.put, Frame.keep, get_nil, get_cons, argFrame, resOf, fillA, Vals.len, Vals.get, Vals.set, Vals.app, Vals.sub, Vals.take, Vals.ofAgg_cons, Vals.ofList, Vals.toInts, Vals.toBools, Vals.toSls, Vals.toStrs, Vals.zeros, Nat.reduceBEq, Nat.reduceAdd, Nat.reduceEqDiff, cond_true, cond_false, Option.map_some, Option.map_none, List.length_cons, List.length_nil, List.replicate, List.set_cons_zero, List.set_cons_succ, Nat.reduceLT, Bool.not_true, Bool.not_false, Int.toNat_natCast, inR, Nat.zero_add, Int.toNat_zero, reduceCtorEq, IntKind.bits, List.nil_append, List.cons_append, Nat.add_zero, Nat.sub_zero, noughts_len, List.map_cons, List.map_nil, zp, zu]) | refine And.intro ?_ (fun hif => (hif trivial).elim) | (intro hif; try (first | contradiction | (exfalso; omega))))
          rw [← hbf]
          exact ⟨_, rfl, grow00 hp2 hg2, hA2.obj hf1 hf2⟩
        | succ a =>
          obtain rfl : w = (a : Int) := by omega
          cases f with
          | zero =>
            rw [bn_out] at hbf
            have := hC.boneN
            omega
          | succ f =>
            rw [bn_next, row_of hN (by omega)] at hbf
            have hpk := pow_bounds (p := a) (by omega)
            have hp64 := pow_lt64 (k := a) (by omega)
            have hl1 := less_lt (2 ^ a) hleft
            have hbl := bandNot_less hleft hp64
            have hpc : ((2 : Int) ^ a) = ((2 ^ a : Nat) : Int) := by simp
            rw [← hpc] at hbl
            obtain ⟨hP', hpl⟩ := psh_is (a := a) hP (by omega) (by omega)
            have hpp := (psh_parts (P := P) (a := a) (by omega)).2
            generalize less left (2 ^ a) = l1 at hbf hl1 hbl
            have hX : bandInt .i64 ((net.getD a 0)) (l1 : Int) = ((Nat.land (nrow net a) l1 : Nat) : Int) := by
              rw [← band_land (nrow_lt hN a) hl1, show ((nrow net a : Nat) : Int) = (net.getD a 0) from Int.toNat_of_nonneg (hN.low a (by omega))]
            repeat' (first | refine xA ?_ | refine xB ?_ | refine xC ?_ | refine xD ?_ | refine xE ?_ | refine xF ?_ | refine xG ?_ | refine xH ?_ | refine xI rfl ?_ | refine xJ ?_ | refine xK ?_ | refine xL ?_ | refine xM rfl ?_ | refine xN rfl ?_ | refine xO rfl ?_ | (first | refine xP rfl (fun hif => ?_) (fun hif => ?_) | refine xQ rfl (fun hif => ?_) (fun hif => ?_) | refine xR rfl (fun hif => ?_) (fun hif => ?_) | refine xS rfl (fun hif => ?_) (fun hif => ?_)) <;> try (first | contradiction | (exfalso; omega)) | (refine hK _ _ ?_; clear hK K) | refine app_int hg2.wf hA2 (by rw [plist_len]; omega) fun s3 m3 f3 hp3 hg3 hA3 hf3 hl3 => ?_ | (refine And.intro (by first | omega | assumption | (constructor <;> omega)) ?_) | (refine And.intro (fun hif => ?_) (fun hif => ?_) <;> try (first | contradiction | (exfalso; omega))) | ((first | refine xT fun K hK => ?_ | refine xU fun K hK => ?_ | refine yB (fun K hK => ?_) (fun K hK => ?_) | refine xV ?_ | refine yA ?_ | refine xW ?_ | refine xX ?_ | refine xY ?_ | refine xZ ?_) <;> simp only [↓awpOps, ↓awpKeep, ↓awpKeepF, ↓aop, ↓aopQ, ↓abin, ↓aun, ↓onSome_some, ↓Kont_at, ↓KM_at, ↓KV_at, ↓KU_at, refId_row, Frame.ev, Frame.evs, Frame.evOr, Frame.put, Frame.keep, get_nil, get_cons, argFrame, resOf, fillA, Vals.len, Vals.get, Vals.set, Vals.app, Vals.sub, Vals.take, Vals.ofAgg_cons, Vals.ofList, Vals.toInts, Vals.toBools, Vals.toSls, Vals.toStrs, Vals.zeros, Nat.reduceBEq, Nat.reduceAdd, Nat.reduceEqDiff, cond_true, cond_false, Option.map_some, Option.map_none, List.length_cons, List.length_nil, List.replicate, List.set_cons_zero, List.set_cons_succ, Nat.reduceLT, Bool.not_true, Bool.not_false, Int.toNat_natCast, inR, Nat.zero_add, Int.toNat_zero, reduceCtorEq, IntKind.bits, List.nil_append, List.cons_append, Nat.add_zero, Nat.sub_zero, noughts_len, List.map_cons, List.map_nil, zp, zu]) | refine And.intro ?_ (fun hif => (hif trivial).elim) | (intro hif; try (first | contradiction | (exfalso; omega))))
            have hs3 := hs.pre (hp2.trans hp3)
            refine awp_loop ?_
            refine ALoop.by [0, 3, 5, 7, 8, 9] (fun b : Nat × Int => [(0, .one (.sl ⟨ref, off, net.length⟩)), (3, .one (.sl s3)), (5, .one (.int .i64 (a : Int))), (7, .one (.int .i64 (l1 : Int))), (8, .one (.int .i64 b.2)), (9, .one (.int .i64 b.1))]) (fun _ => m3) (fun b => b.1 ≤ net.length ∧ b.2 = (nx (Nat.land (nrow net a) l1) b.1 : Int) - 1) (fun b => net.length - b.1) (0, -1) (by rw [hbl]; rfl) rfl ⟨Nat.zero_le _, rfl⟩ ?_
            rintro ⟨j, u⟩ ⟨hj, hu⟩ K3 hK3
            simp only at hj hu
            by_cases hjn : j < net.length
            · have e1 := nx_succ (Nat.land (nrow net a) l1) j
              have hsh : ((Nat.land (nrow net a) l1 : Nat) : Int) / 2 ^ j % 2 = if bit ((Nat.land (nrow net a) l1 : Nat) : Int) j then 1 else 0 := shr_bit (by omega)
              rw [bit_nat, ← hX] at hsh
              have hnn : 0 ≤ bandInt .i64 ((net.getD a 0)) (l1 : Int) / 2 ^ j := Int.ediv_nonneg (by rw [hX]; omega) (by have := (pow_bounds (p := j) (by omega)).1; omega)
              have hpj := pow_bounds (p := j) (by omega)
              cases hb : (Nat.land (nrow net a) l1).testBit j with
              | true =>
                rw [hb, if_pos rfl] at hsh e1
                repeat' (first | refine xA ?_ | refine xB ?_ | refine xC ?_ | refine xD ?_ | refine xE ?_ | refine xF ?_ | refine xG ?_ | refine xH ?_ | refine xI rfl ?_ | refine xJ ?_ | refine xK ?_ | refine xL ?_ | refine xM rfl ?_ | refine xN rfl ?_ | refine xO rfl ?_ | (first | refine xP rfl (fun hif => ?_) (fun hif => ?_) | refine xQ rfl (fun hif => ?_) (fun hif => ?_) | refine xR rfl (fun hif => ?_) (fun hif => ?_) | refine xS rfl (fun hif => ?_) (fun hif => ?_)) <;> try (first | contradiction | (exfalso; omega)) | (refine hK _ _ ?_; clear hK K) | refine onSome_of (hs3.2 _ (by omega)) ?_ | (refine And.intro (by first | omega | assumption | (constructor <;> omega)) ?_) | (refine And.intro (fun hif => ?_) (fun hif => ?_) <;> try (first | contradiction | (exfalso; omega))) | ((first | refine xT fun K hK => ?_ | refine xU fun K hK => ?_ | refine yB (fun K hK => ?_) (fun K hK => ?_) | refine xV ?_ | refine yA ?_ | refine xW ?_ | refine xX ?_ | refine xY ?_ | refine xZ ?_) <;> simp only [↓awpOps, ↓awpKeep, ↓awpKeepF, ↓aop, ↓aopQ, ↓abin, ↓aun, ↓onSome_some, ↓Kont_at, ↓KM_at, ↓KV_at, ↓KU_at, refId_row, Frame.ev, Frame.evs, Frame.evOr, Frame.put, Frame.keep, get_nil, get_cons, argFrame, resOf, fillA, Vals.len, Vals.get, Vals.set, Vals.app, Vals.sub, Vals.take, Vals.ofAgg_cons, Vals.ofList, Vals.toInts, Vals.toBools, Vals.toSls, Vals.toStrs, Vals.zeros, Nat.reduceBEq, Nat.reduceAdd, Nat.reduceEqDiff, cond_true, cond_false, Option.map_some, Option.map_none, List.length_cons, List.length_nil, List.replicate, List.set_cons_zero, List.set_cons_succ, Nat.reduceLT, Bool.not_true, Bool.not_false, Int.toNat_natCast, inR, Nat.zero_add, Int.toNat_zero, reduceCtorEq, IntKind.bits, List.nil_append, List.cons_append, Nat.add_zero, Nat.sub_zero, noughts_len, List.map_cons, List.map_nil, zp, zu]) | refine And.intro ?_ (fun hif => (hif trivial).elim) | (intro hif; try (first | contradiction | (exfalso; omega))))
                all_goals exact hK3 (j + 1, (j : Int)) _ _ rfl rfl ⟨by simp only; omega, by simp only; omega⟩ (by simp only; omega)
              | false =>
                rw [hb, if_neg (by exact Bool.noConfusion)] at hsh e1
                repeat' (first | refine xA ?_ | refine xB ?_ | refine xC ?_ | refine xD ?_ | refine xE ?_ | refine xF ?_ | refine xG ?_ | refine xH ?_ | refine xI rfl ?_ | refine xJ ?_ | refine xK ?_ | refine xL ?_ | refine xM rfl ?_ | refine xN rfl ?_ | refine xO rfl ?_ | (first | refine xP rfl (fun hif => ?_) (fun hif => ?_) | refine xQ rfl (fun hif => ?_) (fun hif => ?_) | refine xR rfl (fun hif => ?_) (fun hif => ?_) | refine xS rfl (fun hif => ?_) (fun hif => ?_)) <;> try (first | contradiction | (exfalso; omega)) | (refine hK _ _ ?_; clear hK K) | refine onSome_of (hs3.2 _ (by omega)) ?_ | (refine And.intro (by first | omega | assumption | (constructor <;> omega)) ?_) | (refine And.intro (fun hif => ?_) (fun hif => ?_) <;> try (first | contradiction | (exfalso; omega))) | ((first | refine xT fun K hK => ?_ | refine xU fun K hK => ?_ | refine yB (fun K hK => ?_) (fun K hK => ?_) | refine xV ?_ | refine yA ?_ | refine xW ?_ | refine xX ?_ | refine xY ?_ | refine xZ ?_) <;> simp only [↓awpOps, ↓awpKeep, ↓awpKeepF, ↓aop, ↓aopQ, ↓abin, ↓aun, ↓onSome_some, ↓Kont_at, ↓KM_at, ↓KV_at, ↓KU_at, refId_row, Frame.ev, Frame.evs, Frame.evOr, Frame.put, Frame.keep, get_nil, get_cons, argFrame, resOf, fillA, Vals.len, Vals.get, Vals.set, Vals.app, Vals.sub, Vals.take, Vals.ofAgg_cons, Vals.ofList, Vals.toInts, Vals.toBools, Vals.toSls, Vals.toStrs, Vals.zeros, Nat.reduceBEq, Nat.reduceAdd, Nat.reduceEqDiff, cond_true, cond_false, Option.map_some, Option.map_none, List.length_cons, List.length_nil, List.replicate, List.set_cons_zero, List.set_cons_succ, Nat.reduceLT, Bool.not_true, Bool.not_false, Int.toNat_natCast, inR, Nat.zero_add, Int.toNat_zero, reduceCtorEq, IntKind.bits, List.nil_append, List.cons_append, Nat.add_zero, Nat.sub_zero, noughts_len, List.map_cons, List.map_nil, zp, zu]) | refine And.intro ?_ (fun hif => (hif trivial).elim) | (intro hif; try (first | contradiction | (exfalso; omega))))
                all_goals exact hK3 (j + 1, u) _ _ rfl rfl ⟨by simp only; omega, by simp only; omega⟩ (by simp only; omega)
            · obtain rfl : j = net.length := by omega
              have hnl := nx_le (Nat.land (nrow net a) l1) net.length
              repeat' (first | refine xA ?_ | refine xB ?_ | refine xC ?_ | refine xD ?_ | refine xE ?_ | refine xF ?_ | refine xG ?_ | refine xH ?_ | refine xI rfl ?_ | refine xJ ?_ | refine xK ?_ | refine xL ?_ | refine xM rfl ?_ | refine xN rfl ?_ | refine xO rfl ?_ | (first | refine xP rfl (fun hif => ?_) (fun hif => ?_) | refine xQ rfl (fun hif => ?_) (fun hif => ?_) | refine xR rfl (fun hif => ?_) (fun hif => ?_) | refine xS rfl (fun hif => ?_) (fun hif => ?_)) <;> try (first | contradiction | (exfalso; omega)) | (refine hK _ _ ?_; clear hK K) | (refine And.intro (by first | omega | assumption | (constructor <;> omega)) ?_) | (refine And.intro (fun hif => ?_) (fun hif => ?_) <;> try (first | contradiction | (exfalso; omega))) | ((first | refine xT fun K hK => ?_ | refine xU fun K hK => ?_ | refine yB (fun K hK => ?_) (fun K hK => ?_) | refine xV ?_ | refine yA ?_ | refine xW ?_ | refine xX ?_ | refine xY ?_ | refine xZ ?_) <;> simp only [↓awpOps, ↓awpKeep, ↓awpKeepF, ↓aop, ↓aopQ, ↓abin, ↓aun, ↓onSome_some, ↓Kont_at, ↓KM_at, ↓KV_at, ↓KU_at, refId_row, Frame.ev, Frame.evs, Frame.evOr, Frame.put, Frame.keep, get_nil, get_cons, argFrame, resOf, fillA, Vals.len, Vals.get, Vals.set, Vals.app, Vals.sub, Vals.take, Vals.ofAgg_cons, Vals.ofList, Vals.toInts, Vals.toBools, Vals.toSls, Vals.toStrs, Vals.zeros, Nat.reduceBEq, Nat.reduceAdd, Nat.reduceEqDiff, cond_true, cond_false, Option.map_some, Option.map_none, List.length_cons, List.length_nil, List.replicate, List.set_cons_zero, List.set_cons_succ, Nat.reduceLT, Bool.not_true, Bool.not_false, Int.toNat_natCast, inR, Nat.zero_add, Int.toNat_zero, reduceCtorEq, IntKind.bits, List.nil_append, List.cons_append, Nat.add_zero, Nat.sub_zero, noughts_len, List.map_cons, List.map_nil, zp, zu]) | refine And.intro ?_ (fun hif => (hif trivial).elim) | (intro hif; try (first | contradiction | (exfalso; omega))))
              refine hK2 (f, nx (Nat.land (nrow net a) l1) net.length, l1, psh P a, u, s3, f3, m3) _ _ rfl rfl ⟨hbf, hnl, hl1, hu, by simp only; omega, hP', hp2.trans hp3, ?_, by rw [← hpl] at hA3; exact hA3, ?_, hl3⟩ (by simp only; omega)
              · exact (hg2.mono (Nat.le_refl _) hp3.length_le).trans (hg3 _ _ (.inr ⟨hf1, by have := hp3.length_le; omega⟩))
              · show m.length ≤ f3
                have := hg2.le
                rcases hf3 with ⟨e, _⟩ | e <;> omega

theorem boneL_of {net : List Int} (h : treeOk net = true) : boneL net = plist (boneOf net) := if_pos h
theorem boneL_none {net : List Int} (h : treeOk net = false) : boneL net = [] := by rw [boneL, if_neg (by rw [h]; exact Bool.noConfusion)]

end Go.Abs

/- The two columns of a caterpillar: the lists that the numbers tell. Own work; no condition. -/
set_option maxRecDepth 100000
set_option linter.unusedSimpArgs false
set_option linter.unusedVariables false
namespace Go.Abs
open Go.Proofs
attribute [local irreducible] awp awpOps awpKeep KeepK awpKeepF KeepF aloop ALoop ACalls ACallq AQuiet retPost retPostA AExit.thn AExit.blk aApp aSt aStA
open Parts

theorem inP_mem (P x : Nat) : ∀ k, inP P x k = true ↔ ∃ i, i < k ∧ pa P i = x
  | 0 => ⟨fun h => Bool.noConfusion h, fun ⟨_, h, _⟩ => absurd h (Nat.not_lt_zero _)⟩
  | k + 1 => by
    have e : inP P x (k + 1) = bif Nat.beq (pa P k) x then true else inP P x k := rfl
    rw [e]
    cases hb : Nat.beq (pa P k) x with
    | true => exact ⟨fun _ => ⟨k, Nat.lt_succ_self _, Nat.eq_of_beq_eq_true hb⟩, fun _ => rfl⟩
    | false =>
      refine Iff.trans (inP_mem P x k) ⟨fun ⟨i, h1, h2⟩ => ⟨i, by omega, h2⟩, fun ⟨i, h1, h2⟩ => ?_⟩
      rcases Nat.lt_succ_iff_lt_or_eq.1 h1 with h | rfl
      · exact ⟨i, h, h2⟩
      · rw [h2, show Nat.beq x x = true by simp] at hb; cases hb

theorem spec_l4Has (t : SV) (P x : Nat) (m : Heap) (ht : IsInts .i64 m t (plist P)) : AQuiet Try.prog F.spec_l4Has [.one (.sl t), .one (.int .i64 x)] m (.one (.bool (inP P x (P % 16)))) := by
  obtain ⟨ref, off, len⟩ := t
  have hl := plist_len P
  obtain rfl : len = (plist P).length := ht.1
  refine aqn T.spec_l4Has (by rfl) ?_
  repeat' (first | refine xA ?_ | refine xB ?_ | refine xC ?_ | refine xD ?_ | refine xE ?_ | refine xF ?_ | refine xG ?_ | refine xH ?_ | refine xI rfl ?_ | refine xJ ?_ | refine xK ?_ | refine xL ?_ | refine xM rfl ?_ | refine xN rfl ?_ | refine xO rfl ?_ | (first | refine xP rfl (fun hif => ?_) (fun hif => ?_) | refine xQ rfl (fun hif => ?_) (fun hif => ?_) | refine xR rfl (fun hif => ?_) (fun hif => ?_) | refine xS rfl (fun hif => ?_) (fun hif => ?_)) <;> try (first | contradiction | (exfalso; omega)) | (refine hK _ _ ?_; clear hK K) | (refine And.intro (by first | omega | assumption | (constructor <;> omega)) ?_) | (refine And.intro (fun hif => ?_) (fun hif => ?_) <;> try (first | contradiction | (exfalso; omega))) | ((first | refine xT fun K hK => ?_ | refine xU fun K hK => ?_ | refine yB (fun K hK => ?_) (fun K hK => ?_) | refine xV ?_ | refine yA ?_ | refine xW ?_ | refine xX ?_ | refine xY ?_ | refine xZ ?_) <;> simp only [↓awpOps, ↓awpKeep, ↓awpKeepF, ↓aop, ↓aopQ, ↓abin, ↓aun, ↓onSome_some, ↓Kont_at, ↓KM_at, ↓KV_at, ↓KU_at, refId_row, Frame.ev, Frame.evs, Frame.evOr, Frame.put, Frame.keep, get_nil, get_cons, argFrame, resOf, fillA, Vals.len, Vals.get, Vals.set, Vals.app, Vals.sub, Vals.take, Vals.ofAgg_cons, Vals.ofList, Vals.toInts, Vals.toBools, Vals.toSls, Vals.toStrs, Vals.zeros, Nat.reduceBEq, Nat.reduceAdd, Nat.reduceEqDiff, cond_true, cond_false, Option.map_some, Option.map_none, List.length_cons, List.length_nil, List.replicate, List.set_cons_zero, List.set_cons_succ, Nat.reduceLT, Bool.not_true, Bool.not_false, Int.toNat_natCast, inR, Nat.zero_add, Int.toNat_zero, reduceCtorEq, IntKind.bits, List.nil_append, List.cons_append, Nat.add_zero, Nat.sub_zero, noughts_len, List.map_cons, List.map_nil, zp, zu]) | refine And.intro ?_ (fun hif => (hif trivial).elim) | (intro hif; try (first | contradiction | (exfalso; omega))))
  refine awp_loop ?_
  refine ALoop.by [0, 1, 5] (fun k : Nat => [(0, .one (.sl ⟨ref, off, (plist P).length⟩)), (1, .one (.int .i64 x)), (5, .one (.int .i64 k))]) (fun _ => m) (fun k => k ≤ (plist P).length ∧ ∀ i, i < k → pa P i ≠ x) (fun k => (plist P).length - k) 0 rfl rfl ⟨Nat.zero_le _, fun i hi => absurd hi (Nat.not_lt_zero _)⟩ ?_
  rintro k ⟨hk, hok⟩ K1 hK1
  by_cases hlt : k < (plist P).length
  · have h1 := ht.2 k hlt
    rw [show (plist P).getD k 0 = (pa P k : Int) from plist_get (by omega)] at h1
    by_cases he : pa P k = x
    · rw [he] at h1
      have e : inP P x (P % 16) = true := (inP_mem P x _).2 ⟨k, by omega, he⟩
      rw [e]
      repeat' (first | refine xA ?_ | refine xB ?_ | refine xC ?_ | refine xD ?_ | refine xE ?_ | refine xF ?_ | refine xG ?_ | refine xH ?_ | refine xI rfl ?_ | refine xJ ?_ | refine xK ?_ | refine xL ?_ | refine xM rfl ?_ | refine xN rfl ?_ | refine xO rfl ?_ | (first | refine xP rfl (fun hif => ?_) (fun hif => ?_) | refine xQ rfl (fun hif => ?_) (fun hif => ?_) | refine xR rfl (fun hif => ?_) (fun hif => ?_) | refine xS rfl (fun hif => ?_) (fun hif => ?_)) <;> try (first | contradiction | (exfalso; omega)) | (refine hK _ _ ?_; clear hK K) | refine onSome_of h1 ?_ | (refine And.intro (by first | omega | assumption | (constructor <;> omega)) ?_) | (refine And.intro (fun hif => ?_) (fun hif => ?_) <;> try (first | contradiction | (exfalso; omega))) | ((first | refine xT fun K hK => ?_ | refine xU fun K hK => ?_ | refine yB (fun K hK => ?_) (fun K hK => ?_) | refine xV ?_ | refine yA ?_ | refine xW ?_ | refine xX ?_ | refine xY ?_ | refine xZ ?_) <;> simp only [↓awpOps, ↓awpKeep, ↓awpKeepF, ↓aop, ↓aopQ, ↓abin, ↓aun, ↓onSome_some, ↓Kont_at, ↓KM_at, ↓KV_at, ↓KU_at, refId_row, Frame.ev, Frame.evs, Frame.evOr, Frame.put, Frame.keep, get_nil, get_cons, argFrame, resOf, fillA, Vals.len, Vals.get, Vals.set, Vals.app, Vals.sub, Vals.take, Vals.ofAgg_cons, Vals.ofList, Vals.toInts, Vals.toBools, Vals.toSls, Vals.toStrs, Vals.zeros, Nat.reduceBEq, Nat.reduceAdd, Nat.reduceEqDiff, cond_true, cond_false, Option.map_some, Option.map_none, List.length_cons, List.length_nil, List.replicate, List.set_cons_zero, List.set_cons_succ, Nat.reduceLT, Bool.not_true, Bool.not_false, Int.toNat_natCast, inR, Nat.zero_add, Int.toNat_zero, reduceCtorEq, IntKind.bits, List.nil_append, List.cons_append, Nat.add_zero, Nat.sub_zero, noughts_len, List.map_cons, List.map_nil, zp, zu]) | refine And.intro ?_ (fun hif => (hif trivial).elim) | (intro hif; try (first | contradiction | (exfalso; omega))))
      (first | exact List.prefix_rfl | exact ⟨rfl, List.prefix_rfl⟩ | exact ⟨by simp, List.prefix_rfl⟩)
    · obtain ⟨y, hy⟩ : ∃ y, y = pa P k := ⟨_, rfl⟩
      rw [← hy] at h1 he
      have he' : ¬ ((y : Int) = (x : Int)) := by omega
      repeat' (first | refine xA ?_ | refine xB ?_ | refine xC ?_ | refine xD ?_ | refine xE ?_ | refine xF ?_ | refine xG ?_ | refine xH ?_ | refine xI rfl ?_ | refine xJ ?_ | refine xK ?_ | refine xL ?_ | refine xM rfl ?_ | refine xN rfl ?_ | refine xO rfl ?_ | (first | refine xP rfl (fun hif => ?_) (fun hif => ?_) | refine xQ rfl (fun hif => ?_) (fun hif => ?_) | refine xR rfl (fun hif => ?_) (fun hif => ?_) | refine xS rfl (fun hif => ?_) (fun hif => ?_)) <;> try (first | contradiction | (exfalso; omega)) | (refine hK _ _ ?_; clear hK K) | refine onSome_of h1 ?_ | (refine And.intro (by first | omega | assumption | (constructor <;> omega)) ?_) | (refine And.intro (fun hif => ?_) (fun hif => ?_) <;> try (first | contradiction | (exfalso; omega))) | ((first | refine xT fun K hK => ?_ | refine xU fun K hK => ?_ | refine yB (fun K hK => ?_) (fun K hK => ?_) | refine xV ?_ | refine yA ?_ | refine xW ?_ | refine xX ?_ | refine xY ?_ | refine xZ ?_) <;> simp only [↓awpOps, ↓awpKeep, ↓awpKeepF, ↓aop, ↓aopQ, ↓abin, ↓aun, ↓onSome_some, ↓Kont_at, ↓KM_at, ↓KV_at, ↓KU_at, refId_row, Frame.ev, Frame.evs, Frame.evOr, Frame.put, Frame.keep, get_nil, get_cons, argFrame, resOf, fillA, Vals.len, Vals.get, Vals.set, Vals.app, Vals.sub, Vals.take, Vals.ofAgg_cons, Vals.ofList, Vals.toInts, Vals.toBools, Vals.toSls, Vals.toStrs, Vals.zeros, Nat.reduceBEq, Nat.reduceAdd, Nat.reduceEqDiff, cond_true, cond_false, Option.map_some, Option.map_none, List.length_cons, List.length_nil, List.replicate, List.set_cons_zero, List.set_cons_succ, Nat.reduceLT, Bool.not_true, Bool.not_false, Int.toNat_natCast, inR, Nat.zero_add, Int.toNat_zero, reduceCtorEq, IntKind.bits, List.nil_append, List.cons_append, Nat.add_zero, Nat.sub_zero, noughts_len, List.map_cons, List.map_nil, zp, zu]) | refine And.intro ?_ (fun hif => (hif trivial).elim) | (intro hif; try (first | contradiction | (exfalso; omega))))
      all_goals exact hK1 (k + 1) _ _ rfl rfl ⟨by omega, fun i hi => by
        rcases Nat.lt_succ_iff_lt_or_eq.1 hi with h | rfl
        · exact hok i h
        · rw [← hy]; exact he⟩ (by omega)
  · have e : inP P x (P % 16) = false := by
      cases h : inP P x (P % 16) with
      | false => rfl
      | true => obtain ⟨i, h1, h2⟩ := (inP_mem P x _).1 h; exact absurd h2 (hok i (by omega))
    rw [e]
    repeat' (first | refine xA ?_ | refine xB ?_ | refine xC ?_ | refine xD ?_ | refine xE ?_ | refine xF ?_ | refine xG ?_ | refine xH ?_ | refine xI rfl ?_ | refine xJ ?_ | refine xK ?_ | refine xL ?_ | refine xM rfl ?_ | refine xN rfl ?_ | refine xO rfl ?_ | (first | refine xP rfl (fun hif => ?_) (fun hif => ?_) | refine xQ rfl (fun hif => ?_) (fun hif => ?_) | refine xR rfl (fun hif => ?_) (fun hif => ?_) | refine xS rfl (fun hif => ?_) (fun hif => ?_)) <;> try (first | contradiction | (exfalso; omega)) | (refine hK _ _ ?_; clear hK K) | (refine And.intro (by first | omega | assumption | (constructor <;> omega)) ?_) | (refine And.intro (fun hif => ?_) (fun hif => ?_) <;> try (first | contradiction | (exfalso; omega))) | ((first | refine xT fun K hK => ?_ | refine xU fun K hK => ?_ | refine yB (fun K hK => ?_) (fun K hK => ?_) | refine xV ?_ | refine yA ?_ | refine xW ?_ | refine xX ?_ | refine xY ?_ | refine xZ ?_) <;> simp only [↓awpOps, ↓awpKeep, ↓awpKeepF, ↓aop, ↓aopQ, ↓abin, ↓aun, ↓onSome_some, ↓Kont_at, ↓KM_at, ↓KV_at, ↓KU_at, refId_row, Frame.ev, Frame.evs, Frame.evOr, Frame.put, Frame.keep, get_nil, get_cons, argFrame, resOf, fillA, Vals.len, Vals.get, Vals.set, Vals.app, Vals.sub, Vals.take, Vals.ofAgg_cons, Vals.ofList, Vals.toInts, Vals.toBools, Vals.toSls, Vals.toStrs, Vals.zeros, Nat.reduceBEq, Nat.reduceAdd, Nat.reduceEqDiff, cond_true, cond_false, Option.map_some, Option.map_none, List.length_cons, List.length_nil, List.replicate, List.set_cons_zero, List.set_cons_succ, Nat.reduceLT, Bool.not_true, Bool.not_false, Int.toNat_natCast, inR, Nat.zero_add, Int.toNat_zero, reduceCtorEq, IntKind.bits, List.nil_append, List.cons_append, Nat.add_zero, Nat.sub_zero, noughts_len, List.map_cons, List.map_nil, zp, zu]) | refine And.intro ?_ (fun hif => (hif trivial).elim) | (intro hif; try (first | contradiction | (exfalso; omega))))
    (first | exact List.prefix_rfl | exact ⟨rfl, List.prefix_rfl⟩ | exact ⟨by simp, List.prefix_rfl⟩)

/-- The neighbours of c, of the first j places, that are not in the backbone. -/
noncomputable def nbl (R B j : Nat) : List Int := @Nat.rec (fun _ => List Int) [] (fun j ih => if R.testBit j = true ∧ inP B j (B % 16) = false then ih ++ [(j : Int)] else ih) j
theorem nbl_succ (R B j : Nat) : nbl R B (j + 1) = if R.testBit j = true ∧ inP B j (B % 16) = false then nbl R B j ++ [(j : Int)] else nbl R B j := rfl
theorem nbl_len (R B : Nat) : ∀ j, (nbl R B j).length ≤ j
  | 0 => Nat.le_refl _
  | j + 1 => by
    have ih := nbl_len R B j
    rw [nbl_succ]
    split
    · rw [List.length_append, List.length_cons, List.length_nil]; omega
    · omega
theorem nbp_succ (N B c T j : Nat) : nbp N B c T (j + 1) = if (row N c).testBit j = true ∧ inP B j (B % 16) = false then psh (nbp N B c T j) j else nbp N B c T j := by
  have e : nbp N B c T (j + 1) = frc (nbp N B c T j) fun T1 => bif (bif has (row N c) j then (bif inP B j (Nat.mod B 16) then false else true) else false) then psh T1 j else T1 := rfl
  rw [e, frc_eq, has_tbit, show Nat.mod B 16 = B % 16 from rfl]
  cases h1 : (row N c).testBit j with
  | false => rw [if_neg (fun c => by cases c.1)]; rfl
  | true =>
    cases h2 : inP B j (B % 16) with
    | false => rw [if_pos ⟨rfl, rfl⟩]; rfl
    | true => rw [if_neg (fun c => by cases c.2)]; rfl
theorem nbp_list {N B c T : Nat} (hT : PIs T) : ∀ j, T % 16 + j ≤ 14 → PIs (nbp N B c T j) ∧ plist (nbp N B c T j) = plist T ++ nbl (row N c) B j ∧ nbp N B c T j % 16 = T % 16 + (nbl (row N c) B j).length
  | 0, _ => ⟨hT, (List.append_nil _).symm, rfl⟩
  | j + 1, h => by
    obtain ⟨h1, h2, h3⟩ := nbp_list (N := N) (B := B) (c := c) hT j (by omega)
    have hl := nbl_len (row N c) B j
    rw [nbp_succ, nbl_succ]
    split
    · obtain ⟨q1, q2⟩ := psh_is (a := j) h1 (by omega) (by omega)
      refine ⟨q1, ?_, ?_⟩
      · rw [q2, h2, List.append_assoc]
      · rw [(psh_parts (P := nbp N B c T j) (a := j) (by omega)).2, h3, List.length_append]; rfl
    · exact ⟨h1, h2, h3⟩

/-- What is put at a column's end for the place k of the backbone. -/
noncomputable def addL (net : List Int) (k : Nat) : List Int :=
  if k + 2 ≤ boneOf net % 16 then nbl (nrow net (pa (boneOf net) k)) (boneOf net) net.length ++ [(pa (boneOf net) (k + 1) : Int)] else nbl (nrow net (pa (boneOf net) k)) (boneOf net) net.length
noncomputable def cA (net : List Int) (k : Nat) : Nat := cols (pk net) net.length (boneOf net) k % big
noncomputable def cB (net : List Int) (k : Nat) : Nat := cols (pk net) net.length (boneOf net) k / big

theorem colT_list {net : List Int} (hC : CatIs net) {k : Nat} (hk : k < boneOf net % 16) {T : Nat} (hT : PIs T) (h6 : T % 16 ≤ 6) :
    PIs (colT (pk net) net.length (boneOf net) k T) ∧ plist (colT (pk net) net.length (boneOf net) k T) = plist T ++ addL net k ∧ colT (pk net) net.length (boneOf net) k T % 16 ≤ 13 := by
  have hn := hC.ok.six
  have hlt := hC.boneLt k hk
  have e : colT (pk net) net.length (boneOf net) k T = frc (pa (boneOf net) k) fun c => frc (nbp (pk net) (boneOf net) c T net.length) fun T1 => bif Nat.ble (Nat.add k 2) (Nat.mod (boneOf net) 16) then psh T1 (pa (boneOf net) (Nat.succ k)) else T1 := rfl
  simp only [frc_eq] at e
  rw [e]
  obtain ⟨q1, q2, q3⟩ := nbp_list (N := pk net) (B := boneOf net) (c := pa (boneOf net) k) hT net.length (by omega)
  have hl := nbl_len (row (pk net) (pa (boneOf net) k)) (boneOf net) net.length
  rw [row_of hC.ok (by omega)] at q2 q3 hl
  unfold addL
  cases hb : Nat.ble (Nat.add k 2) (Nat.mod (boneOf net) 16) with
  | true =>
    have h2 : k + 2 ≤ boneOf net % 16 := Nat.le_of_ble_eq_true hb
    have hlt1 := hC.boneLt (k + 1) (by omega)
    obtain ⟨r1, r2⟩ := psh_is (a := pa (boneOf net) (k + 1)) q1 (by omega) (by omega)
    rw [if_pos h2]
    exact ⟨r1, by rw [← List.append_assoc, ← q2]; exact r2, by show psh _ _ % 16 ≤ 13; rw [(psh_parts (by omega)).2]; omega⟩
  | false =>
    have h2 : ¬ k + 2 ≤ boneOf net % 16 := fun c => by rw [show Nat.ble (Nat.add k 2) (Nat.mod (boneOf net) 16) = true from Nat.ble_eq_true_of_le c] at hb; cases hb
    rw [if_neg h2]
    exact ⟨q1, q2, by show nbp _ _ _ _ _ % 16 ≤ 13; omega⟩

theorem pis_lt {P : Nat} (h : PIs P) (h13 : P % 16 ≤ 13) : P < big := by
  have h1 := h.small
  have h2 : 256 ^ (P % 16) ≤ 256 ^ 13 := Nat.pow_le_pow_right (by decide) h13
  have h3 : (256 : Nat) ^ 13 * 16 < big := by decide
  have h4 : P = 16 * (P / 16) + P % 16 := (Nat.div_add_mod P 16).symm
  generalize 256 ^ (P % 16) = z at h1 h2
  generalize (256 : Nat) ^ 13 = w at h2 h3
  generalize big = b at h3
  omega

/-- The columns, step by step. -/
theorem cols_step {net : List Int} (hC : CatIs net) : ∀ k, k ≤ boneOf net % 16 → PIs (cA net k) ∧ PIs (cB net k) ∧
    (k < boneOf net % 16 → (k % 2 = 0 → plist (cA net (k + 1)) = plist (cA net k) ∧ plist (cB net (k + 1)) = plist (cB net k) ++ addL net k) ∧
      (k % 2 ≠ 0 → plist (cA net (k + 1)) = plist (cA net k) ++ addL net k ∧ plist (cB net (k + 1)) = plist (cB net k))) := by
  have stp : ∀ k, k < boneOf net % 16 → PIs (cA net k) → PIs (cB net k) → (k % 2 = 0 → cA net (k + 1) = cA net k ∧ cB net (k + 1) = colT (pk net) net.length (boneOf net) k (cB net k)) ∧
      (k % 2 ≠ 0 → cA net (k + 1) = colT (pk net) net.length (boneOf net) k (cA net k) ∧ cB net (k + 1) = cB net k) := fun k hk hA hB => by
    have hlen := hC.colsLen k (by omega)
    have e : cols (pk net) net.length (boneOf net) (k + 1) = frc (cols (pk net) net.length (boneOf net) k) fun S => bif Nat.beq (Nat.mod k 2) 0 then Nat.add (Nat.mod S big) (Nat.mul big (colT (pk net) net.length (boneOf net) k (Nat.div S big))) else Nat.add (colT (pk net) net.length (boneOf net) k (Nat.mod S big)) (Nat.mul big (Nat.div S big)) := rfl
    rw [frc_eq] at e
    have hbp : 0 < big := by decide
    have e1 : cA net (k + 1) = cols (pk net) net.length (boneOf net) (k + 1) % big := rfl
    have e2 : cB net (k + 1) = cols (pk net) net.length (boneOf net) (k + 1) / big := rfl
    have m1 : Nat.mod (cols (pk net) net.length (boneOf net) k) big = cA net k := rfl
    have m2 : Nat.div (cols (pk net) net.length (boneOf net) k) big = cB net k := rfl
    rw [m1, m2] at e
    refine ⟨fun h0 => ?_, fun h0 => ?_⟩
    · rw [show Nat.beq (Nat.mod k 2) 0 = true by rw [show Nat.mod k 2 = 0 from h0]; rfl, cond_true] at e
      have hlt : cA net k < big := Nat.mod_lt _ hbp
      rw [e1, e2, e]
      show (cA net k + big * _) % big = _ ∧ (cA net k + big * _) / big = _
      rw [Nat.add_mul_mod_self_left, Nat.add_mul_div_left _ _ hbp, Nat.mod_eq_of_lt hlt, Nat.div_eq_of_lt hlt, Nat.zero_add]
      exact ⟨rfl, rfl⟩
    · rw [show Nat.beq (Nat.mod k 2) 0 = false by cases h : Nat.beq (Nat.mod k 2) 0 with | false => rfl | true => exact absurd (Nat.eq_of_beq_eq_true h) h0, cond_false] at e
      obtain ⟨q1, _, q3⟩ := colT_list hC hk hA hlen.1
      have hlt := pis_lt q1 q3
      rw [e1, e2, e]
      show (colT _ _ _ _ _ + big * _) % big = _ ∧ (colT _ _ _ _ _ + big * _) / big = _
      rw [Nat.add_mul_mod_self_left, Nat.add_mul_div_left _ _ hbp, Nat.mod_eq_of_lt hlt, Nat.div_eq_of_lt hlt, Nat.zero_add]
      exact ⟨rfl, rfl⟩
  have hp : ∀ k, k ≤ boneOf net % 16 → PIs (cA net k) ∧ PIs (cB net k) := fun k => by
    induction k with
    | zero =>
      intro _
      have h1 := hC.bone1
      have hb0 := hC.boneLt 0 (by omega)
      have h6 := hC.ok.six
      have q := (psh_is (P := 0) (a := pa (boneOf net) 0) ⟨by decide⟩ (by decide) (by omega)).1
      have hlt := pis_lt q (by rw [(psh_parts (P := 0) (by decide)).2]; decide)
      have eA : cA net 0 = psh 0 (pa (boneOf net) 0) := Nat.mod_eq_of_lt hlt
      have eB : cB net 0 = 0 := Nat.div_eq_of_lt hlt
      rw [eA, eB]
      exact ⟨q, ⟨by decide⟩⟩
    | succ k ih =>
      intro hk
      obtain ⟨hA, hB⟩ := ih (by omega)
      have hlen := hC.colsLen k (by omega)
      obtain ⟨s0, s1⟩ := stp k (by omega) hA hB
      by_cases h0 : k % 2 = 0
      · rw [(s0 h0).1, (s0 h0).2]; exact ⟨hA, (colT_list hC (by omega) hB hlen.2).1⟩
      · rw [(s1 h0).1, (s1 h0).2]; exact ⟨(colT_list hC (by omega) hA hlen.1).1, hB⟩
  refine fun k hk => ⟨(hp k hk).1, (hp k hk).2, fun hlt => ?_⟩
  obtain ⟨hA, hB⟩ := hp k hk
  have hlen := hC.colsLen k hk
  obtain ⟨s0, s1⟩ := stp k hlt hA hB
  exact ⟨fun h0 => by rw [(s0 h0).1, (s0 h0).2]; exact ⟨rfl, (colT_list hC hlt hB hlen.2).2.1⟩, fun h0 => by rw [(s1 h0).1, (s1 h0).2]; exact ⟨(colT_list hC hlt hA hlen.1).2.1, rfl⟩⟩

end Go.Abs

/- The model's two columns of a caterpillar, by their contract. Own work; no condition. -/
set_option maxRecDepth 100000
set_option linter.unusedSimpArgs false
set_option linter.unusedVariables false
namespace Go.Abs
open Go.Proofs
attribute [local irreducible] awp awpOps awpKeep KeepK awpKeepF KeepF aloop ALoop ACalls ACallq AQuiet retPost retPostA AExit.thn AExit.blk aApp aSt aStA
open Parts

theorem app_int_ne {s : SV} {m : Heap} {K : XV → Heap → Prop} {e : TypeId} {l : List Int} {z : Int} {f : Nat} (hwf : m.wf) (hs : Acc e f m s (.ints .i64 l)) (hne : s ≠ SV.nil) (hf : f < m.length) (hlen : l.length ≤ 1000000)
    (hk : ∀ (s' : SV) (m' : Heap), m <+: m' → Grow f (f + 1) m m' → Acc e f m' s' (.ints .i64 (l ++ [z])) → s' ≠ SV.nil → K (.one (.sl s')) m') : aApp e s ⟨.row m.length, 0, 1⟩ (m ++ [⟨e, m.length, true, .ints .i64 [z]⟩]) K := by
  have g := Grow.push hwf e true (.ints .i64 [z])
  refine app_obj (a := m.length) (b := m.length + 1) (u := .ints .i64 [z]) g.wf (hs.grow0 g hf) hne (obj_new e _ rfl (Nat.le_refl _) (Nat.lt_succ_self _)) (by simp only [Vals.len, List.length_cons, List.length_nil]; omega) (by simp [Vals.app]) fun s' m' hp hg ha hn => hk s' m' ((prefix_push _ _).trans hp) ((g.any _ _).trans hg) ha hn
theorem app_ints_ne {s x : SV} {m : Heap} {K : XV → Heap → Prop} {e : TypeId} {l r : List Int} {f a b : Nat} (hwf : m.wf) (hs : Acc e f m s (.ints .i64 l)) (hne : s ≠ SV.nil) (hx : Obj e a b m x (.ints .i64 r)) (hlen : l.length + r.length ≤ 1000000)
    (hk : ∀ (s' : SV) (m' : Heap), m <+: m' → Grow f (f + 1) m m' → Acc e f m' s' (.ints .i64 (l ++ r)) → s' ≠ SV.nil → K (.one (.sl s')) m') : aApp e s x m K :=
  app_obj hwf hs hne hx (by simp only [Vals.len]; omega) (by simp [Vals.app]) hk

noncomputable def listA (net : List Int) : List Int := if treeOk net = true then plist (colA net) else []
noncomputable def listB (net : List Int) : List Int := if treeOk net = true then plist (colB net) else []
theorem colA_cA (net : List Int) : colA net = cA net (boneOf net % 16) := by
  have e : colsP (pk net) net.length = frc (boneP (pk net) net.length) fun B => cols (pk net) net.length B (Nat.mod B 16) := rfl
  rw [frc_eq] at e
  unfold colA; rw [e]; rfl
theorem colB_cB (net : List Int) : colB net = cB net (boneOf net % 16) := by
  have e : colsP (pk net) net.length = frc (boneP (pk net) net.length) fun B => cols (pk net) net.length B (Nat.mod B 16) := rfl
  rw [frc_eq] at e
  unfold colB; rw [e]; rfl
theorem cA_zero {net : List Int} (hC : CatIs net) : plist (cA net 0) = [(pa (boneOf net) 0 : Int)] ∧ plist (cB net 0) = [] := by
  have h1 := hC.bone1
  have hb0 := hC.boneLt 0 (by omega)
  have h6 := hC.ok.six
  have q := psh_is (P := 0) (a := pa (boneOf net) 0) ⟨by decide⟩ (by decide) (by omega)
  have hlt := pis_lt q.1 (by rw [(psh_parts (P := 0) (by decide)).2]; decide)
  have eA : cA net 0 = psh 0 (pa (boneOf net) 0) := Nat.mod_eq_of_lt hlt
  have eB : cB net 0 = 0 := Nat.div_eq_of_lt hlt
  rw [eA, eB, q.2]
  exact ⟨rfl, rfl⟩
theorem addL_len {net : List Int} (hC : CatIs net) (k : Nat) : (addL net k).length ≤ 7 := by
  have h6 := hC.ok.six
  have := nbl_len (nrow net (pa (boneOf net) k)) (boneOf net) net.length
  unfold addL
  split
  · rw [List.length_append, List.length_cons, List.length_nil]; omega
  · omega

set_option maxHeartbeats 16000000 in
theorem spec_TwoColumns {s : SV} {net : List Int} {m : Heap} {K : XV → Heap → Prop} (hs : IsInts .i64 m s net)
    (hQ : ∀ (sA sB : SV) (m' : Heap), Grow 0 0 m m' → Obj Ty.int m.length (m.length + 1) m' sA (.ints .i64 (listA net)) → Obj Ty.int (m.length + 1) (m.length + 2) m' sB (.ints .i64 (listB net)) → K (.tup [.sl sA, .sl sB]) m') : ACalls Try.prog F.spec_TwoColumns [.one (.sl s)] m K := by
  refine ACalls.wf fun hwf => afn T.spec_TwoColumns (by rfl) ?_
  have hgA := Grow.push hwf Ty.int true (.ints .i64 [])
  have hgB := Grow.push hgA.wf Ty.int true (.ints .i64 [])
  have hAn := (acc_new hwf Ty.int (.ints .i64 []) rfl).grow0 hgB (by simp)
  have hBn := acc_new hgA.wf Ty.int (.ints .i64 []) rfl
  have hgAB := hgA.trans hgB
  have hfB : List.length (m ++ [(⟨Ty.int, m.length, true, .ints .i64 []⟩ : Row)]) = m.length + 1 := by simp
  have hsB := hs.pre hgAB.pre0
  cases hT : treeOk net with
  | false =>
    have hb0 := boneL_none hT
    repeat' (first | refine xA ?_ | refine xB ?_ | refine xC ?_ | refine xD ?_ | refine xE ?_ | refine xF ?_ | refine xG ?_ | refine xH ?_ | refine xI rfl ?_ | refine xJ ?_ | refine xK ?_ | refine xL ?_ | refine xM rfl ?_ | refine xN rfl ?_ | refine xO rfl ?_ | (first | refine xP rfl (fun hif => ?_) (fun hif => ?_) | refine xQ rfl (fun hif => ?_) (fun hif => ?_) | refine xR rfl (fun hif => ?_) (fun hif => ?_) | refine xS rfl (fun hif => ?_) (fun hif => ?_)) <;> try (first | contradiction | (exfalso; omega)) | (refine hK _ _ ?_; clear hK K) | (refine ARet.call (spec_Backbone _ net _ hsB) fun s1 m1 g1 o1 => ?_; rw [hb0] at o1; obtain ⟨bref, boff, blen⟩ := s1; obtain rfl : blen = 0 := o1.isInts.1) | (refine And.intro (by first | omega | assumption | (constructor <;> omega)) ?_) | (refine And.intro (fun hif => ?_) (fun hif => ?_) <;> try (first | contradiction | (exfalso; omega))) | ((first | refine xT fun K hK => ?_ | refine xU fun K hK => ?_ | refine yB (fun K hK => ?_) (fun K hK => ?_) | refine xV ?_ | refine yA ?_ | refine xW ?_ | refine xX ?_ | refine xY ?_ | refine xZ ?_) <;> simp only [↓awpOps, ↓awpKeep, ↓awpKeepF, ↓aop, ↓aopQ, ↓abin, ↓aun, ↓onSome_some, ↓Kont_at, ↓KM_at, ↓KV_at, ↓KU_at, refId_row, Frame.ev, Frame.evs, Frame.evOr, Frame.put, Frame.keep, get_nil, get_cons, argFrame, resOf, fillA, Vals.len, Vals.get, Vals.set, Vals.app, Vals.sub, Vals.take, Vals.ofAgg_cons, Vals.ofList, Vals.toInts, Vals.toBools, Vals.toSls, Vals.toStrs, Vals.zeros, Nat.reduceBEq, Nat.reduceAdd, Nat.reduceEqDiff, cond_true, cond_false, Option.map_some, Option.map_none, List.length_cons, List.length_nil, List.replicate, List.set_cons_zero, List.set_cons_succ, Nat.reduceLT, Bool.not_true, Bool.not_false, Int.toNat_natCast, inR, Nat.zero_add, Int.toNat_zero, reduceCtorEq, IntKind.bits, List.nil_append, List.cons_append, Nat.add_zero, Nat.sub_zero, noughts_len, List.map_cons, List.map_nil, zp, zu]) | refine And.intro ?_ (fun hif => (hif trivial).elim) | (intro hif; try (first | contradiction | (exfalso; omega))))
    refine awp_loop ?_
    refine ALoop.by [4, 5, 6, 7] (fun _ : Unit => [(4, .one (.sl ⟨.row m.length, 0, 0⟩)), (5, .one (.sl ⟨.row (List.length (m ++ [(⟨Ty.int, m.length, true, .ints .i64 []⟩ : Row)])), 0, 0⟩)), (6, .one (.sl ⟨bref, boff, 0⟩)), (7, .one (.int .i64 0))]) (fun _ => m1) (fun _ => True) (fun _ => 0) () rfl rfl trivial ?_
    rintro _ _ K1 hK1
    repeat' (first | refine xA ?_ | refine xB ?_ | refine xC ?_ | refine xD ?_ | refine xE ?_ | refine xF ?_ | refine xG ?_ | refine xH ?_ | refine xI rfl ?_ | refine xJ ?_ | refine xK ?_ | refine xL ?_ | refine xM rfl ?_ | refine xN rfl ?_ | refine xO rfl ?_ | (first | refine xP rfl (fun hif => ?_) (fun hif => ?_) | refine xQ rfl (fun hif => ?_) (fun hif => ?_) | refine xR rfl (fun hif => ?_) (fun hif => ?_) | refine xS rfl (fun hif => ?_) (fun hif => ?_)) <;> try (first | contradiction | (exfalso; omega)) | (refine hK _ _ ?_; clear hK K) | (refine And.intro (by first | omega | assumption | (constructor <;> omega)) ?_) | (refine And.intro (fun hif => ?_) (fun hif => ?_) <;> try (first | contradiction | (exfalso; omega))) | ((first | refine xT fun K hK => ?_ | refine xU fun K hK => ?_ | refine yB (fun K hK => ?_) (fun K hK => ?_) | refine xV ?_ | refine yA ?_ | refine xW ?_ | refine xX ?_ | refine xY ?_ | refine xZ ?_) <;> simp only [↓awpOps, ↓awpKeep, ↓awpKeepF, ↓aop, ↓aopQ, ↓abin, ↓aun, ↓onSome_some, ↓Kont_at, ↓KM_at, ↓KV_at, ↓KU_at, refId_row, Frame.ev, Frame.evs, Frame.evOr, Frame.put, Frame.keep, get_nil, get_cons, argFrame, resOf, fillA, Vals.len, Vals.get, Vals.set, Vals.app, Vals.sub, Vals.take, Vals.ofAgg_cons, Vals.ofList, Vals.toInts, Vals.toBools, Vals.toSls, Vals.toStrs, Vals.zeros, Nat.reduceBEq, Nat.reduceAdd, Nat.reduceEqDiff, cond_true, cond_false, Option.map_some, Option.map_none, List.length_cons, List.length_nil, List.replicate, List.set_cons_zero, List.set_cons_succ, Nat.reduceLT, Bool.not_true, Bool.not_false, Int.toNat_natCast, inR, Nat.zero_add, Int.toNat_zero, reduceCtorEq, IntKind.bits, List.nil_append, List.cons_append, Nat.add_zero, Nat.sub_zero, noughts_len, List.map_cons, List.map_nil, zp, zu]) | refine And.intro ?_ (fun hif => (hif trivial).elim) | (intro hif; try (first | contradiction | (exfalso; omega))))
    have hlA : listA net = [] := if_neg (by rw [hT]; exact Bool.noConfusion)
    have hlB : listB net = [] := if_neg (by rw [hT]; exact Bool.noConfusion)
    refine hQ _ _ m1 (hgAB.trans g1) ?_ ?_
    · rw [hlA]; exact (hAn.grow0 g1 (by simp)).obj (Nat.le_refl _) (Nat.lt_succ_self _)
    · rw [hlB]; exact (hBn.grow0 g1 (by simp)).obj (by omega) (by omega)
  | true =>
    have hC := cat_is hT
    have hN := hC.ok
    have h6 := hN.six
    have hL1 := hC.bone1
    have hLn := hC.boneN
    have hbT := boneL_of hT
    have hbl := plist_len (boneOf net)
    obtain ⟨ref, off, len⟩ := s
    obtain rfl : len = net.length := hs.1
    repeat' (first | refine xA ?_ | refine xB ?_ | refine xC ?_ | refine xD ?_ | refine xE ?_ | refine xF ?_ | refine xG ?_ | refine xH ?_ | refine xI rfl ?_ | refine xJ ?_ | refine xK ?_ | refine xL ?_ | refine xM rfl ?_ | refine xN rfl ?_ | refine xO rfl ?_ | (first | refine xP rfl (fun hif => ?_) (fun hif => ?_) | refine xQ rfl (fun hif => ?_) (fun hif => ?_) | refine xR rfl (fun hif => ?_) (fun hif => ?_) | refine xS rfl (fun hif => ?_) (fun hif => ?_)) <;> try (first | contradiction | (exfalso; omega)) | (refine hK _ _ ?_; clear hK K) | (refine ARet.call (spec_Backbone _ net _ hsB) fun s1 m1 g1 o1 => ?_; rw [hbT] at o1; obtain ⟨bref, boff, blen⟩ := s1; obtain rfl : blen = boneOf net % 16 := o1.isInts.1.trans hbl) | (refine And.intro (by first | omega | assumption | (constructor <;> omega)) ?_) | (refine And.intro (fun hif => ?_) (fun hif => ?_) <;> try (first | contradiction | (exfalso; omega))) | ((first | refine xT fun K hK => ?_ | refine xU fun K hK => ?_ | refine yB (fun K hK => ?_) (fun K hK => ?_) | refine xV ?_ | refine yA ?_ | refine xW ?_ | refine xX ?_ | refine xY ?_ | refine xZ ?_) <;> simp only [↓awpOps, ↓awpKeep, ↓awpKeepF, ↓aop, ↓aopQ, ↓abin, ↓aun, ↓onSome_some, ↓Kont_at, ↓KM_at, ↓KV_at, ↓KU_at, refId_row, Frame.ev, Frame.evs, Frame.evOr, Frame.put, Frame.keep, get_nil, get_cons, argFrame, resOf, fillA, Vals.len, Vals.get, Vals.set, Vals.app, Vals.sub, Vals.take, Vals.ofAgg_cons, Vals.ofList, Vals.toInts, Vals.toBools, Vals.toSls, Vals.toStrs, Vals.zeros, Nat.reduceBEq, Nat.reduceAdd, Nat.reduceEqDiff, cond_true, cond_false, Option.map_some, Option.map_none, List.length_cons, List.length_nil, List.replicate, List.set_cons_zero, List.set_cons_succ, Nat.reduceLT, Bool.not_true, Bool.not_false, Int.toNat_natCast, inR, Nat.zero_add, Int.toNat_zero, reduceCtorEq, IntKind.bits, List.nil_append, List.cons_append, Nat.add_zero, Nat.sub_zero, noughts_len, List.map_cons, List.map_nil, zp, zu]) | refine And.intro ?_ (fun hif => (hif trivial).elim) | (intro hif; try (first | contradiction | (exfalso; omega))))
    have hbI := o1.isInts
    have hA1 := hAn.grow0 g1 (by simp)
    have hB1 := hBn.grow0 g1 (by simp)
    have hg1 := hgAB.trans g1
    have hle1 : m.length + 2 ≤ m1.length := by have := g1.le; simp only [List.length_append, List.length_cons, List.length_nil] at this; omega
    rw [hfB] at hB1
    refine awp_loop ?_
    refine ALoop.by [0, 4, 5, 6, 7] (fun a : Nat × SV × SV × Heap => [(0, .one (.sl ⟨ref, off, net.length⟩)), (4, .one (.sl a.2.1)), (5, .one (.sl a.2.2.1)), (6, .one (.sl ⟨bref, boff, boneOf net % 16⟩)), (7, .one (.int .i64 a.1))]) (fun a => a.2.2.2)
      (fun a => a.1 ≤ boneOf net % 16 ∧ m1 <+: a.2.2.2 ∧ Grow m.length (m.length + 2) m1 a.2.2.2 ∧ Acc Ty.int m.length a.2.2.2 a.2.1 (.ints .i64 (if a.1 = 0 then [] else plist (cA net a.1))) ∧ Acc Ty.int (m.length + 1) a.2.2.2 a.2.2.1 (.ints .i64 (plist (cB net a.1))) ∧ a.2.1 ≠ SV.nil ∧ a.2.2.1 ≠ SV.nil)
      (fun a => boneOf net % 16 - a.1) (0, _, _, m1) rfl rfl ⟨Nat.zero_le _, List.prefix_rfl, Grow.refl g1.wf _ _, hA1, by simp only; rw [(cA_zero hC).2, hfB]; exact hB1, fun c => (by cases c), fun c => (by cases c)⟩ ?_
    rintro ⟨k, sA, sB, m2⟩ ⟨hk, hp2, hg2, hA2, hB2, hneA, hneB⟩ K1 hK1
    simp only at hk hp2 hg2 hA2 hB2 hneA hneB
    have hle2 := hp2.length_le
    by_cases hlt : k < boneOf net % 16
    · obtain ⟨pA, pB, hstep⟩ := cols_step hC k hk
      have hstep := hstep hlt
      have hlens := hC.colsLen k hk
      have hlA : (plist (cA net k)).length ≤ 6 := by rw [plist_len]; exact hlens.1
      have hlB : (plist (cB net k)).length ≤ 6 := by rw [plist_len]; exact hlens.2
      have hxk := hC.boneLt k hlt
      by_cases hk0 : k = 0
      · subst hk0
        have hb0 := (hbI.pre hp2).2 0 (by omega)
        rw [show (plist (boneOf net)).getD 0 0 = (pa (boneOf net) 0 : Int) from plist_get (by omega)] at hb0
        repeat' (first | refine xA ?_ | refine xB ?_ | refine xC ?_ | refine xD ?_ | refine xE ?_ | refine xF ?_ | refine xG ?_ | refine xH ?_ | refine xI rfl ?_ | refine xJ ?_ | refine xK ?_ | refine xL ?_ | refine xM rfl ?_ | refine xN rfl ?_ | refine xO rfl ?_ | (first | refine xP rfl (fun hif => ?_) (fun hif => ?_) | refine xQ rfl (fun hif => ?_) (fun hif => ?_) | refine xR rfl (fun hif => ?_) (fun hif => ?_) | refine xS rfl (fun hif => ?_) (fun hif => ?_)) <;> try (first | contradiction | (exfalso; omega)) | (refine hK _ _ ?_; clear hK K) | refine onSome_of hb0 ?_ | refine app_int_ne hg2.wf hA2 hneA (by omega) (by simp) fun sA2 mm hpm hgm hAm hneAm => ?_ | (refine And.intro (by first | omega | assumption | (constructor <;> omega)) ?_) | (refine And.intro (fun hif => ?_) (fun hif => ?_) <;> try (first | contradiction | (exfalso; omega))) | ((first | refine xT fun K hK => ?_ | refine xU fun K hK => ?_ | refine yB (fun K hK => ?_) (fun K hK => ?_) | refine xV ?_ | refine yA ?_ | refine xW ?_ | refine xX ?_ | refine xY ?_ | refine xZ ?_) <;> simp only [↓awpOps, ↓awpKeep, ↓awpKeepF, ↓aop, ↓aopQ, ↓abin, ↓aun, ↓onSome_some, ↓Kont_at, ↓KM_at, ↓KV_at, ↓KU_at, refId_row, Frame.ev, Frame.evs, Frame.evOr, Frame.put, Frame.keep, get_nil, get_cons, argFrame, resOf, fillA, Vals.len, Vals.get, Vals.set, Vals.app, Vals.sub, Vals.take, Vals.ofAgg_cons, Vals.ofList, Vals.toInts, Vals.toBools, Vals.toSls, Vals.toStrs, Vals.zeros, Nat.reduceBEq, Nat.reduceAdd, Nat.reduceEqDiff, cond_true, cond_false, Option.map_some, Option.map_none, List.length_cons, List.length_nil, List.replicate, List.set_cons_zero, List.set_cons_succ, Nat.reduceLT, Bool.not_true, Bool.not_false, Int.toNat_natCast, inR, Nat.zero_add, Int.toNat_zero, reduceCtorEq, IntKind.bits, List.nil_append, List.cons_append, Nat.add_zero, Nat.sub_zero, noughts_len, List.map_cons, List.map_nil, zp, zu]) | refine And.intro ?_ (fun hif => (hif trivial).elim) | (intro hif; try (first | contradiction | (exfalso; omega))))
        rw [if_pos rfl, List.nil_append, ← (cA_zero hC).1] at hAm
        have hBm := hB2.grow hgm (.inr (Nat.le_refl _)) (by omega)
        have hgmm : Grow m.length (m.length + 2) m1 mm := hg2.trans (hgm.mono (Nat.le_refl _) (by omega))
        have hpmm := hp2.trans hpm
        have hlem := hpmm.length_le
        have hwfm := hgmm.wf
        have hgN := Grow.push hwfm Ty.int true (.ints .i64 [])
        have hAN := hAm.grow0 hgN (by omega)
        have hBN := hBm.grow0 hgN (by omega)
        have hrow : ∀ mx : Heap, mm <+: mx → IsInts .i64 mx ⟨bref, boff, boneOf net % 16⟩ (plist (boneOf net)) := fun mx hx => hbI.pre (hpmm.trans hx)
        have hnet : ∀ mx : Heap, mm <+: mx → IsInts .i64 mx ⟨ref, off, net.length⟩ net := fun mx hx => hs.pre (hg1.pre0.trans (hpmm.trans hx))
        have hpN := hgN.pre0
        refine awp_loop ?_
        refine ALoop.by [0, 4, 5, 6, 7, 8, 9] (fun b : Nat × SV × Heap => [(0, .one (.sl ⟨ref, off, net.length⟩)), (4, .one (.sl sA2)), (5, .one (.sl sB)), (6, .one (.sl ⟨bref, boff, boneOf net % 16⟩)), (7, .one (.int .i64 (0 : Nat))), (8, .one (.sl b.2.1)), (9, .one (.int .i64 b.1))]) (fun b => b.2.2)
          (fun b => b.1 ≤ net.length ∧ mm <+: b.2.2 ∧ Grow mm.length (mm.length + 1) (mm ++ [⟨Ty.int, mm.length, true, .ints .i64 []⟩]) b.2.2 ∧ Acc Ty.int mm.length b.2.2 b.2.1 (.ints .i64 (nbl (nrow net (pa (boneOf net) 0)) (boneOf net) b.1)) ∧ b.2.1 ≠ SV.nil ∧ mm.length < b.2.2.length)
          (fun b => net.length - b.1) (0, _, _) rfl rfl ⟨Nat.zero_le _, hpN, Grow.refl hgN.wf _ _, acc_new hwfm Ty.int (.ints .i64 []) rfl, fun c => (by cases c), by simp⟩ ?_
        rintro ⟨j, sN, m4⟩ ⟨hj, hp4, hg4, hN4, hneN, hl4⟩ K2 hK2
        simp only at hj hp4 hg4 hN4 hneN hl4
        have hb4 := hrow m4 hp4
        have hn4 := hnet m4 hp4
        have hbk := hb4.2 0 (by omega)
        rw [show (plist (boneOf net)).getD 0 0 = (pa (boneOf net) 0 : Int) from plist_get (by omega)] at hbk
        have hnl := nbl_len (nrow net (pa (boneOf net) 0)) (boneOf net) j
        by_cases hjn : j < net.length
        · have hnx := hn4.2 (pa (boneOf net) 0) hxk
          have hsx := hN.small hxk
          have hsh : net.getD (pa (boneOf net) 0) 0 / 2 ^ j % 2 = if bit (net.getD (pa (boneOf net) 0) 0) j then 1 else 0 := shr_bit hsx.1
          have hnn : 0 ≤ net.getD (pa (boneOf net) 0) 0 / 2 ^ j := Int.ediv_nonneg hsx.1 (by have := (pow_bounds (p := j) (by omega)).1; omega)
          have hpj := pow_bounds (p := j) (by omega)
          have hst := nbl_succ (nrow net (pa (boneOf net) 0)) (boneOf net) j
          have hhas := spec_l4Has _ (boneOf net) j m4 hb4
          rw [show bit (net.getD (pa (boneOf net) 0) 0) j = (nrow net (pa (boneOf net) 0)).testBit j from (by unfold bit nrow; rfl)] at hsh
          generalize pa (boneOf net) 0 = x at hbk hnx hsx hsh hnn hst hN4 hnl hK2 hxk
          cases hb : (nrow net x).testBit j with
          | false =>
            rw [hb, if_neg (by exact Bool.noConfusion)] at hsh
            rw [hb, if_neg (fun c => by cases c.1)] at hst
            repeat' (first | refine xA ?_ | refine xB ?_ | refine xC ?_ | refine xD ?_ | refine xE ?_ | refine xF ?_ | refine xG ?_ | refine xH ?_ | refine xI rfl ?_ | refine xJ ?_ | refine xK ?_ | refine xL ?_ | refine xM rfl ?_ | refine xN rfl ?_ | refine xO rfl ?_ | (first | refine xP rfl (fun hif => ?_) (fun hif => ?_) | refine xQ rfl (fun hif => ?_) (fun hif => ?_) | refine xR rfl (fun hif => ?_) (fun hif => ?_) | refine xS rfl (fun hif => ?_) (fun hif => ?_)) <;> try (first | contradiction | (exfalso; omega)) | (refine hK _ _ ?_; clear hK K) | refine onSome_of hbk ?_ | refine onSome_of hnx ?_ | refine AQuiet.call hhas trivial ?_ | (refine And.intro (by first | omega | assumption | (constructor <;> omega)) ?_) | (refine And.intro (fun hif => ?_) (fun hif => ?_) <;> try (first | contradiction | (exfalso; omega))) | ((first | refine xT fun K hK => ?_ | refine xU fun K hK => ?_ | refine yB (fun K hK => ?_) (fun K hK => ?_) | refine xV ?_ | refine yA ?_ | refine xW ?_ | refine xX ?_ | refine xY ?_ | refine xZ ?_) <;> simp only [↓awpOps, ↓awpKeep, ↓awpKeepF, ↓aop, ↓aopQ, ↓abin, ↓aun, ↓onSome_some, ↓Kont_at, ↓KM_at, ↓KV_at, ↓KU_at, refId_row, Frame.ev, Frame.evs, Frame.evOr, Frame.put, Frame.keep, get_nil, get_cons, argFrame, resOf, fillA, Vals.len, Vals.get, Vals.set, Vals.app, Vals.sub, Vals.take, Vals.ofAgg_cons, Vals.ofList, Vals.toInts, Vals.toBools, Vals.toSls, Vals.toStrs, Vals.zeros, Nat.reduceBEq, Nat.reduceAdd, Nat.reduceEqDiff, cond_true, cond_false, Option.map_some, Option.map_none, List.length_cons, List.length_nil, List.replicate, List.set_cons_zero, List.set_cons_succ, Nat.reduceLT, Bool.not_true, Bool.not_false, Int.toNat_natCast, inR, Nat.zero_add, Int.toNat_zero, reduceCtorEq, IntKind.bits, List.nil_append, List.cons_append, Nat.add_zero, Nat.sub_zero, noughts_len, List.map_cons, List.map_nil, zp, zu]) | refine And.intro ?_ (fun hif => (hif trivial).elim) | (intro hif; try (first | contradiction | (exfalso; omega))))
            all_goals exact hK2 (j + 1, sN, m4) _ _ rfl rfl ⟨by simp only; omega, hp4, hg4, by simp only; rw [hst]; exact hN4, hneN, hl4⟩ (by simp only; omega)
          | true =>
            rw [hb, if_pos rfl] at hsh
            cases hin : inP (boneOf net) j (boneOf net % 16) with
            | true =>
              rw [hin] at hhas
              rw [hin, if_neg (fun c => by cases c.2)] at hst
              repeat' (first | refine xA ?_ | refine xB ?_ | refine xC ?_ | refine xD ?_ | refine xE ?_ | refine xF ?_ | refine xG ?_ | refine xH ?_ | refine xI rfl ?_ | refine xJ ?_ | refine xK ?_ | refine xL ?_ | refine xM rfl ?_ | refine xN rfl ?_ | refine xO rfl ?_ | (first | refine xP rfl (fun hif => ?_) (fun hif => ?_) | refine xQ rfl (fun hif => ?_) (fun hif => ?_) | refine xR rfl (fun hif => ?_) (fun hif => ?_) | refine xS rfl (fun hif => ?_) (fun hif => ?_)) <;> try (first | contradiction | (exfalso; omega)) | (refine hK _ _ ?_; clear hK K) | refine onSome_of hbk ?_ | refine onSome_of hnx ?_ | refine AQuiet.call hhas trivial ?_ | (refine And.intro (by first | omega | assumption | (constructor <;> omega)) ?_) | (refine And.intro (fun hif => ?_) (fun hif => ?_) <;> try (first | contradiction | (exfalso; omega))) | ((first | refine xT fun K hK => ?_ | refine xU fun K hK => ?_ | refine yB (fun K hK => ?_) (fun K hK => ?_) | refine xV ?_ | refine yA ?_ | refine xW ?_ | refine xX ?_ | refine xY ?_ | refine xZ ?_) <;> simp only [↓awpOps, ↓awpKeep, ↓awpKeepF, ↓aop, ↓aopQ, ↓abin, ↓aun, ↓onSome_some, ↓Kont_at, ↓KM_at, ↓KV_at, ↓KU_at, refId_row, Frame.ev, Frame.evs, Frame.evOr, Frame.put, Frame.keep, get_nil, get_cons, argFrame, resOf, fillA, Vals.len, Vals.get, Vals.set, Vals.app, Vals.sub, Vals.take, Vals.ofAgg_cons, Vals.ofList, Vals.toInts, Vals.toBools, Vals.toSls, Vals.toStrs, Vals.zeros, Nat.reduceBEq, Nat.reduceAdd, Nat.reduceEqDiff, cond_true, cond_false, Option.map_some, Option.map_none, List.length_cons, List.length_nil, List.replicate, List.set_cons_zero, List.set_cons_succ, Nat.reduceLT, Bool.not_true, Bool.not_false, Int.toNat_natCast, inR, Nat.zero_add, Int.toNat_zero, reduceCtorEq, IntKind.bits, List.nil_append, List.cons_append, Nat.add_zero, Nat.sub_zero, noughts_len, List.map_cons, List.map_nil, zp, zu]) | refine And.intro ?_ (fun hif => (hif trivial).elim) | (intro hif; try (first | contradiction | (exfalso; omega))))
              all_goals exact hK2 (j + 1, sN, m4) _ _ rfl rfl ⟨by simp only; omega, hp4, hg4, by simp only; rw [hst]; exact hN4, hneN, hl4⟩ (by simp only; omega)
            | false =>
              rw [hin] at hhas
              rw [hin, hb, if_pos ⟨rfl, rfl⟩] at hst
              repeat' (first | refine xA ?_ | refine xB ?_ | refine xC ?_ | refine xD ?_ | refine xE ?_ | refine xF ?_ | refine xG ?_ | refine xH ?_ | refine xI rfl ?_ | refine xJ ?_ | refine xK ?_ | refine xL ?_ | refine xM rfl ?_ | refine xN rfl ?_ | refine xO rfl ?_ | (first | refine xP rfl (fun hif => ?_) (fun hif => ?_) | refine xQ rfl (fun hif => ?_) (fun hif => ?_) | refine xR rfl (fun hif => ?_) (fun hif => ?_) | refine xS rfl (fun hif => ?_) (fun hif => ?_)) <;> try (first | contradiction | (exfalso; omega)) | (refine hK _ _ ?_; clear hK K) | refine onSome_of hbk ?_ | refine onSome_of hnx ?_ | refine AQuiet.call hhas trivial ?_ | refine app_int_ne hg4.wf hN4 hneN hl4 (by omega) fun s5 m5 hp5 hg5 hN5 hne5 => ?_ | (refine And.intro (by first | omega | assumption | (constructor <;> omega)) ?_) | (refine And.intro (fun hif => ?_) (fun hif => ?_) <;> try (first | contradiction | (exfalso; omega))) | ((first | refine xT fun K hK => ?_ | refine xU fun K hK => ?_ | refine yB (fun K hK => ?_) (fun K hK => ?_) | refine xV ?_ | refine yA ?_ | refine xW ?_ | refine xX ?_ | refine xY ?_ | refine xZ ?_) <;> simp only [↓awpOps, ↓awpKeep, ↓awpKeepF, ↓aop, ↓aopQ, ↓abin, ↓aun, ↓onSome_some, ↓Kont_at, ↓KM_at, ↓KV_at, ↓KU_at, refId_row, Frame.ev, Frame.evs, Frame.evOr, Frame.put, Frame.keep, get_nil, get_cons, argFrame, resOf, fillA, Vals.len, Vals.get, Vals.set, Vals.app, Vals.sub, Vals.take, Vals.ofAgg_cons, Vals.ofList, Vals.toInts, Vals.toBools, Vals.toSls, Vals.toStrs, Vals.zeros, Nat.reduceBEq, Nat.reduceAdd, Nat.reduceEqDiff, cond_true, cond_false, Option.map_some, Option.map_none, List.length_cons, List.length_nil, List.replicate, List.set_cons_zero, List.set_cons_succ, Nat.reduceLT, Bool.not_true, Bool.not_false, Int.toNat_natCast, inR, Nat.zero_add, Int.toNat_zero, reduceCtorEq, IntKind.bits, List.nil_append, List.cons_append, Nat.add_zero, Nat.sub_zero, noughts_len, List.map_cons, List.map_nil, zp, zu]) | refine And.intro ?_ (fun hif => (hif trivial).elim) | (intro hif; try (first | contradiction | (exfalso; omega))))
              all_goals exact hK2 (j + 1, s5, m5) _ _ rfl rfl ⟨by simp only; omega, hp4.trans hp5, hg4.trans hg5, by simp only; rw [hst]; exact hN5, hne5, by have := hp5.length_le; simp only; omega⟩ (by simp only; omega)
        · obtain rfl : j = net.length := by omega
          have hA4 := hAN.grow hg4 (.inl (by omega)) (by simp; omega)
          have hB4 := hBN.grow hg4 (.inl (by omega)) (by simp; omega)
          have hal := addL_len hC 0
          have haddL : addL net 0 = if 0 + 2 ≤ boneOf net % 16 then nbl (nrow net (pa (boneOf net) 0)) (boneOf net) net.length ++ [(pa (boneOf net) (0 + 1) : Int)] else nbl (nrow net (pa (boneOf net) 0)) (boneOf net) net.length := rfl
          by_cases hnext : 0 + 1 < boneOf net % 16
          · have hbk1 := hb4.2 (0 + 1) (by omega)
            rw [show (plist (boneOf net)).getD (0 + 1) 0 = (pa (boneOf net) (0 + 1) : Int) from plist_get (by omega)] at hbk1
            rw [if_pos (by omega)] at haddL
            have hpar : 0 % 2 = 0 := rfl
            repeat' (first | refine xA ?_ | refine xB ?_ | refine xC ?_ | refine xD ?_ | refine xE ?_ | refine xF ?_ | refine xG ?_ | refine xH ?_ | refine xI rfl ?_ | refine xJ ?_ | refine xK ?_ | refine xL ?_ | refine xM rfl ?_ | refine xN rfl ?_ | refine xO rfl ?_ | (first | refine xP rfl (fun hif => ?_) (fun hif => ?_) | refine xQ rfl (fun hif => ?_) (fun hif => ?_) | refine xR rfl (fun hif => ?_) (fun hif => ?_) | refine xS rfl (fun hif => ?_) (fun hif => ?_)) <;> try (first | contradiction | (exfalso; omega)) | (refine hK _ _ ?_; clear hK K) | refine onSome_of hbk1 ?_ | refine app_int_ne hg4.wf hN4 hneN hl4 (by omega) fun s5 m5 hp5 hg5 hN5 hne5 => ?_ | refine app_ints_ne hg5.wf (hB4.grow hg5 (.inl (by omega)) (by have := hp4.length_le; omega)) hneB (hN5.obj (Nat.le_refl _) (Nat.lt_succ_self _)) (by rw [← haddL]; omega) fun s6 m6 hp6 hg6 hX6 hne6 => ?_ | (refine And.intro (by first | omega | assumption | (constructor <;> omega)) ?_) | (refine And.intro (fun hif => ?_) (fun hif => ?_) <;> try (first | contradiction | (exfalso; omega))) | ((first | refine xT fun K hK => ?_ | refine xU fun K hK => ?_ | refine yB (fun K hK => ?_) (fun K hK => ?_) | refine xV ?_ | refine yA ?_ | refine xW ?_ | refine xX ?_ | refine xY ?_ | refine xZ ?_) <;> simp only [↓awpOps, ↓awpKeep, ↓awpKeepF, ↓aop, ↓aopQ, ↓abin, ↓aun, ↓onSome_some, ↓Kont_at, ↓KM_at, ↓KV_at, ↓KU_at, refId_row, Frame.ev, Frame.evs, Frame.evOr, Frame.put, Frame.keep, get_nil, get_cons, argFrame, resOf, fillA, Vals.len, Vals.get, Vals.set, Vals.app, Vals.sub, Vals.take, Vals.ofAgg_cons, Vals.ofList, Vals.toInts, Vals.toBools, Vals.toSls, Vals.toStrs, Vals.zeros, Nat.reduceBEq, Nat.reduceAdd, Nat.reduceEqDiff, cond_true, cond_false, Option.map_some, Option.map_none, List.length_cons, List.length_nil, List.replicate, List.set_cons_zero, List.set_cons_succ, Nat.reduceLT, Bool.not_true, Bool.not_false, Int.toNat_natCast, inR, Nat.zero_add, Int.toNat_zero, reduceCtorEq, IntKind.bits, List.nil_append, List.cons_append, Nat.add_zero, Nat.sub_zero, noughts_len, List.map_cons, List.map_nil, zp, zu]) | refine And.intro ?_ (fun hif => (hif trivial).elim) | (intro hif; try (first | contradiction | (exfalso; omega))))
            rw [← haddL] at hX6
            have hgf : Grow 0 0 mm m5 := grow00 (hp4.trans hp5) (((hgN.any _ _).trans (hg4.mono (Nat.le_refl _) (by have := hp5.length_le; omega))).trans (hg5.mono (Nat.le_refl _) (by have := hp5.length_le; omega)))
            have hgz := (hgmm.trans (hgf.any _ _)).trans (hg6.mono (Nat.le_succ _) (Nat.le_refl _))
            have hO6 := (hA4.grow hg5 (.inl (by omega)) (by have := hp4.length_le; omega)).grow hg6 (.inl (Nat.lt_succ_self _)) (by have := hp4.length_le; have := hp5.length_le; omega)
            exact hK1 (0 + 1, sA2, s6, m6) _ _ rfl rfl ⟨by simp only; omega, ((hpmm.trans hp4).trans hp5).trans hp6, hgz, by simp only; rw [if_neg (Nat.succ_ne_zero _), (hstep.1 hpar).1]; exact hO6, by simp only; rw [(hstep.1 hpar).2]; exact hX6, hneAm, hne6⟩ (by simp only; omega)
          · rw [if_neg (by omega)] at haddL
            have hpar : 0 % 2 = 0 := rfl
            repeat' (first | refine xA ?_ | refine xB ?_ | refine xC ?_ | refine xD ?_ | refine xE ?_ | refine xF ?_ | refine xG ?_ | refine xH ?_ | refine xI rfl ?_ | refine xJ ?_ | refine xK ?_ | refine xL ?_ | refine xM rfl ?_ | refine xN rfl ?_ | refine xO rfl ?_ | (first | refine xP rfl (fun hif => ?_) (fun hif => ?_) | refine xQ rfl (fun hif => ?_) (fun hif => ?_) | refine xR rfl (fun hif => ?_) (fun hif => ?_) | refine xS rfl (fun hif => ?_) (fun hif => ?_)) <;> try (first | contradiction | (exfalso; omega)) | (refine hK _ _ ?_; clear hK K) | refine app_ints_ne hg4.wf hB4 hneB (hN4.obj (Nat.le_refl _) (Nat.lt_succ_self _)) (by rw [← haddL]; omega) fun s6 m6 hp6 hg6 hX6 hne6 => ?_ | (refine And.intro (by first | omega | assumption | (constructor <;> omega)) ?_) | (refine And.intro (fun hif => ?_) (fun hif => ?_) <;> try (first | contradiction | (exfalso; omega))) | ((first | refine xT fun K hK => ?_ | refine xU fun K hK => ?_ | refine yB (fun K hK => ?_) (fun K hK => ?_) | refine xV ?_ | refine yA ?_ | refine xW ?_ | refine xX ?_ | refine xY ?_ | refine xZ ?_) <;> simp only [↓awpOps, ↓awpKeep, ↓awpKeepF, ↓aop, ↓aopQ, ↓abin, ↓aun, ↓onSome_some, ↓Kont_at, ↓KM_at, ↓KV_at, ↓KU_at, refId_row, Frame.ev, Frame.evs, Frame.evOr, Frame.put, Frame.keep, get_nil, get_cons, argFrame, resOf, fillA, Vals.len, Vals.get, Vals.set, Vals.app, Vals.sub, Vals.take, Vals.ofAgg_cons, Vals.ofList, Vals.toInts, Vals.toBools, Vals.toSls, Vals.toStrs, Vals.zeros, Nat.reduceBEq, Nat.reduceAdd, Nat.reduceEqDiff, cond_true, cond_false, Option.map_some, Option.map_none, List.length_cons, List.length_nil, List.replicate, List.set_cons_zero, List.set_cons_succ, Nat.reduceLT, Bool.not_true, Bool.not_false, Int.toNat_natCast, inR, Nat.zero_add, Int.toNat_zero, reduceCtorEq, IntKind.bits, List.nil_append, List.cons_append, Nat.add_zero, Nat.sub_zero, noughts_len, List.map_cons, List.map_nil, zp, zu]) | refine And.intro ?_ (fun hif => (hif trivial).elim) | (intro hif; try (first | contradiction | (exfalso; omega))))
            rw [← haddL] at hX6
            have hgf : Grow 0 0 mm m4 := grow00 (hp4) (((hgN.any _ _).trans (hg4.mono (Nat.le_refl _) (by omega))))
            have hgz := (hgmm.trans (hgf.any _ _)).trans (hg6.mono (Nat.le_succ _) (Nat.le_refl _))
            have hO6 := hA4.grow hg6 (.inl (Nat.lt_succ_self _)) (by have := hp4.length_le; omega)
            exact hK1 (0 + 1, sA2, s6, m6) _ _ rfl rfl ⟨by simp only; omega, ((hpmm.trans hp4)).trans hp6, hgz, by simp only; rw [if_neg (Nat.succ_ne_zero _), (hstep.1 hpar).1]; exact hO6, by simp only; rw [(hstep.1 hpar).2]; exact hX6, hneAm, hne6⟩ (by simp only; omega)
      · rw [if_neg hk0] at hA2
        repeat' (first | refine xA ?_ | refine xB ?_ | refine xC ?_ | refine xD ?_ | refine xE ?_ | refine xF ?_ | refine xG ?_ | refine xH ?_ | refine xI rfl ?_ | refine xJ ?_ | refine xK ?_ | refine xL ?_ | refine xM rfl ?_ | refine xN rfl ?_ | refine xO rfl ?_ | (first | refine xP rfl (fun hif => ?_) (fun hif => ?_) | refine xQ rfl (fun hif => ?_) (fun hif => ?_) | refine xR rfl (fun hif => ?_) (fun hif => ?_) | refine xS rfl (fun hif => ?_) (fun hif => ?_)) <;> try (first | contradiction | (exfalso; omega)) | (refine hK _ _ ?_; clear hK K) | (refine And.intro (by first | omega | assumption | (constructor <;> omega)) ?_) | (refine And.intro (fun hif => ?_) (fun hif => ?_) <;> try (first | contradiction | (exfalso; omega))) | ((first | refine xT fun K hK => ?_ | refine xU fun K hK => ?_ | refine yB (fun K hK => ?_) (fun K hK => ?_) | refine xV ?_ | refine yA ?_ | refine xW ?_ | refine xX ?_ | refine xY ?_ | refine xZ ?_) <;> simp only [↓awpOps, ↓awpKeep, ↓awpKeepF, ↓aop, ↓aopQ, ↓abin, ↓aun, ↓onSome_some, ↓Kont_at, ↓KM_at, ↓KV_at, ↓KU_at, refId_row, Frame.ev, Frame.evs, Frame.evOr, Frame.put, Frame.keep, get_nil, get_cons, argFrame, resOf, fillA, Vals.len, Vals.get, Vals.set, Vals.app, Vals.sub, Vals.take, Vals.ofAgg_cons, Vals.ofList, Vals.toInts, Vals.toBools, Vals.toSls, Vals.toStrs, Vals.zeros, Nat.reduceBEq, Nat.reduceAdd, Nat.reduceEqDiff, cond_true, cond_false, Option.map_some, Option.map_none, List.length_cons, List.length_nil, List.replicate, List.set_cons_zero, List.set_cons_succ, Nat.reduceLT, Bool.not_true, Bool.not_false, Int.toNat_natCast, inR, Nat.zero_add, Int.toNat_zero, reduceCtorEq, IntKind.bits, List.nil_append, List.cons_append, Nat.add_zero, Nat.sub_zero, noughts_len, List.map_cons, List.map_nil, zp, zu]) | refine And.intro ?_ (fun hif => (hif trivial).elim) | (intro hif; try (first | contradiction | (exfalso; omega))))
        have hAm := hA2
        have hBm := hB2
        have hgmm := hg2
        have hpmm := hp2
        have hneAm := hneA
        have hlem := hpmm.length_le
        have hwfm := hgmm.wf
        have hgN := Grow.push hwfm Ty.int true (.ints .i64 [])
        have hAN := hAm.grow0 hgN (by omega)
        have hBN := hBm.grow0 hgN (by omega)
        have hrow : ∀ mx : Heap, m2 <+: mx → IsInts .i64 mx ⟨bref, boff, boneOf net % 16⟩ (plist (boneOf net)) := fun mx hx => hbI.pre (hpmm.trans hx)
        have hnet : ∀ mx : Heap, m2 <+: mx → IsInts .i64 mx ⟨ref, off, net.length⟩ net := fun mx hx => hs.pre (hg1.pre0.trans (hpmm.trans hx))
        have hpN := hgN.pre0
        refine awp_loop ?_
        refine ALoop.by [0, 4, 5, 6, 7, 8, 9] (fun b : Nat × SV × Heap => [(0, .one (.sl ⟨ref, off, net.length⟩)), (4, .one (.sl sA)), (5, .one (.sl sB)), (6, .one (.sl ⟨bref, boff, boneOf net % 16⟩)), (7, .one (.int .i64 (k : Nat))), (8, .one (.sl b.2.1)), (9, .one (.int .i64 b.1))]) (fun b => b.2.2)
          (fun b => b.1 ≤ net.length ∧ m2 <+: b.2.2 ∧ Grow m2.length (m2.length + 1) (m2 ++ [⟨Ty.int, m2.length, true, .ints .i64 []⟩]) b.2.2 ∧ Acc Ty.int m2.length b.2.2 b.2.1 (.ints .i64 (nbl (nrow net (pa (boneOf net) k)) (boneOf net) b.1)) ∧ b.2.1 ≠ SV.nil ∧ m2.length < b.2.2.length)
          (fun b => net.length - b.1) (0, _, _) rfl rfl ⟨Nat.zero_le _, hpN, Grow.refl hgN.wf _ _, acc_new hwfm Ty.int (.ints .i64 []) rfl, fun c => (by cases c), by simp⟩ ?_
        rintro ⟨j, sN, m4⟩ ⟨hj, hp4, hg4, hN4, hneN, hl4⟩ K2 hK2
        simp only at hj hp4 hg4 hN4 hneN hl4
        have hb4 := hrow m4 hp4
        have hn4 := hnet m4 hp4
        have hbk := hb4.2 k (by omega)
        rw [show (plist (boneOf net)).getD k 0 = (pa (boneOf net) k : Int) from plist_get (by omega)] at hbk
        have hnl := nbl_len (nrow net (pa (boneOf net) k)) (boneOf net) j
        by_cases hjn : j < net.length
        · have hnx := hn4.2 (pa (boneOf net) k) hxk
          have hsx := hN.small hxk
          have hsh : net.getD (pa (boneOf net) k) 0 / 2 ^ j % 2 = if bit (net.getD (pa (boneOf net) k) 0) j then 1 else 0 := shr_bit hsx.1
          have hnn : 0 ≤ net.getD (pa (boneOf net) k) 0 / 2 ^ j := Int.ediv_nonneg hsx.1 (by have := (pow_bounds (p := j) (by omega)).1; omega)
          have hpj := pow_bounds (p := j) (by omega)
          have hst := nbl_succ (nrow net (pa (boneOf net) k)) (boneOf net) j
          have hhas := spec_l4Has _ (boneOf net) j m4 hb4
          rw [show bit (net.getD (pa (boneOf net) k) 0) j = (nrow net (pa (boneOf net) k)).testBit j from (by unfold bit nrow; rfl)] at hsh
          generalize pa (boneOf net) k = x at hbk hnx hsx hsh hnn hst hN4 hnl hK2 hxk
          cases hb : (nrow net x).testBit j with
          | false =>
            rw [hb, if_neg (by exact Bool.noConfusion)] at hsh
            rw [hb, if_neg (fun c => by cases c.1)] at hst
            repeat' (first | refine xA ?_ | refine xB ?_ | refine xC ?_ | refine xD ?_ | refine xE ?_ | refine xF ?_ | refine xG ?_ | refine xH ?_ | refine xI rfl ?_ | refine xJ ?_ | refine xK ?_ | refine xL ?_ | refine xM rfl ?_ | refine xN rfl ?_ | refine xO rfl ?_ | (first | refine xP rfl (fun hif => ?_) (fun hif => ?_) | refine xQ rfl (fun hif => ?_) (fun hif => ?_) | refine xR rfl (fun hif => ?_) (fun hif => ?_) | refine xS rfl (fun hif => ?_) (fun hif => ?_)) <;> try (first | contradiction | (exfalso; omega)) | (refine hK _ _ ?_; clear hK K) | refine onSome_of hbk ?_ | refine onSome_of hnx ?_ | refine AQuiet.call hhas trivial ?_ | (refine And.intro (by first | omega | assumption | (constructor <;> omega)) ?_) | (refine And.intro (fun hif => ?_) (fun hif => ?_) <;> try (first | contradiction | (exfalso; omega))) | ((first | refine xT fun K hK => ?_ | refine xU fun K hK => ?_ | refine yB (fun K hK => ?_) (fun K hK => ?_) | refine xV ?_ | refine yA ?_ | refine xW ?_ | refine xX ?_ | refine xY ?_ | refine xZ ?_) <;> simp only [↓awpOps, ↓awpKeep, ↓awpKeepF, ↓aop, ↓aopQ, ↓abin, ↓aun, ↓onSome_some, ↓Kont_at, ↓KM_at, ↓KV_at, ↓KU_at, refId_row, Frame.ev, Frame.evs, Frame.evOr, Frame.put, Frame.keep, get_nil, get_cons, argFrame, resOf, fillA, Vals.len, Vals.get, Vals.set, Vals.app, Vals.sub, Vals.take, Vals.ofAgg_cons, Vals.ofList, Vals.toInts, Vals.toBools, Vals.toSls, Vals.toStrs, Vals.zeros, Nat.reduceBEq, Nat.reduceAdd, Nat.reduceEqDiff, cond_true, cond_false, Option.map_some, Option.map_none, List.length_cons, List.length_nil, List.replicate, List.set_cons_zero, List.set_cons_succ, Nat.reduceLT, Bool.not_true, Bool.not_false, Int.toNat_natCast, inR, Nat.zero_add, Int.toNat_zero, reduceCtorEq, IntKind.bits, List.nil_append, List.cons_append, Nat.add_zero, Nat.sub_zero, noughts_len, List.map_cons, List.map_nil, zp, zu]) | refine And.intro ?_ (fun hif => (hif trivial).elim) | (intro hif; try (first | contradiction | (exfalso; omega))))
            all_goals exact hK2 (j + 1, sN, m4) _ _ rfl rfl ⟨by simp only; omega, hp4, hg4, by simp only; rw [hst]; exact hN4, hneN, hl4⟩ (by simp only; omega)
          | true =>
            rw [hb, if_pos rfl] at hsh
            cases hin : inP (boneOf net) j (boneOf net % 16) with
            | true =>
              rw [hin] at hhas
              rw [hin, if_neg (fun c => by cases c.2)] at hst
              repeat' (first | refine xA ?_ | refine xB ?_ | refine xC ?_ | refine xD ?_ | refine xE ?_ | refine xF ?_ | refine xG ?_ | refine xH ?_ | refine xI rfl ?_ | refine xJ ?_ | refine xK ?_ | refine xL ?_ | refine xM rfl ?_ | refine xN rfl ?_ | refine xO rfl ?_ | (first | refine xP rfl (fun hif => ?_) (fun hif => ?_) | refine xQ rfl (fun hif => ?_) (fun hif => ?_) | refine xR rfl (fun hif => ?_) (fun hif => ?_) | refine xS rfl (fun hif => ?_) (fun hif => ?_)) <;> try (first | contradiction | (exfalso; omega)) | (refine hK _ _ ?_; clear hK K) | refine onSome_of hbk ?_ | refine onSome_of hnx ?_ | refine AQuiet.call hhas trivial ?_ | (refine And.intro (by first | omega | assumption | (constructor <;> omega)) ?_) | (refine And.intro (fun hif => ?_) (fun hif => ?_) <;> try (first | contradiction | (exfalso; omega))) | ((first | refine xT fun K hK => ?_ | refine xU fun K hK => ?_ | refine yB (fun K hK => ?_) (fun K hK => ?_) | refine xV ?_ | refine yA ?_ | refine xW ?_ | refine xX ?_ | refine xY ?_ | refine xZ ?_) <;> simp only [↓awpOps, ↓awpKeep, ↓awpKeepF, ↓aop, ↓aopQ, ↓abin, ↓aun, ↓onSome_some, ↓Kont_at, ↓KM_at, ↓KV_at, ↓KU_at, refId_row, Frame.ev, Frame.evs, Frame.evOr, Frame.put, Frame.keep, get_nil, get_cons, argFrame, resOf, fillA, Vals.len, Vals.get, Vals.set, Vals.app, Vals.sub, Vals.take, Vals.ofAgg_cons, Vals.ofList, Vals.toInts, Vals.toBools, Vals.toSls, Vals.toStrs, Vals.zeros, Nat.reduceBEq, Nat.reduceAdd, Nat.reduceEqDiff, cond_true, cond_false, Option.map_some, Option.map_none, List.length_cons, List.length_nil, List.replicate, List.set_cons_zero, List.set_cons_succ, Nat.reduceLT, Bool.not_true, Bool.not_false, Int.toNat_natCast, inR, Nat.zero_add, Int.toNat_zero, reduceCtorEq, IntKind.bits, List.nil_append, List.cons_append, Nat.add_zero, Nat.sub_zero, noughts_len, List.map_cons, List.map_nil, zp, zu]) | refine And.intro ?_ (fun hif => (hif trivial).elim) | (intro hif; try (first | contradiction | (exfalso; omega))))
              all_goals exact hK2 (j + 1, sN, m4) _ _ rfl rfl ⟨by simp only; omega, hp4, hg4, by simp only; rw [hst]; exact hN4, hneN, hl4⟩ (by simp only; omega)
            | false =>
              rw [hin] at hhas
              rw [hin, hb, if_pos ⟨rfl, rfl⟩] at hst
              repeat' (first | refine xA ?_ | refine xB ?_ | refine xC ?_ | refine xD ?_ | refine xE ?_ | refine xF ?_ | refine xG ?_ | refine xH ?_ | refine xI rfl ?_ | refine xJ ?_ | refine xK ?_ | refine xL ?_ | refine xM rfl ?_ | refine xN rfl ?_ | refine xO rfl ?_ | (first | refine xP rfl (fun hif => ?_) (fun hif => ?_) | refine xQ rfl (fun hif => ?_) (fun hif => ?_) | refine xR rfl (fun hif => ?_) (fun hif => ?_) | refine xS rfl (fun hif => ?_) (fun hif => ?_)) <;> try (first | contradiction | (exfalso; omega)) | (refine hK _ _ ?_; clear hK K) | refine onSome_of hbk ?_ | refine onSome_of hnx ?_ | refine AQuiet.call hhas trivial ?_ | refine app_int_ne hg4.wf hN4 hneN hl4 (by omega) fun s5 m5 hp5 hg5 hN5 hne5 => ?_ | (refine And.intro (by first | omega | assumption | (constructor <;> omega)) ?_) | (refine And.intro (fun hif => ?_) (fun hif => ?_) <;> try (first | contradiction | (exfalso; omega))) | ((first | refine xT fun K hK => ?_ | refine xU fun K hK => ?_ | refine yB (fun K hK => ?_) (fun K hK => ?_) | refine xV ?_ | refine yA ?_ | refine xW ?_ | refine xX ?_ | refine xY ?_ | refine xZ ?_) <;> simp only [↓awpOps, ↓awpKeep, ↓awpKeepF, ↓aop, ↓aopQ, ↓abin, ↓aun, ↓onSome_some, ↓Kont_at, ↓KM_at, ↓KV_at, ↓KU_at, refId_row, Frame.ev, Frame.evs, Frame.evOr, Frame.put, Frame.keep, get_nil, get_cons, argFrame, resOf, fillA, Vals.len, Vals.get, Vals.set, Vals.app, Vals.sub, Vals.take, Vals.ofAgg_cons, Vals.ofList, Vals.toInts, Vals.toBools, Vals.toSls, Vals.toStrs, Vals.zeros, Nat.reduceBEq, Nat.reduceAdd, Nat.reduceEqDiff, cond_true, cond_false, Option.map_some, Option.map_none, List.length_cons, List.length_nil, List.replicate, List.set_cons_zero, List.set_cons_succ, Nat.reduceLT, Bool.not_true, Bool.not_false, Int.toNat_natCast, inR, Nat.zero_add, Int.toNat_zero, reduceCtorEq, IntKind.bits, List.nil_append, List.cons_append, Nat.add_zero, Nat.sub_zero, noughts_len, List.map_cons, List.map_nil, zp, zu]) | refine And.intro ?_ (fun hif => (hif trivial).elim) | (intro hif; try (first | contradiction | (exfalso; omega))))
              all_goals exact hK2 (j + 1, s5, m5) _ _ rfl rfl ⟨by simp only; omega, hp4.trans hp5, hg4.trans hg5, by simp only; rw [hst]; exact hN5, hne5, by have := hp5.length_le; simp only; omega⟩ (by simp only; omega)
        · obtain rfl : j = net.length := by omega
          have hA4 := hAN.grow hg4 (.inl (by omega)) (by simp; omega)
          have hB4 := hBN.grow hg4 (.inl (by omega)) (by simp; omega)
          have hal := addL_len hC k
          have haddL : addL net k = if k + 2 ≤ boneOf net % 16 then nbl (nrow net (pa (boneOf net) k)) (boneOf net) net.length ++ [(pa (boneOf net) (k + 1) : Int)] else nbl (nrow net (pa (boneOf net) k)) (boneOf net) net.length := rfl
          by_cases hnext : k + 1 < boneOf net % 16
          · have hbk1 := hb4.2 (k + 1) (by omega)
            rw [show (plist (boneOf net)).getD (k + 1) 0 = (pa (boneOf net) (k + 1) : Int) from plist_get (by omega)] at hbk1
            rw [if_pos (by omega)] at haddL
            by_cases hpar : k % 2 = 0
            · have hparI : (k : Int) % 2 = 0 := by omega
              repeat' (first | refine xA ?_ | refine xB ?_ | refine xC ?_ | refine xD ?_ | refine xE ?_ | refine xF ?_ | refine xG ?_ | refine xH ?_ | refine xI rfl ?_ | refine xJ ?_ | refine xK ?_ | refine xL ?_ | refine xM rfl ?_ | refine xN rfl ?_ | refine xO rfl ?_ | (first | refine xP rfl (fun hif => ?_) (fun hif => ?_) | refine xQ rfl (fun hif => ?_) (fun hif => ?_) | refine xR rfl (fun hif => ?_) (fun hif => ?_) | refine xS rfl (fun hif => ?_) (fun hif => ?_)) <;> try (first | contradiction | (exfalso; omega)) | (refine hK _ _ ?_; clear hK K) | refine onSome_of hbk1 ?_ | refine app_int_ne hg4.wf hN4 hneN hl4 (by omega) fun s5 m5 hp5 hg5 hN5 hne5 => ?_ | refine app_ints_ne hg5.wf (hB4.grow hg5 (.inl (by omega)) (by have := hp4.length_le; omega)) hneB (hN5.obj (Nat.le_refl _) (Nat.lt_succ_self _)) (by rw [← haddL]; omega) fun s6 m6 hp6 hg6 hX6 hne6 => ?_ | (refine And.intro (by first | omega | assumption | (constructor <;> omega)) ?_) | (refine And.intro (fun hif => ?_) (fun hif => ?_) <;> try (first | contradiction | (exfalso; omega))) | ((first | refine xT fun K hK => ?_ | refine xU fun K hK => ?_ | refine yB (fun K hK => ?_) (fun K hK => ?_) | refine xV ?_ | refine yA ?_ | refine xW ?_ | refine xX ?_ | refine xY ?_ | refine xZ ?_) <;> simp only [↓awpOps, ↓awpKeep, ↓awpKeepF, ↓aop, ↓aopQ, ↓abin, ↓aun, ↓onSome_some, ↓Kont_at, ↓KM_at, ↓KV_at, ↓KU_at, refId_row, Frame.ev, Frame.evs, Frame.evOr, Frame.put, Frame.keep, get_nil, get_cons, argFrame, resOf, fillA, Vals.len, Vals.get, Vals.set, Vals.app, Vals.sub, Vals.take, Vals.ofAgg_cons, Vals.ofList, Vals.toInts, Vals.toBools, Vals.toSls, Vals.toStrs, Vals.zeros, Nat.reduceBEq, Nat.reduceAdd, Nat.reduceEqDiff, cond_true, cond_false, Option.map_some, Option.map_none, List.length_cons, List.length_nil, List.replicate, List.set_cons_zero, List.set_cons_succ, Nat.reduceLT, Bool.not_true, Bool.not_false, Int.toNat_natCast, inR, Nat.zero_add, Int.toNat_zero, reduceCtorEq, IntKind.bits, List.nil_append, List.cons_append, Nat.add_zero, Nat.sub_zero, noughts_len, List.map_cons, List.map_nil, zp, zu]) | refine And.intro ?_ (fun hif => (hif trivial).elim) | (intro hif; try (first | contradiction | (exfalso; omega))))
              rw [← haddL] at hX6
              have hgf : Grow 0 0 m2 m5 := grow00 (hp4.trans hp5) (((hgN.any _ _).trans (hg4.mono (Nat.le_refl _) (by have := hp5.length_le; omega))).trans (hg5.mono (Nat.le_refl _) (by have := hp5.length_le; omega)))
              have hgz := (hgmm.trans (hgf.any _ _)).trans (hg6.mono (Nat.le_succ _) (Nat.le_refl _))
              have hO6 := (hA4.grow hg5 (.inl (by omega)) (by have := hp4.length_le; omega)).grow hg6 (.inl (Nat.lt_succ_self _)) (by have := hp4.length_le; have := hp5.length_le; omega)
              exact hK1 (k + 1, sA, s6, m6) _ _ rfl rfl ⟨by simp only; omega, ((hpmm.trans hp4).trans hp5).trans hp6, hgz, by simp only; rw [if_neg (Nat.succ_ne_zero _), (hstep.1 hpar).1]; exact hO6, by simp only; rw [(hstep.1 hpar).2]; exact hX6, hneAm, hne6⟩ (by simp only; omega)
            · have hparI : ¬ (k : Int) % 2 = 0 := by omega
              repeat' (first | refine xA ?_ | refine xB ?_ | refine xC ?_ | refine xD ?_ | refine xE ?_ | refine xF ?_ | refine xG ?_ | refine xH ?_ | refine xI rfl ?_ | refine xJ ?_ | refine xK ?_ | refine xL ?_ | refine xM rfl ?_ | refine xN rfl ?_ | refine xO rfl ?_ | (first | refine xP rfl (fun hif => ?_) (fun hif => ?_) | refine xQ rfl (fun hif => ?_) (fun hif => ?_) | refine xR rfl (fun hif => ?_) (fun hif => ?_) | refine xS rfl (fun hif => ?_) (fun hif => ?_)) <;> try (first | contradiction | (exfalso; omega)) | (refine hK _ _ ?_; clear hK K) | refine onSome_of hbk1 ?_ | refine app_int_ne hg4.wf hN4 hneN hl4 (by omega) fun s5 m5 hp5 hg5 hN5 hne5 => ?_ | refine app_ints_ne hg5.wf (hA4.grow hg5 (.inl (by omega)) (by have := hp4.length_le; omega)) hneAm (hN5.obj (Nat.le_refl _) (Nat.lt_succ_self _)) (by rw [← haddL]; omega) fun s6 m6 hp6 hg6 hX6 hne6 => ?_ | (refine And.intro (by first | omega | assumption | (constructor <;> omega)) ?_) | (refine And.intro (fun hif => ?_) (fun hif => ?_) <;> try (first | contradiction | (exfalso; omega))) | ((first | refine xT fun K hK => ?_ | refine xU fun K hK => ?_ | refine yB (fun K hK => ?_) (fun K hK => ?_) | refine xV ?_ | refine yA ?_ | refine xW ?_ | refine xX ?_ | refine xY ?_ | refine xZ ?_) <;> simp only [↓awpOps, ↓awpKeep, ↓awpKeepF, ↓aop, ↓aopQ, ↓abin, ↓aun, ↓onSome_some, ↓Kont_at, ↓KM_at, ↓KV_at, ↓KU_at, refId_row, Frame.ev, Frame.evs, Frame.evOr, Frame.put, Frame.keep, get_nil, get_cons, argFrame, resOf, fillA, Vals.len, Vals.get, Vals.set, Vals.app, Vals.sub, Vals.take, Vals.ofAgg_cons, Vals.ofList, Vals.toInts, Vals.toBools, Vals.toSls, Vals.toStrs, Vals.zeros, Nat.reduceBEq, Nat.reduceAdd, Nat.reduceEqDiff, cond_true, cond_false, Option.map_some, Option.map_none, List.length_cons, List.length_nil, List.replicate, List.set_cons_zero, List.set_cons_succ, Nat.reduceLT, Bool.not_true, Bool.not_false, Int.toNat_natCast, inR, Nat.zero_add, Int.toNat_zero, reduceCtorEq, IntKind.bits, List.nil_append, List.cons_append, Nat.add_zero, Nat.sub_zero, noughts_len, List.map_cons, List.map_nil, zp, zu]) | refine And.intro ?_ (fun hif => (hif trivial).elim) | (intro hif; try (first | contradiction | (exfalso; omega))))
              rw [← haddL] at hX6
              have hgf : Grow 0 0 m2 m5 := grow00 (hp4.trans hp5) (((hgN.any _ _).trans (hg4.mono (Nat.le_refl _) (by have := hp5.length_le; omega))).trans (hg5.mono (Nat.le_refl _) (by have := hp5.length_le; omega)))
              have hgz := (hgmm.trans (hgf.any _ _)).trans (hg6.mono (Nat.le_refl _) (Nat.le_succ _))
              have hO6 := (hB4.grow hg5 (.inl (by omega)) (by have := hp4.length_le; omega)).grow hg6 (.inr (Nat.le_refl _)) (by have := hp4.length_le; have := hp5.length_le; omega)
              exact hK1 (k + 1, s6, sB, m6) _ _ rfl rfl ⟨by simp only; omega, ((hpmm.trans hp4).trans hp5).trans hp6, hgz, by simp only; rw [if_neg (Nat.succ_ne_zero _), (hstep.2 hpar).1]; exact hX6, by simp only; rw [(hstep.2 hpar).2]; exact hO6, hne6, hneB⟩ (by simp only; omega)
          · rw [if_neg (by omega)] at haddL
            by_cases hpar : k % 2 = 0
            · have hparI : (k : Int) % 2 = 0 := by omega
              repeat' (first | refine xA ?_ | refine xB ?_ | refine xC ?_ | refine xD ?_ | refine xE ?_ | refine xF ?_ | refine xG ?_ | refine xH ?_ | refine xI rfl ?_ | refine xJ ?_ | refine xK ?_ | refine xL ?_ | refine xM rfl ?_ | refine xN rfl ?_ | refine xO rfl ?_ | (first | refine xP rfl (fun hif => ?_) (fun hif => ?_) | refine xQ rfl (fun hif => ?_) (fun hif => ?_) | refine xR rfl (fun hif => ?_) (fun hif => ?_) | refine xS rfl (fun hif => ?_) (fun hif => ?_)) <;> try (first | contradiction | (exfalso; omega)) | (refine hK _ _ ?_; clear hK K) | refine app_ints_ne hg4.wf hB4 hneB (hN4.obj (Nat.le_refl _) (Nat.lt_succ_self _)) (by rw [← haddL]; omega) fun s6 m6 hp6 hg6 hX6 hne6 => ?_ | (refine And.intro (by first | omega | assumption | (constructor <;> omega)) ?_) | (refine And.intro (fun hif => ?_) (fun hif => ?_) <;> try (first | contradiction | (exfalso; omega))) | ((first | refine xT fun K hK => ?_ | refine xU fun K hK => ?_ | refine yB (fun K hK => ?_) (fun K hK => ?_) | refine xV ?_ | refine yA ?_ | refine xW ?_ | refine xX ?_ | refine xY ?_ | refine xZ ?_) <;> simp only [↓awpOps, ↓awpKeep, ↓awpKeepF, ↓aop, ↓aopQ, ↓abin, ↓aun, ↓onSome_some, ↓Kont_at, ↓KM_at, ↓KV_at, ↓KU_at, refId_row, Frame.ev, Frame.evs, Frame.evOr, Frame.put, Frame.keep, get_nil, get_cons, argFrame, resOf, fillA, Vals.len, Vals.get, Vals.set, Vals.app, Vals.sub, Vals.take, Vals.ofAgg_cons, Vals.ofList, Vals.toInts, Vals.toBools, Vals.toSls, Vals.toStrs, Vals.zeros, Nat.reduceBEq, Nat.reduceAdd, Nat.reduceEqDiff, cond_true, cond_false, Option.map_some, Option.map_none, List.length_cons, List.length_nil, List.replicate, List.set_cons_zero, List.set_cons_succ, Nat.reduceLT, Bool.not_true, Bool.not_false, Int.toNat_natCast, inR, Nat.zero_add, Int.toNat_zero, reduceCtorEq, IntKind.bits, List.nil_append, List.cons_append, Nat.add_zero, Nat.sub_zero, noughts_len, List.map_cons, List.map_nil, zp, zu]) | refine And.intro ?_ (fun hif => (hif trivial).elim) | (intro hif; try (first | contradiction | (exfalso; omega))))
              rw [← haddL] at hX6
              have hgf : Grow 0 0 m2 m4 := grow00 (hp4) (((hgN.any _ _).trans (hg4.mono (Nat.le_refl _) (by omega))))
              have hgz := (hgmm.trans (hgf.any _ _)).trans (hg6.mono (Nat.le_succ _) (Nat.le_refl _))
              have hO6 := hA4.grow hg6 (.inl (Nat.lt_succ_self _)) (by have := hp4.length_le; omega)
              exact hK1 (k + 1, sA, s6, m6) _ _ rfl rfl ⟨by simp only; omega, ((hpmm.trans hp4)).trans hp6, hgz, by simp only; rw [if_neg (Nat.succ_ne_zero _), (hstep.1 hpar).1]; exact hO6, by simp only; rw [(hstep.1 hpar).2]; exact hX6, hneAm, hne6⟩ (by simp only; omega)
            · have hparI : ¬ (k : Int) % 2 = 0 := by omega
              repeat' (first | refine xA ?_ | refine xB ?_ | refine xC ?_ | refine xD ?_ | refine xE ?_ | refine xF ?_ | refine xG ?_ | refine xH ?_ | refine xI rfl ?_ | refine xJ ?_ | refine xK ?_ | refine xL ?_ | refine xM rfl ?_ | refine xN rfl ?_ | refine xO rfl ?_ | (first | refine xP rfl (fun hif => ?_) (fun hif => ?_) | refine xQ rfl (fun hif => ?_) (fun hif => ?_) | refine xR rfl (fun hif => ?_) (fun hif => ?_) | refine xS rfl (fun hif => ?_) (fun hif => ?_)) <;> try (first | contradiction | (exfalso; omega)) | (refine hK _ _ ?_; clear hK K) | refine app_ints_ne hg4.wf hA4 hneAm (hN4.obj (Nat.le_refl _) (Nat.lt_succ_self _)) (by rw [← haddL]; omega) fun s6 m6 hp6 hg6 hX6 hne6 => ?_ | (refine And.intro (by first | omega | assumption | (constructor <;> omega)) ?_) | (refine And.intro (fun hif => ?_) (fun hif => ?_) <;> try (first | contradiction | (exfalso; omega))) | ((first | refine xT fun K hK => ?_ | refine xU fun K hK => ?_ | refine yB (fun K hK => ?_) (fun K hK => ?_) | refine xV ?_ | refine yA ?_ | refine xW ?_ | refine xX ?_ | refine xY ?_ | refine xZ ?_) <;> simp only [↓awpOps, ↓awpKeep, ↓awpKeepF, ↓aop, ↓aopQ, ↓abin, ↓aun, ↓onSome_some, ↓Kont_at, ↓KM_at, ↓KV_at, ↓KU_at, refId_row, Frame.ev, Frame.evs, Frame.evOr, Frame.put, Frame.keep, get_nil, get_cons, argFrame, resOf, fillA, Vals.len, Vals.get, Vals.set, Vals.app, Vals.sub, Vals.take, Vals.ofAgg_cons, Vals.ofList, Vals.toInts, Vals.toBools, Vals.toSls, Vals.toStrs, Vals.zeros, Nat.reduceBEq, Nat.reduceAdd, Nat.reduceEqDiff, cond_true, cond_false, Option.map_some, Option.map_none, List.length_cons, List.length_nil, List.replicate, List.set_cons_zero, List.set_cons_succ, Nat.reduceLT, Bool.not_true, Bool.not_false, Int.toNat_natCast, inR, Nat.zero_add, Int.toNat_zero, reduceCtorEq, IntKind.bits, List.nil_append, List.cons_append, Nat.add_zero, Nat.sub_zero, noughts_len, List.map_cons, List.map_nil, zp, zu]) | refine And.intro ?_ (fun hif => (hif trivial).elim) | (intro hif; try (first | contradiction | (exfalso; omega))))
              rw [← haddL] at hX6
              have hgf : Grow 0 0 m2 m4 := grow00 (hp4) (((hgN.any _ _).trans (hg4.mono (Nat.le_refl _) (by omega))))
              have hgz := (hgmm.trans (hgf.any _ _)).trans (hg6.mono (Nat.le_refl _) (Nat.le_succ _))
              have hO6 := hB4.grow hg6 (.inr (Nat.le_refl _)) (by have := hp4.length_le; omega)
              exact hK1 (k + 1, s6, sB, m6) _ _ rfl rfl ⟨by simp only; omega, ((hpmm.trans hp4)).trans hp6, hgz, by simp only; rw [if_neg (Nat.succ_ne_zero _), (hstep.2 hpar).1]; exact hX6, by simp only; rw [(hstep.2 hpar).2]; exact hO6, hne6, hneB⟩ (by simp only; omega)
    · obtain rfl : k = boneOf net % 16 := by omega
      repeat' (first | refine xA ?_ | refine xB ?_ | refine xC ?_ | refine xD ?_ | refine xE ?_ | refine xF ?_ | refine xG ?_ | refine xH ?_ | refine xI rfl ?_ | refine xJ ?_ | refine xK ?_ | refine xL ?_ | refine xM rfl ?_ | refine xN rfl ?_ | refine xO rfl ?_ | (first | refine xP rfl (fun hif => ?_) (fun hif => ?_) | refine xQ rfl (fun hif => ?_) (fun hif => ?_) | refine xR rfl (fun hif => ?_) (fun hif => ?_) | refine xS rfl (fun hif => ?_) (fun hif => ?_)) <;> try (first | contradiction | (exfalso; omega)) | (refine hK _ _ ?_; clear hK K) | (refine And.intro (by first | omega | assumption | (constructor <;> omega)) ?_) | (refine And.intro (fun hif => ?_) (fun hif => ?_) <;> try (first | contradiction | (exfalso; omega))) | ((first | refine xT fun K hK => ?_ | refine xU fun K hK => ?_ | refine yB (fun K hK => ?_) (fun K hK => ?_) | refine xV ?_ | refine yA ?_ | refine xW ?_ | refine xX ?_ | refine xY ?_ | refine xZ ?_) <;> simp only [↓awpOps, ↓awpKeep, ↓awpKeepF, ↓aop, ↓aopQ, ↓abin, ↓aun, ↓onSome_some, ↓Kont_at, ↓KM_at, ↓KV_at, ↓KU_at, refId_row, Frame.ev, Frame.evs, Frame.evOr, Frame.put, Frame.keep, get_nil, get_cons, argFrame, resOf, fillA, Vals.len, Vals.get, Vals.set, Vals.app, Vals.sub, Vals.take, Vals.ofAgg_cons, Vals.ofList, Vals.toInts, Vals.toBools, Vals.toSls, Vals.toStrs, Vals.zeros, Nat.reduceBEq, Nat.reduceAdd, Nat.reduceEqDiff, cond_true, cond_false, Option.map_some, Option.map_none, List.length_cons, List.length_nil, List.replicate, List.set_cons_zero, List.set_cons_succ, Nat.reduceLT, Bool.not_true, Bool.not_false, Int.toNat_natCast, inR, Nat.zero_add, Int.toNat_zero, reduceCtorEq, IntKind.bits, List.nil_append, List.cons_append, Nat.add_zero, Nat.sub_zero, noughts_len, List.map_cons, List.map_nil, zp, zu]) | refine And.intro ?_ (fun hif => (hif trivial).elim) | (intro hif; try (first | contradiction | (exfalso; omega))))
      rw [if_neg (by omega)] at hA2
      refine hQ _ _ m2 (grow00 (hg1.pre0.trans hp2) ?_) ?_ ?_
      · exact (hg1.any _ _).trans (hg2.mono (Nat.le_refl _) (by omega))
      · have e : listA net = plist (colA net) := if_pos hT
        rw [e, colA_cA]; exact hA2.obj (Nat.le_refl _) (Nat.lt_succ_self _)
      · have e : listB net = plist (colB net) := if_pos hT
        rw [e, colB_cB]; exact hB2.obj (Nat.le_refl _) (Nat.lt_succ_self _)

end Go.Abs

/- The row of a caterpillar as a list, told by one number. Own work; no condition. -/
set_option maxRecDepth 100000
set_option linter.unusedSimpArgs false
set_option linter.unusedVariables false
namespace Go.Abs
open Go.Proofs
attribute [local irreducible] awp awpOps awpKeep KeepK awpKeepF KeepF aloop ALoop ACalls ACallq AQuiet retPost retPostA AExit.thn AExit.blk aApp aSt aStA
open Parts

theorem lab_mod {X Y i j : Nat} (h : X % 256 ^ i = Y % 256 ^ i) (hj : j < i) : lab X j = lab Y j := by
  have key : ∀ Z, lab Z j = Z % 256 ^ i % 256 ^ (j + 1) / 256 ^ j := fun Z => by
    rw [lab_div, Nat.mod_mod_of_dvd _ (Nat.pow_dvd_pow 256 hj), Nat.pow_succ, Nat.mod_mul_right_div_self]
  rw [key, key, h]
theorem lab_high {X Y i j : Nat} (h : X / 256 ^ (i + 1) = Y / 256 ^ (i + 1)) (hj : i < j) : lab X j = lab Y j := by
  obtain ⟨d, rfl⟩ : ∃ d, j = i + 1 + d := ⟨j - (i + 1), by omega⟩
  rw [lab_div, lab_div, Nat.pow_add, ← Nat.div_div_eq_div_mul, ← Nat.div_div_eq_div_mul, h]
theorem lab_set {R i v : Nat} (hv : v < 256) (j : Nat) : lab (setD R i v) j = if j = i then v else lab R j := by
  have e : setD R i v = R - lab R i * 256 ^ i + v * 256 ^ i := rfl
  have hd := lab_div R i
  have hp : 0 < 256 ^ i := Nat.pow_pos (by decide)
  have hs : (256 : Nat) ^ (i + 1) = 256 ^ i * 256 := Nat.pow_succ ..
  generalize hP : (256 : Nat) ^ i = P at *
  have h1 := Nat.div_add_mod R P
  have h2 := Nat.div_add_mod (R / P) 256
  have h3 : R / P % 256 ≤ R / P := Nat.mod_le _ _
  have hX : setD R i v = P * (256 * (R / P / 256) + v) + R % P := by
    rw [e, hd, Nat.mul_add]
    have h4 : P * (R / P) = P * (256 * (R / P / 256)) + P * (R / P % 256) := by rw [← Nat.mul_add, h2]
    have h5 : R / P % 256 * P = P * (R / P % 256) := Nat.mul_comm _ _
    have h6 : v * P = P * v := Nat.mul_comm _ _
    rw [h5, h6]
    omega
  have hr := Nat.mod_lt R hp
  have d1 : setD R i v / P = 256 * (R / P / 256) + v := by
    rw [hX, Nat.mul_add_div hp, Nat.div_eq_of_lt hr, Nat.add_zero]
  have d2 : setD R i v % P = R % P := by
    rw [hX, Nat.mul_add_mod, Nat.mod_mod]
  rcases Nat.lt_trichotomy j i with hj | rfl | hj
  · rw [if_neg (by omega)]
    exact lab_mod (i := i) (by rw [hP]; exact d2) hj
  · rw [if_pos rfl, lab_div, hP, d1]
    omega
  · rw [if_neg (by omega)]
    refine lab_high (i := i) ?_ hj
    rw [hs, ← Nat.div_div_eq_div_mul, ← Nat.div_div_eq_div_mul, d1]
    omega

theorem labs_set {R n i v : Nat} (hv : v < 256) : (labs R n).set i (v : Int) = labs (setD R i v) n := by
  refine List.ext_getElem (by rw [List.length_set, labs_len, labs_len]) fun j h1 h2 => ?_
  rw [labs_len] at h2
  have g : ∀ (l : List Int) (h : j < l.length), l[j] = l.getD j 0 := fun l h => by simp [List.getD_eq_getElem?_getD, h]
  rw [List.getElem_set, g _ (by rw [labs_len]; exact h2), g _ (by rw [labs_len]; exact h2), labs_get h2, labs_get h2, lab_set hv]
  by_cases e : i = j
  · rw [if_pos e, if_pos e.symm]
  · rw [if_neg e, if_neg fun c => e c.symm]
theorem labs_zero (n : Nat) : labs 0 n = List.replicate n 0 := by
  refine List.ext_getElem (by rw [labs_len, List.length_replicate]) fun j h1 h2 => ?_
  rw [labs_len] at h1
  have e : (labs 0 n)[j] = (labs 0 n).getD j 0 := by simp [List.getD_eq_getElem?_getD, labs_len, h1]
  rw [e, labs_get h1, lab_div]
  simp

theorem setA_succ (A R k : Nat) : setA A R (k + 1) = setD (setA A R k) (pa A k) k := by
  have e : setA A R (k + 1) = frc (setA A R k) fun R1 => setD R1 (pa A k) k := rfl
  rw [e, frc_eq]
theorem setB_succ (n B R k : Nat) : setB n B R (k + 1) = setD (setB n B R k) (pa B k) (n - 1 - k) := by
  have e : setB n B R (k + 1) = frc (setB n B R k) fun R1 => setD R1 (pa B k) (Nat.sub (Nat.sub n 1) k) := rfl
  rw [e, frc_eq]
  rfl
theorem catRow_is (net : List Int) : catRow net = setB net.length (colB net) (setA (colA net) 0 (colA net % 16)) (colB net % 16) := by
  have e : catRow net = frc (colsP (pk net) net.length) fun S => frc (Nat.mod S big) fun A => frc (Nat.div S big) fun B => setB net.length B (setA A 0 (Nat.mod A 16)) (Nat.mod B 16) := rfl
  simp only [frc_eq] at e
  exact e

/-- The row of a caterpillar. -/
noncomputable def catL (net : List Int) : List Int := if treeOk net = true then labs (catRow net) net.length else []
end Go.Abs
