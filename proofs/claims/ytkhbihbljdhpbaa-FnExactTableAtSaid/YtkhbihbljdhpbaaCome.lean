/- How many bits are set, and that all numbers of a row differ just if so many are. Own work; no condition. -/
import Derived.Test.YtkhbihbljdhpbaaGrace3
set_option maxRecDepth 100000
set_option linter.unusedSimpArgs false
set_option linter.unusedVariables false
namespace Go.Abs
open Go.Proofs
attribute [local irreducible] awp awpOps awpKeep KeepK awpKeepF KeepF aloop ALoop ACalls ACallq AQuiet retPost retPostA AExit.thn AExit.blk aApp aSt aStA

theorem nodup_few {α : Type} [DecidableEq α] : ∀ {A B : List α}, A.Nodup → (∀ x ∈ A, x ∈ B) → A.length ≤ B.length
  | [], _, _, _ => Nat.zero_le _
  | a :: A, B, hA, h => by
    have hn := List.nodup_cons.1 hA
    have ha := h a (by simp)
    have ih := nodup_few (A := A) (B := B.erase a) hn.2 fun x hx => (List.mem_erase_of_ne fun e => hn.1 (by rw [← e]; exact hx)).2 (h x (by simp [hx]))
    rw [List.length_erase_of_mem ha] at ih
    have : 0 < B.length := List.length_pos_of_mem ha
    rw [List.length_cons]
    omega
theorem nodup_map' {α β : Type} {f : α → β} : ∀ {l : List α}, l.Nodup → (∀ x ∈ l, ∀ y ∈ l, f x = f y → x = y) → (l.map f).Nodup
  | [], _, _ => List.nodup_nil
  | a :: l, h, hf => by
    have hn := List.nodup_cons.1 h
    refine List.nodup_cons.2 ⟨fun c => ?_, nodup_map' hn.2 fun x hx y hy => hf x (by simp [hx]) y (by simp [hy])⟩
    obtain ⟨x, hx, e⟩ := List.mem_map.1 c
    have := hf x (by simp [hx]) a (by simp) e
    exact hn.1 (this ▸ hx)
theorem sig_tail {f : Nat → Int} {i : Nat} (h : ∀ v, i ≤ v → f v = 0) : ∀ {n : Nat}, i ≤ n → sig n f = sig i f
  | 0, hn => by rw [Nat.le_zero.1 hn]
  | n + 1, hn => by
    by_cases e : i = n + 1
    · rw [e]
    · rw [sig_succ, sig_tail h (show i ≤ n by omega), h n (by omega), Int.add_zero]
theorem come_full {f : Nat → Int} (h : ∀ v, f v ≤ 1) : ∀ {n : Nat}, sig n f ≤ n ∧ (sig n f = n → ∀ v, v < n → f v = 1)
  | 0 => ⟨Int.le_refl _, fun _ v hv => absurd hv (Nat.not_lt_zero _)⟩
  | n + 1 => by
    obtain ⟨h1, h2⟩ := come_full h (n := n)
    have := h n
    rw [sig_succ]
    refine ⟨by omega, fun e v hv => ?_⟩
    rcases Nat.lt_succ_iff_lt_or_eq.1 hv with c | rfl
    · exact h2 (by omega) v c
    · omega
theorem sig_ones {f : Nat → Int} : ∀ {n : Nat}, (∀ v, v < n → f v = 1) → sig n f = n
  | 0, _ => rfl
  | n + 1, h => by rw [sig_succ, sig_ones fun v hv => h v (by omega), h n (Nat.lt_succ_self _)]; rfl

/-- Is the bit set? -/
def bz (x v : Nat) : Int := if x.testBit v = true then 1 else 0
theorem bz_le (x v : Nat) : bz x v ≤ 1 := by unfold bz; split <;> decide
theorem bz_div (x i : Nat) : ((x / 2 ^ i % 2 : Nat) : Int) = bz x i := by
  unfold bz
  rw [Nat.testBit_eq_decide_div_mod_eq]
  have h := Nat.mod_lt (x / 2 ^ i) (show 0 < 2 by decide)
  by_cases c : x / 2 ^ i % 2 = 1
  · rw [c]; simp
  · rw [show x / 2 ^ i % 2 = 0 by omega]; simp
theorem bz_high {x i v : Nat} (h : x < 2 ^ i) (hv : i ≤ v) : bz x v = 0 := by
  unfold bz
  rw [Nat.testBit_lt_two_pow (Nat.lt_of_lt_of_le h (Nat.pow_le_pow_right (by decide) hv))]
  rfl

theorem spec_l1Size_w (x : Nat) (hx : x < 2 ^ 20) (m : Heap) : AQuiet Try.prog F.spec_l1Size [.one (.int .i64 x)] m (.one (.int .i64 (sig 20 (bz x)))) := by
  refine aqn T.spec_l1Size (by rfl) ?_
  repeat' (first | refine xA ?_ | refine xB ?_ | refine xC ?_ | refine xD ?_ | refine xE ?_ | refine xF ?_ | refine xG ?_ | refine xH ?_ | refine xI rfl ?_ | refine xJ ?_ | refine xK ?_ | refine xL ?_ | refine xM rfl ?_ | refine xN rfl ?_ | refine xO rfl ?_ | (first | refine xP rfl (fun hif => ?_) (fun hif => ?_) | refine xQ rfl (fun hif => ?_) (fun hif => ?_) | refine xR rfl (fun hif => ?_) (fun hif => ?_) | refine xS rfl (fun hif => ?_) (fun hif => ?_)) <;> try (first | contradiction | (exfalso; omega)) | (refine hK _ _ ?_; clear hK K) | (refine And.intro (by first | omega | assumption | (constructor <;> omega)) ?_) | (refine And.intro (fun hif => ?_) (fun hif => ?_) <;> try (first | contradiction | (exfalso; omega))) | ((first | refine xT fun K hK => ?_ | refine xU fun K hK => ?_ | refine yB (fun K hK => ?_) (fun K hK => ?_) | refine xV ?_ | refine yA ?_ | refine xW ?_ | refine xX ?_ | refine xY ?_ | refine xZ ?_) <;> simp only [↓awpOps, ↓awpKeep, ↓awpKeepF, ↓aop, ↓aopQ, ↓abin, ↓aun, ↓onSome_some, ↓Kont_at, ↓KM_at, ↓KV_at, ↓KU_at, refId_row, Frame.ev, Frame.evs, Frame.evOr, Frame.put, Frame.keep, get_nil, get_cons, argFrame, resOf, fillA, Vals.len, Vals.get, Vals.set, Vals.app, Vals.sub, Vals.take, Vals.ofAgg_cons, Vals.ofList, Vals.toInts, Vals.toBools, Vals.toSls, Vals.toStrs, Vals.zeros, Nat.reduceBEq, Nat.reduceAdd, Nat.reduceEqDiff, cond_true, cond_false, Option.map_some, Option.map_none, List.length_cons, List.length_nil, List.replicate, List.set_cons_zero, List.set_cons_succ, Nat.reduceLT, Bool.not_true, Bool.not_false, Int.toNat_natCast, inR, Nat.zero_add, Int.toNat_zero, reduceCtorEq, IntKind.bits, List.nil_append, List.cons_append, Nat.add_zero, Nat.sub_zero, noughts_len, List.map_cons, List.map_nil, zp, zu]) | refine And.intro ?_ (fun hif => (hif trivial).elim) | (intro hif; try (first | contradiction | (exfalso; omega))))
  refine awp_loop ?_
  refine ALoop.by [0, 3] (fun i : Nat => [(0, .one (.int .i64 ((x / 2 ^ i : Nat) : Int))), (3, .one (.int .i64 (sig i (bz x))))]) (fun _ => m) (fun i => i ≤ 20) (fun i => 20 - i) 0 (by rw [Nat.pow_zero, Nat.div_one]; rfl) rfl (Nat.zero_le _) ?_
  rintro i hi K1 hK1
  have hle : x / 2 ^ i ≤ x := Nat.div_le_self _ _
  have hx2 : x < 1048576 := hx
  have hd := bz_div x i
  have hb := come_full (bz_le x) (n := i)
  have h0 : 0 ≤ sig i (bz x) := sig_nonneg fun v _ => by unfold bz; split <;> decide
  have hs : sig (i + 1) (bz x) = sig i (bz x) + bz x i := sig_succ ..
  have hdd : x / 2 ^ (i + 1) = x / 2 ^ i / 2 := by rw [Nat.pow_succ, Nat.div_div_eq_div_mul]
  have hz0 : x / 2 ^ i = 0 → x < 2 ^ i := fun e => by
    rcases Nat.div_eq_zero_iff.1 e with c | c
    · exact absurd c (Nat.pos_iff_ne_zero.1 (Nat.pow_pos (by decide)))
    · exact c
  have h20 : i = 20 → x / 2 ^ i = 0 := fun e => by rw [e]; exact Nat.div_eq_of_lt hx
  have hb1 := bz_le x i
  have hb0 : 0 ≤ bz x i := by unfold bz; split <;> decide
  by_cases hz : x / 2 ^ i = 0
  · rw [sig_tail (fun v hv => bz_high (hz0 hz) hv) hi]
    generalize x / 2 ^ i = y at *
    subst hz
    repeat' (first | refine xA ?_ | refine xB ?_ | refine xC ?_ | refine xD ?_ | refine xE ?_ | refine xF ?_ | refine xG ?_ | refine xH ?_ | refine xI rfl ?_ | refine xJ ?_ | refine xK ?_ | refine xL ?_ | refine xM rfl ?_ | refine xN rfl ?_ | refine xO rfl ?_ | (first | refine xP rfl (fun hif => ?_) (fun hif => ?_) | refine xQ rfl (fun hif => ?_) (fun hif => ?_) | refine xR rfl (fun hif => ?_) (fun hif => ?_) | refine xS rfl (fun hif => ?_) (fun hif => ?_)) <;> try (first | contradiction | (exfalso; omega)) | (refine hK _ _ ?_; clear hK K) | (refine And.intro (by first | omega | assumption | (constructor <;> omega)) ?_) | (refine And.intro (fun hif => ?_) (fun hif => ?_) <;> try (first | contradiction | (exfalso; omega))) | ((first | refine xT fun K hK => ?_ | refine xU fun K hK => ?_ | refine yB (fun K hK => ?_) (fun K hK => ?_) | refine xV ?_ | refine yA ?_ | refine xW ?_ | refine xX ?_ | refine xY ?_ | refine xZ ?_) <;> simp only [↓awpOps, ↓awpKeep, ↓awpKeepF, ↓aop, ↓aopQ, ↓abin, ↓aun, ↓onSome_some, ↓Kont_at, ↓KM_at, ↓KV_at, ↓KU_at, refId_row, Frame.ev, Frame.evs, Frame.evOr, Frame.put, Frame.keep, get_nil, get_cons, argFrame, resOf, fillA, Vals.len, Vals.get, Vals.set, Vals.app, Vals.sub, Vals.take, Vals.ofAgg_cons, Vals.ofList, Vals.toInts, Vals.toBools, Vals.toSls, Vals.toStrs, Vals.zeros, Nat.reduceBEq, Nat.reduceAdd, Nat.reduceEqDiff, cond_true, cond_false, Option.map_some, Option.map_none, List.length_cons, List.length_nil, List.replicate, List.set_cons_zero, List.set_cons_succ, Nat.reduceLT, Bool.not_true, Bool.not_false, Int.toNat_natCast, inR, Nat.zero_add, Int.toNat_zero, reduceCtorEq, IntKind.bits, List.nil_append, List.cons_append, Nat.add_zero, Nat.sub_zero, noughts_len, List.map_cons, List.map_nil, zp, zu]) | refine And.intro ?_ (fun hif => (hif trivial).elim) | (intro hif; try (first | contradiction | (exfalso; omega))))
    (first | exact List.prefix_rfl | exact ⟨rfl, List.prefix_rfl⟩ | exact ⟨by simp, List.prefix_rfl⟩)
  · have hi20 : i < 20 := by
      rcases Nat.lt_or_ge i 20 with c | c
      · exact c
      · exact absurd (h20 (by omega)) hz
    have hyd : ((x / 2 ^ i : Nat) : Int) % 2 = bz x i := by rw [← hd]; rfl
    have hyq : ((x / 2 ^ i : Nat) : Int) / 2 = ((x / 2 ^ (i + 1) : Nat) : Int) := by rw [hdd]; rfl
    have hbu := hb.1
    clear hb hz0 h20 hd hdd
    generalize x / 2 ^ i = y at *
    repeat' (first | refine xA ?_ | refine xB ?_ | refine xC ?_ | refine xD ?_ | refine xE ?_ | refine xF ?_ | refine xG ?_ | refine xH ?_ | refine xI rfl ?_ | refine xJ ?_ | refine xK ?_ | refine xL ?_ | refine xM rfl ?_ | refine xN rfl ?_ | refine xO rfl ?_ | (first | refine xP rfl (fun hif => ?_) (fun hif => ?_) | refine xQ rfl (fun hif => ?_) (fun hif => ?_) | refine xR rfl (fun hif => ?_) (fun hif => ?_) | refine xS rfl (fun hif => ?_) (fun hif => ?_)) <;> try (first | contradiction | (exfalso; omega)) | (refine hK _ _ ?_; clear hK K) | (refine And.intro (by first | omega | assumption | (constructor <;> omega)) ?_) | (refine And.intro (fun hif => ?_) (fun hif => ?_) <;> try (first | contradiction | (exfalso; omega))) | ((first | refine xT fun K hK => ?_ | refine xU fun K hK => ?_ | refine yB (fun K hK => ?_) (fun K hK => ?_) | refine xV ?_ | refine yA ?_ | refine xW ?_ | refine xX ?_ | refine xY ?_ | refine xZ ?_) <;> simp only [↓awpOps, ↓awpKeep, ↓awpKeepF, ↓aop, ↓aopQ, ↓abin, ↓aun, ↓onSome_some, ↓Kont_at, ↓KM_at, ↓KV_at, ↓KU_at, refId_row, Frame.ev, Frame.evs, Frame.evOr, Frame.put, Frame.keep, get_nil, get_cons, argFrame, resOf, fillA, Vals.len, Vals.get, Vals.set, Vals.app, Vals.sub, Vals.take, Vals.ofAgg_cons, Vals.ofList, Vals.toInts, Vals.toBools, Vals.toSls, Vals.toStrs, Vals.zeros, Nat.reduceBEq, Nat.reduceAdd, Nat.reduceEqDiff, cond_true, cond_false, Option.map_some, Option.map_none, List.length_cons, List.length_nil, List.replicate, List.set_cons_zero, List.set_cons_succ, Nat.reduceLT, Bool.not_true, Bool.not_false, Int.toNat_natCast, inR, Nat.zero_add, Int.toNat_zero, reduceCtorEq, IntKind.bits, List.nil_append, List.cons_append, Nat.add_zero, Nat.sub_zero, noughts_len, List.map_cons, List.map_nil, zp, zu]) | refine And.intro ?_ (fun hif => (hif trivial).elim) | (intro hif; try (first | contradiction | (exfalso; omega))))
    all_goals exact hK1 (i + 1) _ _ (by rw [hs, ← hyd, ← hyq]; rfl) rfl (by omega) (by omega)

theorem came_count {q : Nat} {R : List Int} {came : Nat} (hl : R.length = q) (hq : q ≤ 15) (hr : ∀ i, i < q → 0 ≤ (R.getD i 0) ∧ (R.getD i 0) < (q : Int)) (hc : ∀ v : Nat, came.testBit v = true ↔ ∃ i, i < q ∧ ((R.getD i 0)).toNat = v) : sig 20 (bz came) = (q : Int) ↔ Once R := by
  have ht : sig 20 (bz came) = sig q (bz came) := sig_tail (fun v hv => by
    unfold bz
    rw [if_neg]
    intro c
    obtain ⟨i, h1, h2⟩ := (hc v).1 c
    have := hr i h1
    omega) (by omega)
  rw [ht]
  constructor
  · intro h
    have hall := (come_full (bz_le came)).2 h
    have hin : ∀ v, v < q → ∃ i, i < q ∧ (R.getD i 0) = (v : Int) := fun v hv => by
      have h1 := hall v hv
      unfold bz at h1
      split at h1
      · rename_i c
        obtain ⟨i, g1, g2⟩ := (hc v).1 c
        have := hr i g1
        exact ⟨i, g1, by omega⟩
      · omega
    intro k hk j hj e
    have hkq : k < q := by omega
    have hlen := nodup_few (A := (List.range q).map fun v : Nat => (v : Int)) (B := R.eraseIdx k) (nodup_map' List.nodup_range fun x _ y _ e => by omega) fun x hx => by
      obtain ⟨v, hv, rfl⟩ := List.mem_map.1 hx
      obtain ⟨i, h1, h2⟩ := hin v (List.mem_range.1 hv)
      have g : ∀ i, (h : i < R.length) → R[i] = (R.getD i 0) := fun i h => by rw [List.getD_eq_getElem?_getD, List.getElem?_eq_getElem h]; rfl
      rw [List.mem_eraseIdx_iff_getElem]
      by_cases c : i = k
      · exact ⟨j, by omega, by omega, by rw [g j (by omega), e, ← c]; exact h2⟩
      · exact ⟨i, by omega, c, by rw [g i (by omega)]; exact h2⟩
    rw [List.length_map, List.length_range, List.length_eraseIdx_of_lt hk] at hlen
    omega
  · intro h
    have hn := (nodup_range q (R.map fun z => z + 1) (once_iff_nodup.1 (once_map _ (fun a b e => by omega) h)) fun x hx => by
      obtain ⟨z, hz, rfl⟩ := List.mem_map.1 hx
      obtain ⟨i, hi, rfl⟩ := mem_getI hz
      have := hr i (by omega)
      omega).2 (by rw [List.length_map]; exact hl)
    refine sig_ones fun v hv => ?_
    unfold bz
    rw [if_pos]
    refine (hc v).2 ?_
    obtain ⟨z, hz, ez⟩ := List.mem_map.1 (hn.1 ((v : Int) + 1) (by omega) (by omega))
    obtain ⟨i, hi, rfl⟩ := mem_getI hz
    exact ⟨i, by omega, by omega⟩

/-- What has come of the first k sums. -/
def orTo (R : List Int) : Nat → Nat
  | 0 => 0
  | k + 1 => orTo R k ||| 2 ^ ((R.getD k 0)).toNat
theorem orTo_bit (R : List Int) (v : Nat) : ∀ k, (orTo R k).testBit v = true ↔ ∃ i, i < k ∧ ((R.getD i 0)).toNat = v
  | 0 => by
    rw [orTo, Nat.zero_testBit]
    exact ⟨fun h => Bool.noConfusion h, fun ⟨i, hi, _⟩ => absurd hi (Nat.not_lt_zero _)⟩
  | k + 1 => by
    rw [orTo, Nat.testBit_or, Bool.or_eq_true, Nat.testBit_two_pow, decide_eq_true_eq, orTo_bit R v k]
    constructor
    · rintro (⟨i, h1, h2⟩ | h)
      · exact ⟨i, by omega, h2⟩
      · exact ⟨k, Nat.lt_succ_self _, h⟩
    · rintro ⟨i, h1, h2⟩
      rcases Nat.lt_succ_iff_lt_or_eq.1 h1 with c | rfl
      · exact .inl ⟨i, c, h2⟩
      · exact .inr h2
theorem orTo_lt {R : List Int} {k : Nat} (h : ∀ i, i < k → ((R.getD i 0)).toNat < 20) : orTo R k < 2 ^ 20 :=
  Nat.lt_pow_two_of_testBit (n := 20) _ fun v hv => by
    cases hb : (orTo R k).testBit v with
    | false => rfl
    | true =>
      obtain ⟨i, h1, h2⟩ := (orTo_bit R v k).1 hb
      have := h i h1
      omega

end Go.Abs
