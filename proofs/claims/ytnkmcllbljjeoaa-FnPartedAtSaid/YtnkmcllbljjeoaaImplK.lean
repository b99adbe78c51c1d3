/- The program's fourth chapter, by contracts: the backbone, the legs and the two columns. Own work; no condition. -/
import Derived.Test.YtnkmcllbljjeoaaImplJ
set_option maxRecDepth 100000
set_option linter.unusedSimpArgs false
set_option linter.unusedVariables false
namespace Go.Abs
open Go.Proofs
attribute [local irreducible] awp awpOps awpKeep KeepK aloop ALoop ACalls ACallq AQuiet retPost retPostA AExit.thn AExit.blk aApp aSt aStA
open Parts

theorem impl_CaterpillarOk_v {s : SV} {net : List Int} {m : Heap} {b : Bool} (hs : IsInts .i64 m s net) (hb : treeOk net = b) : AQuiet Try.prog F.impl_CaterpillarOk [.one (.sl s)] m (.one (.bool b)) := hb ▸ impl_CaterpillarOk s net m hs

theorem nrow_pow {net : List Int} (hN : NetOk net) {k : Nat} (hk : k < net.length) : nrow net k < 2 ^ net.length := by
  have h1 := hN.low k hk
  have h2 := hN.high k hk
  unfold nrow
  have e : ((2 : Int) ^ net.length) = ((2 ^ net.length : Nat) : Int) := by simp
  rw [e] at h2
  omega
theorem ends64 {net : List Int} (hN : NetOk net) (S : Nat) : ends (pk net) S net.length < 64 := by
  have h1 := ends_lt (pk net) S net.length
  exact Nat.lt_of_lt_of_le h1 (Nat.pow_le_pow_right (by decide) hN.six)

set_option maxHeartbeats 4000000 in
theorem impl_Backbone (s : SV) (net : List Int) (m : Heap) (hs : IsInts .i64 m s net) : ARet Try.prog F.impl_Backbone [.one (.sl s)] m Ty.int (.ints .i64 (boneL net)) := by
  refine arn T.impl_Backbone (by rfl) fun hwf => ?_
  cases hT : treeOk net with
  | false =>
    rw [boneL, if_neg (by rw [hT]; exact Bool.noConfusion)]
    repeat' (first | refine xA ?_ | refine xB ?_ | refine xC ?_ | refine xD ?_ | refine xE ?_ | refine xF ?_ | refine xG ?_ | refine xH ?_ | refine xI rfl ?_ | refine xJ ?_ | refine xK ?_ | refine xL ?_ | refine xM rfl ?_ | refine xN rfl ?_ | refine xO rfl ?_ | (first | refine xP rfl (fun hif => ?_) (fun hif => ?_) | refine xQ rfl (fun hif => ?_) (fun hif => ?_) | refine xR rfl (fun hif => ?_) (fun hif => ?_) | refine xS rfl (fun hif => ?_) (fun hif => ?_)) <;> try (first | contradiction | (exfalso; omega)) | (refine hK _ _ ?_; clear hK K) | refine AQuiet.call (impl_CaterpillarOk_v hs hT) trivial ?_ | (refine And.intro (by first | omega | assumption | (constructor <;> omega)) ?_) | (refine And.intro (fun hif => ?_) (fun hif => ?_) <;> try (first | contradiction | (exfalso; omega))) | ((first | refine xT fun K hK => ?_ | refine xU fun K hK => ?_ | refine xV ?_ | refine xW ?_ | refine xX ?_ | refine xY ?_ | refine xZ ?_); simp only [↓awpOps, ↓awpKeep, ↓aop, ↓aopQ, ↓abin, ↓aun, ↓onSome_some, ↓Kont_at, ↓KM_at, ↓KV_at, ↓KU_at, refId_row, Frame.ev, Frame.evs, Frame.evOr, Frame.put, Frame.keep, get_nil, get_cons, argFrame, resOf, fillA, Vals.len, Vals.get, Vals.set, Vals.app, Vals.sub, Vals.take, Vals.ofAgg_cons, Vals.ofList, Vals.toInts, Vals.toBools, Vals.toSls, Vals.toStrs, Vals.zeros, Nat.reduceBEq, Nat.reduceAdd, Nat.reduceEqDiff, cond_true, cond_false, Option.map_some, Option.map_none, List.length_cons, List.length_nil, List.replicate, List.set_cons_zero, List.set_cons_succ, Nat.reduceLT, Bool.not_true, Bool.not_false, Int.toNat_natCast, inR, Nat.zero_add, Int.toNat_zero, reduceCtorEq, IntKind.bits, List.nil_append, List.cons_append, Nat.add_zero, Nat.sub_zero, List.map_cons, List.map_nil, zp, zu]) | refine And.intro ?_ (fun hif => (hif trivial).elim) | (intro hif; try (first | contradiction | (exfalso; omega))))
    exact ⟨_, rfl, Grow.refl hwf _ _, obj_nil _ _ _ _ _⟩
  | true =>
    have hC := cat_is hT
    have hJ := col_is hT
    have hN := hC.ok
    have h6 := hN.six
    rw [boneL, if_pos hT]
    have hset := impl_backboneSet s net m hs hN
    have hS := jS_lt hN
    have hbn := jone_is hJ
    have hends := impl_endSet s net m hs hN hS
    have hE := ends64 hN (jS net)
    have hEp := ends_lt (pk net) (jS net) net.length
    have hst := lp_le hEp
    have hboneN := hC.boneN
    obtain ⟨ref, off, len⟩ := s
    obtain rfl : len = net.length := hs.1
    generalize ends (pk net) (jS net) net.length = E at hends hE hEp hst hbn
    have hleast := impl_leastPlace E hE m
    generalize lp E 6 = st at hst hbn hleast
    generalize jS net = S at hset hS hends hbn
    repeat' (first | refine xA ?_ | refine xB ?_ | refine xC ?_ | refine xD ?_ | refine xE ?_ | refine xF ?_ | refine xG ?_ | refine xH ?_ | refine xI rfl ?_ | refine xJ ?_ | refine xK ?_ | refine xL ?_ | refine xM rfl ?_ | refine xN rfl ?_ | refine xO rfl ?_ | (first | refine xP rfl (fun hif => ?_) (fun hif => ?_) | refine xQ rfl (fun hif => ?_) (fun hif => ?_) | refine xR rfl (fun hif => ?_) (fun hif => ?_) | refine xS rfl (fun hif => ?_) (fun hif => ?_)) <;> try (first | contradiction | (exfalso; omega)) | (refine hK _ _ ?_; clear hK K) | refine AQuiet.call (impl_CaterpillarOk_v hs hT) trivial ?_ | refine AQuiet.call hset trivial ?_ | refine AQuiet.call hends trivial ?_ | refine AQuiet.call hleast trivial ?_ | (refine And.intro (by first | omega | assumption | (constructor <;> omega)) ?_) | (refine And.intro (fun hif => ?_) (fun hif => ?_) <;> try (first | contradiction | (exfalso; omega))) | ((first | refine xT fun K hK => ?_ | refine xU fun K hK => ?_ | refine xV ?_ | refine xW ?_ | refine xX ?_ | refine xY ?_ | refine xZ ?_); simp only [↓awpOps, ↓awpKeep, ↓aop, ↓aopQ, ↓abin, ↓aun, ↓onSome_some, ↓Kont_at, ↓KM_at, ↓KV_at, ↓KU_at, refId_row, Frame.ev, Frame.evs, Frame.evOr, Frame.put, Frame.keep, get_nil, get_cons, argFrame, resOf, fillA, Vals.len, Vals.get, Vals.set, Vals.app, Vals.sub, Vals.take, Vals.ofAgg_cons, Vals.ofList, Vals.toInts, Vals.toBools, Vals.toSls, Vals.toStrs, Vals.zeros, Nat.reduceBEq, Nat.reduceAdd, Nat.reduceEqDiff, cond_true, cond_false, Option.map_some, Option.map_none, List.length_cons, List.length_nil, List.replicate, List.set_cons_zero, List.set_cons_succ, Nat.reduceLT, Bool.not_true, Bool.not_false, Int.toNat_natCast, inR, Nat.zero_add, Int.toNat_zero, reduceCtorEq, IntKind.bits, List.nil_append, List.cons_append, Nat.add_zero, Nat.sub_zero, List.map_cons, List.map_nil, zp, zu]) | refine And.intro ?_ (fun hif => (hif trivial).elim) | (intro hif; try (first | contradiction | (exfalso; omega))))
    refine awp_loop ?_
    refine ALoop.by [0, 3, 4, 5] (fun a : Nat × Nat × Nat × Nat × Int × SV × Nat × Heap => [(0, .one (.sl ⟨ref, off, net.length⟩)), (3, .one (.int .i64 (a.2.2.1 : Int))), (4, .one (.int .i64 a.2.2.2.2.1)), (5, .one (.sl a.2.2.2.2.2.1))]) (fun a => a.2.2.2.2.2.2.2)
      (fun a => jn (pk net) a.1 a.2.1 a.2.2.1 a.2.2.2.1 = boneOf net ∧ a.2.1 ≤ net.length ∧ a.2.2.1 < 64 ∧ a.2.2.2.2.1 = (a.2.1 : Int) - 1 ∧ a.2.2.2.1 % 16 + a.1 ≤ 7 ∧ PIs a.2.2.2.1 ∧ m <+: a.2.2.2.2.2.2.2 ∧ Grow m.length a.2.2.2.2.2.2.2.length m a.2.2.2.2.2.2.2 ∧ Acc Ty.int a.2.2.2.2.2.2.1 a.2.2.2.2.2.2.2 a.2.2.2.2.2.1 (.ints .i64 (plist a.2.2.2.1)) ∧ (a.2.2.2.2.2.1 = SV.nil ∨ m.length ≤ a.2.2.2.2.2.2.1 ∧ a.2.2.2.2.2.2.1 < a.2.2.2.2.2.2.2.length))
      (fun a => a.1) (7, st, S, 0, (st : Int) - 1, SV.nil, m.length, m) rfl rfl ⟨hbn, hst, hS, rfl, (show 0 % 16 + 7 ≤ 7 by decide), ⟨show 0 / 16 < 256 ^ (0 % 16) by decide⟩, List.prefix_rfl, Grow.refl hwf _ _, acc_nil _ _ _ _, .inl rfl⟩ ?_
    rintro ⟨f, at1, left, P, w, s2, id, m2⟩ ⟨hbf, hat, hleft, hw, hPf, hP, hp2, hg2, hA2, hf2⟩ K2 hK2
    simp only at hbf hat hleft hw hPf hP hp2 hg2 hA2 hf2
    cases at1 with
    | zero =>
      rw [jn_none] at hbf
      obtain rfl : w = -1 := by omega
      repeat' (first | refine xA ?_ | refine xB ?_ | refine xC ?_ | refine xD ?_ | refine xE ?_ | refine xF ?_ | refine xG ?_ | refine xH ?_ | refine xI rfl ?_ | refine xJ ?_ | refine xK ?_ | refine xL ?_ | refine xM rfl ?_ | refine xN rfl ?_ | refine xO rfl ?_ | (first | refine xP rfl (fun hif => ?_) (fun hif => ?_) | refine xQ rfl (fun hif => ?_) (fun hif => ?_) | refine xR rfl (fun hif => ?_) (fun hif => ?_) | refine xS rfl (fun hif => ?_) (fun hif => ?_)) <;> try (first | contradiction | (exfalso; omega)) | (refine hK _ _ ?_; clear hK K) | (refine And.intro (by first | omega | assumption | (constructor <;> omega)) ?_) | (refine And.intro (fun hif => ?_) (fun hif => ?_) <;> try (first | contradiction | (exfalso; omega))) | ((first | refine xT fun K hK => ?_ | refine xU fun K hK => ?_ | refine xV ?_ | refine xW ?_ | refine xX ?_ | refine xY ?_ | refine xZ ?_); simp only [↓awpOps, ↓awpKeep, ↓aop, ↓aopQ, ↓abin, ↓aun, ↓onSome_some, ↓Kont_at, ↓KM_at, ↓KV_at, ↓KU_at, refId_row, Frame.ev, Frame.evs, Frame.evOr, Frame.put, Frame.keep, get_nil, get_cons, argFrame, resOf, fillA, Vals.len, Vals.get, Vals.set, Vals.app, Vals.sub, Vals.take, Vals.ofAgg_cons, Vals.ofList, Vals.toInts, Vals.toBools, Vals.toSls, Vals.toStrs, Vals.zeros, Nat.reduceBEq, Nat.reduceAdd, Nat.reduceEqDiff, cond_true, cond_false, Option.map_some, Option.map_none, List.length_cons, List.length_nil, List.replicate, List.set_cons_zero, List.set_cons_succ, Nat.reduceLT, Bool.not_true, Bool.not_false, Int.toNat_natCast, inR, Nat.zero_add, Int.toNat_zero, reduceCtorEq, IntKind.bits, List.nil_append, List.cons_append, Nat.add_zero, Nat.sub_zero, List.map_cons, List.map_nil, zp, zu]) | refine And.intro ?_ (fun hif => (hif trivial).elim) | (intro hif; try (first | contradiction | (exfalso; omega))))
      rw [← hbf]
      exact ⟨_, rfl, grow00 hp2 hg2, acc_obj_in hA2 hf2⟩
    | succ a =>
      obtain rfl : w = (a : Int) := by omega
      cases f with
      | zero =>
        rw [jn_out] at hbf
        omega
      | succ f =>
        rw [jn_next, row_of hN (by omega)] at hbf
        have hpk := pow_bounds (p := a) (by omega)
        have hp64 := pow_lt64 (k := a) (by omega)
        have hl1 := less_lt (2 ^ a) hleft
        have hbl := bandNot_less hleft hp64
        have hpc : ((2 : Int) ^ a) = ((2 ^ a : Nat) : Int) := by simp
        rw [← hpc] at hbl
        obtain ⟨hP', hpl⟩ := psh_is (a := a) hP (by omega) (by omega)
        have hpp := (psh_parts (P := P) (a := a) (by omega)).2
        generalize less left (2 ^ a) = l1 at hbf hl1 hbl
        have hX : bandInt .i64 ((net.getD a 0)) (l1 : Int) = ((Nat.land (nrow net a) l1 : Nat) : Int) := by
          rw [← band_land (nrow_lt hN a) hl1, show ((nrow net a : Nat) : Int) = (net.getD a 0) from Int.toNat_of_nonneg (hN.low a (by omega))]
        have hX64 : Nat.land (nrow net a) l1 < 64 := land_lt l1 (nrow_lt hN a)
        have hXp : Nat.land (nrow net a) l1 < 2 ^ net.length := Nat.lt_of_le_of_lt Nat.and_le_left (nrow_pow hN (by omega))
        have hnl := lp_le hXp
        have hlst : ∀ mx, AQuiet Try.prog F.impl_leastPlace [.one (.int .i64 (bandInt .i64 ((net.getD a 0)) (bandNotInt .i64 (left : Int) (2 ^ a))))] mx (.one (.int .i64 ((lp (Nat.land (nrow net a) l1) 6 : Int) - 1))) := fun mx => by rw [hbl, hX]; exact impl_leastPlace _ hX64 mx
        have hps : ∀ mx, AQuiet Try.prog F.impl_placeSet [.one (.int .i64 (a : Int))] mx (.one (.int .i64 (2 ^ a))) := fun mx => impl_placeSet a (by omega) mx
        generalize lp (Nat.land (nrow net a) l1) 6 = at2 at hbf hnl hlst
        have hpl6 := plist_len P
        generalize plist P = lP at hA2 hpl hpl6
        repeat' (first | refine xA ?_ | refine xB ?_ | refine xC ?_ | refine xD ?_ | refine xE ?_ | refine xF ?_ | refine xG ?_ | refine xH ?_ | refine xI rfl ?_ | refine xJ ?_ | refine xK ?_ | refine xL ?_ | refine xM rfl ?_ | refine xN rfl ?_ | refine xO rfl ?_ | (first | refine xP rfl (fun hif => ?_) (fun hif => ?_) | refine xQ rfl (fun hif => ?_) (fun hif => ?_) | refine xR rfl (fun hif => ?_) (fun hif => ?_) | refine xS rfl (fun hif => ?_) (fun hif => ?_)) <;> try (first | contradiction | (exfalso; omega)) | (refine hK _ _ ?_; clear hK K) | (refine app_int hg2.wf hA2 (by omega) fun s3 m3 f3 hp3 hg3 hA3 hf3 hl3 => ?_; have hs3 := hs.pre (hp2.trans hp3)) | refine AQuiet.call (hps _) trivial ?_ | refine AQuiet.call (hlst _) trivial ?_ | refine onSome_of (hs3.2 _ (by omega)) ?_ | (refine And.intro (by first | omega | assumption | (constructor <;> omega)) ?_) | (refine And.intro (fun hif => ?_) (fun hif => ?_) <;> try (first | contradiction | (exfalso; omega))) | ((first | refine xT fun K hK => ?_ | refine xU fun K hK => ?_ | refine xV ?_ | refine xW ?_ | refine xX ?_ | refine xY ?_ | refine xZ ?_); simp only [↓awpOps, ↓awpKeep, ↓aop, ↓aopQ, ↓abin, ↓aun, ↓onSome_some, ↓Kont_at, ↓KM_at, ↓KV_at, ↓KU_at, refId_row, Frame.ev, Frame.evs, Frame.evOr, Frame.put, Frame.keep, get_nil, get_cons, argFrame, resOf, fillA, Vals.len, Vals.get, Vals.set, Vals.app, Vals.sub, Vals.take, Vals.ofAgg_cons, Vals.ofList, Vals.toInts, Vals.toBools, Vals.toSls, Vals.toStrs, Vals.zeros, Nat.reduceBEq, Nat.reduceAdd, Nat.reduceEqDiff, cond_true, cond_false, Option.map_some, Option.map_none, List.length_cons, List.length_nil, List.replicate, List.set_cons_zero, List.set_cons_succ, Nat.reduceLT, Bool.not_true, Bool.not_false, Int.toNat_natCast, inR, Nat.zero_add, Int.toNat_zero, reduceCtorEq, IntKind.bits, List.nil_append, List.cons_append, Nat.add_zero, Nat.sub_zero, List.map_cons, List.map_nil, zp, zu]) | refine And.intro ?_ (fun hif => (hif trivial).elim) | (intro hif; try (first | contradiction | (exfalso; omega))))
        have hle := hp3.length_le
        refine hK2 (f, at2, l1, psh P a, (at2 : Int) - 1, s3, f3, m3) _ _ (by rw [hbl]; rfl) rfl ⟨hbf, hnl, hl1, rfl, by simp only; omega, hP', hp2.trans hp3, ?_, by rw [← hpl] at hA3; exact hA3, .inr ⟨?_, hl3⟩⟩ (by simp only; omega)
        · refine (hg2.mono (Nat.le_refl _) hle).trans (hg3 _ _ ?_)
          rcases hf2 with h | h
          · exact .inl h
          · exact .inr ⟨h.1, by omega⟩
        · have := hg2.le
          rcases hf3 with ⟨e, h⟩ | h
          · rcases hf2 with h' | h'
            · exact absurd h' h
            · simp only; omega
          · simp only; omega

/-- append(s, x...), of what may be nothing to what may be nothing. -/
theorem app_ints_k {s x : SV} {m : Heap} {K : XV → Heap → Prop} {e : TypeId} {l r : List Int} {f a b : Nat} (hwf : m.wf) (hs : Acc e f m s (.ints .i64 l)) (hx : Obj e a b m x (.ints .i64 r)) (hlen : l.length + r.length ≤ 1000000)
    (hk : ∀ (s' : SV) (m' : Heap) (f' : Nat), m <+: m' → (∀ a b, (s = SV.nil ∨ a ≤ f ∧ f < b) → Grow a b m m') → Acc e f' m' s' (.ints .i64 (l ++ r)) → (f' = f ∧ s ≠ SV.nil) ∨ m.length ≤ f' → (s' = SV.nil ∨ f' < m'.length) → K (.one (.sl s')) m') : aApp e s x m K := by
  by_cases hn : s = SV.nil
  · subst hn
    have hl0 : l.length = 0 := by
      rcases hs with ⟨_, h⟩ | ⟨id, h, _⟩
      · exact h
      · cases h
    rcases hx with ⟨rfl, h0⟩ | ⟨xi, fx, _, _, rfl, hrx⟩
    · simp only [Vals.len] at h0
      simp only [aApp]
      exact hk _ m m.length List.prefix_rfl (fun a b _ => Grow.refl hwf a b) (.inl ⟨rfl, by simp only [Vals.len, List.length_append]; omega⟩) (.inr (Nat.le_refl _)) (.inl rfl)
    · by_cases hr : r.length = 0
      · simp only [aApp, hrx, Nat.zero_add, Vals.len]
        exact ⟨⟨Nat.le_refl _, by omega⟩, fun _ => hk _ m m.length List.prefix_rfl (fun a b _ => Grow.refl hwf a b) (.inl ⟨rfl, by simp only [Vals.len, List.length_append]; omega⟩) (.inr (Nat.le_refl _)) (.inl rfl), fun c => by omega⟩
      · exact app_acc hwf hs rfl hrx rfl (by simp only [Vals.len]; omega) (by simp only [Vals.len]; omega) (by simp [Vals.app]) fun s' m' f' hp hg ha hf hl => hk s' m' f' hp hg ha hf (.inr hl)
  · have hfl : f < m.length := by
      rcases hs with ⟨h, _⟩ | ⟨id, _, h2, _⟩
      · exact absurd h hn
      · have := hwf id _ h2; have := get_lt h2; simp only at *; omega
    refine app_obj hwf hs hn hx (by simp only [Vals.len]; omega) (by simp [Vals.app]) fun s' m' hp hg ha hne => hk s' m' f hp (fun a b hab => ?_) ha (.inl ⟨rfl, hn⟩) (.inr (by have := hp.length_le; omega))
    rcases hab with h | h
    · exact absurd h hn
    · exact hg.mono h.1 h.2

/-- The two columns under way: two slices in a variable of its own, each of a family of its own. -/
structure Cols (c : Nat) (m : Heap) (sA sB : SV) (fA fB : Nat) (A B : List Int) : Prop where
  wf : m.wf
  row : m[c]? = some ⟨Ty.Arr2_Sl_int, c, true, .sls [sA, sB]⟩
  accA : Acc Ty.int fA m sA (.ints .i64 A)
  accB : Acc Ty.int fB m sB (.ints .i64 B)
  inA : sA = SV.nil ∨ c < fA ∧ fA < m.length
  inB : sB = SV.nil ∨ c < fB ∧ fB < m.length
  ne : sA ≠ SV.nil → sB ≠ SV.nil → fA ≠ fB

theorem Acc.keep {e : TypeId} {f a b : Nat} {m m' : Heap} {s : SV} {v : Vals} (h : Acc e f m s v) (g : Grow a b m m') (hf : s = SV.nil ∨ (f < a ∨ b ≤ f) ∧ f < m.length) : Acc e f m' s v := by
  rcases hf with rfl | hf
  · rcases h with h | ⟨id, h, _⟩
    · exact .inl h
    · cases h
  · exact h.grow g hf.1 hf.2
theorem Cols.grow0 {c fA fB : Nat} {m m' : Heap} {sA sB : SV} {A B : List Int} (h : Cols c m sA sB fA fB A B) (g : Grow 0 0 m m') : Cols c m' sA sB fA fB A B := by
  have hle := g.le
  refine ⟨g.wf, row_prefix0 g.pre0 h.row, h.accA.keep g ?_, h.accB.keep g ?_, ?_, ?_, h.ne⟩
  · rcases h.inA with h | h
    · exact .inl h
    · exact .inr ⟨.inr (Nat.zero_le _), h.2⟩
  · rcases h.inB with h | h
    · exact .inl h
    · exact .inr ⟨.inr (Nat.zero_le _), h.2⟩
  · rcases h.inA with h | h
    · exact .inl h
    · exact .inr ⟨h.1, by omega⟩
  · rcases h.inB with h | h
    · exact .inl h
    · exact .inr ⟨h.1, by omega⟩

theorem Cols.setA {c fA fB f' : Nat} {m m' m'' : Heap} {sA sB s' : SV} {A A' B : List Int} (h : Cols c m sA sB fA fB A B) (hp : m <+: m') (hg : ∀ a b, (sA = SV.nil ∨ a ≤ fA ∧ fA < b) → Grow a b m m') (hA : Acc Ty.int f' m' s' (.ints .i64 A')) (hf : (f' = fA ∧ sA ≠ SV.nil) ∨ m.length ≤ f') (hl : s' = SV.nil ∨ f' < m'.length)
    (g2 : Grow c (c + 1) m' m'') (hl2 : m''.length = m'.length) (r2 : m''[c]? = some ⟨Ty.Arr2_Sl_int, c, true, .sls [s', sB]⟩) : Cols c m'' s' sB f' fB A' B ∧ Grow c m''.length m m'' := by
  have hc := get_lt h.row
  have hle := hp.length_le
  have hcf : c < f' := by
    rcases hf with ⟨e, hn⟩ | hf
    · rcases h.inA with h | h
      · exact absurd h hn
      · omega
    · omega
  refine ⟨⟨g2.wf, r2, hA.keep g2 ?_, ?_, ?_, ?_, fun h1 h2 e => ?_⟩, (hg c m''.length ?_).trans (g2.mono (Nat.le_refl _) (by omega))⟩
  · rcases hl with h | h
    · exact .inl h
    · exact .inr ⟨.inr (by omega), h⟩
  · by_cases hB : sB = SV.nil
    · exact (h.accB.keep (hg 0 (fA + 1) (.inr ⟨Nat.zero_le _, Nat.lt_succ_self _⟩)) (.inl hB)).keep g2 (.inl hB)
    · have hb := h.inB.resolve_left hB
      have key : Acc Ty.int fB m' sB (.ints .i64 B) := by
        by_cases hA0 : sA = SV.nil
        · exact h.accB.keep (hg 0 0 (.inl hA0)) (.inr ⟨.inr (Nat.zero_le _), hb.2⟩)
        · have hne := h.ne hA0 hB
          exact h.accB.keep (hg fA (fA + 1) (.inr ⟨Nat.le_refl _, Nat.lt_succ_self _⟩)) (.inr ⟨by omega, hb.2⟩)
      exact key.keep g2 (.inr ⟨.inr (by omega), by omega⟩)
  · rcases hl with h | h
    · exact .inl h
    · exact .inr ⟨hcf, by omega⟩
  · rcases h.inB with h | h
    · exact .inl h
    · exact .inr ⟨h.1, by omega⟩
  · rcases hf with ⟨e1, hn⟩ | hf
    · exact h.ne hn h2 (by omega)
    · have := (h.inB.resolve_left h2).2
      omega
  · rcases h.inA with h | h
    · exact .inl h
    · exact .inr ⟨by omega, by omega⟩

theorem Cols.setB {c fA fB f' : Nat} {m m' m'' : Heap} {sA sB s' : SV} {A B B' : List Int} (h : Cols c m sA sB fA fB A B) (hp : m <+: m') (hg : ∀ a b, (sB = SV.nil ∨ a ≤ fB ∧ fB < b) → Grow a b m m') (hB : Acc Ty.int f' m' s' (.ints .i64 B')) (hf : (f' = fB ∧ sB ≠ SV.nil) ∨ m.length ≤ f') (hl : s' = SV.nil ∨ f' < m'.length)
    (g2 : Grow c (c + 1) m' m'') (hl2 : m''.length = m'.length) (r2 : m''[c]? = some ⟨Ty.Arr2_Sl_int, c, true, .sls [sA, s']⟩) : Cols c m'' sA s' fA f' A B' ∧ Grow c m''.length m m'' := by
  have hc := get_lt h.row
  have hle := hp.length_le
  have hcf : c < f' := by
    rcases hf with ⟨e, hn⟩ | hf
    · rcases h.inB with h | h
      · exact absurd h hn
      · omega
    · omega
  refine ⟨⟨g2.wf, r2, ?_, hB.keep g2 ?_, ?_, ?_, fun h1 h2 e => ?_⟩, (hg c m''.length ?_).trans (g2.mono (Nat.le_refl _) (by omega))⟩
  · by_cases hA : sA = SV.nil
    · exact (h.accA.keep (hg 0 (fB + 1) (.inr ⟨Nat.zero_le _, Nat.lt_succ_self _⟩)) (.inl hA)).keep g2 (.inl hA)
    · have ha := h.inA.resolve_left hA
      have key : Acc Ty.int fA m' sA (.ints .i64 A) := by
        by_cases hB0 : sB = SV.nil
        · exact h.accA.keep (hg 0 0 (.inl hB0)) (.inr ⟨.inr (Nat.zero_le _), ha.2⟩)
        · have hne := h.ne hA hB0
          exact h.accA.keep (hg fB (fB + 1) (.inr ⟨Nat.le_refl _, Nat.lt_succ_self _⟩)) (.inr ⟨by omega, ha.2⟩)
      exact key.keep g2 (.inr ⟨.inr (by omega), by omega⟩)
  · rcases hl with h | h
    · exact .inl h
    · exact .inr ⟨.inr (by omega), h⟩
  · rcases h.inA with h | h
    · exact .inl h
    · exact .inr ⟨h.1, by omega⟩
  · rcases hl with h | h
    · exact .inl h
    · exact .inr ⟨hcf, by omega⟩
  · rcases hf with ⟨e1, hn⟩ | hf
    · exact h.ne h1 hn (by omega)
    · have := (h.inA.resolve_left h1).2
      omega
  · rcases h.inB with h | h
    · exact .inl h
    · exact .inr ⟨by omega, by omega⟩

set_option maxHeartbeats 16000000 in
theorem impl_TwoColumns {s : SV} {net : List Int} {m : Heap} {K : XV → Heap → Prop} (hs : IsInts .i64 m s net)
    (hQ : ∀ (sA sB : SV) (m' : Heap) (fA fB : Nat), Grow 0 0 m m' → fA ≠ fB → m.length ≤ fA → m.length ≤ fB → Obj Ty.int fA (fA + 1) m' sA (.ints .i64 (listA net)) → Obj Ty.int fB (fB + 1) m' sB (.ints .i64 (listB net)) → K (.tup [.sl sA, .sl sB]) m') : ACalls Try.prog F.impl_TwoColumns [.one (.sl s)] m K := by
  refine ACalls.wf fun hwf => afn T.impl_TwoColumns (by rfl) ?_
  cases hT : treeOk net with
  | false =>
    have hlA : listA net = [] := if_neg (by rw [hT]; exact Bool.noConfusion)
    have hlB : listB net = [] := if_neg (by rw [hT]; exact Bool.noConfusion)
    repeat' (first | refine xA ?_ | refine xB ?_ | refine xC ?_ | refine xD ?_ | refine xE ?_ | refine xF ?_ | refine xG ?_ | refine xH ?_ | refine xI rfl ?_ | refine xJ ?_ | refine xK ?_ | refine xL ?_ | refine xM rfl ?_ | refine xN rfl ?_ | refine xO rfl ?_ | (first | refine xP rfl (fun hif => ?_) (fun hif => ?_) | refine xQ rfl (fun hif => ?_) (fun hif => ?_) | refine xR rfl (fun hif => ?_) (fun hif => ?_) | refine xS rfl (fun hif => ?_) (fun hif => ?_)) <;> try (first | contradiction | (exfalso; omega)) | (refine hK _ _ ?_; clear hK K) | refine AQuiet.call (impl_CaterpillarOk_v hs hT) trivial ?_ | (refine And.intro (by first | omega | assumption | (constructor <;> omega)) ?_) | (refine And.intro (fun hif => ?_) (fun hif => ?_) <;> try (first | contradiction | (exfalso; omega))) | ((first | refine xT fun K hK => ?_ | refine xU fun K hK => ?_ | refine xV ?_ | refine xW ?_ | refine xX ?_ | refine xY ?_ | refine xZ ?_); simp only [↓awpOps, ↓awpKeep, ↓aop, ↓aopQ, ↓abin, ↓aun, ↓onSome_some, ↓Kont_at, ↓KM_at, ↓KV_at, ↓KU_at, refId_row, Frame.ev, Frame.evs, Frame.evOr, Frame.put, Frame.keep, get_nil, get_cons, argFrame, resOf, fillA, Vals.len, Vals.get, Vals.set, Vals.app, Vals.sub, Vals.take, Vals.ofAgg_cons, Vals.ofList, Vals.toInts, Vals.toBools, Vals.toSls, Vals.toStrs, Vals.zeros, Nat.reduceBEq, Nat.reduceAdd, Nat.reduceEqDiff, cond_true, cond_false, Option.map_some, Option.map_none, List.length_cons, List.length_nil, List.replicate, List.set_cons_zero, List.set_cons_succ, Nat.reduceLT, Bool.not_true, Bool.not_false, Int.toNat_natCast, inR, Nat.zero_add, Int.toNat_zero, reduceCtorEq, IntKind.bits, List.nil_append, List.cons_append, Nat.add_zero, Nat.sub_zero, List.map_cons, List.map_nil, zp, zu]) | refine And.intro ?_ (fun hif => (hif trivial).elim) | (intro hif; try (first | contradiction | (exfalso; omega))))
    refine hQ _ _ m m.length (m.length + 1) (Grow.refl hwf _ _) (by omega) (by omega) (by omega) ?_ ?_
    · rw [hlA]; exact obj_nil _ _ _ _ _
    · rw [hlB]; exact obj_nil _ _ _ _ _
  | true =>
    have hC := cat_is hT
    have hJ := col_is hT
    have hN := hC.ok
    have h6 := hN.six
    have hL1 := hC.bone1
    have hLn := hC.boneN
    have hbT := boneL_of hT
    have hbl := plist_len (boneOf net)
    have hS := jS_lt hN
    obtain ⟨ref, off, len⟩ := s
    obtain rfl : len = net.length := hs.1
    repeat' (first | refine xA ?_ | refine xB ?_ | refine xC ?_ | refine xD ?_ | refine xE ?_ | refine xF ?_ | refine xG ?_ | refine xH ?_ | refine xI rfl ?_ | refine xJ ?_ | refine xK ?_ | refine xL ?_ | refine xM rfl ?_ | refine xN rfl ?_ | refine xO rfl ?_ | (first | refine xP rfl (fun hif => ?_) (fun hif => ?_) | refine xQ rfl (fun hif => ?_) (fun hif => ?_) | refine xR rfl (fun hif => ?_) (fun hif => ?_) | refine xS rfl (fun hif => ?_) (fun hif => ?_)) <;> try (first | contradiction | (exfalso; omega)) | (refine hK _ _ ?_; clear hK K) | refine AQuiet.call (impl_CaterpillarOk_v hs hT) trivial ?_ | (refine ARet.call (impl_Backbone _ net _ hs) fun s1 m1 g1 o1 => ?_; rw [hbT] at o1; obtain ⟨bref, boff, blen⟩ := s1; obtain rfl : blen = boneOf net % 16 := o1.isInts.1.trans hbl; have hset := impl_backboneSet _ net m1 (hs.pre g1.pre0) hN) | refine AQuiet.call hset trivial ?_ | (refine And.intro (by first | omega | assumption | (constructor <;> omega)) ?_) | (refine And.intro (fun hif => ?_) (fun hif => ?_) <;> try (first | contradiction | (exfalso; omega))) | ((first | refine xT fun K hK => ?_ | refine xU fun K hK => ?_ | refine xV ?_ | refine xW ?_ | refine xX ?_ | refine xY ?_ | refine xZ ?_); simp only [↓awpOps, ↓awpKeep, ↓aop, ↓aopQ, ↓abin, ↓aun, ↓onSome_some, ↓Kont_at, ↓KM_at, ↓KV_at, ↓KU_at, refId_row, Frame.ev, Frame.evs, Frame.evOr, Frame.put, Frame.keep, get_nil, get_cons, argFrame, resOf, fillA, Vals.len, Vals.get, Vals.set, Vals.app, Vals.sub, Vals.take, Vals.ofAgg_cons, Vals.ofList, Vals.toInts, Vals.toBools, Vals.toSls, Vals.toStrs, Vals.zeros, Nat.reduceBEq, Nat.reduceAdd, Nat.reduceEqDiff, cond_true, cond_false, Option.map_some, Option.map_none, List.length_cons, List.length_nil, List.replicate, List.set_cons_zero, List.set_cons_succ, Nat.reduceLT, Bool.not_true, Bool.not_false, Int.toNat_natCast, inR, Nat.zero_add, Int.toNat_zero, reduceCtorEq, IntKind.bits, List.nil_append, List.cons_append, Nat.add_zero, Nat.sub_zero, List.map_cons, List.map_nil, zp, zu]) | refine And.intro ?_ (fun hif => (hif trivial).elim) | (intro hif; try (first | contradiction | (exfalso; omega))))
    have hbI := o1.isInts
    have hwf1 := g1.wf
    have hle1 := g1.le
    have gc := Grow.push hwf1 Ty.Arr2_Sl_int true (.sls [SV.nil, SV.nil])
    refine awp_loop ?_
    refine ALoop.by [0, 4, 5, 6, 7] (fun a : Nat × SV × SV × Nat × Nat × Heap => [(0, .one (.sl ⟨ref, off, net.length⟩)), (4, .one (.sl ⟨bref, boff, boneOf net % 16⟩)), (5, .one (.int .i64 (jS net : Int))), (6, .one (.ptr m1.length 0)), (7, .one (.int .i64 a.1))]) (fun a => a.2.2.2.2.2)
      (fun a => a.1 ≤ boneOf net % 16 ∧ m1 <+: a.2.2.2.2.2 ∧ Grow m1.length a.2.2.2.2.2.length m1 a.2.2.2.2.2 ∧ Cols m1.length a.2.2.2.2.2 a.2.1 a.2.2.1 a.2.2.2.1 a.2.2.2.2.1 (plist (jA net a.1)) (plist (jB net a.1)))
      (fun a => boneOf net % 16 - a.1) (0, SV.nil, SV.nil, 0, 0, _) rfl rfl ⟨Nat.zero_le _, gc.pre0, gc.any _ _, ⟨gc.wf, get_last _ _, by simp only; rw [(jA_zero net).1]; exact acc_nil _ _ _ _, by simp only; rw [(jA_zero net).2]; exact acc_nil _ _ _ _, .inl rfl, .inl rfl, fun c => absurd rfl c⟩⟩ ?_
    rintro ⟨k, sA, sB, fA, fB, mo⟩ ⟨hk, hpo, hgo, hCo⟩ K1 hK1
    simp only at hk hpo hgo hCo
    by_cases hlt : k < boneOf net % 16
    · obtain ⟨_, _, hstep⟩ := jcols_step hC hJ k hk
      have hstep := hstep hlt
      have hlens := hJ.lens k hk
      have hlA : (plist (jA net k)).length ≤ 6 := by rw [plist_len]; exact hlens.1
      have hlB : (plist (jB net k)).length ≤ 6 := by rw [plist_len]; exact hlens.2
      have hxk := hC.boneLt k hlt
      have hbk : ∀ mx, m1 <+: mx → Heap.at mx bref.id (boff + k) = some (.int .i64 (pa (boneOf net) k : Int)) := fun mx hx => by
        have := (hbI.pre hx).2 k (by omega)
        rw [show (plist (boneOf net)).getD k 0 = (pa (boneOf net) k : Int) from plist_get hlt] at this
        exact this
      have hnx : ∀ mx, m1 <+: mx → Heap.at mx ref.id (off + pa (boneOf net) k) = some (.int .i64 (net.getD (pa (boneOf net) k) 0)) := fun mx hx => (hs.pre (g1.pre0.trans hx)).2 _ hxk
      have hX64 : less (nrow net (pa (boneOf net) k)) (jS net) < 64 := less_lt _ (nrow_lt hN _)
      have hpo6 : ∀ mx, ARet Try.prog F.impl_placesOf [.one (.int .i64 (bandNotInt .i64 (net.getD (pa (boneOf net) k) 0) (jS net : Int)))] mx Ty.int (.ints .i64 (jX net k)) := fun mx => by
        rw [show net.getD (pa (boneOf net) k) 0 = ((nrow net (pa (boneOf net) k) : Nat) : Int) from (Int.toNat_of_nonneg (hN.low _ hxk)).symm, bandNot_less (nrow_lt hN _) hS]
        exact impl_placesOf _ hX64 mx
      have hXl : (jX net k).length ≤ 6 := pl_len _ 6
      have hnext : ∀ (tA tB : SV) (gA gB : Nat) (m9 : Heap), Grow m1.length m9.length mo m9 → Cols m1.length m9 tA tB gA gB (plist (jA net (k + 1))) (plist (jB net (k + 1))) → (k + 1 ≤ boneOf net % 16 ∧ m1 <+: m9 ∧ Grow m1.length m9.length m1 m9 ∧ Cols m1.length m9 tA tB gA gB (plist (jA net (k + 1))) (plist (jB net (k + 1)))) := fun tA tB gA gB m9 hg hc =>
        ⟨hlt, hg.pre hpo hwf1 (Nat.le_refl _), (hgo.mono (Nat.le_refl _) hg.le).trans hg, hc⟩
      generalize hxe : pa (boneOf net) k = x at *
      generalize jX net k = X at *
      generalize plist (jA net k) = A at *
      generalize plist (jB net k) = B at *
      have gN := Grow.push hCo.wf Ty.int true (.ints .i64 [(x : Int)])
      have hC1 := hCo.grow0 gN
      have hob : Obj Ty.int mo.length (mo.length + 1) (mo ++ [⟨Ty.int, mo.length, true, .ints .i64 [(x : Int)]⟩]) ⟨.row mo.length, 0, 1⟩ (.ints .i64 [(x : Int)]) := obj_new _ _ rfl (Nat.le_refl _) (Nat.lt_succ_self _)
      have hbk0 := hbk mo hpo
      by_cases hpar : k % 2 = 0
      · have hI : (k : Int) % 2 = 0 := by omega
        have hatA : Heap.at mo m1.length ((k : Int) % 2).toNat = some (.sl sA) := by rw [hI]; exact at_row hCo.row (by simp [Vals.len])
        repeat' (first | refine xA ?_ | refine xB ?_ | refine xC ?_ | refine xD ?_ | refine xE ?_ | refine xF ?_ | refine xG ?_ | refine xH ?_ | refine xI rfl ?_ | refine xJ ?_ | refine xK ?_ | refine xL ?_ | refine xM rfl ?_ | refine xN rfl ?_ | refine xO rfl ?_ | (first | refine xP rfl (fun hif => ?_) (fun hif => ?_) | refine xQ rfl (fun hif => ?_) (fun hif => ?_) | refine xR rfl (fun hif => ?_) (fun hif => ?_) | refine xS rfl (fun hif => ?_) (fun hif => ?_)) <;> try (first | contradiction | (exfalso; omega)) | (refine hK _ _ ?_; clear hK K) | (refine keepk_go (by first | exact prefix_push _ _ | assumption) ?_) | refine onSome_of hatA ?_ | refine onSome_of hbk0 ?_ | (refine app_ints_k gN.wf hC1.accA hob (by simp only [List.length_cons, List.length_nil]; omega) fun s3 m3 f3 hp3 hg3 hA3 hf3 hl3 => ?_) | (refine st_row (v' := .sls [s3, sB]) (hg3 0 (fA + 1) (.inr ⟨Nat.zero_le _, Nat.lt_succ_self _⟩)).wf (row_prefix0 hp3 hC1.row) (by simp only [Vals.len, List.length_cons, List.length_nil]; omega) (by rw [hI]; rfl) fun m5 g5 l5 r5 => ?_; obtain ⟨hC5, hg5⟩ := hC1.setA hp3 hg3 hA3 hf3 hl3 g5 l5 r5; have hpo5 := hg5.pre (hpo.trans gN.pre0) hwf1 (Nat.le_refl _); have hbk5 := hbk m5 hpo5; have hnx5 := hnx m5 hpo5; have hat5 : Heap.at m5 m1.length (1 - (k : Int) % 2).toNat = some (.sl sB) := by rw [hI]; exact at_row hC5.row (by simp [Vals.len])) | refine onSome_of hat5 ?_ | refine onSome_of hbk5 ?_ | refine onSome_of hnx5 ?_ | (refine ARet.call (hpo6 m5) fun s6 m6 g6 o6 => ?_; have hC6 := hC5.grow0 g6; have hp6 := g6.pre0) | (refine app_ints_k hC6.wf hC6.accB o6 (by omega) fun s7 m7 f7 hp7 hg7 hB7 hf7 hl7 => ?_) | (refine st_row (v' := .sls [s3, s7]) (hg7 0 (fB + 1) (.inr ⟨Nat.zero_le _, Nat.lt_succ_self _⟩)).wf (row_prefix0 hp7 hC6.row) (by simp only [Vals.len, List.length_cons, List.length_nil]; omega) (by rw [hI]; rfl) fun m9 g9 l9 r9 => ?_; obtain ⟨hC9, hg9⟩ := hC6.setB hp7 hg7 hB7 hf7 hl7 g9 l9 r9) | (refine And.intro (by first | omega | assumption | (constructor <;> omega)) ?_) | (refine And.intro (fun hif => ?_) (fun hif => ?_) <;> try (first | contradiction | (exfalso; omega))) | ((first | refine xT fun K hK => ?_ | refine xU fun K hK => ?_ | refine xV ?_ | refine xW ?_ | refine xX ?_ | refine xY ?_ | refine xZ ?_); simp only [↓awpOps, ↓awpKeep, ↓aop, ↓aopQ, ↓abin, ↓aun, ↓onSome_some, ↓Kont_at, ↓KM_at, ↓KV_at, ↓KU_at, refId_row, Frame.ev, Frame.evs, Frame.evOr, Frame.put, Frame.keep, get_nil, get_cons, argFrame, resOf, fillA, Vals.len, Vals.get, Vals.set, Vals.app, Vals.sub, Vals.take, Vals.ofAgg_cons, Vals.ofList, Vals.toInts, Vals.toBools, Vals.toSls, Vals.toStrs, Vals.zeros, Nat.reduceBEq, Nat.reduceAdd, Nat.reduceEqDiff, cond_true, cond_false, Option.map_some, Option.map_none, List.length_cons, List.length_nil, List.replicate, List.set_cons_zero, List.set_cons_succ, Nat.reduceLT, Bool.not_true, Bool.not_false, Int.toNat_natCast, inR, Nat.zero_add, Int.toNat_zero, reduceCtorEq, IntKind.bits, List.nil_append, List.cons_append, Nat.add_zero, Nat.sub_zero, List.map_cons, List.map_nil, zp, zu]) | refine And.intro ?_ (fun hif => (hif trivial).elim) | (intro hif; try (first | contradiction | (exfalso; omega))))
        all_goals
          have hl9 := hg9.le
          have hl6 := g6.le
          refine hK1 (k + 1, s3, s7, f3, f7, m9) _ _ rfl rfl (hnext s3 s7 f3 f7 m9 (((gN.any _ _).trans (hg5.mono (Nat.le_refl _) (by omega))).trans ((g6.any _ _).trans hg9)) ?_) (by simp only; omega)
          rw [(hstep.1 hpar).1, (hstep.1 hpar).2]
          exact hC9
      · have hI : (k : Int) % 2 = 1 := by omega
        have hatB : Heap.at mo m1.length ((k : Int) % 2).toNat = some (.sl sB) := by rw [hI]; exact at_row hCo.row (by simp [Vals.len])
        repeat' (first | refine xA ?_ | refine xB ?_ | refine xC ?_ | refine xD ?_ | refine xE ?_ | refine xF ?_ | refine xG ?_ | refine xH ?_ | refine xI rfl ?_ | refine xJ ?_ | refine xK ?_ | refine xL ?_ | refine xM rfl ?_ | refine xN rfl ?_ | refine xO rfl ?_ | (first | refine xP rfl (fun hif => ?_) (fun hif => ?_) | refine xQ rfl (fun hif => ?_) (fun hif => ?_) | refine xR rfl (fun hif => ?_) (fun hif => ?_) | refine xS rfl (fun hif => ?_) (fun hif => ?_)) <;> try (first | contradiction | (exfalso; omega)) | (refine hK _ _ ?_; clear hK K) | (refine keepk_go (by first | exact prefix_push _ _ | assumption) ?_) | refine onSome_of hatB ?_ | refine onSome_of hbk0 ?_ | (refine app_ints_k gN.wf hC1.accB hob (by simp only [List.length_cons, List.length_nil]; omega) fun s3 m3 f3 hp3 hg3 hA3 hf3 hl3 => ?_) | (refine st_row (v' := .sls [sA, s3]) (hg3 0 (fB + 1) (.inr ⟨Nat.zero_le _, Nat.lt_succ_self _⟩)).wf (row_prefix0 hp3 hC1.row) (by simp only [Vals.len, List.length_cons, List.length_nil]; omega) (by rw [hI]; rfl) fun m5 g5 l5 r5 => ?_; obtain ⟨hC5, hg5⟩ := hC1.setB hp3 hg3 hA3 hf3 hl3 g5 l5 r5; have hpo5 := hg5.pre (hpo.trans gN.pre0) hwf1 (Nat.le_refl _); have hbk5 := hbk m5 hpo5; have hnx5 := hnx m5 hpo5; have hat5 : Heap.at m5 m1.length (1 - (k : Int) % 2).toNat = some (.sl sA) := by rw [hI]; exact at_row hC5.row (by simp [Vals.len])) | refine onSome_of hat5 ?_ | refine onSome_of hbk5 ?_ | refine onSome_of hnx5 ?_ | (refine ARet.call (hpo6 m5) fun s6 m6 g6 o6 => ?_; have hC6 := hC5.grow0 g6; have hp6 := g6.pre0) | (refine app_ints_k hC6.wf hC6.accA o6 (by omega) fun s7 m7 f7 hp7 hg7 hB7 hf7 hl7 => ?_) | (refine st_row (v' := .sls [s7, s3]) (hg7 0 (fA + 1) (.inr ⟨Nat.zero_le _, Nat.lt_succ_self _⟩)).wf (row_prefix0 hp7 hC6.row) (by simp only [Vals.len, List.length_cons, List.length_nil]; omega) (by rw [hI]; rfl) fun m9 g9 l9 r9 => ?_; obtain ⟨hC9, hg9⟩ := hC6.setA hp7 hg7 hB7 hf7 hl7 g9 l9 r9) | (refine And.intro (by first | omega | assumption | (constructor <;> omega)) ?_) | (refine And.intro (fun hif => ?_) (fun hif => ?_) <;> try (first | contradiction | (exfalso; omega))) | ((first | refine xT fun K hK => ?_ | refine xU fun K hK => ?_ | refine xV ?_ | refine xW ?_ | refine xX ?_ | refine xY ?_ | refine xZ ?_); simp only [↓awpOps, ↓awpKeep, ↓aop, ↓aopQ, ↓abin, ↓aun, ↓onSome_some, ↓Kont_at, ↓KM_at, ↓KV_at, ↓KU_at, refId_row, Frame.ev, Frame.evs, Frame.evOr, Frame.put, Frame.keep, get_nil, get_cons, argFrame, resOf, fillA, Vals.len, Vals.get, Vals.set, Vals.app, Vals.sub, Vals.take, Vals.ofAgg_cons, Vals.ofList, Vals.toInts, Vals.toBools, Vals.toSls, Vals.toStrs, Vals.zeros, Nat.reduceBEq, Nat.reduceAdd, Nat.reduceEqDiff, cond_true, cond_false, Option.map_some, Option.map_none, List.length_cons, List.length_nil, List.replicate, List.set_cons_zero, List.set_cons_succ, Nat.reduceLT, Bool.not_true, Bool.not_false, Int.toNat_natCast, inR, Nat.zero_add, Int.toNat_zero, reduceCtorEq, IntKind.bits, List.nil_append, List.cons_append, Nat.add_zero, Nat.sub_zero, List.map_cons, List.map_nil, zp, zu]) | refine And.intro ?_ (fun hif => (hif trivial).elim) | (intro hif; try (first | contradiction | (exfalso; omega))))
        all_goals
          have hl9 := hg9.le
          have hl6 := g6.le
          refine hK1 (k + 1, s7, s3, f7, f3, m9) _ _ rfl rfl (hnext s7 s3 f7 f3 m9 (((gN.any _ _).trans (hg5.mono (Nat.le_refl _) (by omega))).trans ((g6.any _ _).trans hg9)) ?_) (by simp only; omega)
          rw [(hstep.2 hpar).1, (hstep.2 hpar).2]
          exact hC9
    · obtain rfl : k = boneOf net % 16 := by omega
      have hat0 : Heap.at mo m1.length 0 = some (.sl sA) := at_row hCo.row (by simp [Vals.len])
      have hat1 : Heap.at mo m1.length 1 = some (.sl sB) := at_row hCo.row (by simp [Vals.len])
      repeat' (first | refine xA ?_ | refine xB ?_ | refine xC ?_ | refine xD ?_ | refine xE ?_ | refine xF ?_ | refine xG ?_ | refine xH ?_ | refine xI rfl ?_ | refine xJ ?_ | refine xK ?_ | refine xL ?_ | refine xM rfl ?_ | refine xN rfl ?_ | refine xO rfl ?_ | (first | refine xP rfl (fun hif => ?_) (fun hif => ?_) | refine xQ rfl (fun hif => ?_) (fun hif => ?_) | refine xR rfl (fun hif => ?_) (fun hif => ?_) | refine xS rfl (fun hif => ?_) (fun hif => ?_)) <;> try (first | contradiction | (exfalso; omega)) | (refine hK _ _ ?_; clear hK K) | refine onSome_of hat0 ?_ | refine onSome_of hat1 ?_ | (refine And.intro (by first | omega | assumption | (constructor <;> omega)) ?_) | (refine And.intro (fun hif => ?_) (fun hif => ?_) <;> try (first | contradiction | (exfalso; omega))) | ((first | refine xT fun K hK => ?_ | refine xU fun K hK => ?_ | refine xV ?_ | refine xW ?_ | refine xX ?_ | refine xY ?_ | refine xZ ?_); simp only [↓awpOps, ↓awpKeep, ↓aop, ↓aopQ, ↓abin, ↓aun, ↓onSome_some, ↓Kont_at, ↓KM_at, ↓KV_at, ↓KU_at, refId_row, Frame.ev, Frame.evs, Frame.evOr, Frame.put, Frame.keep, get_nil, get_cons, argFrame, resOf, fillA, Vals.len, Vals.get, Vals.set, Vals.app, Vals.sub, Vals.take, Vals.ofAgg_cons, Vals.ofList, Vals.toInts, Vals.toBools, Vals.toSls, Vals.toStrs, Vals.zeros, Nat.reduceBEq, Nat.reduceAdd, Nat.reduceEqDiff, cond_true, cond_false, Option.map_some, Option.map_none, List.length_cons, List.length_nil, List.replicate, List.set_cons_zero, List.set_cons_succ, Nat.reduceLT, Bool.not_true, Bool.not_false, Int.toNat_natCast, inR, Nat.zero_add, Int.toNat_zero, reduceCtorEq, IntKind.bits, List.nil_append, List.cons_append, Nat.add_zero, Nat.sub_zero, List.map_cons, List.map_nil, zp, zu]) | refine And.intro ?_ (fun hif => (hif trivial).elim) | (intro hif; try (first | contradiction | (exfalso; omega))))
      have hcl := get_lt hCo.row
      have hA := hCo.accA
      have hB := hCo.accB
      rw [(jA_last hJ).1] at hA
      rw [(jA_last hJ).2] at hB
      have hA1 := hC.colA1
      have hne : sA ≠ SV.nil := fun c => by
        rcases hA with ⟨_, h⟩ | ⟨id, h, _⟩
        · simp only [Vals.len, plist_len] at h; omega
        · rw [c] at h; cases h
      have hinA := hCo.inA.resolve_left hne
      have hgf : Grow 0 0 m mo := grow00 (g1.pre0.trans hpo) ((g1.any _ _).trans (hgo.mono hle1 (Nat.le_refl _)))
      have eA : listA net = plist (colA net) := if_pos hT
      have eB : listB net = plist (colB net) := if_pos hT
      by_cases hB0 : sB = SV.nil
      · refine hQ sA sB mo fA mo.length hgf (by omega) (by omega) (by omega) ?_ ?_
        · rw [eA]; exact hA.obj (Nat.le_refl _) (Nat.lt_succ_self _)
        · rw [eB]; exact acc_obj_in hB (.inl hB0)
      · have hinB := hCo.inB.resolve_left hB0
        refine hQ sA sB mo fA fB hgf (hCo.ne hne hB0) (by omega) (by omega) ?_ ?_
        · rw [eA]; exact hA.obj (Nat.le_refl _) (Nat.lt_succ_self _)
        · rw [eB]; exact hB.obj (Nat.le_refl _) (Nat.lt_succ_self _)

end Go.Abs
