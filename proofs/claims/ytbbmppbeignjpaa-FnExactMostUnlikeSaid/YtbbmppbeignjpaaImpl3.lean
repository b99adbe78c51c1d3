/- A row that has begun, as the program keeps it: its contracts. Own work; no condition. -/
import Derived.Test.YtbbmppbeignjpaaSpecG2
set_option maxRecDepth 100000
set_option linter.unusedSimpArgs false
set_option linter.unusedVariables false
namespace Go.Abs
open Go.Proofs
attribute [local irreducible] awp awpOps awpKeep KeepK awpKeepF KeepF aloop ALoop ACalls ACallq AQuiet retPost retPostA AExit.thn AExit.blk aApp aSt aStA

/-! ### Marks -/

theorem impl_markOf (p : Nat) (hp : p < 62) (m : Heap) : AQuiet Try.prog F.impl_markOf [.one (.int .i64 p)] m (.one (.int .i64 (2 ^ p))) := by
  refine aqn T.impl_markOf (by rfl) ?_
  have h1 := pow_bounds hp
  repeat' (first | refine xA ?_ | refine xB ?_ | refine xC ?_ | refine xD ?_ | refine xE ?_ | refine xF ?_ | refine xG ?_ | refine xH ?_ | refine xI rfl ?_ | refine xJ ?_ | refine xK ?_ | refine xL ?_ | refine xM rfl ?_ | refine xN rfl ?_ | refine xO rfl ?_ | (first | refine xP rfl (fun hif => ?_) (fun hif => ?_) | refine xQ rfl (fun hif => ?_) (fun hif => ?_) | refine xR rfl (fun hif => ?_) (fun hif => ?_) | refine xS rfl (fun hif => ?_) (fun hif => ?_)) <;> try (first | contradiction | (exfalso; omega)) | (refine hK _ _ ?_; clear hK K) | (refine And.intro (by first | omega | assumption | (constructor <;> omega)) ?_) | (refine And.intro (fun hif => ?_) (fun hif => ?_) <;> try (first | contradiction | (exfalso; omega))) | ((first | refine xT fun K hK => ?_ | refine xU fun K hK => ?_ | refine yB (fun K hK => ?_) (fun K hK => ?_) | refine xV ?_ | refine yA ?_ | refine xW ?_ | refine xX ?_ | refine xY ?_ | refine xZ ?_) <;> simp only [↓awpOps, ↓awpKeep, ↓awpKeepF, ↓aop, ↓aopQ, ↓abin, ↓aun, ↓onSome_some, ↓Kont_at, ↓KM_at, ↓KV_at, ↓KU_at, refId_row, Frame.ev, Frame.evs, Frame.evOr, Frame.put, Frame.keep, get_nil, get_cons, argFrame, resOf, fillA, Vals.len, Vals.get, Vals.set, Vals.app, Vals.sub, Vals.take, Vals.ofAgg_cons, Vals.ofList, Vals.toInts, Vals.toBools, Vals.toSls, Vals.toStrs, Vals.zeros, Nat.reduceBEq, Nat.reduceAdd, Nat.reduceEqDiff, cond_true, cond_false, Option.map_some, Option.map_none, List.length_cons, List.length_nil, List.replicate, List.set_cons_zero, List.set_cons_succ, Nat.reduceLT, Bool.not_true, Bool.not_false, Int.toNat_natCast, inR, Nat.zero_add, Int.toNat_zero, reduceCtorEq, IntKind.bits, List.nil_append, List.cons_append, Nat.add_zero, Nat.sub_zero, noughts_len, List.map_cons, List.map_nil, zp, zu]) | refine And.intro ?_ (fun hif => (hif trivial).elim) | (intro hif; try (first | contradiction | (exfalso; omega))))
  · (first | exact List.prefix_rfl | exact ⟨rfl, List.prefix_rfl⟩ | exact ⟨by simp, List.prefix_rfl⟩)

theorem impl_hasMark (n : Int) (p : Nat) (h0 : 0 ≤ n) (h1 : n < 4611686018427387904) (hp : p < 62) (m : Heap) : AQuiet Try.prog F.impl_hasMark [.one (.int .i64 n), .one (.int .i64 p)] m (.one (.bool (bit n p))) := by
  refine aqn T.impl_hasMark (by rfl) ?_
  repeat' (first | refine xA ?_ | refine xB ?_ | refine xC ?_ | refine xD ?_ | refine xE ?_ | refine xF ?_ | refine xG ?_ | refine xH ?_ | refine xI rfl ?_ | refine xJ ?_ | refine xK ?_ | refine xL ?_ | refine xM rfl ?_ | refine xN rfl ?_ | refine xO rfl ?_ | (first | refine xP rfl (fun hif => ?_) (fun hif => ?_) | refine xQ rfl (fun hif => ?_) (fun hif => ?_) | refine xR rfl (fun hif => ?_) (fun hif => ?_) | refine xS rfl (fun hif => ?_) (fun hif => ?_)) <;> try (first | contradiction | (exfalso; omega)) | (refine hK _ _ ?_; clear hK K) | refine AQuiet.call (impl_markOf p hp _) trivial ?_ | (refine And.intro (by first | omega | assumption | (constructor <;> omega)) ?_) | (refine And.intro (fun hif => ?_) (fun hif => ?_) <;> try (first | contradiction | (exfalso; omega))) | ((first | refine xT fun K hK => ?_ | refine xU fun K hK => ?_ | refine yB (fun K hK => ?_) (fun K hK => ?_) | refine xV ?_ | refine yA ?_ | refine xW ?_ | refine xX ?_ | refine xY ?_ | refine xZ ?_) <;> simp only [↓awpOps, ↓awpKeep, ↓awpKeepF, ↓aop, ↓aopQ, ↓abin, ↓aun, ↓onSome_some, ↓Kont_at, ↓KM_at, ↓KV_at, ↓KU_at, refId_row, Frame.ev, Frame.evs, Frame.evOr, Frame.put, Frame.keep, get_nil, get_cons, argFrame, resOf, fillA, Vals.len, Vals.get, Vals.set, Vals.app, Vals.sub, Vals.take, Vals.ofAgg_cons, Vals.ofList, Vals.toInts, Vals.toBools, Vals.toSls, Vals.toStrs, Vals.zeros, Nat.reduceBEq, Nat.reduceAdd, Nat.reduceEqDiff, cond_true, cond_false, Option.map_some, Option.map_none, List.length_cons, List.length_nil, List.replicate, List.set_cons_zero, List.set_cons_succ, Nat.reduceLT, Bool.not_true, Bool.not_false, Int.toNat_natCast, inR, Nat.zero_add, Int.toNat_zero, reduceCtorEq, IntKind.bits, List.nil_append, List.cons_append, Nat.add_zero, Nat.sub_zero, noughts_len, List.map_cons, List.map_nil, zp, zu]) | refine And.intro ?_ (fun hif => (hif trivial).elim) | (intro hif; try (first | contradiction | (exfalso; omega))))
  · rw [has_bit h0 h1 hp]
    exact ⟨rfl, List.prefix_rfl⟩

/-- The numbers of a row, marked. -/
def numsFrom (a : Nat) : List Int → Nat
  | [] => a
  | z :: l => numsFrom (a ||| 2 ^ z.toNat) l
def nums (row : List Int) : Nat := numsFrom 0 row

theorem numsFrom_push (n : Int) : ∀ (l : List Int) (a : Nat), numsFrom a (l ++ [n]) = numsFrom a l ||| 2 ^ n.toNat
  | [], a => rfl
  | z :: l, a => numsFrom_push n l _
theorem numsFrom_bit (v : Nat) : ∀ (l : List Int) (a : Nat), (numsFrom a l).testBit v = true ↔ a.testBit v = true ∨ ∃ i, i < l.length ∧ ((l.getD i 0)).toNat = v
  | [], a => by simp [numsFrom]
  | z :: l, a => by
    rw [numsFrom, numsFrom_bit v l, Nat.testBit_or, Bool.or_eq_true, Nat.testBit_two_pow, decide_eq_true_eq]
    constructor
    · rintro ((h | h) | ⟨i, h1, h2⟩)
      · exact .inl h
      · exact .inr ⟨0, by simp, h⟩
      · exact .inr ⟨i + 1, by simpa using h1, by simpa using h2⟩
    · rintro (h | ⟨i, h1, h2⟩)
      · exact .inl (.inl h)
      · cases i with
        | zero => exact .inl (.inr (by simpa using h2))
        | succ i => exact .inr ⟨i, by simpa using h1, by simpa using h2⟩
theorem nums_bit (row : List Int) (v : Nat) : (nums row).testBit v = true ↔ ∃ i, i < row.length ∧ ((row.getD i 0)).toNat = v := by
  rw [nums, numsFrom_bit]
  simp
theorem numsFrom_lt : ∀ (l : List Int) (a : Nat), a < 2147483648 → (∀ i, i < l.length → (l.getD i 0) ≤ 30) → numsFrom a l < 2147483648
  | [], a, h, _ => h
  | z :: l, a, h, hl => by
    refine numsFrom_lt l _ (Nat.or_lt_two_pow (n := 31) h (Nat.pow_lt_pow_right (by decide) ?_)) fun i hi => by have := hl (i + 1) (by simpa using hi); simpa using this
    have := hl 0 (by simp)
    simp only [List.getD_cons_zero] at this
    omega
theorem nums_lt {row : List Int} (h : ∀ i, i < row.length → (row.getD i 0) ≤ 30) : nums row < 2147483648 := numsFrom_lt row 0 (by decide) h

theorem nums_fits {net row : List Int} {n came : Nat} (hrow : ∀ i, i < row.length → 0 ≤ (row.getD i 0)) (h : (nums row).testBit n = true) : fitsTo net row (n : Int) came row.length = none := by
  obtain ⟨i, h1, h2⟩ := (nums_bit row n).1 h
  cases hf : fitsTo net row (n : Int) came row.length with
  | none => rfl
  | some c => exact absurd (by have := hrow i h1; omega) ((fits_some hf).1 i h1)
theorem nums_new {row : List Int} {n : Nat} (h : (nums row).testBit n = false) : ∀ i, i < row.length → (row.getD i 0) ≠ (n : Int) := fun i hi e => by
  rw [(nums_bit row n).2 ⟨i, hi, by omega⟩] at h
  cases h

theorem dist_30 {a b : Int} (ha : 0 ≤ a ∧ a ≤ 30) (hb : 0 ≤ b ∧ b ≤ 30) : 0 ≤ dist a b ∧ dist a b ≤ 30 := by unfold dist; split <;> omega
theorem dist_turned (a b : Int) : dist a b = dist b a := by unfold dist; split <;> split <;> omega
theorem fits_lt31 {net row : List Int} {n : Int} {came : Nat} (hn : 0 ≤ n ∧ n ≤ 30) (hrow : ∀ i, i < row.length → 0 ≤ (row.getD i 0) ∧ (row.getD i 0) ≤ 30) (hc : came < 2147483648) : ∀ {k c : Nat}, k ≤ row.length → fitsTo net row n came k = some c → c < 2147483648
  | 0, c, _, h => by cases h; exact hc
  | k + 1, c, hk, h => by
    rw [fitsTo] at h
    cases hk0 : fitsTo net row n came k with
    | none => rw [hk0] at h; cases h
    | some c0 =>
      rw [hk0] at h
      simp only at h
      have ih := fits_lt31 hn hrow hc (by omega : k ≤ row.length) hk0
      split at h
      · cases h
      · split at h
        · split at h
          · cases h
          · cases h
            have hd := dist_30 (hrow k (by omega)) hn
            exact Nat.or_lt_two_pow (n := 31) ih (Nat.pow_lt_pow_right (by decide) (by omega))
        · cases h; exact ih

/-! ### The row that has begun -/

/-- Its cells: the row, how many places it has, the numbers and the differences that came. -/
def begunL (row : List Int) (came : Nat) : List Int := [row.getD 0 0, row.getD 1 0, row.getD 2 0, row.getD 3 0, row.getD 4 0, row.getD 5 0, (row.length : Int), (nums row : Int), (came : Int)]
theorem begunL_len (row : List Int) (came : Nat) : (begunL row came).length = 9 := rfl
theorem begunL_get (row : List Int) (came : Nat) {i : Nat} (h : i < 6) : (begunL row came).getD i 0 = (row.getD i 0) := by
  have : i = 0 ∨ i = 1 ∨ i = 2 ∨ i = 3 ∨ i = 4 ∨ i = 5 := by omega
  rcases this with rfl | rfl | rfl | rfl | rfl | rfl <;> rfl
theorem begunL_push (row : List Int) (n c0 c : Nat) (h : row.length < 6) : ((((begunL row c0).set row.length (n : Int)).set 6 ((row.length : Int) + 1)).set 7 ((nums row ||| 2 ^ n : Nat) : Int)).set 8 (c : Int) = begunL (row ++ [(n : Int)]) c := by
  have hn : nums (row ++ [(n : Int)]) = nums row ||| 2 ^ n := by rw [nums, numsFrom_push]; rfl
  have hl : (((row ++ [(n : Int)]).length : Nat) : Int) = (row.length : Int) + 1 := by simp
  unfold begunL
  rw [hn, hl]
  match row, h with
  | [], _ => rfl
  | [_], _ => rfl
  | [_, _], _ => rfl
  | [_, _, _], _ => rfl
  | [_, _, _, _], _ => rfl
  | [_, _, _, _, _], _ => rfl
theorem begunL_six (row : List Int) (c : Nat) (n : Int) (h : row.length < 6) : ((begunL row c).set row.length n).getD 6 0 = (row.length : Int) := by
  have : row.length = 0 ∨ row.length = 1 ∨ row.length = 2 ∨ row.length = 3 ∨ row.length = 4 ∨ row.length = 5 := by omega
  unfold begunL
  generalize row.length = k at *
  rcases this with rfl | rfl | rfl | rfl | rfl | rfl <;> rfl
theorem begunL_seven (row : List Int) (c : Nat) (n x : Int) (h : row.length < 6) : (((begunL row c).set row.length n).set 6 x).getD 7 0 = (nums row : Int) := by
  have : row.length = 0 ∨ row.length = 1 ∨ row.length = 2 ∨ row.length = 3 ∨ row.length = 4 ∨ row.length = 5 := by omega
  unfold begunL
  generalize row.length = k at *
  rcases this with rfl | rfl | rfl | rfl | rfl | rfl <;> rfl

/-- As a value. -/
def begunX (row : List Int) (came : Nat) : XV := .agg ((begunL row came).map (AV.int .i64))
theorem begunX_flat (row : List Int) (came : Nat) : (begunX row came).flat := flats_ints _ _
/-- What differencesWith hands back. -/
def diffX : Option Nat → XV
  | none => .tup [.int .i64 0, .bool false]
  | some c => .tup [.int .i64 c, .bool true]
theorem diffX_flat (o : Option Nat) : (diffX o).flat := by cases o <;> exact ⟨trivial, trivial, trivial⟩

end Go.Abs

/- The program's third chapter, by contracts. Own work; no condition. -/
set_option maxRecDepth 100000
set_option linter.unusedSimpArgs false
set_option linter.unusedVariables false
namespace Go.Abs
open Go.Proofs
attribute [local irreducible] awp awpOps awpKeep KeepK awpKeepF KeepF aloop ALoop ACalls ACallq AQuiet retPost retPostA AExit.thn AExit.blk aApp aSt aStA

theorem came_lt {net row : List Int} {came : Nat} (hrow : ∀ i, i < row.length → 0 ≤ (row.getD i 0) ∧ (row.getD i 0) ≤ 30) (h : Came net row came) : came < 2147483648 :=
  Nat.lt_pow_two_of_testBit (n := 31) came fun v hv => by
    cases hb : came.testBit v with
    | false => rfl
    | true =>
      obtain ⟨a, b, h1, h2, _, h4⟩ := (h v).1 hb
      have := dist_30 (hrow a (by omega)) (hrow b h2)
      omega

theorem begunL_take (row : List Int) (c : Nat) (h : row.length ≤ 6) : (begunL row c).take row.length = row := by
  match row, h with
  | [], _ => rfl
  | [_], _ => rfl
  | [_, _], _ => rfl
  | [_, _, _], _ => rfl
  | [_, _, _, _], _ => rfl
  | [_, _, _, _, _], _ => rfl
  | [_, _, _, _, _, _], _ => rfl

/-- append(s, x[..xl]...): a part of a row. -/
theorem app_part {e : TypeId} {s : SV} {m : Heap} {K : XV → Heap → Prop} {l L : List Int} {f xi xl ex fx : Nat} {ox : Bool} (hwf : m.wf) (hs : Acc e f m s (.ints .i64 l)) (hne : s ≠ SV.nil) (hrx : m[xi]? = some ⟨ex, fx, ox, .ints .i64 L⟩) (hxl : xl ≤ L.length) (hlen : l.length + xl ≤ 1000000000)
    (hk : ∀ (s' : SV) (m' : Heap), m <+: m' → Grow f (f + 1) m m' → Acc e f m' s' (.ints .i64 (l ++ L.take xl)) → s' ≠ SV.nil → K (.one (.sl s')) m') : aApp e s ⟨.row xi, 0, xl⟩ m K := by
  rcases hs with ⟨e0, _⟩ | ⟨id, rfl, hid, hfam⟩
  · exact absurd e0 hne
  · have hfid := hwf id _ hid
    have hil := get_lt hid
    simp only at hfid
    have ht : (Vals.ints .i64 l).app ((Vals.ints .i64 L).sub 0 xl) = some (.ints .i64 (l ++ L.take xl)) := by simp [Vals.app, Vals.sub]
    simp only [aApp, hid, hrx, Nat.zero_add, Vals.take_len, ht]
    simp only [Vals.len] at hfam ⊢
    refine ⟨⟨hxl, by omega⟩, ⟨trivial, trivial, Nat.le_refl _, trivial⟩, ?_⟩
    rw [cutFam_self hfam]
    refine hk _ _ (prefix_push _ _) ⟨by simp, fun i r hr _ => row_at_push hr _, fun i r hi hr => ?_, fun i r hi hr => ?_, wf_push hwf (by omega)⟩ (.inr ⟨m.length, by simp [Vals.len, Nat.min_eq_left hxl], get_last _ _, fun j r hr ho hf => ?_⟩) (fun c => by cases c)
    · rcases get_push hr with ⟨_, h2⟩ | ⟨h1, _⟩
      · exact ⟨r, h2, rfl, rfl, Nat.le_refl _⟩
      · omega
    · rcases get_push hr with ⟨h1, _⟩ | ⟨_, rfl⟩
      · omega
      · exact .inr ⟨Nat.le_refl _, Nat.lt_succ_self _⟩
    · rcases get_push hr with ⟨_, h2⟩ | ⟨_, rfl⟩
      · have := hfam j r h2 ho hf; simp only [Vals.len, List.length_append]; omega
      · exact Nat.le_refl _

theorem getD_left {α : Type} {l r : List α} {d : α} {i : Nat} (h : i < l.length) : (l ++ r).getD i d = l.getD i d := by simp only [List.getD_eq_getElem?_getD, List.getElem?_append_left h]
theorem getD_right {α : Type} {l r : List α} {d : α} {i : Nat} (h : l.length ≤ i) : (l ++ r).getD i d = r.getD (i - l.length) d := by simp only [List.getD_eq_getElem?_getD, List.getElem?_append_right h]

/-- append(out, more...), both of lists in families of their own. -/
theorem app_lists2 {n0 c : Nat} {m : Heap} {s x : SV} {ll rr : List (List Int)} {K : XV → Heap → Prop} (hwf : m.wf) (h : Lists n0 c m s ll) (hx : Lists c m.length m x rr) (hc : n0 ≤ c) (hcl : c ≤ m.length) (hlen : ll.length + rr.length ≤ 1000000000)
    (hK : ∀ (s' : SV) (m' : Heap), m <+: m' → Grow n0 m.length m m' → LAcc n0 m' s' (ll ++ rr) → K (.one (.sl s')) m') : aApp Ty.Sl_int s x m K := by
  obtain ⟨svs, f, hA, hf, hR⟩ := h
  obtain ⟨usvs, g, hB, hg, hS⟩ := hx
  have hl := hR.1
  have hul := hS.1
  have hmore : ∀ (m' : Heap) (f' : Nat), m <+: m' → (n0 ≤ f' ∧ f' < c ∧ f' = f ∨ m.length ≤ f') → m.length ≤ m'.length → Rows1 n0 m'.length m' (svs ++ usvs) (ll ++ rr) f' := by
    intro m' f' hp hf' hle
    refine ⟨by rw [List.length_append, List.length_append, hl, hul], fun i hi => ?_⟩
    rw [List.length_append] at hi
    by_cases hlt : i < ll.length
    · rw [getD_left (l := svs) (by omega), getD_left (l := ll) hlt]
      obtain ⟨id, fi, h1, h2, h3, h4, h5, h6⟩ := hR.2 i hlt
      refine ⟨id, fi, h1, by omega, by omega, h4, row_prefix hp h5, fun j hj => ?_⟩
      rw [getD_left (l := svs) (by omega)]
      obtain ⟨gj, _, _, _, k4, k5⟩ := hR.fam_at (j := j) (m' := m') (by omega) (fun _ _ hr _ _ _ => row_prefix hp hr)
      rw [k5, ← k4]
      exact h6 j hj
    · rw [getD_right (l := svs) (by omega), getD_right (l := ll) (by omega), hl]
      obtain ⟨id, fi, h1, h2, h3, h4, h5, h6⟩ := hS.2 (i - ll.length) (by omega)
      refine ⟨id, fi, by omega, by omega, by omega, h4, row_prefix hp h5, fun j hj => ?_⟩
      by_cases hjl : j < ll.length
      · rw [getD_left (l := svs) (by omega)]
        obtain ⟨gj, _, k2, _, k4, k5⟩ := hR.fam_at (j := j) (m' := m') (by omega) (fun _ _ hr _ _ _ => row_prefix hp hr)
        rw [k5]
        intro e
        injection e with e
        omega
      · rw [getD_right (l := svs) (by omega), hl]
        obtain ⟨gj, _, _, _, k4, k5⟩ := hS.fam_at (j := j - ll.length) (m' := m') (by omega) (fun _ _ hr _ _ _ => row_prefix hp hr)
        rw [k5, ← k4]
        exact h6 _ (by omega)
  rcases hB with ⟨rfl, h0⟩ | ⟨xi, rfl, hxr, hxf⟩
  · simp only [Vals.len] at h0
    have er : rr = [] := List.eq_nil_of_length_eq_zero (by omega)
    have eu : usvs = [] := List.eq_nil_of_length_eq_zero h0
    subst er eu
    rw [List.append_nil] at hK
    rcases hA with ⟨rfl, hv0⟩ | ⟨id, rfl, hid, hfam⟩
    · simp only [aApp]
      exact hK _ m List.prefix_rfl (Grow.refl hwf _ _) ⟨svs, f, .inl ⟨rfl, hv0⟩, .inl rfl, hR.keep (fun _ _ hr _ _ _ => hr) (Nat.le_refl _) hcl (.inl rfl)⟩
    · have hf2 : n0 ≤ f ∧ f < c := hf.resolve_left (fun e => by cases e)
      simp only [aApp, hid]
      exact ⟨⟨trivial, trivial, Nat.le_refl _⟩, hK _ m List.prefix_rfl (Grow.refl hwf _ _) ⟨svs, f, .inr ⟨id, rfl, hid, hfam⟩, .inr ⟨hf2.1, by omega⟩, hR.keep (fun _ _ hr _ _ _ => hr) (Nat.le_refl _) hcl (.inl rfl)⟩⟩
  · rcases hA with ⟨rfl, hv0⟩ | ⟨id, rfl, hid, hfam⟩
    · simp only [Vals.len] at hv0
      have el : ll = [] := List.eq_nil_of_length_eq_zero (by omega)
      have es : svs = [] := List.eq_nil_of_length_eq_zero hv0
      subst el es
      simp only [aApp, hxr, Nat.zero_add, Vals.sub_len]
      simp only [Vals.len]
      refine ⟨⟨Nat.le_refl _, by omega⟩, fun hz => ?_, fun hpos => ?_⟩
      · have er : rr = [] := List.eq_nil_of_length_eq_zero (by omega)
        subst er
        exact hK _ m List.prefix_rfl (Grow.refl hwf _ _) (lacc_nil _ _)
      · have hp := prefix_push m ⟨Ty.Sl_int, m.length, true, .sls usvs⟩
        exact hK _ _ hp ((Grow.push hwf _ _ _).any _ _) ⟨usvs, m.length, acc_new hwf _ _ rfl, .inr ⟨by omega, by simp⟩, hmore _ _ hp (.inr (Nat.le_refl _)) (by simp)⟩
    · have hf2 : n0 ≤ f ∧ f < c := hf.resolve_left (fun e => by cases e)
      have hfid := hwf id _ hid
      have hil := get_lt hid
      simp only at hfid
      have ht : (Vals.sls svs).app (.sls usvs) = some (.sls (svs ++ usvs)) := rfl
      simp only [aApp, hid, hxr, Nat.zero_add, Vals.sub_len, Vals.take_len, ht]
      simp only [Vals.len] at hfam ⊢
      refine ⟨⟨Nat.le_refl _, by omega⟩, ⟨trivial, trivial, Nat.le_refl _, trivial⟩, ?_⟩
      rw [cutFam_self hfam]
      have hp := prefix_push m ⟨Ty.Sl_int, f, true, .sls (svs ++ usvs)⟩
      refine hK _ _ hp ⟨by simp, fun i r hr _ => row_at_push hr _, fun i r hi hr => ?_, fun i r hi hr => ?_, wf_push hwf (by omega)⟩ ⟨svs ++ usvs, f, .inr ⟨m.length, by simp [Vals.len], get_last _ _, fun j r hr ho hf => ?_⟩, .inr ⟨hf2.1, by simp; omega⟩, hmore _ _ hp (.inl ⟨hf2.1, hf2.2, rfl⟩) (by simp)⟩
      · rcases get_push hr with ⟨_, h2⟩ | ⟨h1, _⟩
        · exact ⟨r, h2, rfl, rfl, Nat.le_refl _⟩
        · omega
      · rcases get_push hr with ⟨h1, _⟩ | ⟨_, rfl⟩
        · omega
        · exact .inr ⟨hf2.1, by simp only; omega⟩
      · rcases get_push hr with ⟨_, h2⟩ | ⟨_, rfl⟩
        · have := hfam j r h2 ho hf; simp only [Vals.len, List.length_append]; omega
        · exact Nat.le_refl _

theorem ACalls_wf_q {P : Program} {f : FuncId} {args : List XV} {m : Heap} {v : XV} (h : m.wf → AQuiet P f args m v) : AQuiet P f args m v := by
  delta AQuiet at h ⊢
  exact ACalls.wf h
theorem begunX_nil : begunX [] 0 = .agg [.int .i64 0, .int .i64 0, .int .i64 0, .int .i64 0, .int .i64 0, .int .i64 0, .int .i64 0, .int .i64 0, .int .i64 0] := rfl
theorem impl_NetOk_t {s : SV} {net : List Int} {m : Heap} (hs : IsInts .i64 m s net) (hb : NetOk net) : AQuiet Try.prog F.impl_NetOk [.one (.sl s)] m (.one (.bool true)) := impl_NetOk_b true hs (decide_eq_true hb)
theorem impl_NetOk_f {s : SV} {net : List Int} {m : Heap} (hs : IsInts .i64 m s net) (hb : ¬ NetOk net) : AQuiet Try.prog F.impl_NetOk [.one (.sl s)] m (.one (.bool false)) := impl_NetOk_b false hs (decide_eq_false hb)
theorem impl_WiresOf_q {s : SV} {net : List Int} {m : Heap} (hs : IsInts .i64 m s net) (hN : NetOk net) : AQuiet Try.prog F.impl_WiresOf [.one (.sl s)] m (.one (.int .i64 (qOf net))) := by
  have h := impl_WiresOf s net m hs
  rwa [show wiresOf net = (qOf net : Int) by rw [wiresOf, if_pos hN]; rfl] at h

theorem impl_EvenOk_b {net : List Int} (hb : net.length ≤ 1048576) (s : SV) (_ : List Int) (m : Heap) (hs : IsInts .i64 m s net) : AQuiet Try.prog F.impl_EvenOk [.one (.sl s)] m (.one (.bool (decide (EvenOk net)))) := by
  obtain ⟨ref, off, len⟩ := s
  obtain rfl : len = net.length := hs.1
  refine aqn T.impl_EvenOk (by rfl) ?_
  by_cases hN : NetOk net
  · repeat' (first | refine xA ?_ | refine xB ?_ | refine xC ?_ | refine xD ?_ | refine xE ?_ | refine xF ?_ | refine xG ?_ | refine xH ?_ | refine xI rfl ?_ | refine xJ ?_ | refine xK ?_ | refine xL ?_ | refine xM rfl ?_ | refine xN rfl ?_ | refine xO rfl ?_ | (first | refine xP rfl (fun hif => ?_) (fun hif => ?_) | refine xQ rfl (fun hif => ?_) (fun hif => ?_) | refine xR rfl (fun hif => ?_) (fun hif => ?_) | refine xS rfl (fun hif => ?_) (fun hif => ?_)) <;> try (first | contradiction | (exfalso; omega)) | (refine hK _ _ ?_; clear hK K) | refine AQuiet.call (impl_NetOk_t hs hN) trivial ?_ | (refine And.intro (by first | omega | assumption | (constructor <;> omega)) ?_) | (refine And.intro (fun hif => ?_) (fun hif => ?_) <;> try (first | contradiction | (exfalso; omega))) | ((first | refine xT fun K hK => ?_ | refine xU fun K hK => ?_ | refine yB (fun K hK => ?_) (fun K hK => ?_) | refine xV ?_ | refine yA ?_ | refine xW ?_ | refine xX ?_ | refine xY ?_ | refine xZ ?_) <;> simp only [↓awpOps, ↓awpKeep, ↓awpKeepF, ↓aop, ↓aopQ, ↓abin, ↓aun, ↓onSome_some, ↓Kont_at, ↓KM_at, ↓KV_at, ↓KU_at, refId_row, Frame.ev, Frame.evs, Frame.evOr, Frame.put, Frame.keep, get_nil, get_cons, argFrame, resOf, fillA, Vals.len, Vals.get, Vals.set, Vals.app, Vals.sub, Vals.take, Vals.ofAgg_cons, Vals.ofList, Vals.toInts, Vals.toBools, Vals.toSls, Vals.toStrs, Vals.zeros, Nat.reduceBEq, Nat.reduceAdd, Nat.reduceEqDiff, cond_true, cond_false, Option.map_some, Option.map_none, List.length_cons, List.length_nil, List.replicate, List.set_cons_zero, List.set_cons_succ, Nat.reduceLT, Bool.not_true, Bool.not_false, Int.toNat_natCast, inR, Nat.zero_add, Int.toNat_zero, reduceCtorEq, IntKind.bits, List.nil_append, List.cons_append, Nat.add_zero, Nat.sub_zero, noughts_len, List.map_cons, List.map_nil, zp, zu]) | refine And.intro ?_ (fun hif => (hif trivial).elim) | (intro hif; try (first | contradiction | (exfalso; omega))))
    refine awp_loop ?_
    refine ALoop.by [0, 3] (fun k : Nat => [(0, .one (.sl ⟨ref, off, net.length⟩)), (3, .one (.int .i64 k))]) (fun _ => m) (fun k => k ≤ net.length ∧ ∀ i, i < k → pc ((net.getD i 0)).toNat % 2 = 0) (fun k => net.length - k) 0 rfl rfl ⟨Nat.zero_le _, fun i hi => absurd hi (Nat.not_lt_zero _)⟩ ?_
    rintro k ⟨hk, hok⟩ K1 hK1
    by_cases hlt : k < net.length
    · have hat := hs.2 k hlt
      have h64 := hN.small hlt
      have hP := impl_placesIn ((net.getD k 0)) h64.1 h64.2 m
      have hnx : pc ((net.getD k 0)).toNat % 2 = 0 → ∀ i, i < k + 1 → pc ((net.getD i 0)).toNat % 2 = 0 := fun hp i hi => by
        rcases Nat.lt_succ_iff_lt_or_eq.1 hi with h | rfl
        · exact hok i h
        · exact hp
      have hno : ¬ pc ((net.getD k 0)).toNat % 2 = 0 → decide (EvenOk net) = false := fun hp => decide_eq_false fun h => hp (h.2 k hlt)
      generalize pc ((net.getD k 0)).toNat = z at hP hnx hno
      by_cases hp : z % 2 = 0
      · have hnx := hnx hp
        clear hno
        repeat' (first | refine xA ?_ | refine xB ?_ | refine xC ?_ | refine xD ?_ | refine xE ?_ | refine xF ?_ | refine xG ?_ | refine xH ?_ | refine xI rfl ?_ | refine xJ ?_ | refine xK ?_ | refine xL ?_ | refine xM rfl ?_ | refine xN rfl ?_ | refine xO rfl ?_ | (first | refine xP rfl (fun hif => ?_) (fun hif => ?_) | refine xQ rfl (fun hif => ?_) (fun hif => ?_) | refine xR rfl (fun hif => ?_) (fun hif => ?_) | refine xS rfl (fun hif => ?_) (fun hif => ?_)) <;> try (first | contradiction | (exfalso; omega)) | (refine hK _ _ ?_; clear hK K) | refine onSome_of hat ?_ | refine AQuiet.call hP trivial ?_ | (refine And.intro (by first | omega | assumption | (constructor <;> omega)) ?_) | (refine And.intro (fun hif => ?_) (fun hif => ?_) <;> try (first | contradiction | (exfalso; omega))) | ((first | refine xT fun K hK => ?_ | refine xU fun K hK => ?_ | refine yB (fun K hK => ?_) (fun K hK => ?_) | refine xV ?_ | refine yA ?_ | refine xW ?_ | refine xX ?_ | refine xY ?_ | refine xZ ?_) <;> simp only [↓awpOps, ↓awpKeep, ↓awpKeepF, ↓aop, ↓aopQ, ↓abin, ↓aun, ↓onSome_some, ↓Kont_at, ↓KM_at, ↓KV_at, ↓KU_at, refId_row, Frame.ev, Frame.evs, Frame.evOr, Frame.put, Frame.keep, get_nil, get_cons, argFrame, resOf, fillA, Vals.len, Vals.get, Vals.set, Vals.app, Vals.sub, Vals.take, Vals.ofAgg_cons, Vals.ofList, Vals.toInts, Vals.toBools, Vals.toSls, Vals.toStrs, Vals.zeros, Nat.reduceBEq, Nat.reduceAdd, Nat.reduceEqDiff, cond_true, cond_false, Option.map_some, Option.map_none, List.length_cons, List.length_nil, List.replicate, List.set_cons_zero, List.set_cons_succ, Nat.reduceLT, Bool.not_true, Bool.not_false, Int.toNat_natCast, inR, Nat.zero_add, Int.toNat_zero, reduceCtorEq, IntKind.bits, List.nil_append, List.cons_append, Nat.add_zero, Nat.sub_zero, noughts_len, List.map_cons, List.map_nil, zp, zu]) | refine And.intro ?_ (fun hif => (hif trivial).elim) | (intro hif; try (first | contradiction | (exfalso; omega))))
        all_goals exact hK1 (k + 1) _ _ rfl rfl ⟨by omega, hnx⟩ (by omega)
      · rw [hno hp]
        clear hno hnx
        repeat' (first | refine xA ?_ | refine xB ?_ | refine xC ?_ | refine xD ?_ | refine xE ?_ | refine xF ?_ | refine xG ?_ | refine xH ?_ | refine xI rfl ?_ | refine xJ ?_ | refine xK ?_ | refine xL ?_ | refine xM rfl ?_ | refine xN rfl ?_ | refine xO rfl ?_ | (first | refine xP rfl (fun hif => ?_) (fun hif => ?_) | refine xQ rfl (fun hif => ?_) (fun hif => ?_) | refine xR rfl (fun hif => ?_) (fun hif => ?_) | refine xS rfl (fun hif => ?_) (fun hif => ?_)) <;> try (first | contradiction | (exfalso; omega)) | (refine hK _ _ ?_; clear hK K) | refine onSome_of hat ?_ | refine AQuiet.call hP trivial ?_ | (refine And.intro (by first | omega | assumption | (constructor <;> omega)) ?_) | (refine And.intro (fun hif => ?_) (fun hif => ?_) <;> try (first | contradiction | (exfalso; omega))) | ((first | refine xT fun K hK => ?_ | refine xU fun K hK => ?_ | refine yB (fun K hK => ?_) (fun K hK => ?_) | refine xV ?_ | refine yA ?_ | refine xW ?_ | refine xX ?_ | refine xY ?_ | refine xZ ?_) <;> simp only [↓awpOps, ↓awpKeep, ↓awpKeepF, ↓aop, ↓aopQ, ↓abin, ↓aun, ↓onSome_some, ↓Kont_at, ↓KM_at, ↓KV_at, ↓KU_at, refId_row, Frame.ev, Frame.evs, Frame.evOr, Frame.put, Frame.keep, get_nil, get_cons, argFrame, resOf, fillA, Vals.len, Vals.get, Vals.set, Vals.app, Vals.sub, Vals.take, Vals.ofAgg_cons, Vals.ofList, Vals.toInts, Vals.toBools, Vals.toSls, Vals.toStrs, Vals.zeros, Nat.reduceBEq, Nat.reduceAdd, Nat.reduceEqDiff, cond_true, cond_false, Option.map_some, Option.map_none, List.length_cons, List.length_nil, List.replicate, List.set_cons_zero, List.set_cons_succ, Nat.reduceLT, Bool.not_true, Bool.not_false, Int.toNat_natCast, inR, Nat.zero_add, Int.toNat_zero, reduceCtorEq, IntKind.bits, List.nil_append, List.cons_append, Nat.add_zero, Nat.sub_zero, noughts_len, List.map_cons, List.map_nil, zp, zu]) | refine And.intro ?_ (fun hif => (hif trivial).elim) | (intro hif; try (first | contradiction | (exfalso; omega))))
        all_goals (first | exact List.prefix_rfl | exact ⟨rfl, List.prefix_rfl⟩ | exact ⟨by simp, List.prefix_rfl⟩)
    · obtain rfl : k = net.length := by omega
      have e : decide (EvenOk net) = true := decide_eq_true ⟨hN, fun i hi => hok i hi⟩
      rw [e]
      repeat' (first | refine xA ?_ | refine xB ?_ | refine xC ?_ | refine xD ?_ | refine xE ?_ | refine xF ?_ | refine xG ?_ | refine xH ?_ | refine xI rfl ?_ | refine xJ ?_ | refine xK ?_ | refine xL ?_ | refine xM rfl ?_ | refine xN rfl ?_ | refine xO rfl ?_ | (first | refine xP rfl (fun hif => ?_) (fun hif => ?_) | refine xQ rfl (fun hif => ?_) (fun hif => ?_) | refine xR rfl (fun hif => ?_) (fun hif => ?_) | refine xS rfl (fun hif => ?_) (fun hif => ?_)) <;> try (first | contradiction | (exfalso; omega)) | (refine hK _ _ ?_; clear hK K) | (refine And.intro (by first | omega | assumption | (constructor <;> omega)) ?_) | (refine And.intro (fun hif => ?_) (fun hif => ?_) <;> try (first | contradiction | (exfalso; omega))) | ((first | refine xT fun K hK => ?_ | refine xU fun K hK => ?_ | refine yB (fun K hK => ?_) (fun K hK => ?_) | refine xV ?_ | refine yA ?_ | refine xW ?_ | refine xX ?_ | refine xY ?_ | refine xZ ?_) <;> simp only [↓awpOps, ↓awpKeep, ↓awpKeepF, ↓aop, ↓aopQ, ↓abin, ↓aun, ↓onSome_some, ↓Kont_at, ↓KM_at, ↓KV_at, ↓KU_at, refId_row, Frame.ev, Frame.evs, Frame.evOr, Frame.put, Frame.keep, get_nil, get_cons, argFrame, resOf, fillA, Vals.len, Vals.get, Vals.set, Vals.app, Vals.sub, Vals.take, Vals.ofAgg_cons, Vals.ofList, Vals.toInts, Vals.toBools, Vals.toSls, Vals.toStrs, Vals.zeros, Nat.reduceBEq, Nat.reduceAdd, Nat.reduceEqDiff, cond_true, cond_false, Option.map_some, Option.map_none, List.length_cons, List.length_nil, List.replicate, List.set_cons_zero, List.set_cons_succ, Nat.reduceLT, Bool.not_true, Bool.not_false, Int.toNat_natCast, inR, Nat.zero_add, Int.toNat_zero, reduceCtorEq, IntKind.bits, List.nil_append, List.cons_append, Nat.add_zero, Nat.sub_zero, noughts_len, List.map_cons, List.map_nil, zp, zu]) | refine And.intro ?_ (fun hif => (hif trivial).elim) | (intro hif; try (first | contradiction | (exfalso; omega))))
      (first | exact List.prefix_rfl | exact ⟨rfl, List.prefix_rfl⟩ | exact ⟨by simp, List.prefix_rfl⟩)
  · rw [decide_eq_false fun h : EvenOk net => hN h.1]
    repeat' (first | refine xA ?_ | refine xB ?_ | refine xC ?_ | refine xD ?_ | refine xE ?_ | refine xF ?_ | refine xG ?_ | refine xH ?_ | refine xI rfl ?_ | refine xJ ?_ | refine xK ?_ | refine xL ?_ | refine xM rfl ?_ | refine xN rfl ?_ | refine xO rfl ?_ | (first | refine xP rfl (fun hif => ?_) (fun hif => ?_) | refine xQ rfl (fun hif => ?_) (fun hif => ?_) | refine xR rfl (fun hif => ?_) (fun hif => ?_) | refine xS rfl (fun hif => ?_) (fun hif => ?_)) <;> try (first | contradiction | (exfalso; omega)) | (refine hK _ _ ?_; clear hK K) | refine AQuiet.call (impl_NetOk_f hs hN) trivial ?_ | (refine And.intro (by first | omega | assumption | (constructor <;> omega)) ?_) | (refine And.intro (fun hif => ?_) (fun hif => ?_) <;> try (first | contradiction | (exfalso; omega))) | ((first | refine xT fun K hK => ?_ | refine xU fun K hK => ?_ | refine yB (fun K hK => ?_) (fun K hK => ?_) | refine xV ?_ | refine yA ?_ | refine xW ?_ | refine xX ?_ | refine xY ?_ | refine xZ ?_) <;> simp only [↓awpOps, ↓awpKeep, ↓awpKeepF, ↓aop, ↓aopQ, ↓abin, ↓aun, ↓onSome_some, ↓Kont_at, ↓KM_at, ↓KV_at, ↓KU_at, refId_row, Frame.ev, Frame.evs, Frame.evOr, Frame.put, Frame.keep, get_nil, get_cons, argFrame, resOf, fillA, Vals.len, Vals.get, Vals.set, Vals.app, Vals.sub, Vals.take, Vals.ofAgg_cons, Vals.ofList, Vals.toInts, Vals.toBools, Vals.toSls, Vals.toStrs, Vals.zeros, Nat.reduceBEq, Nat.reduceAdd, Nat.reduceEqDiff, cond_true, cond_false, Option.map_some, Option.map_none, List.length_cons, List.length_nil, List.replicate, List.set_cons_zero, List.set_cons_succ, Nat.reduceLT, Bool.not_true, Bool.not_false, Int.toNat_natCast, inR, Nat.zero_add, Int.toNat_zero, reduceCtorEq, IntKind.bits, List.nil_append, List.cons_append, Nat.add_zero, Nat.sub_zero, noughts_len, List.map_cons, List.map_nil, zp, zu]) | refine And.intro ?_ (fun hif => (hif trivial).elim) | (intro hif; try (first | contradiction | (exfalso; omega))))
    (first | exact List.prefix_rfl | exact ⟨rfl, List.prefix_rfl⟩ | exact ⟨by simp, List.prefix_rfl⟩)

end Go.Abs
