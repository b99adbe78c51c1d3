/- Lists of lists that can be read, wherever their rows lie; one appended to another. Own work; no condition. -/
import Derived.Test.YtklmfnafbfghjaaDraw3
import Derived.Test.YtklmfnafbfghjaaGrow
import Derived.Test.YtklmfnafbfghjaaGrace3
set_option maxRecDepth 100000
set_option linter.unusedSimpArgs false
set_option linter.unusedVariables false
namespace Go.Abs
open Go.Proofs
attribute [local irreducible] awp awpOps awpKeep KeepK awpKeepF KeepF aloop ALoop ACalls ACallq AQuiet retPost retPostA AExit.thn AExit.blk aApp aSt aStA

/-- A list of lists whose rows are of families in a..b. -/
structure LHeld (a b : Nat) (m : Heap) (s : SV) (ll : List (List Int)) : Prop where
  wf : m.wf
  is : ∃ svs, Obj Ty.Sl_int a b m s (.sls svs) ∧ svs.length = ll.length ∧ ∀ i, i < ll.length → Obj Ty.int a b m (svs.getD i SV.nil) (.ints .i64 (ll.getD i []))

theorem LHeld.len {a b : Nat} {m : Heap} {s : SV} {ll : List (List Int)} (h : LHeld a b m s ll) : s.len = ll.length := by
  obtain ⟨svs, h1, h2, _⟩ := h.is
  rw [h1.len, ← h2]; rfl
theorem LHeld.rows {a b : Nat} {m : Heap} {s : SV} {ll : List (List Int)} (h : LHeld a b m s ll) : IsRows .i64 m s ll := by
  obtain ⟨svs, h1, h2, h3⟩ := h.is
  exact ⟨svs, h1.isSls, h2, fun i hi => (h3 i hi).isInts⟩
theorem LHeld.grow {a b c d : Nat} {m m' : Heap} {s : SV} {ll : List (List Int)} (h : LHeld a b m s ll) (g : Grow c d m m') (hd : b ≤ c ∨ d ≤ a) : LHeld a b m' s ll := by
  obtain ⟨svs, h1, h2, h3⟩ := h.is
  exact ⟨g.wf, svs, h1.grow g (by omega), h2, fun i hi => (h3 i hi).grow g (by omega)⟩
theorem LHeld.grow0 {a b : Nat} {m m' : Heap} {s : SV} {ll : List (List Int)} (h : LHeld a b m s ll) (g : Grow 0 0 m m') : LHeld a b m' s ll := h.grow g (.inr (Nat.zero_le _))
theorem LHeld.mono {a b a' b' : Nat} {m : Heap} {s : SV} {ll : List (List Int)} (h : LHeld a b m s ll) (ha : a' ≤ a) (hb : b ≤ b') : LHeld a' b' m s ll := by
  obtain ⟨svs, h1, h2, h3⟩ := h.is
  exact ⟨h.wf, svs, h1.mono ha hb, h2, fun i hi => (h3 i hi).mono ha hb⟩

/-- A list of lists to which lists of lists are appended; its own family is f. -/
structure LHAcc (f : Nat) (m : Heap) (s : SV) (ll : List (List Int)) : Prop where
  wf : m.wf
  lt : f < m.length
  is : ∃ svs, Acc Ty.Sl_int f m s (.sls svs) ∧ s ≠ SV.nil ∧ svs.length = ll.length ∧ ∀ i, i < ll.length → Obj Ty.int (f + 1) m.length m (svs.getD i SV.nil) (.ints .i64 (ll.getD i []))

theorem lhacc_new {m : Heap} (hwf : m.wf) : LHAcc m.length (m ++ [⟨Ty.Sl_int, m.length, true, .sls []⟩]) ⟨.row m.length, 0, 0⟩ [] :=
  ⟨wf_push hwf (Nat.le_refl _), by simp, [], acc_new hwf _ _ rfl, (fun h => by cases h), rfl, fun i hi => absurd hi (Nat.not_lt_zero _)⟩
theorem LHAcc.held {f a : Nat} {m : Heap} {s : SV} {ll : List (List Int)} (h : LHAcc f m s ll) (ha : a ≤ f) : LHeld a m.length m s ll := by
  obtain ⟨svs, h1, _, h2, h3⟩ := h.is
  exact ⟨h.wf, svs, h1.obj ha h.lt, h2, fun i hi => (h3 i hi).mono (by omega) (Nat.le_refl _)⟩
theorem LHAcc.grow0 {f : Nat} {m m' : Heap} {s : SV} {ll : List (List Int)} (h : LHAcc f m s ll) (g : Grow 0 0 m m') : LHAcc f m' s ll := by
  obtain ⟨svs, h1, h0, h2, h3⟩ := h.is
  have := g.le
  have := h.lt
  exact ⟨g.wf, by omega, svs, h1.grow0 g h.lt, h0, h2, fun i hi => ((h3 i hi).grow g (.inr (Nat.zero_le _))).mono (Nat.le_refl _) (by omega)⟩

/-- append(out, more...). -/
theorem app_held {f : Nat} {m : Heap} {s x : SV} {ll rr : List (List Int)} {K : XV → Heap → Prop} (h : LHAcc f m s ll) (hx : LHeld (f + 1) m.length m x rr) (hlen : ll.length + rr.length ≤ 1000000000)
    (hK : ∀ (s' : SV) (m' : Heap), m <+: m' → Grow f (f + 1) m m' → LHAcc f m' s' (ll ++ rr) → K (.one (.sl s')) m') : aApp Ty.Sl_int s x m K := by
  obtain ⟨svs, hA, hne, hl, hH⟩ := h.is
  obtain ⟨usvs, hO, hul, hUH⟩ := hx.is
  have hwf := h.wf
  rcases hA with ⟨e, _⟩ | ⟨id, hs, hrow, hfam⟩
  · exact absurd e hne
  · subst hs
    have hil := get_lt hrow
    have hfid := hwf id _ hrow
    simp only at hfid
    have hmore : ∀ i, i < (ll ++ rr).length → ∀ (m' : Heap), Grow f (f + 1) m m' → Obj Ty.int (f + 1) m'.length m' ((svs ++ usvs).getD i SV.nil) (.ints .i64 ((ll ++ rr).getD i [])) := fun i hi m' g => by
      have hle := g.le
      rw [List.length_append] at hi
      by_cases hlt : i < ll.length
      · have e1 : (svs ++ usvs).getD i SV.nil = svs.getD i SV.nil := by simp only [List.getD_eq_getElem?_getD, List.getElem?_append_left (show i < svs.length by omega)]
        have e2 : (ll ++ rr).getD i [] = ll.getD i [] := by simp only [List.getD_eq_getElem?_getD, List.getElem?_append_left hlt]
        rw [e1, e2]
        exact ((hH i hlt).grow g (.inr (Nat.le_refl _))).mono (Nat.le_refl _) hle
      · have e1 : (svs ++ usvs).getD i SV.nil = usvs.getD (i - ll.length) SV.nil := by simp only [List.getD_eq_getElem?_getD, List.getElem?_append_right (show svs.length ≤ i by omega), hl]
        have e2 : (ll ++ rr).getD i [] = rr.getD (i - ll.length) [] := by simp only [List.getD_eq_getElem?_getD, List.getElem?_append_right (show ll.length ≤ i by omega)]
        rw [e1, e2]
        exact ((hUH (i - ll.length) (by omega)).grow g (.inr (Nat.le_refl _))).mono (Nat.le_refl _) hle
    rcases hO with ⟨rfl, h0⟩ | ⟨xi, fx, hx1, hx2, rfl, hrx⟩
    · simp only [Vals.len] at h0
      have er : rr = [] := List.eq_nil_of_length_eq_zero (by omega)
      subst er
      simp only [aApp, hrow]
      refine ⟨⟨trivial, trivial, Nat.le_refl _⟩, ?_⟩
      rw [List.append_nil] at hK
      exact hK _ m List.prefix_rfl (Grow.refl hwf _ _) h
    · simp only [aApp, hrow, hrx, Nat.zero_add]
      have ht : (Vals.sls svs).app (.sls usvs) = some (.sls (svs ++ usvs)) := rfl
      rw [Vals.take_len, Vals.sub_len, ht]
      simp only [Vals.len] at hfam ⊢
      refine ⟨⟨Nat.le_refl _, by omega⟩, ⟨trivial, trivial, Nat.le_refl _, trivial⟩, ?_⟩
      rw [cutFam_self hfam]
      have hG : Grow f (f + 1) m (m ++ [⟨Ty.Sl_int, f, true, .sls (svs ++ usvs)⟩]) := by
        refine ⟨by simp, fun i r hr _ => row_at_push hr _, fun i r hi hr => ?_, fun i r hi hr => ?_, wf_push hwf (by omega)⟩
        · rcases get_push hr with ⟨_, h2⟩ | ⟨h1, _⟩
          · exact ⟨r, h2, rfl, rfl, Nat.le_refl _⟩
          · omega
        · rcases get_push hr with ⟨h1, _⟩ | ⟨_, rfl⟩
          · omega
          · exact .inr ⟨Nat.le_refl _, Nat.lt_succ_self _⟩
      refine hK _ _ (prefix_push _ _) hG ⟨hG.wf, by have := h.lt; simp; omega, svs ++ usvs, .inr ⟨m.length, by simp [Vals.len], get_last _ _, fun j r hr ho hf => ?_⟩, (fun e => by cases e), by simp [hl, hul], fun i hi => hmore i hi _ hG⟩
      rcases get_push hr with ⟨_, h2⟩ | ⟨_, rfl⟩
      · have := hfam j r h2 ho hf
        simp only [Vals.len, List.length_append]
        omega
      · exact Nat.le_refl _

theorem Held.grow0 {a b : Nat} {m m' : Heap} {s : SV} {l : List Int} (h : Held a b m s l) (g : Grow 0 0 m m') : Held a b m' s l := h.grow g (.inr (Nat.zero_le _))
theorem ARet2.call {P : Program} {f : FuncId} {args : List XV} {m : Heap} {e : TypeId} {v : Vals} {b : AV} {K : XV → Heap → Prop} (h : ARet2 P f args m e v b) (hk : ∀ (s' : SV) (m' : Heap), Grow 0 0 m m' → Obj e m.length m'.length m' s' v → K (.tup [.sl s', b]) m') : ACalls P f args m K :=
  ACalls.mono h fun _ m' ⟨s', hx, hg, ho⟩ => hx ▸ hk s' m' hg ho

/-- A call that hands back a list of lists that can be read, and leaves all rows alone. -/
def ARetH (P : Program) (f : FuncId) (args : List XV) (m : Heap) (ll : List (List Int)) : Prop :=
  ACalls P f args m fun x m' => ∃ s', x = .one (.sl s') ∧ Grow 0 0 m m' ∧ LHeld m.length m'.length m' s' ll
theorem ARetH.call {P : Program} {f : FuncId} {args : List XV} {m : Heap} {ll : List (List Int)} {K : XV → Heap → Prop} (h : ARetH P f args m ll) (hk : ∀ (s' : SV) (m' : Heap), Grow 0 0 m m' → LHeld m.length m'.length m' s' ll → K (.one (.sl s')) m') : ACalls P f args m K :=
  ACalls.mono h fun _ m' ⟨s', hx, hg, ho⟩ => hx ▸ hk s' m' hg ho
theorem arhn {P : Program} {f : FuncId} {n : Nat} {code : ACode} {res : List Nat} (ht : trFnC P f = some ⟨n, code, res⟩) {args : List XV} {m : Heap} {ll : List (List Int)} (hlen : Nat.ble args.length n = true)
    (h : m.wf → awp P code (retPost res fun x m' => ∃ s', x = .one (.sl s') ∧ Grow 0 0 m m' ∧ LHeld m.length m'.length m' s' ll) (argFrame 0 args) m) : ARetH P f args m ll :=
  ACalls.wf fun hwf => afn ht hlen (h hwf)

end Go.Abs

/- The model's search for graceful rows, by contracts. Own work; no condition. -/
set_option maxRecDepth 100000
set_option linter.unusedSimpArgs false
set_option linter.unusedVariables false
namespace Go.Abs
open Go.Proofs
attribute [local irreducible] awp awpOps awpKeep KeepK awpKeepF KeepF aloop ALoop ACalls ACallq AQuiet retPost retPostA AExit.thn AExit.blk aApp aSt aStA

theorem fits_mono {net row : List Int} {n : Int} {came : Nat} {k : Nat} (h : fitsTo net row n came k = none) : ∀ {j : Nat}, k ≤ j → fitsTo net row n came j = none
  | 0, hj => by rw [Nat.le_zero.1 hj] at h; exact h
  | j + 1, hj => by
    by_cases e : k = j + 1
    · rw [← e]; exact h
    · rw [fitsTo, fits_mono h (by omega : k ≤ j)]
theorem dist_small {a b : Int} (ha : 0 ≤ a ∧ a ≤ 15) (hb : 0 ≤ b ∧ b ≤ 15) : 0 ≤ dist a b ∧ dist a b ≤ 15 := by unfold dist; split <;> omega
theorem fits_lt {net row : List Int} {n : Int} {came : Nat} (hn : 0 ≤ n ∧ n ≤ 15) (hrow : ∀ i, i < row.length → 0 ≤ (row.getD i 0) ∧ (row.getD i 0) ≤ 15) (hc : came < 65536) : ∀ {k c : Nat}, k ≤ row.length → fitsTo net row n came k = some c → c < 65536
  | 0, c, _, h => by cases h; exact hc
  | k + 1, c, hk, h => by
    rw [fitsTo] at h
    cases hk0 : fitsTo net row n came k with
    | none => rw [hk0] at h; cases h
    | some c0 =>
      rw [hk0] at h
      simp only at h
      have ih := fits_lt hn hrow hc (by omega : k ≤ row.length) hk0
      split at h
      · cases h
      · split at h
        · split at h
          · cases h
          · cases h
            have hd := dist_small (hrow k (by omega)) hn
            exact Nat.or_lt_two_pow (n := 16) ih (Nat.pow_lt_pow_right (by decide) (by omega))
        · cases h; exact ih

theorem spec_l3Fits {s t : SV} {net row : List Int} {n : Int} {came : Nat} {m : Heap} {K : XV → Heap → Prop} (hs : IsInts .i64 m s net) (ht : IsInts .i64 m t row) (hN : NetOk net) (hl : row.length < net.length) (hn : 0 ≤ n ∧ n ≤ 15) (hrow : ∀ i, i < row.length → 0 ≤ (row.getD i 0) ∧ (row.getD i 0) ≤ 15) (hc : came < 65536)
    (hK0 : fitsTo net row n came row.length = none → ∀ c : Int, K (.tup [.bool false, .int .i64 c]) m) (hK1 : ∀ c : Nat, fitsTo net row n came row.length = some c → c < 65536 → K (.tup [.bool true, .int .i64 c]) m) :
    ACalls Try.prog F.spec_l3Fits [.one (.sl s), .one (.sl t), .one (.int .i64 n), .one (.int .i64 came)] m K := by
  obtain ⟨ref, off, len⟩ := s
  obtain rfl : len = net.length := hs.1
  obtain ⟨ref', off', len'⟩ := t
  obtain rfl : len' = row.length := ht.1
  have h6 := hN.six
  refine afn T.spec_l3Fits (by rfl) ?_
  repeat' (first | refine xA ?_ | refine xB ?_ | refine xC ?_ | refine xD ?_ | refine xE ?_ | refine xF ?_ | refine xG ?_ | refine xH ?_ | refine xI rfl ?_ | refine xJ ?_ | refine xK ?_ | refine xL ?_ | refine xM rfl ?_ | refine xN rfl ?_ | refine xO rfl ?_ | (first | refine xP rfl (fun hif => ?_) (fun hif => ?_) | refine xQ rfl (fun hif => ?_) (fun hif => ?_) | refine xR rfl (fun hif => ?_) (fun hif => ?_) | refine xS rfl (fun hif => ?_) (fun hif => ?_)) <;> try (first | contradiction | (exfalso; omega)) | (refine hK _ _ ?_; clear hK K) | (refine And.intro (by first | omega | assumption | (constructor <;> omega)) ?_) | (refine And.intro (fun hif => ?_) (fun hif => ?_) <;> try (first | contradiction | (exfalso; omega))) | ((first | refine xT fun K hK => ?_ | refine xU fun K hK => ?_ | refine yB (fun K hK => ?_) (fun K hK => ?_) | refine xV ?_ | refine yA ?_ | refine xW ?_ | refine xX ?_ | refine xY ?_ | refine xZ ?_) <;> simp only [↓awpOps, ↓awpKeep, ↓awpKeepF, ↓aop, ↓aopQ, ↓abin, ↓aun, ↓onSome_some, ↓Kont_at, ↓KM_at, ↓KV_at, ↓KU_at, refId_row, Frame.ev, Frame.evs, Frame.evOr, Frame.put, Frame.keep, get_nil, get_cons, argFrame, resOf, fillA, Vals.len, Vals.get, Vals.set, Vals.app, Vals.sub, Vals.take, Vals.ofAgg_cons, Vals.ofList, Vals.toInts, Vals.toBools, Vals.toSls, Vals.toStrs, Vals.zeros, Nat.reduceBEq, Nat.reduceAdd, Nat.reduceEqDiff, cond_true, cond_false, Option.map_some, Option.map_none, List.length_cons, List.length_nil, List.replicate, List.set_cons_zero, List.set_cons_succ, Nat.reduceLT, Bool.not_true, Bool.not_false, Int.toNat_natCast, inR, Nat.zero_add, Int.toNat_zero, reduceCtorEq, IntKind.bits, List.nil_append, List.cons_append, Nat.add_zero, Nat.sub_zero, noughts_len, List.map_cons, List.map_nil, zp, zu]) | refine And.intro ?_ (fun hif => (hif trivial).elim) | (intro hif; try (first | contradiction | (exfalso; omega))))
  refine awp_loop ?_
  refine ALoop.by [0, 1, 2, 3, 10, 11] (fun a : Nat × Nat => [(0, .one (.sl ⟨ref, off, net.length⟩)), (1, .one (.sl ⟨ref', off', row.length⟩)), (2, .one (.int .i64 n)), (3, .one (.int .i64 a.2)), (10, .one (.int .i64 row.length)), (11, .one (.int .i64 a.1))]) (fun _ => m) (fun a => a.1 ≤ row.length ∧ fitsTo net row n came a.1 = some a.2) (fun a => row.length - a.1) (0, came) rfl rfl ⟨Nat.zero_le _, rfl⟩ ?_
  rintro ⟨k, c⟩ ⟨hk, hf⟩ K1 hK1'
  simp only at hk hf
  have hc16 := fits_lt hn hrow hc hk hf
  by_cases hlt : k < row.length
  · have hat := ht.2 k hlt
    have hna := hs.2 row.length hl
    have hsh := shr_bit (n := (net.getD row.length 0)) (j := k) (hN.low _ hl)
    have hd0 : 0 ≤ (net.getD row.length 0) / 2 ^ k := Int.ediv_nonneg (hN.low _ hl) (Int.le_of_lt (Int.pow_pos (by decide)))
    have hrk := hrow k hlt
    have hds := dist_small hrk hn
    have haw := away_dist ((row.getD k 0)) n
    have hstep : fitsTo net row n came (k + 1) = if (row.getD k 0) = n then none else if bit ((net.getD row.length 0)) k = true then (if c.testBit (dist ((row.getD k 0)) n).toNat = true then none else some (c ||| 2 ^ (dist ((row.getD k 0)) n).toNat)) else some c := by rw [fitsTo, hf]
    have hsc := shr_bit (n := (c : Int)) (j := (dist ((row.getD k 0)) n).toNat) (by omega)
    have hdc : 0 ≤ (c : Int) / 2 ^ (dist ((row.getD k 0)) n).toNat := Int.ediv_nonneg (by omega) (Int.le_of_lt (Int.pow_pos (by decide)))
    have hpb := pow_bounds (p := (dist ((row.getD k 0)) n).toNat) (by omega)
    have hor : borInt .i64 (c : Int) (2 ^ (dist ((row.getD k 0)) n).toNat) = ((c ||| 2 ^ (dist ((row.getD k 0)) n).toNat : Nat) : Int) := by
      rw [pow_nat]
      exact bor_nat _ _ (by omega) (Nat.lt_of_le_of_lt (Nat.pow_le_pow_right (by decide) (by omega : (dist ((row.getD k 0)) n).toNat ≤ 15)) (by decide))
    have haq := spec_l1Away ((row.getD k 0) - n) (by omega) m
    rw [haw] at haq
    have hbc : bit (c : Int) (dist ((row.getD k 0)) n).toNat = c.testBit (dist ((row.getD k 0)) n).toNat := by unfold bit; rfl
    rw [hbc] at hsc
    generalize dist ((row.getD k 0)) n = d at *
    by_cases he : (row.getD k 0) = n
    · rw [if_pos he] at hstep
      have hno := hK0 (fits_mono hstep (by omega))
      repeat' (first | refine xA ?_ | refine xB ?_ | refine xC ?_ | refine xD ?_ | refine xE ?_ | refine xF ?_ | refine xG ?_ | refine xH ?_ | refine xI rfl ?_ | refine xJ ?_ | refine xK ?_ | refine xL ?_ | refine xM rfl ?_ | refine xN rfl ?_ | refine xO rfl ?_ | (first | refine xP rfl (fun hif => ?_) (fun hif => ?_) | refine xQ rfl (fun hif => ?_) (fun hif => ?_) | refine xR rfl (fun hif => ?_) (fun hif => ?_) | refine xS rfl (fun hif => ?_) (fun hif => ?_)) <;> try (first | contradiction | (exfalso; omega)) | (refine hK _ _ ?_; clear hK K) | refine onSome_of hat ?_ | (refine And.intro (by first | omega | assumption | (constructor <;> omega)) ?_) | (refine And.intro (fun hif => ?_) (fun hif => ?_) <;> try (first | contradiction | (exfalso; omega))) | ((first | refine xT fun K hK => ?_ | refine xU fun K hK => ?_ | refine yB (fun K hK => ?_) (fun K hK => ?_) | refine xV ?_ | refine yA ?_ | refine xW ?_ | refine xX ?_ | refine xY ?_ | refine xZ ?_) <;> simp only [↓awpOps, ↓awpKeep, ↓awpKeepF, ↓aop, ↓aopQ, ↓abin, ↓aun, ↓onSome_some, ↓Kont_at, ↓KM_at, ↓KV_at, ↓KU_at, refId_row, Frame.ev, Frame.evs, Frame.evOr, Frame.put, Frame.keep, get_nil, get_cons, argFrame, resOf, fillA, Vals.len, Vals.get, Vals.set, Vals.app, Vals.sub, Vals.take, Vals.ofAgg_cons, Vals.ofList, Vals.toInts, Vals.toBools, Vals.toSls, Vals.toStrs, Vals.zeros, Nat.reduceBEq, Nat.reduceAdd, Nat.reduceEqDiff, cond_true, cond_false, Option.map_some, Option.map_none, List.length_cons, List.length_nil, List.replicate, List.set_cons_zero, List.set_cons_succ, Nat.reduceLT, Bool.not_true, Bool.not_false, Int.toNat_natCast, inR, Nat.zero_add, Int.toNat_zero, reduceCtorEq, IntKind.bits, List.nil_append, List.cons_append, Nat.add_zero, Nat.sub_zero, noughts_len, List.map_cons, List.map_nil, zp, zu]) | refine And.intro ?_ (fun hif => (hif trivial).elim) | (intro hif; try (first | contradiction | (exfalso; omega))))
      all_goals exact hno _
    · rw [if_neg he] at hstep
      cases hb : bit ((net.getD row.length 0)) k with
      | false =>
        rw [hb, if_neg (by simp)] at hsh hstep
        repeat' (first | refine xA ?_ | refine xB ?_ | refine xC ?_ | refine xD ?_ | refine xE ?_ | refine xF ?_ | refine xG ?_ | refine xH ?_ | refine xI rfl ?_ | refine xJ ?_ | refine xK ?_ | refine xL ?_ | refine xM rfl ?_ | refine xN rfl ?_ | refine xO rfl ?_ | (first | refine xP rfl (fun hif => ?_) (fun hif => ?_) | refine xQ rfl (fun hif => ?_) (fun hif => ?_) | refine xR rfl (fun hif => ?_) (fun hif => ?_) | refine xS rfl (fun hif => ?_) (fun hif => ?_)) <;> try (first | contradiction | (exfalso; omega)) | (refine hK _ _ ?_; clear hK K) | refine onSome_of hat ?_ | refine onSome_of hna ?_ | (refine And.intro (by first | omega | assumption | (constructor <;> omega)) ?_) | (refine And.intro (fun hif => ?_) (fun hif => ?_) <;> try (first | contradiction | (exfalso; omega))) | ((first | refine xT fun K hK => ?_ | refine xU fun K hK => ?_ | refine yB (fun K hK => ?_) (fun K hK => ?_) | refine xV ?_ | refine yA ?_ | refine xW ?_ | refine xX ?_ | refine xY ?_ | refine xZ ?_) <;> simp only [↓awpOps, ↓awpKeep, ↓awpKeepF, ↓aop, ↓aopQ, ↓abin, ↓aun, ↓onSome_some, ↓Kont_at, ↓KM_at, ↓KV_at, ↓KU_at, refId_row, Frame.ev, Frame.evs, Frame.evOr, Frame.put, Frame.keep, get_nil, get_cons, argFrame, resOf, fillA, Vals.len, Vals.get, Vals.set, Vals.app, Vals.sub, Vals.take, Vals.ofAgg_cons, Vals.ofList, Vals.toInts, Vals.toBools, Vals.toSls, Vals.toStrs, Vals.zeros, Nat.reduceBEq, Nat.reduceAdd, Nat.reduceEqDiff, cond_true, cond_false, Option.map_some, Option.map_none, List.length_cons, List.length_nil, List.replicate, List.set_cons_zero, List.set_cons_succ, Nat.reduceLT, Bool.not_true, Bool.not_false, Int.toNat_natCast, inR, Nat.zero_add, Int.toNat_zero, reduceCtorEq, IntKind.bits, List.nil_append, List.cons_append, Nat.add_zero, Nat.sub_zero, noughts_len, List.map_cons, List.map_nil, zp, zu]) | refine And.intro ?_ (fun hif => (hif trivial).elim) | (intro hif; try (first | contradiction | (exfalso; omega))))
        all_goals exact hK1' (k + 1, c) _ _ rfl rfl ⟨by simp only; omega, hstep⟩ (by simp only; omega)
      | true =>
        rw [hb, if_pos rfl] at hsh hstep
        cases htb : c.testBit d.toNat with
        | true =>
          rw [htb, if_pos rfl] at hsc hstep
          have hno := hK0 (fits_mono hstep (by omega))
          repeat' (first | refine xA ?_ | refine xB ?_ | refine xC ?_ | refine xD ?_ | refine xE ?_ | refine xF ?_ | refine xG ?_ | refine xH ?_ | refine xI rfl ?_ | refine xJ ?_ | refine xK ?_ | refine xL ?_ | refine xM rfl ?_ | refine xN rfl ?_ | refine xO rfl ?_ | (first | refine xP rfl (fun hif => ?_) (fun hif => ?_) | refine xQ rfl (fun hif => ?_) (fun hif => ?_) | refine xR rfl (fun hif => ?_) (fun hif => ?_) | refine xS rfl (fun hif => ?_) (fun hif => ?_)) <;> try (first | contradiction | (exfalso; omega)) | (refine hK _ _ ?_; clear hK K) | refine onSome_of hat ?_ | refine onSome_of hna ?_ | refine AQuiet.call haq trivial ?_ | (refine And.intro (by first | omega | assumption | (constructor <;> omega)) ?_) | (refine And.intro (fun hif => ?_) (fun hif => ?_) <;> try (first | contradiction | (exfalso; omega))) | ((first | refine xT fun K hK => ?_ | refine xU fun K hK => ?_ | refine yB (fun K hK => ?_) (fun K hK => ?_) | refine xV ?_ | refine yA ?_ | refine xW ?_ | refine xX ?_ | refine xY ?_ | refine xZ ?_) <;> simp only [↓awpOps, ↓awpKeep, ↓awpKeepF, ↓aop, ↓aopQ, ↓abin, ↓aun, ↓onSome_some, ↓Kont_at, ↓KM_at, ↓KV_at, ↓KU_at, refId_row, Frame.ev, Frame.evs, Frame.evOr, Frame.put, Frame.keep, get_nil, get_cons, argFrame, resOf, fillA, Vals.len, Vals.get, Vals.set, Vals.app, Vals.sub, Vals.take, Vals.ofAgg_cons, Vals.ofList, Vals.toInts, Vals.toBools, Vals.toSls, Vals.toStrs, Vals.zeros, Nat.reduceBEq, Nat.reduceAdd, Nat.reduceEqDiff, cond_true, cond_false, Option.map_some, Option.map_none, List.length_cons, List.length_nil, List.replicate, List.set_cons_zero, List.set_cons_succ, Nat.reduceLT, Bool.not_true, Bool.not_false, Int.toNat_natCast, inR, Nat.zero_add, Int.toNat_zero, reduceCtorEq, IntKind.bits, List.nil_append, List.cons_append, Nat.add_zero, Nat.sub_zero, noughts_len, List.map_cons, List.map_nil, zp, zu]) | refine And.intro ?_ (fun hif => (hif trivial).elim) | (intro hif; try (first | contradiction | (exfalso; omega))))
          all_goals exact hno _
        | false =>
          rw [htb, if_neg (by simp)] at hsc hstep
          repeat' (first | refine xA ?_ | refine xB ?_ | refine xC ?_ | refine xD ?_ | refine xE ?_ | refine xF ?_ | refine xG ?_ | refine xH ?_ | refine xI rfl ?_ | refine xJ ?_ | refine xK ?_ | refine xL ?_ | refine xM rfl ?_ | refine xN rfl ?_ | refine xO rfl ?_ | (first | refine xP rfl (fun hif => ?_) (fun hif => ?_) | refine xQ rfl (fun hif => ?_) (fun hif => ?_) | refine xR rfl (fun hif => ?_) (fun hif => ?_) | refine xS rfl (fun hif => ?_) (fun hif => ?_)) <;> try (first | contradiction | (exfalso; omega)) | (refine hK _ _ ?_; clear hK K) | refine onSome_of hat ?_ | refine onSome_of hna ?_ | refine AQuiet.call haq trivial ?_ | rw [hor] | (refine And.intro (by first | omega | assumption | (constructor <;> omega)) ?_) | (refine And.intro (fun hif => ?_) (fun hif => ?_) <;> try (first | contradiction | (exfalso; omega))) | ((first | refine xT fun K hK => ?_ | refine xU fun K hK => ?_ | refine yB (fun K hK => ?_) (fun K hK => ?_) | refine xV ?_ | refine yA ?_ | refine xW ?_ | refine xX ?_ | refine xY ?_ | refine xZ ?_) <;> simp only [↓awpOps, ↓awpKeep, ↓awpKeepF, ↓aop, ↓aopQ, ↓abin, ↓aun, ↓onSome_some, ↓Kont_at, ↓KM_at, ↓KV_at, ↓KU_at, refId_row, Frame.ev, Frame.evs, Frame.evOr, Frame.put, Frame.keep, get_nil, get_cons, argFrame, resOf, fillA, Vals.len, Vals.get, Vals.set, Vals.app, Vals.sub, Vals.take, Vals.ofAgg_cons, Vals.ofList, Vals.toInts, Vals.toBools, Vals.toSls, Vals.toStrs, Vals.zeros, Nat.reduceBEq, Nat.reduceAdd, Nat.reduceEqDiff, cond_true, cond_false, Option.map_some, Option.map_none, List.length_cons, List.length_nil, List.replicate, List.set_cons_zero, List.set_cons_succ, Nat.reduceLT, Bool.not_true, Bool.not_false, Int.toNat_natCast, inR, Nat.zero_add, Int.toNat_zero, reduceCtorEq, IntKind.bits, List.nil_append, List.cons_append, Nat.add_zero, Nat.sub_zero, noughts_len, List.map_cons, List.map_nil, zp, zu]) | refine And.intro ?_ (fun hif => (hif trivial).elim) | (intro hif; try (first | contradiction | (exfalso; omega))))
          all_goals exact hK1' (k + 1, _) _ _ rfl rfl ⟨by simp only; omega, hstep⟩ (by simp only; omega)
  · obtain rfl : k = row.length := by omega
    repeat' (first | refine xA ?_ | refine xB ?_ | refine xC ?_ | refine xD ?_ | refine xE ?_ | refine xF ?_ | refine xG ?_ | refine xH ?_ | refine xI rfl ?_ | refine xJ ?_ | refine xK ?_ | refine xL ?_ | refine xM rfl ?_ | refine xN rfl ?_ | refine xO rfl ?_ | (first | refine xP rfl (fun hif => ?_) (fun hif => ?_) | refine xQ rfl (fun hif => ?_) (fun hif => ?_) | refine xR rfl (fun hif => ?_) (fun hif => ?_) | refine xS rfl (fun hif => ?_) (fun hif => ?_)) <;> try (first | contradiction | (exfalso; omega)) | (refine hK _ _ ?_; clear hK K) | (refine And.intro (by first | omega | assumption | (constructor <;> omega)) ?_) | (refine And.intro (fun hif => ?_) (fun hif => ?_) <;> try (first | contradiction | (exfalso; omega))) | ((first | refine xT fun K hK => ?_ | refine xU fun K hK => ?_ | refine yB (fun K hK => ?_) (fun K hK => ?_) | refine xV ?_ | refine yA ?_ | refine xW ?_ | refine xX ?_ | refine xY ?_ | refine xZ ?_) <;> simp only [↓awpOps, ↓awpKeep, ↓awpKeepF, ↓aop, ↓aopQ, ↓abin, ↓aun, ↓onSome_some, ↓Kont_at, ↓KM_at, ↓KV_at, ↓KU_at, refId_row, Frame.ev, Frame.evs, Frame.evOr, Frame.put, Frame.keep, get_nil, get_cons, argFrame, resOf, fillA, Vals.len, Vals.get, Vals.set, Vals.app, Vals.sub, Vals.take, Vals.ofAgg_cons, Vals.ofList, Vals.toInts, Vals.toBools, Vals.toSls, Vals.toStrs, Vals.zeros, Nat.reduceBEq, Nat.reduceAdd, Nat.reduceEqDiff, cond_true, cond_false, Option.map_some, Option.map_none, List.length_cons, List.length_nil, List.replicate, List.set_cons_zero, List.set_cons_succ, Nat.reduceLT, Bool.not_true, Bool.not_false, Int.toNat_natCast, inR, Nat.zero_add, Int.toNat_zero, reduceCtorEq, IntKind.bits, List.nil_append, List.cons_append, Nat.add_zero, Nat.sub_zero, noughts_len, List.map_cons, List.map_nil, zp, zu]) | refine And.intro ?_ (fun hif => (hif trivial).elim) | (intro hif; try (first | contradiction | (exfalso; omega))))
    exact hK1 c hf hc16

theorem app_obj {e : TypeId} {s x : SV} {m : Heap} {K : XV → Heap → Prop} {v u t : Vals} {f a b : Nat} (hwf : m.wf) (hs : Acc e f m s v) (hne : s ≠ SV.nil) (hx : Obj e a b m x u) (hlen : v.len + u.len ≤ 1099511627776) (ht : v.app u = some t)
    (hk : ∀ (s' : SV) (m' : Heap), m <+: m' → Grow f (f + 1) m m' → Acc e f m' s' t → s' ≠ SV.nil → K (.one (.sl s')) m') : aApp e s x m K := by
  rcases hs with ⟨e0, _⟩ | ⟨id, rfl, hid, hfam⟩
  · exact absurd e0 hne
  · have hfid := hwf id _ hid
    have hil := get_lt hid
    simp only at hfid
    rcases hx with ⟨rfl, h0⟩ | ⟨xi, fx, _, _, rfl, hrx⟩
    · have et : t = v := by
        cases v <;> cases u <;> simp only [Vals.app] at ht <;> first | (cases ht; done) | skip
        case ints.ints k l k' l' =>
          split at ht
          · cases ht; simp only [Vals.len] at h0; rw [List.eq_nil_of_length_eq_zero h0, List.append_nil]
          · cases ht
        all_goals (cases ht; simp only [Vals.len] at h0; rw [List.eq_nil_of_length_eq_zero h0, List.append_nil])
      subst et
      simp only [aApp, hid]
      exact ⟨⟨trivial, trivial, Nat.le_refl _⟩, hk _ m List.prefix_rfl (Grow.refl hwf _ _) (.inr ⟨id, rfl, hid, hfam⟩) (fun c => by cases c)⟩
    · obtain ⟨t1, t2⟩ := Vals.app_spec ht
      simp only [aApp, hid, hrx, Nat.zero_add, Vals.sub_len, Vals.take_len, ht]
      refine ⟨⟨Nat.le_refl _, hlen⟩, ⟨trivial, trivial, Nat.le_refl _, trivial⟩, ?_⟩
      rw [cutFam_self hfam]
      refine hk _ _ (prefix_push _ _) ⟨by simp, fun i r hr _ => row_at_push hr _, fun i r hi hr => ?_, fun i r hi hr => ?_, wf_push hwf (by omega)⟩ (.inr ⟨m.length, by rw [t1], get_last _ _, fun j r hr ho hf => ?_⟩) (fun c => by cases c)
      · rcases get_push hr with ⟨_, h2⟩ | ⟨h1, _⟩
        · exact ⟨r, h2, rfl, rfl, Nat.le_refl _⟩
        · omega
      · rcases get_push hr with ⟨h1, _⟩ | ⟨_, rfl⟩
        · omega
        · exact .inr ⟨Nat.le_refl _, Nat.lt_succ_self _⟩
      · rcases get_push hr with ⟨_, h2⟩ | ⟨_, rfl⟩
        · have := hfam j r h2 ho hf; omega
        · exact Nat.le_refl _

theorem flat_len {α β : Type} {f : α → List β} {B : Nat} (h : ∀ x, (f x).length ≤ B) : ∀ l : List α, (l.flatMap f).length ≤ l.length * B
  | [] => by simp
  | a :: l => by
    rw [List.flatMap_cons, List.length_append, List.length_cons, Nat.succ_mul]
    have := flat_len h l
    have := h a
    omega
theorem search_len (net : List Int) {q : Nat} (hq : q ≤ 15) : ∀ (rem : Nat) (row : List Int) (came : Nat), (search net q rem row came).length ≤ 16 ^ rem
  | 0, _, _ => by simp [search]
  | rem + 1, row, came => by
    rw [search]
    have h1 := flat_len (f := fun n : Nat => match fitsTo net row (n : Int) came row.length with | none => [] | some c => search net q rem (row ++ [(n : Int)]) c) (B := 16 ^ rem) (fun n => by
      cases fitsTo net row (n : Int) came row.length with
      | none => simp
      | some c => exact search_len net hq rem _ c) (List.range (q + 1))
    rw [List.length_range] at h1
    refine Nat.le_trans h1 ?_
    rw [Nat.pow_succ, Nat.mul_comm]
    exact Nat.mul_le_mul_left _ (by omega)
/-- What the search has found by the numbers below n. -/
def searchTo (net : List Int) (q rem : Nat) (row : List Int) (came n : Nat) : List (List Int) := (List.range n).flatMap fun n : Nat => match fitsTo net row (n : Int) came row.length with
    | none => []
    | some c => search net q rem (row ++ [(n : Int)]) c
theorem searchTo_succ (net : List Int) (q rem : Nat) (row : List Int) (came n : Nat) : searchTo net q rem row came (n + 1) = searchTo net q rem row came n ++ (match fitsTo net row (n : Int) came row.length with | none => [] | some c => search net q rem (row ++ [(n : Int)]) c) := by
  unfold searchTo
  rw [List.range_succ, List.flatMap_append]
  simp
theorem searchTo_len (net : List Int) {q : Nat} (hq : q ≤ 15) (rem : Nat) (row : List Int) (came n : Nat) : (searchTo net q rem row came n).length ≤ n * 16 ^ rem := by
  have h1 := flat_len (f := fun n : Nat => match fitsTo net row (n : Int) came row.length with | none => [] | some c => search net q rem (row ++ [(n : Int)]) c) (B := 16 ^ rem) (fun n => by
      cases fitsTo net row (n : Int) came row.length with
      | none => simp
      | some c => exact search_len net hq rem _ c) (List.range n)
  rw [List.length_range] at h1
  exact h1
theorem pow16 {rem : Nat} (h : rem ≤ 6) : 16 ^ rem ≤ 16777216 := Nat.le_trans (Nat.pow_le_pow_right (by decide) h) (by decide)

set_option maxHeartbeats 4000000 in
theorem spec_l3Rows {net : List Int} (hN : NetOk net) : ∀ (rem : Nat) (row : List Int) (came : Nat) (s t : SV) (m : Heap) (n0 : Nat), m.wf → IsInts .i64 m s net → Obj Ty.int n0 m.length m t (.ints .i64 row) → n0 ≤ m.length → row.length + rem = net.length → (∀ i, i < row.length → 0 ≤ (row.getD i 0) ∧ (row.getD i 0) ≤ 15) → came < 65536 →
    ACalls Try.prog F.spec_l3Rows [.one (.sl s), .one (.int .i64 (qOf net)), .one (.sl t), .one (.int .i64 came)] m fun x m' => ∃ s', x = .one (.sl s') ∧ Grow 0 0 m m' ∧ LHeld n0 m'.length m' s' (search net (qOf net) rem row came) := by
  intro rem
  have h6 := hN.six
  have hq := qOf_le hN
  induction rem with
  | zero =>
    intro row came s t m n0 hwf hs ht hn0 hl hrow hc
    obtain ⟨ref, off, len⟩ := s
    obtain rfl : len = net.length := hs.1
    have htl := ht.len
    obtain ⟨ref', off', len'⟩ := t
    obtain rfl : len' = row.length := htl
    have hg := Grow.push hwf Ty.Sl_int true (.sls [⟨ref', off', row.length⟩])
    refine afn T.spec_l3Rows (by rfl) ?_
    repeat' (first | refine xA ?_ | refine xB ?_ | refine xC ?_ | refine xD ?_ | refine xE ?_ | refine xF ?_ | refine xG ?_ | refine xH ?_ | refine xI rfl ?_ | refine xJ ?_ | refine xK ?_ | refine xL ?_ | refine xM rfl ?_ | refine xN rfl ?_ | refine xO rfl ?_ | (first | refine xP rfl (fun hif => ?_) (fun hif => ?_) | refine xQ rfl (fun hif => ?_) (fun hif => ?_) | refine xR rfl (fun hif => ?_) (fun hif => ?_) | refine xS rfl (fun hif => ?_) (fun hif => ?_)) <;> try (first | contradiction | (exfalso; omega)) | (refine hK _ _ ?_; clear hK K) | (refine And.intro (by first | omega | assumption | (constructor <;> omega)) ?_) | (refine And.intro (fun hif => ?_) (fun hif => ?_) <;> try (first | contradiction | (exfalso; omega))) | ((first | refine xT fun K hK => ?_ | refine xU fun K hK => ?_ | refine yB (fun K hK => ?_) (fun K hK => ?_) | refine xV ?_ | refine yA ?_ | refine xW ?_ | refine xX ?_ | refine xY ?_ | refine xZ ?_) <;> simp only [↓awpOps, ↓awpKeep, ↓awpKeepF, ↓aop, ↓aopQ, ↓abin, ↓aun, ↓onSome_some, ↓Kont_at, ↓KM_at, ↓KV_at, ↓KU_at, refId_row, Frame.ev, Frame.evs, Frame.evOr, Frame.put, Frame.keep, get_nil, get_cons, argFrame, resOf, fillA, Vals.len, Vals.get, Vals.set, Vals.app, Vals.sub, Vals.take, Vals.ofAgg_cons, Vals.ofList, Vals.toInts, Vals.toBools, Vals.toSls, Vals.toStrs, Vals.zeros, Nat.reduceBEq, Nat.reduceAdd, Nat.reduceEqDiff, cond_true, cond_false, Option.map_some, Option.map_none, List.length_cons, List.length_nil, List.replicate, List.set_cons_zero, List.set_cons_succ, Nat.reduceLT, Bool.not_true, Bool.not_false, Int.toNat_natCast, inR, Nat.zero_add, Int.toNat_zero, reduceCtorEq, IntKind.bits, List.nil_append, List.cons_append, Nat.add_zero, Nat.sub_zero, noughts_len, List.map_cons, List.map_nil, zp, zu]) | refine And.intro ?_ (fun hif => (hif trivial).elim) | (intro hif; try (first | contradiction | (exfalso; omega))))
    refine ⟨_, rfl, hg, hg.wf, [⟨ref', off', row.length⟩], obj_new _ _ rfl hn0 (by simp), rfl, fun i hi => ?_⟩
    have hi0 : i = 0 := by simpa [search] using hi
    subst hi0
    exact (ht.grow0 hg).mono (Nat.le_refl _) (by simp)
  | succ rem ih =>
    intro row came s t m n0 hwf hs ht hn0 hl hrow hc
    obtain ⟨ref, off, len⟩ := s
    obtain rfl : len = net.length := hs.1
    have htl := ht.len
    obtain ⟨ref', off', len'⟩ := t
    obtain rfl : len' = row.length := htl
    have hg0 := Grow.push hwf Ty.Sl_int true (.sls [])
    have hp16 := pow16 (rem := rem) (by omega)
    refine afn T.spec_l3Rows (by rfl) ?_
    repeat' (first | refine xA ?_ | refine xB ?_ | refine xC ?_ | refine xD ?_ | refine xE ?_ | refine xF ?_ | refine xG ?_ | refine xH ?_ | refine xI rfl ?_ | refine xJ ?_ | refine xK ?_ | refine xL ?_ | refine xM rfl ?_ | refine xN rfl ?_ | refine xO rfl ?_ | (first | refine xP rfl (fun hif => ?_) (fun hif => ?_) | refine xQ rfl (fun hif => ?_) (fun hif => ?_) | refine xR rfl (fun hif => ?_) (fun hif => ?_) | refine xS rfl (fun hif => ?_) (fun hif => ?_)) <;> try (first | contradiction | (exfalso; omega)) | (refine hK _ _ ?_; clear hK K) | (refine And.intro (by first | omega | assumption | (constructor <;> omega)) ?_) | (refine And.intro (fun hif => ?_) (fun hif => ?_) <;> try (first | contradiction | (exfalso; omega))) | ((first | refine xT fun K hK => ?_ | refine xU fun K hK => ?_ | refine yB (fun K hK => ?_) (fun K hK => ?_) | refine xV ?_ | refine yA ?_ | refine xW ?_ | refine xX ?_ | refine xY ?_ | refine xZ ?_) <;> simp only [↓awpOps, ↓awpKeep, ↓awpKeepF, ↓aop, ↓aopQ, ↓abin, ↓aun, ↓onSome_some, ↓Kont_at, ↓KM_at, ↓KV_at, ↓KU_at, refId_row, Frame.ev, Frame.evs, Frame.evOr, Frame.put, Frame.keep, get_nil, get_cons, argFrame, resOf, fillA, Vals.len, Vals.get, Vals.set, Vals.app, Vals.sub, Vals.take, Vals.ofAgg_cons, Vals.ofList, Vals.toInts, Vals.toBools, Vals.toSls, Vals.toStrs, Vals.zeros, Nat.reduceBEq, Nat.reduceAdd, Nat.reduceEqDiff, cond_true, cond_false, Option.map_some, Option.map_none, List.length_cons, List.length_nil, List.replicate, List.set_cons_zero, List.set_cons_succ, Nat.reduceLT, Bool.not_true, Bool.not_false, Int.toNat_natCast, inR, Nat.zero_add, Int.toNat_zero, reduceCtorEq, IntKind.bits, List.nil_append, List.cons_append, Nat.add_zero, Nat.sub_zero, noughts_len, List.map_cons, List.map_nil, zp, zu]) | refine And.intro ?_ (fun hif => (hif trivial).elim) | (intro hif; try (first | contradiction | (exfalso; omega))))
    refine awp_loop ?_
    refine ALoop.by [0, 1, 2, 3, 9, 10] (fun a : Nat × SV × Heap => [(0, .one (.sl ⟨ref, off, net.length⟩)), (1, .one (.int .i64 (qOf net))), (2, .one (.sl ⟨ref', off', row.length⟩)), (3, .one (.int .i64 came)), (9, .one (.sl a.2.1)), (10, .one (.int .i64 a.1))]) (fun a => a.2.2) (fun a => a.1 ≤ qOf net + 1 ∧ m <+: a.2.2 ∧ Grow m.length (m.length + 1) m a.2.2 ∧ LHAcc m.length a.2.2 a.2.1 (searchTo net (qOf net) rem row came a.1)) (fun a => qOf net + 1 - a.1) (0, _, _) rfl rfl ⟨Nat.zero_le _, prefix_push _ _, hg0.any _ _, lhacc_new hwf⟩ ?_
    rintro ⟨n, so, mo⟩ ⟨hn, hpo, hgo, hao⟩ K1 hK1
    simp only at hn hpo hgo hao
    by_cases hlt : n < qOf net + 1
    · have hso := hs.pre hpo
      have hto := ht.grow hgo (.inl (Nat.le_refl _))
      have hsucc := searchTo_succ net (qOf net) rem row came n
      have hle := hpo.length_le
      have hlo := hao.lt
      have he1 := Grow.push hgo.wf Ty.int true (.ints .i64 [])
      have hA1 := acc_new hgo.wf Ty.int (.ints .i64 []) (n := 0) rfl
      repeat' (first | refine xA ?_ | refine xB ?_ | refine xC ?_ | refine xD ?_ | refine xE ?_ | refine xF ?_ | refine xG ?_ | refine xH ?_ | refine xI rfl ?_ | refine xJ ?_ | refine xK ?_ | refine xL ?_ | refine xM rfl ?_ | refine xN rfl ?_ | refine xO rfl ?_ | (first | refine xP rfl (fun hif => ?_) (fun hif => ?_) | refine xQ rfl (fun hif => ?_) (fun hif => ?_) | refine xR rfl (fun hif => ?_) (fun hif => ?_) | refine xS rfl (fun hif => ?_) (fun hif => ?_)) <;> try (first | contradiction | (exfalso; omega)) | (refine hK _ _ ?_; clear hK K) | refine spec_l3Fits hso hto.isInts hN (by omega) (by omega) hrow hc (fun hf c => ?_) (fun c hf hc' => ?_) | (refine And.intro (by first | omega | assumption | (constructor <;> omega)) ?_) | (refine And.intro (fun hif => ?_) (fun hif => ?_) <;> try (first | contradiction | (exfalso; omega))) | ((first | refine xT fun K hK => ?_ | refine xU fun K hK => ?_ | refine yB (fun K hK => ?_) (fun K hK => ?_) | refine xV ?_ | refine yA ?_ | refine xW ?_ | refine xX ?_ | refine xY ?_ | refine xZ ?_) <;> simp only [↓awpOps, ↓awpKeep, ↓awpKeepF, ↓aop, ↓aopQ, ↓abin, ↓aun, ↓onSome_some, ↓Kont_at, ↓KM_at, ↓KV_at, ↓KU_at, refId_row, Frame.ev, Frame.evs, Frame.evOr, Frame.put, Frame.keep, get_nil, get_cons, argFrame, resOf, fillA, Vals.len, Vals.get, Vals.set, Vals.app, Vals.sub, Vals.take, Vals.ofAgg_cons, Vals.ofList, Vals.toInts, Vals.toBools, Vals.toSls, Vals.toStrs, Vals.zeros, Nat.reduceBEq, Nat.reduceAdd, Nat.reduceEqDiff, cond_true, cond_false, Option.map_some, Option.map_none, List.length_cons, List.length_nil, List.replicate, List.set_cons_zero, List.set_cons_succ, Nat.reduceLT, Bool.not_true, Bool.not_false, Int.toNat_natCast, inR, Nat.zero_add, Int.toNat_zero, reduceCtorEq, IntKind.bits, List.nil_append, List.cons_append, Nat.add_zero, Nat.sub_zero, noughts_len, List.map_cons, List.map_nil, zp, zu]) | refine And.intro ?_ (fun hif => (hif trivial).elim) | (intro hif; try (first | contradiction | (exfalso; omega))))
      · rw [hf] at hsucc
        simp only [List.append_nil] at hsucc
        repeat' (first | refine xA ?_ | refine xB ?_ | refine xC ?_ | refine xD ?_ | refine xE ?_ | refine xF ?_ | refine xG ?_ | refine xH ?_ | refine xI rfl ?_ | refine xJ ?_ | refine xK ?_ | refine xL ?_ | refine xM rfl ?_ | refine xN rfl ?_ | refine xO rfl ?_ | (first | refine xP rfl (fun hif => ?_) (fun hif => ?_) | refine xQ rfl (fun hif => ?_) (fun hif => ?_) | refine xR rfl (fun hif => ?_) (fun hif => ?_) | refine xS rfl (fun hif => ?_) (fun hif => ?_)) <;> try (first | contradiction | (exfalso; omega)) | (refine hK _ _ ?_; clear hK K) | (refine And.intro (by first | omega | assumption | (constructor <;> omega)) ?_) | (refine And.intro (fun hif => ?_) (fun hif => ?_) <;> try (first | contradiction | (exfalso; omega))) | ((first | refine xT fun K hK => ?_ | refine xU fun K hK => ?_ | refine yB (fun K hK => ?_) (fun K hK => ?_) | refine xV ?_ | refine yA ?_ | refine xW ?_ | refine xX ?_ | refine xY ?_ | refine xZ ?_) <;> simp only [↓awpOps, ↓awpKeep, ↓awpKeepF, ↓aop, ↓aopQ, ↓abin, ↓aun, ↓onSome_some, ↓Kont_at, ↓KM_at, ↓KV_at, ↓KU_at, refId_row, Frame.ev, Frame.evs, Frame.evOr, Frame.put, Frame.keep, get_nil, get_cons, argFrame, resOf, fillA, Vals.len, Vals.get, Vals.set, Vals.app, Vals.sub, Vals.take, Vals.ofAgg_cons, Vals.ofList, Vals.toInts, Vals.toBools, Vals.toSls, Vals.toStrs, Vals.zeros, Nat.reduceBEq, Nat.reduceAdd, Nat.reduceEqDiff, cond_true, cond_false, Option.map_some, Option.map_none, List.length_cons, List.length_nil, List.replicate, List.set_cons_zero, List.set_cons_succ, Nat.reduceLT, Bool.not_true, Bool.not_false, Int.toNat_natCast, inR, Nat.zero_add, Int.toNat_zero, reduceCtorEq, IntKind.bits, List.nil_append, List.cons_append, Nat.add_zero, Nat.sub_zero, noughts_len, List.map_cons, List.map_nil, zp, zu]) | refine And.intro ?_ (fun hif => (hif trivial).elim) | (intro hif; try (first | contradiction | (exfalso; omega))))
        exact hK1 (n + 1, so, mo) _ _ rfl rfl ⟨by simp only; omega, hpo, hgo, by rw [hsucc]; exact hao⟩ (by simp only; omega)
      · rw [hf] at hsucc
        simp only at hsucc
        have hsl := search_len net hq rem (row ++ [(n : Int)]) c
        have hst := searchTo_len net hq rem row came n
        have hst2 : n * 16 ^ rem ≤ 16 * 16777216 := Nat.mul_le_mul (by omega) hp16
        repeat' (first | refine xA ?_ | refine xB ?_ | refine xC ?_ | refine xD ?_ | refine xE ?_ | refine xF ?_ | refine xG ?_ | refine xH ?_ | refine xI rfl ?_ | refine xJ ?_ | refine xK ?_ | refine xL ?_ | refine xM rfl ?_ | refine xN rfl ?_ | refine xO rfl ?_ | (first | refine xP rfl (fun hif => ?_) (fun hif => ?_) | refine xQ rfl (fun hif => ?_) (fun hif => ?_) | refine xR rfl (fun hif => ?_) (fun hif => ?_) | refine xS rfl (fun hif => ?_) (fun hif => ?_)) <;> try (first | contradiction | (exfalso; omega)) | (refine hK _ _ ?_; clear hK K) | refine app_obj he1.wf hA1 (fun c => by cases c) (hto.grow0 he1) (by simp only [Vals.len, List.length_nil]; omega) (by simp [Vals.app]; rfl) fun s3 m3 hp3 hg3 hA3 hne3 => ?_ | (refine And.intro (by first | omega | assumption | (constructor <;> omega)) ?_) | (refine And.intro (fun hif => ?_) (fun hif => ?_) <;> try (first | contradiction | (exfalso; omega))) | ((first | refine xT fun K hK => ?_ | refine xU fun K hK => ?_ | refine yB (fun K hK => ?_) (fun K hK => ?_) | refine xV ?_ | refine yA ?_ | refine xW ?_ | refine xX ?_ | refine xY ?_ | refine xZ ?_) <;> simp only [↓awpOps, ↓awpKeep, ↓awpKeepF, ↓aop, ↓aopQ, ↓abin, ↓aun, ↓onSome_some, ↓Kont_at, ↓KM_at, ↓KV_at, ↓KU_at, refId_row, Frame.ev, Frame.evs, Frame.evOr, Frame.put, Frame.keep, get_nil, get_cons, argFrame, resOf, fillA, Vals.len, Vals.get, Vals.set, Vals.app, Vals.sub, Vals.take, Vals.ofAgg_cons, Vals.ofList, Vals.toInts, Vals.toBools, Vals.toSls, Vals.toStrs, Vals.zeros, Nat.reduceBEq, Nat.reduceAdd, Nat.reduceEqDiff, cond_true, cond_false, Option.map_some, Option.map_none, List.length_cons, List.length_nil, List.replicate, List.set_cons_zero, List.set_cons_succ, Nat.reduceLT, Bool.not_true, Bool.not_false, Int.toNat_natCast, inR, Nat.zero_add, Int.toNat_zero, reduceCtorEq, IntKind.bits, List.nil_append, List.cons_append, Nat.add_zero, Nat.sub_zero, noughts_len, List.map_cons, List.map_nil, zp, zu]) | refine And.intro ?_ (fun hif => (hif trivial).elim) | (intro hif; try (first | contradiction | (exfalso; omega))))
        have hb3 := Grow.push hg3.wf Ty.int true (.ints .i64 [(n : Int)])
        have hp3' := hp3.length_le
        rw [List.length_append, List.length_cons, List.length_nil] at hp3'
        have hA3' := hA3.grow0 hb3 (by omega)
        have hO3 : Obj Ty.int 0 (m3.length + 1) (m3 ++ [⟨Ty.int, m3.length, true, .ints .i64 [(n : Int)]⟩]) ⟨.row m3.length, 0, 1⟩ (.ints .i64 [(n : Int)]) := obj_new _ _ rfl (Nat.zero_le _) (Nat.lt_succ_self _)
        repeat' (first | refine xA ?_ | refine xB ?_ | refine xC ?_ | refine xD ?_ | refine xE ?_ | refine xF ?_ | refine xG ?_ | refine xH ?_ | refine xI rfl ?_ | refine xJ ?_ | refine xK ?_ | refine xL ?_ | refine xM rfl ?_ | refine xN rfl ?_ | refine xO rfl ?_ | (first | refine xP rfl (fun hif => ?_) (fun hif => ?_) | refine xQ rfl (fun hif => ?_) (fun hif => ?_) | refine xR rfl (fun hif => ?_) (fun hif => ?_) | refine xS rfl (fun hif => ?_) (fun hif => ?_)) <;> try (first | contradiction | (exfalso; omega)) | (refine hK _ _ ?_; clear hK K) | refine app_obj hb3.wf hA3' hne3 hO3 (by simp only [Vals.len, List.length_cons, List.length_nil]; omega) (by simp [Vals.app]; rfl) fun s4 m4 hp4 hg4 hA4 hne4 => ?_ | (refine And.intro (by first | omega | assumption | (constructor <;> omega)) ?_) | (refine And.intro (fun hif => ?_) (fun hif => ?_) <;> try (first | contradiction | (exfalso; omega))) | ((first | refine xT fun K hK => ?_ | refine xU fun K hK => ?_ | refine yB (fun K hK => ?_) (fun K hK => ?_) | refine xV ?_ | refine yA ?_ | refine xW ?_ | refine xX ?_ | refine xY ?_ | refine xZ ?_) <;> simp only [↓awpOps, ↓awpKeep, ↓awpKeepF, ↓aop, ↓aopQ, ↓abin, ↓aun, ↓onSome_some, ↓Kont_at, ↓KM_at, ↓KV_at, ↓KU_at, refId_row, Frame.ev, Frame.evs, Frame.evOr, Frame.put, Frame.keep, get_nil, get_cons, argFrame, resOf, fillA, Vals.len, Vals.get, Vals.set, Vals.app, Vals.sub, Vals.take, Vals.ofAgg_cons, Vals.ofList, Vals.toInts, Vals.toBools, Vals.toSls, Vals.toStrs, Vals.zeros, Nat.reduceBEq, Nat.reduceAdd, Nat.reduceEqDiff, cond_true, cond_false, Option.map_some, Option.map_none, List.length_cons, List.length_nil, List.replicate, List.set_cons_zero, List.set_cons_succ, Nat.reduceLT, Bool.not_true, Bool.not_false, Int.toNat_natCast, inR, Nat.zero_add, Int.toNat_zero, reduceCtorEq, IntKind.bits, List.nil_append, List.cons_append, Nat.add_zero, Nat.sub_zero, noughts_len, List.map_cons, List.map_nil, zp, zu]) | refine And.intro ?_ (fun hif => (hif trivial).elim) | (intro hif; try (first | contradiction | (exfalso; omega))))
        have hp4' := hp4.length_le
        rw [List.length_append, List.length_cons, List.length_nil] at hp4'
        have hG4 : Grow 0 0 mo m4 := grow00 ((prefix_push _ _).trans (hp3.trans ((prefix_push _ _).trans hp4)))
          ((he1.any mo.length m4.length).trans ((hg3.mono (Nat.le_refl _) (by omega)).trans ((hb3.any mo.length m4.length).trans (hg4.mono (Nat.le_refl _) (by omega)))))
        have hrow' : ∀ i, i < (row ++ [(n : Int)]).length → 0 ≤ ((row ++ [(n : Int)]).getD i 0) ∧ ((row ++ [(n : Int)]).getD i 0) ≤ 15 := fun i hi => by
          rw [List.length_append, List.length_cons, List.length_nil] at hi
          rcases Nat.lt_succ_iff_lt_or_eq.1 hi with e | rfl
          · rw [push_l _ _ e]; exact hrow i e
          · rw [push_at]; omega
        have hih := ih (row ++ [(n : Int)]) c ⟨ref, off, net.length⟩ s4 m4 (m.length + 1) hG4.wf (hso.pre hG4.pre0) (hA4.obj (by omega) (by omega)) (by omega) (by rw [List.length_append, List.length_cons, List.length_nil]; omega) hrow' hc'
        repeat' (first | refine xA ?_ | refine xB ?_ | refine xC ?_ | refine xD ?_ | refine xE ?_ | refine xF ?_ | refine xG ?_ | refine xH ?_ | refine xI rfl ?_ | refine xJ ?_ | refine xK ?_ | refine xL ?_ | refine xM rfl ?_ | refine xN rfl ?_ | refine xO rfl ?_ | (first | refine xP rfl (fun hif => ?_) (fun hif => ?_) | refine xQ rfl (fun hif => ?_) (fun hif => ?_) | refine xR rfl (fun hif => ?_) (fun hif => ?_) | refine xS rfl (fun hif => ?_) (fun hif => ?_)) <;> try (first | contradiction | (exfalso; omega)) | (refine hK _ _ ?_; clear hK K) | (refine ACalls.mono hih ?_; rintro x m5 ⟨s5, rfl, hg5, hh5⟩) | (refine And.intro (by first | omega | assumption | (constructor <;> omega)) ?_) | (refine And.intro (fun hif => ?_) (fun hif => ?_) <;> try (first | contradiction | (exfalso; omega))) | ((first | refine xT fun K hK => ?_ | refine xU fun K hK => ?_ | refine yB (fun K hK => ?_) (fun K hK => ?_) | refine xV ?_ | refine yA ?_ | refine xW ?_ | refine xX ?_ | refine xY ?_ | refine xZ ?_) <;> simp only [↓awpOps, ↓awpKeep, ↓awpKeepF, ↓aop, ↓aopQ, ↓abin, ↓aun, ↓onSome_some, ↓Kont_at, ↓KM_at, ↓KV_at, ↓KU_at, refId_row, Frame.ev, Frame.evs, Frame.evOr, Frame.put, Frame.keep, get_nil, get_cons, argFrame, resOf, fillA, Vals.len, Vals.get, Vals.set, Vals.app, Vals.sub, Vals.take, Vals.ofAgg_cons, Vals.ofList, Vals.toInts, Vals.toBools, Vals.toSls, Vals.toStrs, Vals.zeros, Nat.reduceBEq, Nat.reduceAdd, Nat.reduceEqDiff, cond_true, cond_false, Option.map_some, Option.map_none, List.length_cons, List.length_nil, List.replicate, List.set_cons_zero, List.set_cons_succ, Nat.reduceLT, Bool.not_true, Bool.not_false, Int.toNat_natCast, inR, Nat.zero_add, Int.toNat_zero, reduceCtorEq, IntKind.bits, List.nil_append, List.cons_append, Nat.add_zero, Nat.sub_zero, noughts_len, List.map_cons, List.map_nil, zp, zu]) | refine And.intro ?_ (fun hif => (hif trivial).elim) | (intro hif; try (first | contradiction | (exfalso; omega))))
        have hao5 := (hao.grow0 hG4).grow0 hg5
        repeat' (first | refine xA ?_ | refine xB ?_ | refine xC ?_ | refine xD ?_ | refine xE ?_ | refine xF ?_ | refine xG ?_ | refine xH ?_ | refine xI rfl ?_ | refine xJ ?_ | refine xK ?_ | refine xL ?_ | refine xM rfl ?_ | refine xN rfl ?_ | refine xO rfl ?_ | (first | refine xP rfl (fun hif => ?_) (fun hif => ?_) | refine xQ rfl (fun hif => ?_) (fun hif => ?_) | refine xR rfl (fun hif => ?_) (fun hif => ?_) | refine xS rfl (fun hif => ?_) (fun hif => ?_)) <;> try (first | contradiction | (exfalso; omega)) | (refine hK _ _ ?_; clear hK K) | refine app_held hao5 hh5 (by omega) fun s6 m6 hp6 hg6 hA6 => ?_ | (refine And.intro (by first | omega | assumption | (constructor <;> omega)) ?_) | (refine And.intro (fun hif => ?_) (fun hif => ?_) <;> try (first | contradiction | (exfalso; omega))) | ((first | refine xT fun K hK => ?_ | refine xU fun K hK => ?_ | refine yB (fun K hK => ?_) (fun K hK => ?_) | refine xV ?_ | refine yA ?_ | refine xW ?_ | refine xX ?_ | refine xY ?_ | refine xZ ?_) <;> simp only [↓awpOps, ↓awpKeep, ↓awpKeepF, ↓aop, ↓aopQ, ↓abin, ↓aun, ↓onSome_some, ↓Kont_at, ↓KM_at, ↓KV_at, ↓KU_at, refId_row, Frame.ev, Frame.evs, Frame.evOr, Frame.put, Frame.keep, get_nil, get_cons, argFrame, resOf, fillA, Vals.len, Vals.get, Vals.set, Vals.app, Vals.sub, Vals.take, Vals.ofAgg_cons, Vals.ofList, Vals.toInts, Vals.toBools, Vals.toSls, Vals.toStrs, Vals.zeros, Nat.reduceBEq, Nat.reduceAdd, Nat.reduceEqDiff, cond_true, cond_false, Option.map_some, Option.map_none, List.length_cons, List.length_nil, List.replicate, List.set_cons_zero, List.set_cons_succ, Nat.reduceLT, Bool.not_true, Bool.not_false, Int.toNat_natCast, inR, Nat.zero_add, Int.toNat_zero, reduceCtorEq, IntKind.bits, List.nil_append, List.cons_append, Nat.add_zero, Nat.sub_zero, noughts_len, List.map_cons, List.map_nil, zp, zu]) | refine And.intro ?_ (fun hif => (hif trivial).elim) | (intro hif; try (first | contradiction | (exfalso; omega))))
        refine hK1 (n + 1, s6, m6) _ _ rfl rfl ⟨by simp only; omega, hpo.trans (hG4.pre0.trans (hg5.pre0.trans hp6)), ?_, by rw [hsucc]; exact hA6⟩ (by simp only; omega)
        exact hgo.trans ((hG4.any _ _).trans ((hg5.any _ _).trans hg6))
    · obtain rfl : n = qOf net + 1 := by omega
      repeat' (first | refine xA ?_ | refine xB ?_ | refine xC ?_ | refine xD ?_ | refine xE ?_ | refine xF ?_ | refine xG ?_ | refine xH ?_ | refine xI rfl ?_ | refine xJ ?_ | refine xK ?_ | refine xL ?_ | refine xM rfl ?_ | refine xN rfl ?_ | refine xO rfl ?_ | (first | refine xP rfl (fun hif => ?_) (fun hif => ?_) | refine xQ rfl (fun hif => ?_) (fun hif => ?_) | refine xR rfl (fun hif => ?_) (fun hif => ?_) | refine xS rfl (fun hif => ?_) (fun hif => ?_)) <;> try (first | contradiction | (exfalso; omega)) | (refine hK _ _ ?_; clear hK K) | (refine And.intro (by first | omega | assumption | (constructor <;> omega)) ?_) | (refine And.intro (fun hif => ?_) (fun hif => ?_) <;> try (first | contradiction | (exfalso; omega))) | ((first | refine xT fun K hK => ?_ | refine xU fun K hK => ?_ | refine yB (fun K hK => ?_) (fun K hK => ?_) | refine xV ?_ | refine yA ?_ | refine xW ?_ | refine xX ?_ | refine xY ?_ | refine xZ ?_) <;> simp only [↓awpOps, ↓awpKeep, ↓awpKeepF, ↓aop, ↓aopQ, ↓abin, ↓aun, ↓onSome_some, ↓Kont_at, ↓KM_at, ↓KV_at, ↓KU_at, refId_row, Frame.ev, Frame.evs, Frame.evOr, Frame.put, Frame.keep, get_nil, get_cons, argFrame, resOf, fillA, Vals.len, Vals.get, Vals.set, Vals.app, Vals.sub, Vals.take, Vals.ofAgg_cons, Vals.ofList, Vals.toInts, Vals.toBools, Vals.toSls, Vals.toStrs, Vals.zeros, Nat.reduceBEq, Nat.reduceAdd, Nat.reduceEqDiff, cond_true, cond_false, Option.map_some, Option.map_none, List.length_cons, List.length_nil, List.replicate, List.set_cons_zero, List.set_cons_succ, Nat.reduceLT, Bool.not_true, Bool.not_false, Int.toNat_natCast, inR, Nat.zero_add, Int.toNat_zero, reduceCtorEq, IntKind.bits, List.nil_append, List.cons_append, Nat.add_zero, Nat.sub_zero, noughts_len, List.map_cons, List.map_nil, zp, zu]) | refine And.intro ?_ (fun hif => (hif trivial).elim) | (intro hif; try (first | contradiction | (exfalso; omega))))
      refine ⟨_, rfl, grow00 hpo (hgo.mono (Nat.le_refl _) (by have := hao.lt; omega)), ?_⟩
      exact hao.held hn0

end Go.Abs

/- The functions of the third chapter of the model, by contracts. Own work; no condition. -/
set_option maxRecDepth 100000
set_option linter.unusedSimpArgs false
set_option linter.unusedVariables false
namespace Go.Abs
open Go.Proofs
attribute [local irreducible] awp awpOps awpKeep KeepK awpKeepF KeepF aloop ALoop ACalls ACallq AQuiet retPost retPostA AExit.thn AExit.blk aApp aSt aStA

theorem spec_NetOk_t {s : SV} {net : List Int} {m : Heap} (hs : IsInts .i64 m s net) (hb : NetOk net) : AQuiet Try.prog F.spec_NetOk [.one (.sl s)] m (.one (.bool true)) := by have := spec_NetOk s net m hs; rw [decide_eq_true hb] at this; exact this
theorem spec_NetOk_f {s : SV} {net : List Int} {m : Heap} (hs : IsInts .i64 m s net) (hb : ¬ NetOk net) : AQuiet Try.prog F.spec_NetOk [.one (.sl s)] m (.one (.bool false)) := by have := spec_NetOk s net m hs; rw [decide_eq_false hb] at this; exact this

theorem spec_GracefulRows (s : SV) (net : List Int) (m : Heap) (hs : IsInts .i64 m s net) : ARetH Try.prog F.spec_GracefulRows [.one (.sl s)] m (graceRows net) := by
  refine arhn T.spec_GracefulRows (by rfl) fun hwf => ?_
  by_cases hN : NetOk net
  · rw [graceRows_search hN]
    repeat' (first | refine xA ?_ | refine xB ?_ | refine xC ?_ | refine xD ?_ | refine xE ?_ | refine xF ?_ | refine xG ?_ | refine xH ?_ | refine xI rfl ?_ | refine xJ ?_ | refine xK ?_ | refine xL ?_ | refine xM rfl ?_ | refine xN rfl ?_ | refine xO rfl ?_ | (first | refine xP rfl (fun hif => ?_) (fun hif => ?_) | refine xQ rfl (fun hif => ?_) (fun hif => ?_) | refine xR rfl (fun hif => ?_) (fun hif => ?_) | refine xS rfl (fun hif => ?_) (fun hif => ?_)) <;> try (first | contradiction | (exfalso; omega)) | (refine hK _ _ ?_; clear hK K) | refine AQuiet.call (spec_NetOk_t hs hN) trivial ?_ | (refine spec_l1Wires_g hs hN fun s1 m1 hg1 hL => ?_; obtain ⟨sref, soff, slen⟩ := s1; obtain rfl : slen = (wires net).length := hL.len) | (refine And.intro (by first | omega | assumption | (constructor <;> omega)) ?_) | (refine And.intro (fun hif => ?_) (fun hif => ?_) <;> try (first | contradiction | (exfalso; omega))) | ((first | refine xT fun K hK => ?_ | refine xU fun K hK => ?_ | refine yB (fun K hK => ?_) (fun K hK => ?_) | refine xV ?_ | refine yA ?_ | refine xW ?_ | refine xX ?_ | refine xY ?_ | refine xZ ?_) <;> simp only [↓awpOps, ↓awpKeep, ↓awpKeepF, ↓aop, ↓aopQ, ↓abin, ↓aun, ↓onSome_some, ↓Kont_at, ↓KM_at, ↓KV_at, ↓KU_at, refId_row, Frame.ev, Frame.evs, Frame.evOr, Frame.put, Frame.keep, get_nil, get_cons, argFrame, resOf, fillA, Vals.len, Vals.get, Vals.set, Vals.app, Vals.sub, Vals.take, Vals.ofAgg_cons, Vals.ofList, Vals.toInts, Vals.toBools, Vals.toSls, Vals.toStrs, Vals.zeros, Nat.reduceBEq, Nat.reduceAdd, Nat.reduceEqDiff, cond_true, cond_false, Option.map_some, Option.map_none, List.length_cons, List.length_nil, List.replicate, List.set_cons_zero, List.set_cons_succ, Nat.reduceLT, Bool.not_true, Bool.not_false, Int.toNat_natCast, inR, Nat.zero_add, Int.toNat_zero, reduceCtorEq, IntKind.bits, List.nil_append, List.cons_append, Nat.add_zero, Nat.sub_zero, noughts_len, List.map_cons, List.map_nil, zp, zu]) | refine And.intro ?_ (fun hif => (hif trivial).elim) | (intro hif; try (first | contradiction | (exfalso; omega))))
    have hg2 := Grow.push hg1.wf Ty.int true (.ints .i64 [])
    have hle := hg1.le
    have hih := spec_l3Rows hN net.length [] 0 s ⟨.row m1.length, 0, 0⟩ (m1 ++ [⟨Ty.int, m1.length, true, .ints .i64 []⟩]) m.length hg2.wf (hs.pre (hg1.pre0.trans hg2.pre0)) (obj_new _ _ rfl hle (by simp)) (by simp; omega) (by simp) (fun i hi => absurd hi (Nat.not_lt_zero _)) (by decide)
    repeat' (first | refine xA ?_ | refine xB ?_ | refine xC ?_ | refine xD ?_ | refine xE ?_ | refine xF ?_ | refine xG ?_ | refine xH ?_ | refine xI rfl ?_ | refine xJ ?_ | refine xK ?_ | refine xL ?_ | refine xM rfl ?_ | refine xN rfl ?_ | refine xO rfl ?_ | (first | refine xP rfl (fun hif => ?_) (fun hif => ?_) | refine xQ rfl (fun hif => ?_) (fun hif => ?_) | refine xR rfl (fun hif => ?_) (fun hif => ?_) | refine xS rfl (fun hif => ?_) (fun hif => ?_)) <;> try (first | contradiction | (exfalso; omega)) | (refine hK _ _ ?_; clear hK K) | (refine ACalls.mono hih ?_; rintro x m5 ⟨s5, rfl, hg5, hh5⟩) | (refine And.intro (by first | omega | assumption | (constructor <;> omega)) ?_) | (refine And.intro (fun hif => ?_) (fun hif => ?_) <;> try (first | contradiction | (exfalso; omega))) | ((first | refine xT fun K hK => ?_ | refine xU fun K hK => ?_ | refine yB (fun K hK => ?_) (fun K hK => ?_) | refine xV ?_ | refine yA ?_ | refine xW ?_ | refine xX ?_ | refine xY ?_ | refine xZ ?_) <;> simp only [↓awpOps, ↓awpKeep, ↓awpKeepF, ↓aop, ↓aopQ, ↓abin, ↓aun, ↓onSome_some, ↓Kont_at, ↓KM_at, ↓KV_at, ↓KU_at, refId_row, Frame.ev, Frame.evs, Frame.evOr, Frame.put, Frame.keep, get_nil, get_cons, argFrame, resOf, fillA, Vals.len, Vals.get, Vals.set, Vals.app, Vals.sub, Vals.take, Vals.ofAgg_cons, Vals.ofList, Vals.toInts, Vals.toBools, Vals.toSls, Vals.toStrs, Vals.zeros, Nat.reduceBEq, Nat.reduceAdd, Nat.reduceEqDiff, cond_true, cond_false, Option.map_some, Option.map_none, List.length_cons, List.length_nil, List.replicate, List.set_cons_zero, List.set_cons_succ, Nat.reduceLT, Bool.not_true, Bool.not_false, Int.toNat_natCast, inR, Nat.zero_add, Int.toNat_zero, reduceCtorEq, IntKind.bits, List.nil_append, List.cons_append, Nat.add_zero, Nat.sub_zero, noughts_len, List.map_cons, List.map_nil, zp, zu]) | refine And.intro ?_ (fun hif => (hif trivial).elim) | (intro hif; try (first | contradiction | (exfalso; omega))))
    exact ⟨_, rfl, (hg1.trans hg2).trans hg5, hh5⟩
  · have e : graceRows net = [] := by rw [graceRows, if_neg hN]
    rw [e]
    repeat' (first | refine xA ?_ | refine xB ?_ | refine xC ?_ | refine xD ?_ | refine xE ?_ | refine xF ?_ | refine xG ?_ | refine xH ?_ | refine xI rfl ?_ | refine xJ ?_ | refine xK ?_ | refine xL ?_ | refine xM rfl ?_ | refine xN rfl ?_ | refine xO rfl ?_ | (first | refine xP rfl (fun hif => ?_) (fun hif => ?_) | refine xQ rfl (fun hif => ?_) (fun hif => ?_) | refine xR rfl (fun hif => ?_) (fun hif => ?_) | refine xS rfl (fun hif => ?_) (fun hif => ?_)) <;> try (first | contradiction | (exfalso; omega)) | (refine hK _ _ ?_; clear hK K) | refine AQuiet.call (spec_NetOk_f hs hN) trivial ?_ | (refine And.intro (by first | omega | assumption | (constructor <;> omega)) ?_) | (refine And.intro (fun hif => ?_) (fun hif => ?_) <;> try (first | contradiction | (exfalso; omega))) | ((first | refine xT fun K hK => ?_ | refine xU fun K hK => ?_ | refine yB (fun K hK => ?_) (fun K hK => ?_) | refine xV ?_ | refine yA ?_ | refine xW ?_ | refine xX ?_ | refine xY ?_ | refine xZ ?_) <;> simp only [↓awpOps, ↓awpKeep, ↓awpKeepF, ↓aop, ↓aopQ, ↓abin, ↓aun, ↓onSome_some, ↓Kont_at, ↓KM_at, ↓KV_at, ↓KU_at, refId_row, Frame.ev, Frame.evs, Frame.evOr, Frame.put, Frame.keep, get_nil, get_cons, argFrame, resOf, fillA, Vals.len, Vals.get, Vals.set, Vals.app, Vals.sub, Vals.take, Vals.ofAgg_cons, Vals.ofList, Vals.toInts, Vals.toBools, Vals.toSls, Vals.toStrs, Vals.zeros, Nat.reduceBEq, Nat.reduceAdd, Nat.reduceEqDiff, cond_true, cond_false, Option.map_some, Option.map_none, List.length_cons, List.length_nil, List.replicate, List.set_cons_zero, List.set_cons_succ, Nat.reduceLT, Bool.not_true, Bool.not_false, Int.toNat_natCast, inR, Nat.zero_add, Int.toNat_zero, reduceCtorEq, IntKind.bits, List.nil_append, List.cons_append, Nat.add_zero, Nat.sub_zero, noughts_len, List.map_cons, List.map_nil, zp, zu]) | refine And.intro ?_ (fun hif => (hif trivial).elim) | (intro hif; try (first | contradiction | (exfalso; omega))))
    exact ⟨_, rfl, Grow.push hwf _ _ _, (lhacc_new hwf).held (Nat.le_refl _)⟩

theorem spec_GracefulOk (s t : SV) (net row : List Int) (m : Heap) (hs : IsInts .i64 m s net) (ht : IsInts .i64 m t row) : AQuiet Try.prog F.spec_GracefulOk [.one (.sl s), .one (.sl t)] m (.one (.bool (decide (Grace net row)))) := by
  refine aqn T.spec_GracefulOk (by rfl) ?_
  by_cases hN : NetOk net
  · by_cases hI : RowIn (qOf net) net row
    · have hq := qOf_le hN
      have h6 := hN.six
      have hl := hI.len
      have hI' : RowIn ((wires net).length : Int) net row := hI
      have hR := rowIn_30 (by omega) hI
      by_cases ho : Once row
      · have e : decide (Grace net row) = decide (Once (diffs net row)) := decide_eq_decide.2 ⟨fun h => h.diff, fun h => ⟨hN, hI, ho, h⟩⟩
        rw [e]
        repeat' (first | refine xA ?_ | refine xB ?_ | refine xC ?_ | refine xD ?_ | refine xE ?_ | refine xF ?_ | refine xG ?_ | refine xH ?_ | refine xI rfl ?_ | refine xJ ?_ | refine xK ?_ | refine xL ?_ | refine xM rfl ?_ | refine xN rfl ?_ | refine xO rfl ?_ | (first | refine xP rfl (fun hif => ?_) (fun hif => ?_) | refine xQ rfl (fun hif => ?_) (fun hif => ?_) | refine xR rfl (fun hif => ?_) (fun hif => ?_) | refine xS rfl (fun hif => ?_) (fun hif => ?_)) <;> try (first | contradiction | (exfalso; omega)) | (refine hK _ _ ?_; clear hK K) | refine AQuiet.call (spec_NetOk_t hs hN) trivial ?_ | (refine spec_l1Wires_g hs hN fun s1 m1 hg1 hL => ?_; obtain ⟨sref, soff, slen⟩ := s1; obtain rfl : slen = (wires net).length := hL.len) | refine AQuiet.call ((spec_l2Row _ _ net row _ _ (hs.pre hg1.pre0) (ht.pre hg1.pre0)).yes hI') trivial ?_ | refine AQuiet.call ((spec_l2Once _ row _ (ht.pre hg1.pre0) (by omega)).yes ho) trivial ?_ | refine ARet.call (spec_Differences _ _ net row _ (hs.pre hg1.pre0) (ht.pre hg1.pre0)) fun s2 m2 g2 o2 => ?_ | refine AQuiet.call (spec_l2Once _ _ _ o2.isInts (diffs_len net row)) trivial ?_ | (refine And.intro (by first | omega | assumption | (constructor <;> omega)) ?_) | (refine And.intro (fun hif => ?_) (fun hif => ?_) <;> try (first | contradiction | (exfalso; omega))) | ((first | refine xT fun K hK => ?_ | refine xU fun K hK => ?_ | refine yB (fun K hK => ?_) (fun K hK => ?_) | refine xV ?_ | refine yA ?_ | refine xW ?_ | refine xX ?_ | refine xY ?_ | refine xZ ?_) <;> simp only [↓awpOps, ↓awpKeep, ↓awpKeepF, ↓aop, ↓aopQ, ↓abin, ↓aun, ↓onSome_some, ↓Kont_at, ↓KM_at, ↓KV_at, ↓KU_at, refId_row, Frame.ev, Frame.evs, Frame.evOr, Frame.put, Frame.keep, get_nil, get_cons, argFrame, resOf, fillA, Vals.len, Vals.get, Vals.set, Vals.app, Vals.sub, Vals.take, Vals.ofAgg_cons, Vals.ofList, Vals.toInts, Vals.toBools, Vals.toSls, Vals.toStrs, Vals.zeros, Nat.reduceBEq, Nat.reduceAdd, Nat.reduceEqDiff, cond_true, cond_false, Option.map_some, Option.map_none, List.length_cons, List.length_nil, List.replicate, List.set_cons_zero, List.set_cons_succ, Nat.reduceLT, Bool.not_true, Bool.not_false, Int.toNat_natCast, inR, Nat.zero_add, Int.toNat_zero, reduceCtorEq, IntKind.bits, List.nil_append, List.cons_append, Nat.add_zero, Nat.sub_zero, noughts_len, List.map_cons, List.map_nil, zp, zu]) | refine And.intro ?_ (fun hif => (hif trivial).elim) | (intro hif; try (first | contradiction | (exfalso; omega))))
        all_goals first | exact ⟨rfl, hg1.pre0.trans g2.pre0⟩ | exact hg1.pre0.trans g2.pre0
      · have e : decide (Grace net row) = false := decide_eq_false fun h => ho h.once
        rw [e]
        repeat' (first | refine xA ?_ | refine xB ?_ | refine xC ?_ | refine xD ?_ | refine xE ?_ | refine xF ?_ | refine xG ?_ | refine xH ?_ | refine xI rfl ?_ | refine xJ ?_ | refine xK ?_ | refine xL ?_ | refine xM rfl ?_ | refine xN rfl ?_ | refine xO rfl ?_ | (first | refine xP rfl (fun hif => ?_) (fun hif => ?_) | refine xQ rfl (fun hif => ?_) (fun hif => ?_) | refine xR rfl (fun hif => ?_) (fun hif => ?_) | refine xS rfl (fun hif => ?_) (fun hif => ?_)) <;> try (first | contradiction | (exfalso; omega)) | (refine hK _ _ ?_; clear hK K) | refine AQuiet.call (spec_NetOk_t hs hN) trivial ?_ | (refine spec_l1Wires_g hs hN fun s1 m1 hg1 hL => ?_; obtain ⟨sref, soff, slen⟩ := s1; obtain rfl : slen = (wires net).length := hL.len) | refine AQuiet.call ((spec_l2Row _ _ net row _ _ (hs.pre hg1.pre0) (ht.pre hg1.pre0)).yes hI') trivial ?_ | refine AQuiet.call ((spec_l2Once _ row _ (ht.pre hg1.pre0) (by omega)).no ho) trivial ?_ | (refine And.intro (by first | omega | assumption | (constructor <;> omega)) ?_) | (refine And.intro (fun hif => ?_) (fun hif => ?_) <;> try (first | contradiction | (exfalso; omega))) | ((first | refine xT fun K hK => ?_ | refine xU fun K hK => ?_ | refine yB (fun K hK => ?_) (fun K hK => ?_) | refine xV ?_ | refine yA ?_ | refine xW ?_ | refine xX ?_ | refine xY ?_ | refine xZ ?_) <;> simp only [↓awpOps, ↓awpKeep, ↓awpKeepF, ↓aop, ↓aopQ, ↓abin, ↓aun, ↓onSome_some, ↓Kont_at, ↓KM_at, ↓KV_at, ↓KU_at, refId_row, Frame.ev, Frame.evs, Frame.evOr, Frame.put, Frame.keep, get_nil, get_cons, argFrame, resOf, fillA, Vals.len, Vals.get, Vals.set, Vals.app, Vals.sub, Vals.take, Vals.ofAgg_cons, Vals.ofList, Vals.toInts, Vals.toBools, Vals.toSls, Vals.toStrs, Vals.zeros, Nat.reduceBEq, Nat.reduceAdd, Nat.reduceEqDiff, cond_true, cond_false, Option.map_some, Option.map_none, List.length_cons, List.length_nil, List.replicate, List.set_cons_zero, List.set_cons_succ, Nat.reduceLT, Bool.not_true, Bool.not_false, Int.toNat_natCast, inR, Nat.zero_add, Int.toNat_zero, reduceCtorEq, IntKind.bits, List.nil_append, List.cons_append, Nat.add_zero, Nat.sub_zero, noughts_len, List.map_cons, List.map_nil, zp, zu]) | refine And.intro ?_ (fun hif => (hif trivial).elim) | (intro hif; try (first | contradiction | (exfalso; omega))))
        all_goals first | exact ⟨rfl, hg1.pre0⟩ | exact hg1.pre0
    · have hI' : ¬ RowIn ((wires net).length : Int) net row := hI
      have e : decide (Grace net row) = false := decide_eq_false fun h => hI h.low
      rw [e]
      repeat' (first | refine xA ?_ | refine xB ?_ | refine xC ?_ | refine xD ?_ | refine xE ?_ | refine xF ?_ | refine xG ?_ | refine xH ?_ | refine xI rfl ?_ | refine xJ ?_ | refine xK ?_ | refine xL ?_ | refine xM rfl ?_ | refine xN rfl ?_ | refine xO rfl ?_ | (first | refine xP rfl (fun hif => ?_) (fun hif => ?_) | refine xQ rfl (fun hif => ?_) (fun hif => ?_) | refine xR rfl (fun hif => ?_) (fun hif => ?_) | refine xS rfl (fun hif => ?_) (fun hif => ?_)) <;> try (first | contradiction | (exfalso; omega)) | (refine hK _ _ ?_; clear hK K) | refine AQuiet.call (spec_NetOk_t hs hN) trivial ?_ | (refine spec_l1Wires_g hs hN fun s1 m1 hg1 hL => ?_; obtain ⟨sref, soff, slen⟩ := s1; obtain rfl : slen = (wires net).length := hL.len) | refine AQuiet.call ((spec_l2Row _ _ net row _ _ (hs.pre hg1.pre0) (ht.pre hg1.pre0)).no hI') trivial ?_ | (refine And.intro (by first | omega | assumption | (constructor <;> omega)) ?_) | (refine And.intro (fun hif => ?_) (fun hif => ?_) <;> try (first | contradiction | (exfalso; omega))) | ((first | refine xT fun K hK => ?_ | refine xU fun K hK => ?_ | refine yB (fun K hK => ?_) (fun K hK => ?_) | refine xV ?_ | refine yA ?_ | refine xW ?_ | refine xX ?_ | refine xY ?_ | refine xZ ?_) <;> simp only [↓awpOps, ↓awpKeep, ↓awpKeepF, ↓aop, ↓aopQ, ↓abin, ↓aun, ↓onSome_some, ↓Kont_at, ↓KM_at, ↓KV_at, ↓KU_at, refId_row, Frame.ev, Frame.evs, Frame.evOr, Frame.put, Frame.keep, get_nil, get_cons, argFrame, resOf, fillA, Vals.len, Vals.get, Vals.set, Vals.app, Vals.sub, Vals.take, Vals.ofAgg_cons, Vals.ofList, Vals.toInts, Vals.toBools, Vals.toSls, Vals.toStrs, Vals.zeros, Nat.reduceBEq, Nat.reduceAdd, Nat.reduceEqDiff, cond_true, cond_false, Option.map_some, Option.map_none, List.length_cons, List.length_nil, List.replicate, List.set_cons_zero, List.set_cons_succ, Nat.reduceLT, Bool.not_true, Bool.not_false, Int.toNat_natCast, inR, Nat.zero_add, Int.toNat_zero, reduceCtorEq, IntKind.bits, List.nil_append, List.cons_append, Nat.add_zero, Nat.sub_zero, noughts_len, List.map_cons, List.map_nil, zp, zu]) | refine And.intro ?_ (fun hif => (hif trivial).elim) | (intro hif; try (first | contradiction | (exfalso; omega))))
      all_goals first | exact ⟨rfl, hg1.pre0⟩ | exact hg1.pre0
  · have e : decide (Grace net row) = false := decide_eq_false fun h => hN h.ok
    rw [e]
    repeat' (first | refine xA ?_ | refine xB ?_ | refine xC ?_ | refine xD ?_ | refine xE ?_ | refine xF ?_ | refine xG ?_ | refine xH ?_ | refine xI rfl ?_ | refine xJ ?_ | refine xK ?_ | refine xL ?_ | refine xM rfl ?_ | refine xN rfl ?_ | refine xO rfl ?_ | (first | refine xP rfl (fun hif => ?_) (fun hif => ?_) | refine xQ rfl (fun hif => ?_) (fun hif => ?_) | refine xR rfl (fun hif => ?_) (fun hif => ?_) | refine xS rfl (fun hif => ?_) (fun hif => ?_)) <;> try (first | contradiction | (exfalso; omega)) | (refine hK _ _ ?_; clear hK K) | refine AQuiet.call (spec_NetOk_f hs hN) trivial ?_ | (refine And.intro (by first | omega | assumption | (constructor <;> omega)) ?_) | (refine And.intro (fun hif => ?_) (fun hif => ?_) <;> try (first | contradiction | (exfalso; omega))) | ((first | refine xT fun K hK => ?_ | refine xU fun K hK => ?_ | refine yB (fun K hK => ?_) (fun K hK => ?_) | refine xV ?_ | refine yA ?_ | refine xW ?_ | refine xX ?_ | refine xY ?_ | refine xZ ?_) <;> simp only [↓awpOps, ↓awpKeep, ↓awpKeepF, ↓aop, ↓aopQ, ↓abin, ↓aun, ↓onSome_some, ↓Kont_at, ↓KM_at, ↓KV_at, ↓KU_at, refId_row, Frame.ev, Frame.evs, Frame.evOr, Frame.put, Frame.keep, get_nil, get_cons, argFrame, resOf, fillA, Vals.len, Vals.get, Vals.set, Vals.app, Vals.sub, Vals.take, Vals.ofAgg_cons, Vals.ofList, Vals.toInts, Vals.toBools, Vals.toSls, Vals.toStrs, Vals.zeros, Nat.reduceBEq, Nat.reduceAdd, Nat.reduceEqDiff, cond_true, cond_false, Option.map_some, Option.map_none, List.length_cons, List.length_nil, List.replicate, List.set_cons_zero, List.set_cons_succ, Nat.reduceLT, Bool.not_true, Bool.not_false, Int.toNat_natCast, inR, Nat.zero_add, Int.toNat_zero, reduceCtorEq, IntKind.bits, List.nil_append, List.cons_append, Nat.add_zero, Nat.sub_zero, noughts_len, List.map_cons, List.map_nil, zp, zu]) | refine And.intro ?_ (fun hif => (hif trivial).elim) | (intro hif; try (first | contradiction | (exfalso; omega))))
    (first | exact List.prefix_rfl | exact ⟨rfl, List.prefix_rfl⟩ | exact ⟨by simp, List.prefix_rfl⟩)

/-- Is it a net, and has each place an even number of neighbours? -/
def EvenOk (net : List Int) : Prop := NetOk net ∧ EvenNet net
instance (net : List Int) : Decidable (EvenNet net) := by unfold EvenNet; infer_instance
instance (net : List Int) : Decidable (EvenOk net) := by unfold EvenOk; infer_instance

end Go.Abs
