/- Lists of lists that can be read, wherever their rows lie; one appended to another. Own work; no condition. -/
import Derived.Test.YtkhbihbljdhpbaaDraw3
import Derived.Test.YtkhbihbljdhpbaaGrow
import Derived.Test.YtkhbihbljdhpbaaGrace3
set_option maxRecDepth 100000
set_option linter.unusedSimpArgs false
set_option linter.unusedVariables false
namespace Go.Abs
open Go.Proofs
attribute [local irreducible] awp awpOps awpKeep KeepK awpKeepF KeepF aloop ALoop ACalls ACallq AQuiet retPost retPostA AExit.thn AExit.blk aApp aSt aStA

/-- A list of lists whose rows are of families in a..b. -/
structure LHeld (a b : Nat) (m : Heap) (s : SV) (ll : List (List Int)) : Prop where
  wf : m.wf
  is : ∃ svs, Obj Ty.Sl_int a b m s (.sls svs) ∧ svs.length = ll.length ∧ ∀ i, i < ll.length → Obj Ty.int a b m (svs.getD i SV.nil) (.ints .i64 (ll.getD i []))

theorem LHeld.len {a b : Nat} {m : Heap} {s : SV} {ll : List (List Int)} (h : LHeld a b m s ll) : s.len = ll.length := by
  obtain ⟨svs, h1, h2, _⟩ := h.is
  rw [h1.len, ← h2]; rfl
theorem LHeld.rows {a b : Nat} {m : Heap} {s : SV} {ll : List (List Int)} (h : LHeld a b m s ll) : IsRows .i64 m s ll := by
  obtain ⟨svs, h1, h2, h3⟩ := h.is
  exact ⟨svs, h1.isSls, h2, fun i hi => (h3 i hi).isInts⟩
theorem LHeld.grow {a b c d : Nat} {m m' : Heap} {s : SV} {ll : List (List Int)} (h : LHeld a b m s ll) (g : Grow c d m m') (hd : b ≤ c ∨ d ≤ a) : LHeld a b m' s ll := by
  obtain ⟨svs, h1, h2, h3⟩ := h.is
  exact ⟨g.wf, svs, h1.grow g (by omega), h2, fun i hi => (h3 i hi).grow g (by omega)⟩
theorem LHeld.grow0 {a b : Nat} {m m' : Heap} {s : SV} {ll : List (List Int)} (h : LHeld a b m s ll) (g : Grow 0 0 m m') : LHeld a b m' s ll := h.grow g (.inr (Nat.zero_le _))
theorem LHeld.mono {a b a' b' : Nat} {m : Heap} {s : SV} {ll : List (List Int)} (h : LHeld a b m s ll) (ha : a' ≤ a) (hb : b ≤ b') : LHeld a' b' m s ll := by
  obtain ⟨svs, h1, h2, h3⟩ := h.is
  exact ⟨h.wf, svs, h1.mono ha hb, h2, fun i hi => (h3 i hi).mono ha hb⟩

/-- A list of lists to which lists of lists are appended; its own family is f. -/
structure LHAcc (f : Nat) (m : Heap) (s : SV) (ll : List (List Int)) : Prop where
  wf : m.wf
  lt : f < m.length
  is : ∃ svs, Acc Ty.Sl_int f m s (.sls svs) ∧ s ≠ SV.nil ∧ svs.length = ll.length ∧ ∀ i, i < ll.length → Obj Ty.int (f + 1) m.length m (svs.getD i SV.nil) (.ints .i64 (ll.getD i []))

theorem lhacc_new {m : Heap} (hwf : m.wf) : LHAcc m.length (m ++ [⟨Ty.Sl_int, m.length, true, .sls []⟩]) ⟨.row m.length, 0, 0⟩ [] :=
  ⟨wf_push hwf (Nat.le_refl _), by simp, [], acc_new hwf _ _ rfl, (fun h => by cases h), rfl, fun i hi => absurd hi (Nat.not_lt_zero _)⟩
theorem LHAcc.held {f a : Nat} {m : Heap} {s : SV} {ll : List (List Int)} (h : LHAcc f m s ll) (ha : a ≤ f) : LHeld a m.length m s ll := by
  obtain ⟨svs, h1, _, h2, h3⟩ := h.is
  exact ⟨h.wf, svs, h1.obj ha h.lt, h2, fun i hi => (h3 i hi).mono (by omega) (Nat.le_refl _)⟩
theorem LHAcc.grow0 {f : Nat} {m m' : Heap} {s : SV} {ll : List (List Int)} (h : LHAcc f m s ll) (g : Grow 0 0 m m') : LHAcc f m' s ll := by
  obtain ⟨svs, h1, h0, h2, h3⟩ := h.is
  have := g.le
  have := h.lt
  exact ⟨g.wf, by omega, svs, h1.grow0 g h.lt, h0, h2, fun i hi => ((h3 i hi).grow g (.inr (Nat.zero_le _))).mono (Nat.le_refl _) (by omega)⟩

/-- append(out, more...). -/
theorem app_held {f : Nat} {m : Heap} {s x : SV} {ll rr : List (List Int)} {K : XV → Heap → Prop} (h : LHAcc f m s ll) (hx : LHeld (f + 1) m.length m x rr) (hlen : ll.length + rr.length ≤ 1000000000)
    (hK : ∀ (s' : SV) (m' : Heap), m <+: m' → Grow f (f + 1) m m' → LHAcc f m' s' (ll ++ rr) → K (.one (.sl s')) m') : aApp Ty.Sl_int s x m K := by
  obtain ⟨svs, hA, hne, hl, hH⟩ := h.is
  obtain ⟨usvs, hO, hul, hUH⟩ := hx.is
  have hwf := h.wf
  rcases hA with ⟨e, _⟩ | ⟨id, hs, hrow, hfam⟩
  · exact absurd e hne
  · subst hs
    have hil := get_lt hrow
    have hfid := hwf id _ hrow
    simp only at hfid
    have hmore : ∀ i, i < (ll ++ rr).length → ∀ (m' : Heap), Grow f (f + 1) m m' → Obj Ty.int (f + 1) m'.length m' ((svs ++ usvs).getD i SV.nil) (.ints .i64 ((ll ++ rr).getD i [])) := fun i hi m' g => by
      have hle := g.le
      rw [List.length_append] at hi
      by_cases hlt : i < ll.length
      · have e1 : (svs ++ usvs).getD i SV.nil = svs.getD i SV.nil := by simp only [List.getD_eq_getElem?_getD, List.getElem?_append_left (show i < svs.length by omega)]
        have e2 : (ll ++ rr).getD i [] = ll.getD i [] := by simp only [List.getD_eq_getElem?_getD, List.getElem?_append_left hlt]
        rw [e1, e2]
        exact ((hH i hlt).grow g (.inr (Nat.le_refl _))).mono (Nat.le_refl _) hle
      · have e1 : (svs ++ usvs).getD i SV.nil = usvs.getD (i - ll.length) SV.nil := by simp only [List.getD_eq_getElem?_getD, List.getElem?_append_right (show svs.length ≤ i by omega), hl]
        have e2 : (ll ++ rr).getD i [] = rr.getD (i - ll.length) [] := by simp only [List.getD_eq_getElem?_getD, List.getElem?_append_right (show ll.length ≤ i by omega)]
        rw [e1, e2]
        exact ((hUH (i - ll.length) (by omega)).grow g (.inr (Nat.le_refl _))).mono (Nat.le_refl _) hle
    rcases hO with ⟨rfl, h0⟩ | ⟨xi, fx, hx1, hx2, rfl, hrx⟩
    · simp only [Vals.len] at h0
      have er : rr = [] := List.eq_nil_of_length_eq_zero (by omega)
      subst er
      simp only [aApp, hrow]
      refine ⟨⟨trivial, trivial, Nat.le_refl _⟩, ?_⟩
      rw [List.append_nil] at hK
      exact hK _ m List.prefix_rfl (Grow.refl hwf _ _) h
    · simp only [aApp, hrow, hrx, Nat.zero_add]
      have ht : (Vals.sls svs).app (.sls usvs) = some (.sls (svs ++ usvs)) := rfl
      rw [Vals.take_len, Vals.sub_len, ht]
      simp only [Vals.len] at hfam ⊢
      refine ⟨⟨Nat.le_refl _, by omega⟩, ⟨trivial, trivial, Nat.le_refl _, trivial⟩, ?_⟩
      rw [cutFam_self hfam]
      have hG : Grow f (f + 1) m (m ++ [⟨Ty.Sl_int, f, true, .sls (svs ++ usvs)⟩]) := by
        refine ⟨by simp, fun i r hr _ => row_at_push hr _, fun i r hi hr => ?_, fun i r hi hr => ?_, wf_push hwf (by omega)⟩
        · rcases get_push hr with ⟨_, h2⟩ | ⟨h1, _⟩
          · exact ⟨r, h2, rfl, rfl, Nat.le_refl _⟩
          · omega
        · rcases get_push hr with ⟨h1, _⟩ | ⟨_, rfl⟩
          · omega
          · exact .inr ⟨Nat.le_refl _, Nat.lt_succ_self _⟩
      refine hK _ _ (prefix_push _ _) hG ⟨hG.wf, by have := h.lt; simp; omega, svs ++ usvs, .inr ⟨m.length, by simp [Vals.len], get_last _ _, fun j r hr ho hf => ?_⟩, (fun e => by cases e), by simp [hl, hul], fun i hi => hmore i hi _ hG⟩
      rcases get_push hr with ⟨_, h2⟩ | ⟨_, rfl⟩
      · have := hfam j r h2 ho hf
        simp only [Vals.len, List.length_append]
        omega
      · exact Nat.le_refl _

theorem Held.grow0 {a b : Nat} {m m' : Heap} {s : SV} {l : List Int} (h : Held a b m s l) (g : Grow 0 0 m m') : Held a b m' s l := h.grow g (.inr (Nat.zero_le _))
theorem ARet2.call {P : Program} {f : FuncId} {args : List XV} {m : Heap} {e : TypeId} {v : Vals} {b : AV} {K : XV → Heap → Prop} (h : ARet2 P f args m e v b) (hk : ∀ (s' : SV) (m' : Heap), Grow 0 0 m m' → Obj e m.length m'.length m' s' v → K (.tup [.sl s', b]) m') : ACalls P f args m K :=
  ACalls.mono h fun _ m' ⟨s', hx, hg, ho⟩ => hx ▸ hk s' m' hg ho

/-- A call that hands back a list of lists that can be read, and leaves all rows alone. -/
def ARetH (P : Program) (f : FuncId) (args : List XV) (m : Heap) (ll : List (List Int)) : Prop :=
  ACalls P f args m fun x m' => ∃ s', x = .one (.sl s') ∧ Grow 0 0 m m' ∧ LHeld m.length m'.length m' s' ll
theorem ARetH.call {P : Program} {f : FuncId} {args : List XV} {m : Heap} {ll : List (List Int)} {K : XV → Heap → Prop} (h : ARetH P f args m ll) (hk : ∀ (s' : SV) (m' : Heap), Grow 0 0 m m' → LHeld m.length m'.length m' s' ll → K (.one (.sl s')) m') : ACalls P f args m K :=
  ACalls.mono h fun _ m' ⟨s', hx, hg, ho⟩ => hx ▸ hk s' m' hg ho
theorem arhn {P : Program} {f : FuncId} {n : Nat} {code : ACode} {res : List Nat} (ht : trFnC P f = some ⟨n, code, res⟩) {args : List XV} {m : Heap} {ll : List (List Int)} (hlen : Nat.ble args.length n = true)
    (h : m.wf → awp P code (retPost res fun x m' => ∃ s', x = .one (.sl s') ∧ Grow 0 0 m m' ∧ LHeld m.length m'.length m' s' ll) (argFrame 0 args) m) : ARetH P f args m ll :=
  ACalls.wf fun hwf => afn ht hlen (h hwf)

end Go.Abs

/- The model's search for graceful rows, by contracts. Own work; no condition. -/
set_option maxRecDepth 100000
set_option linter.unusedSimpArgs false
set_option linter.unusedVariables false
namespace Go.Abs
open Go.Proofs
attribute [local irreducible] awp awpOps awpKeep KeepK awpKeepF KeepF aloop ALoop ACalls ACallq AQuiet retPost retPostA AExit.thn AExit.blk aApp aSt aStA

theorem fits_mono {net row : List Int} {n : Int} {came : Nat} {k : Nat} (h : fitsTo net row n came k = none) : ∀ {j : Nat}, k ≤ j → fitsTo net row n came j = none
  | 0, hj => by rw [Nat.le_zero.1 hj] at h; exact h
  | j + 1, hj => by
    by_cases e : k = j + 1
    · rw [← e]; exact h
    · rw [fitsTo, fits_mono h (by omega : k ≤ j)]
theorem dist_small {a b : Int} (ha : 0 ≤ a ∧ a ≤ 15) (hb : 0 ≤ b ∧ b ≤ 15) : 0 ≤ dist a b ∧ dist a b ≤ 15 := by unfold dist; split <;> omega
theorem fits_lt {net row : List Int} {n : Int} {came : Nat} (hn : 0 ≤ n ∧ n ≤ 15) (hrow : ∀ i, i < row.length → 0 ≤ (row.getD i 0) ∧ (row.getD i 0) ≤ 15) (hc : came < 65536) : ∀ {k c : Nat}, k ≤ row.length → fitsTo net row n came k = some c → c < 65536
  | 0, c, _, h => by cases h; exact hc
  | k + 1, c, hk, h => by
    rw [fitsTo] at h
    cases hk0 : fitsTo net row n came k with
    | none => rw [hk0] at h; cases h
    | some c0 =>
      rw [hk0] at h
      simp only at h
      have ih := fits_lt hn hrow hc (by omega : k ≤ row.length) hk0
      split at h
      · cases h
      · split at h
        · split at h
          · cases h
          · cases h
            have hd := dist_small (hrow k (by omega)) hn
            exact Nat.or_lt_two_pow (n := 16) ih (Nat.pow_lt_pow_right (by decide) (by omega))
        · cases h; exact ih

theorem app_obj {e : TypeId} {s x : SV} {m : Heap} {K : XV → Heap → Prop} {v u t : Vals} {f a b : Nat} (hwf : m.wf) (hs : Acc e f m s v) (hne : s ≠ SV.nil) (hx : Obj e a b m x u) (hlen : v.len + u.len ≤ 1099511627776) (ht : v.app u = some t)
    (hk : ∀ (s' : SV) (m' : Heap), m <+: m' → Grow f (f + 1) m m' → Acc e f m' s' t → s' ≠ SV.nil → K (.one (.sl s')) m') : aApp e s x m K := by
  rcases hs with ⟨e0, _⟩ | ⟨id, rfl, hid, hfam⟩
  · exact absurd e0 hne
  · have hfid := hwf id _ hid
    have hil := get_lt hid
    simp only at hfid
    rcases hx with ⟨rfl, h0⟩ | ⟨xi, fx, _, _, rfl, hrx⟩
    · have et : t = v := by
        cases v <;> cases u <;> simp only [Vals.app] at ht <;> first | (cases ht; done) | skip
        case ints.ints k l k' l' =>
          split at ht
          · cases ht; simp only [Vals.len] at h0; rw [List.eq_nil_of_length_eq_zero h0, List.append_nil]
          · cases ht
        all_goals (cases ht; simp only [Vals.len] at h0; rw [List.eq_nil_of_length_eq_zero h0, List.append_nil])
      subst et
      simp only [aApp, hid]
      exact ⟨⟨trivial, trivial, Nat.le_refl _⟩, hk _ m List.prefix_rfl (Grow.refl hwf _ _) (.inr ⟨id, rfl, hid, hfam⟩) (fun c => by cases c)⟩
    · obtain ⟨t1, t2⟩ := Vals.app_spec ht
      simp only [aApp, hid, hrx, Nat.zero_add, Vals.sub_len, Vals.take_len, ht]
      refine ⟨⟨Nat.le_refl _, hlen⟩, ⟨trivial, trivial, Nat.le_refl _, trivial⟩, ?_⟩
      rw [cutFam_self hfam]
      refine hk _ _ (prefix_push _ _) ⟨by simp, fun i r hr _ => row_at_push hr _, fun i r hi hr => ?_, fun i r hi hr => ?_, wf_push hwf (by omega)⟩ (.inr ⟨m.length, by rw [t1], get_last _ _, fun j r hr ho hf => ?_⟩) (fun c => by cases c)
      · rcases get_push hr with ⟨_, h2⟩ | ⟨h1, _⟩
        · exact ⟨r, h2, rfl, rfl, Nat.le_refl _⟩
        · omega
      · rcases get_push hr with ⟨h1, _⟩ | ⟨_, rfl⟩
        · omega
        · exact .inr ⟨Nat.le_refl _, Nat.lt_succ_self _⟩
      · rcases get_push hr with ⟨_, h2⟩ | ⟨_, rfl⟩
        · have := hfam j r h2 ho hf; omega
        · exact Nat.le_refl _

theorem flat_len {α β : Type} {f : α → List β} {B : Nat} (h : ∀ x, (f x).length ≤ B) : ∀ l : List α, (l.flatMap f).length ≤ l.length * B
  | [] => by simp
  | a :: l => by
    rw [List.flatMap_cons, List.length_append, List.length_cons, Nat.succ_mul]
    have := flat_len h l
    have := h a
    omega
theorem search_len (net : List Int) {q : Nat} (hq : q ≤ 15) : ∀ (rem : Nat) (row : List Int) (came : Nat), (search net q rem row came).length ≤ 16 ^ rem
  | 0, _, _ => by simp [search]
  | rem + 1, row, came => by
    rw [search]
    have h1 := flat_len (f := fun n : Nat => match fitsTo net row (n : Int) came row.length with | none => [] | some c => search net q rem (row ++ [(n : Int)]) c) (B := 16 ^ rem) (fun n => by
      cases fitsTo net row (n : Int) came row.length with
      | none => simp
      | some c => exact search_len net hq rem _ c) (List.range (q + 1))
    rw [List.length_range] at h1
    refine Nat.le_trans h1 ?_
    rw [Nat.pow_succ, Nat.mul_comm]
    exact Nat.mul_le_mul_left _ (by omega)
/-- What the search has found by the numbers below n. -/
def searchTo (net : List Int) (q rem : Nat) (row : List Int) (came n : Nat) : List (List Int) := (List.range n).flatMap fun n : Nat => match fitsTo net row (n : Int) came row.length with
    | none => []
    | some c => search net q rem (row ++ [(n : Int)]) c
theorem searchTo_succ (net : List Int) (q rem : Nat) (row : List Int) (came n : Nat) : searchTo net q rem row came (n + 1) = searchTo net q rem row came n ++ (match fitsTo net row (n : Int) came row.length with | none => [] | some c => search net q rem (row ++ [(n : Int)]) c) := by
  unfold searchTo
  rw [List.range_succ, List.flatMap_append]
  simp
theorem searchTo_len (net : List Int) {q : Nat} (hq : q ≤ 15) (rem : Nat) (row : List Int) (came n : Nat) : (searchTo net q rem row came n).length ≤ n * 16 ^ rem := by
  have h1 := flat_len (f := fun n : Nat => match fitsTo net row (n : Int) came row.length with | none => [] | some c => search net q rem (row ++ [(n : Int)]) c) (B := 16 ^ rem) (fun n => by
      cases fitsTo net row (n : Int) came row.length with
      | none => simp
      | some c => exact search_len net hq rem _ c) (List.range n)
  rw [List.length_range] at h1
  exact h1
theorem pow16 {rem : Nat} (h : rem ≤ 6) : 16 ^ rem ≤ 16777216 := Nat.le_trans (Nat.pow_le_pow_right (by decide) h) (by decide)

end Go.Abs

/- The functions of the third chapter of the model, by contracts. Own work; no condition. -/
set_option maxRecDepth 100000
set_option linter.unusedSimpArgs false
set_option linter.unusedVariables false
namespace Go.Abs
open Go.Proofs
attribute [local irreducible] awp awpOps awpKeep KeepK awpKeepF KeepF aloop ALoop ACalls ACallq AQuiet retPost retPostA AExit.thn AExit.blk aApp aSt aStA

theorem spec_NetOk_t {s : SV} {net : List Int} {m : Heap} (hs : IsInts .i64 m s net) (hb : NetOk net) : AQuiet Try.prog F.spec_NetOk [.one (.sl s)] m (.one (.bool true)) := by have := spec_NetOk s net m hs; rw [decide_eq_true hb] at this; exact this
theorem spec_NetOk_f {s : SV} {net : List Int} {m : Heap} (hs : IsInts .i64 m s net) (hb : ¬ NetOk net) : AQuiet Try.prog F.spec_NetOk [.one (.sl s)] m (.one (.bool false)) := by have := spec_NetOk s net m hs; rw [decide_eq_false hb] at this; exact this

theorem graceRows_len (net : List Int) : (graceRows net).length ≤ 16777216 := by
  by_cases hN : NetOk net
  · rw [graceRows_search hN]
    exact Nat.le_trans (search_len net (qOf_le hN) _ _ _) (pow16 hN.six)
  · rw [graceRows, if_neg hN]; simp

def graceMany (net : List Int) : Int := if NetOk net then ((graceRows net).length : Int) else -1

/-- The first graceful row. -/
def graceFirst (net : List Int) : List Int := (graceRows net).getD 0 []
theorem graceFirst_none {net : List Int} (h : (graceRows net).length = 0) : graceFirst net = [] := by rw [graceFirst, List.eq_nil_of_length_eq_zero h]; rfl

theorem graceFirst_len (net : List Int) : (graceFirst net).length ≤ 1048576 := by
  rcases Nat.eq_zero_or_pos (graceRows net).length with e | e
  · rw [graceFirst_none e]; simp
  · have hG := mem_graceRows.1 (show graceFirst net ∈ graceRows net by
      rw [graceFirst, List.getD_eq_getElem?_getD, List.getElem?_eq_getElem e]; exact List.getElem_mem e)
    have := hG.low.len
    have := hG.ok.six
    omega
theorem grace_at {net : List Int} {i : Nat} (h : i < (graceRows net).length) : Grace net ((graceRows net).getD i []) := mem_graceRows.1 (by
  rw [List.getD_eq_getElem?_getD, List.getElem?_eq_getElem h]; exact List.getElem_mem h)
theorem graceRows_small (net : List Int) : (graceRows net).length ≤ 100000000 ∧ (∀ i, i < (graceRows net).length → ((graceRows net).getD i []).length ≤ 1000000) ∧ (0 ≤ (1 : Int) ∧ (1 : Int) + (tot (graceRows net) (graceRows net).length : Int) ≤ 1000000000) := by
  have hl := graceRows_len net
  have hi : ∀ i, i < (graceRows net).length → ((graceRows net).getD i []).length ≤ 6 := fun i h => by
    have hG := grace_at h
    have := hG.low.len
    have := hG.ok.six
    omega
  have ht : ∀ i, i ≤ (graceRows net).length → tot (graceRows net) i ≤ 6 * i := fun i => by
    induction i with
    | zero => intro _; exact Nat.le_refl _
    | succ i ih => intro h; have h1 := ih (by omega); have h2 := hi i (by omega); unfold tot; omega
  refine ⟨by omega, fun i h => by have := hi i h; omega, by decide, ?_⟩
  have := ht _ (Nat.le_refl _)
  omega

theorem and63 (n : Int) : 0 ≤ bandInt .i64 n 63 ∧ bandInt .i64 n 63 < 64 := by
  unfold bandInt
  rw [BitVec.toNat_and, IntKind.wrap_i64]
  have e2 : (BitVec.ofInt IntKind.i64.bits 63).toNat = 63 := by decide
  rw [e2]
  have h : (BitVec.ofInt IntKind.i64.bits n).toNat &&& 63 ≤ 63 := Nat.and_le_right
  omega
theorem and63_of {n : Int} (h : 0 ≤ n ∧ n < 64) : bandInt .i64 n 63 = n := by
  obtain ⟨x, rfl⟩ := Int.eq_ofNat_of_zero_le h.1
  have := band_nat x 63 (by omega) (by decide)
  rw [show ((63 : Nat) : Int) = 63 from rfl] at this
  rw [this, show (63 : Nat) = 2 ^ 6 - 1 from rfl, Nat.and_two_pow_sub_one_eq_mod]
  omega

/-- Is it a net, and has each place an even number of neighbours? -/
def EvenOk (net : List Int) : Prop := NetOk net ∧ EvenNet net
instance (net : List Int) : Decidable (EvenNet net) := by unfold EvenNet; infer_instance
instance (net : List Int) : Decidable (EvenOk net) := by unfold EvenOk; infer_instance

end Go.Abs
