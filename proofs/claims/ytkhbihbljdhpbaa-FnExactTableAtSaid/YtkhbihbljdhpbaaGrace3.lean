/- Graceful rows: what they are, and what a turn does. Own work; no condition. -/
import Derived.Test.YtkhbihbljdhpbaaRows4
set_option maxRecDepth 100000
set_option linter.unusedSimpArgs false
set_option linter.unusedVariables false
namespace Go.Abs
open Go.Proofs
attribute [local irreducible] awp awpOps awpKeep KeepK awpKeepF KeepF aloop ALoop ACalls ACallq AQuiet retPost retPostA AExit.thn AExit.blk aApp aSt aStA

/-- How many wires, as a number. -/
def qOf (net : List Int) : Nat := (wires net).length
/-- A graceful row. -/
structure Grace (net row : List Int) : Prop where
  ok : NetOk net
  low : RowIn (qOf net) net row
  once : Once row
  diff : Once (diffs net row)
theorem grace_iff (net row : List Int) : Grace net row ↔ (NetOk net ∧ RowIn (qOf net) net row ∧ Once row ∧ Once (diffs net row)) := ⟨fun h => ⟨h.1, h.2, h.3, h.4⟩, fun h => ⟨h.1, h.2.1, h.2.2.1, h.2.2.2⟩⟩
instance (net row : List Int) : Decidable (Grace net row) := decidable_of_iff' _ (grace_iff net row)

theorem qOf_le {net : List Int} (h : NetOk net) : qOf net ≤ 15 := by
  obtain ⟨_, c2, _⟩ := count_wires h
  have h6 := h.six
  have hc : net.length = 0 ∨ net.length = 1 ∨ net.length = 2 ∨ net.length = 3 ∨ net.length = 4 ∨ net.length = 5 ∨ net.length = 6 := by omega
  unfold qOf
  rcases hc with e | e | e | e | e | e | e <;> rw [e] at c2 <;> omega
theorem Grace.rowOk {net row : List Int} (h : Grace net row) : RowOk net row := rowIn_30 (by have := qOf_le h.ok; omega) h.low
theorem diffs_eq {net row : List Int} (h : RowOk net row) : diffs net row = perWire dist net row := by rw [diffs, if_pos h]

/-- Each difference of a graceful row is in 1..q. -/
theorem Grace.range {net row : List Int} (h : Grace net row) {i : Nat} (hi : i < (diffs net row).length) : 1 ≤ ((diffs net row).getD i 0) ∧ ((diffs net row).getD i 0) ≤ qOf net := by
  have hR := h.rowOk
  have hl := hR.len
  rw [diffs_eq hR] at hi ⊢
  rw [perWire_len] at hi
  obtain ⟨x, y, g1, g2, g3, g4, _⟩ := wire_at hi
  rw [perWire_get _ hi g1]
  have hx := h.low.low x (by omega)
  have hy := h.low.low y (by omega)
  have hne := h.once y (by omega) x g3
  unfold dist
  split <;> omega
theorem Grace.len {net row : List Int} (h : Grace net row) : (diffs net row).length = qOf net := by rw [diffs_eq h.rowOk, perWire_len]; rfl

/-! ### Lists of unlike numbers -/

theorem once_cons {a : Int} {l : List Int} (h : Once (a :: l)) : Once l ∧ ¬ a ∈ l := by
  refine ⟨fun k hk j hj => ?_, fun hm => ?_⟩
  · have := h (k + 1) (by simpa using hk) (j + 1) (by omega)
    simpa [List.getD_eq_getElem?_getD] using this
  · obtain ⟨i, hi, he⟩ := List.getElem_of_mem hm
    have := h (i + 1) (by simpa using hi) 0 (by omega)
    apply this
    simp [List.getD_eq_getElem?_getD, hi, he]
theorem once_mk {a : Int} {l : List Int} (h : Once l) (ha : ¬ a ∈ l) : Once (a :: l) := by
  intro k hk j hj
  cases k with
  | zero => exact absurd hj (Nat.not_lt_zero _)
  | succ k =>
    have hk' : k < l.length := by simpa using hk
    cases j with
    | zero =>
      intro e
      apply ha
      simp only [List.getD_cons_zero, List.getD_cons_succ] at e
      rw [e, List.getD_eq_getElem?_getD, List.getElem?_eq_getElem hk']
      exact List.getElem_mem hk'
    | succ j =>
      have := h k hk' j (by omega)
      simpa using this
theorem once_iff_nodup : ∀ {l : List Int}, Once l ↔ l.Nodup
  | [] => ⟨fun _ => List.nodup_nil, fun _ k hk => absurd hk (Nat.not_lt_zero _)⟩
  | a :: l => by
    rw [List.nodup_cons]
    constructor
    · intro h
      obtain ⟨h1, h2⟩ := once_cons h
      exact ⟨h2, once_iff_nodup.1 h1⟩
    · rintro ⟨h1, h2⟩
      exact once_mk (once_iff_nodup.2 h2) h1

theorem perm_sum {l l' : List Int} (h : l.Perm l') : l.sum = l'.sum := by
  induction h with
  | nil => rfl
  | cons x _ ih => rw [List.sum_cons, List.sum_cons, ih]
  | swap x y l => simp only [List.sum_cons]; omega
  | trans _ _ h1 h2 => rw [h1, h2]

/-- Unlike numbers in 1..q are at most q; if there are q, each one is among them, and their sum is known. -/
theorem nodup_range : ∀ (q : Nat) (l : List Int), l.Nodup → (∀ x ∈ l, 1 ≤ x ∧ x ≤ (q : Int)) → l.length ≤ q ∧ (l.length = q → (∀ d : Int, 1 ≤ d → d ≤ q → d ∈ l) ∧ 2 * l.sum = (q : Int) * (q + 1))
  | 0, l, _, h => by
    have : l = [] := List.eq_nil_iff_forall_not_mem.2 fun x hx => by have := h x hx; omega
    subst this
    exact ⟨Nat.le_refl _, fun _ => ⟨fun d h1 h2 => by omega, by simp⟩⟩
  | q + 1, l, hn, h => by
    by_cases hm : ((q + 1 : Nat) : Int) ∈ l
    · have hp := List.perm_cons_erase hm
      have hn' : (l.erase ((q + 1 : Nat) : Int)).Nodup := hn.erase _
      have hr : ∀ x ∈ l.erase ((q + 1 : Nat) : Int), 1 ≤ x ∧ x ≤ (q : Int) := fun x hx => by
        have h1 := h x (List.mem_of_mem_erase hx)
        have h2 : x ≠ ((q + 1 : Nat) : Int) := fun c => by
          rw [c] at hx
          exact (List.nodup_cons.1 (hp.nodup_iff.1 hn)).1 hx
        omega
      obtain ⟨i1, i2⟩ := nodup_range q _ hn' hr
      have hl : l.length = (l.erase ((q + 1 : Nat) : Int)).length + 1 := by rw [hp.length_eq]; rfl
      refine ⟨by omega, fun hq => ?_⟩
      obtain ⟨j1, j2⟩ := i2 (by omega)
      refine ⟨fun d h1 h2 => ?_, ?_⟩
      · by_cases hd : d = ((q + 1 : Nat) : Int)
        · rw [hd]; exact hm
        · exact List.mem_of_mem_erase (j1 d h1 (by omega))
      · rw [perm_sum hp, List.sum_cons]
        have e : (((q + 1 : Nat) : Int)) * (((q + 1 : Nat) : Int) + 1) = (q : Int) * (q + 1) + 2 * (q + 1) := by
          rw [Int.natCast_add]
          show ((q : Int) + 1) * ((q : Int) + 1 + 1) = _
          rw [Int.add_mul, Int.mul_add, Int.mul_add]; omega
        omega
    · have hr : ∀ x ∈ l, 1 ≤ x ∧ x ≤ (q : Int) := fun x hx => by
        have h1 := h x hx
        have h2 : x ≠ ((q + 1 : Nat) : Int) := fun c => hm (c ▸ hx)
        omega
      obtain ⟨i1, _⟩ := nodup_range q l hn hr
      exact ⟨by omega, fun hq => by omega⟩

theorem mem_getI {l : List Int} {x : Int} (h : x ∈ l) : ∃ i, i < l.length ∧ (l.getD i 0) = x := by
  obtain ⟨i, hi, he⟩ := List.getElem_of_mem h
  exact ⟨i, hi, by rw [List.getD_eq_getElem?_getD, List.getElem?_eq_getElem hi]; exact he⟩
theorem getI_mem {l : List Int} {i : Nat} (h : i < l.length) : (l.getD i 0) ∈ l := by
  rw [List.getD_eq_getElem?_getD, List.getElem?_eq_getElem h]; exact List.getElem_mem h

theorem Grace.all {net row : List Int} (h : Grace net row) : (∀ d : Int, 1 ≤ d → d ≤ qOf net → d ∈ diffs net row) ∧ 2 * (diffs net row).sum = (qOf net : Int) * (qOf net + 1) :=
  (nodup_range (qOf net) _ (once_iff_nodup.1 h.diff) fun x hx => by obtain ⟨i, hi, he⟩ := mem_getI hx; rw [← he]; exact h.range hi).2 h.len

/-- 0 and the greatest number are there, if there are wires. -/
theorem Grace.ends {net row : List Int} (h : Grace net row) (hq : 0 < qOf net) : (0 : Int) ∈ row ∧ (qOf net : Int) ∈ row := by
  have hm := h.all.1 (qOf net) (by omega) (Int.le_refl _)
  obtain ⟨i, hi, he⟩ := mem_getI hm
  have hR := h.rowOk
  have hl := hR.len
  rw [diffs_eq hR] at hi he
  rw [perWire_len] at hi
  obtain ⟨x, y, g1, g2, g3, g4, _⟩ := wire_at hi
  rw [perWire_get _ hi g1] at he
  have hx := h.low.low x (by omega)
  have hy := h.low.low y (by omega)
  have mx := getI_mem (l := row) (i := x) (by omega)
  have my := getI_mem (l := row) (i := y) (by omega)
  unfold dist at he
  split at he
  · have e1 : (row.getD x 0) = 0 := by omega
    have e2 : (row.getD y 0) = qOf net := by omega
    rw [e1] at mx; rw [e2] at my
    exact ⟨mx, my⟩
  · have e1 : (row.getD y 0) = 0 := by omega
    have e2 : (row.getD x 0) = qOf net := by omega
    rw [e1] at my; rw [e2] at mx
    exact ⟨my, mx⟩

/-- A graceful row has at most one place more than there are wires. -/
theorem Grace.places {net row : List Int} (h : Grace net row) : net.length ≤ qOf net + 1 := by
  have hl := h.low.len
  have hr : ∀ x ∈ row.map fun z => z + 1, 1 ≤ x ∧ x ≤ ((qOf net + 1 : Nat) : Int) := fun x hx => by
    obtain ⟨z, hz, rfl⟩ := List.mem_map.1 hx
    obtain ⟨i, hi, he⟩ := mem_getI hz
    have := h.low.low i hi
    omega
  have hn : (row.map fun z => z + 1).Nodup := once_iff_nodup.1 (once_map _ (fun a b e => by omega) h.once)
  have := (nodup_range (qOf net + 1) _ hn hr).1
  rw [List.length_map] at this
  omega

/-- The turned row. -/
def turnG (net row : List Int) : List Int := row.map fun z => (qOf net : Int) - z
theorem turnG_eq {net row : List Int} (h : Grace net row) : turned net row (qOf net) = turnG net row := turned_in (by have := qOf_le h.ok; omega) h.low
theorem dist_turn (c a b : Int) : dist (c - a) (c - b) = dist a b := by unfold dist; split <;> split <;> omega
theorem diffs_turnG {net row : List Int} (h : RowIn (qOf net) net row) (hN : NetOk net) : diffs net (turnG net row) = diffs net row := by
  have hl := h.len
  have hq := qOf_le hN
  have h1 := rowIn_30 (by omega) h
  have h2 := rowIn_30 (by omega) (rowIn_turned h)
  rw [turnG, diffs_eq h2, diffs_eq h1]
  refine perWire_congr fun x y hx hy => ?_
  rw [map_get _ (by omega), map_get _ (by omega), dist_turn]
theorem Grace.turn {net row : List Int} (h : Grace net row) : Grace net (turnG net row) :=
  ⟨h.ok, rowIn_turned h.low, once_map _ (fun a b e => by omega) h.once, by rw [diffs_turnG h.low h.ok]; exact h.diff⟩
theorem turnG_turnG (net row : List Int) : turnG net (turnG net row) = row := map_map_id fun z => by omega

/-- Is each place's number of neighbours even? -/
def EvenNet (net : List Int) : Prop := ∀ k, k < net.length → pc ((net.getD k 0)).toNat % 2 = 0

theorem sig_even {f : Nat → Int} : ∀ {n : Nat}, (∀ i, i < n → f i % 2 = 0) → sig n f % 2 = 0
  | 0, _ => rfl
  | n + 1, h => by have h1 := sig_even (n := n) fun i hi => h i (by omega); have h2 := h n (by omega); rw [sig_succ]; omega

theorem sum_parity : ∀ (l r : List Int), l.length = r.length → (∀ i, i < l.length → ((l.getD i 0) - (r.getD i 0)) % 2 = 0) → (l.sum - r.sum) % 2 = 0
  | [], [], _, _ => rfl
  | a :: l, b :: r, h, hp => by
    have h1 := sum_parity l r (by simpa using h) fun i hi => by have := hp (i + 1) (by simpa using hi); simpa using this
    have h2 := hp 0 (by simp)
    simp only [List.getD_cons_zero] at h2
    rw [List.sum_cons, List.sum_cons]
    omega

/-- Even nets of the wrong size have none. -/
theorem Grace.parity {net row : List Int} (h : Grace net row) (he : EvenNet net) : qOf net % 4 = 0 ∨ qOf net % 4 = 3 := by
  have hR := h.rowOk
  have h1 := h.all.2
  have hs := sums_sum hR
  have hl : (sums net row).length = (diffs net row).length := by rw [sums, if_pos hR, perWire_len, diffs_eq hR, perWire_len]
  have hp := sum_parity (sums net row) (diffs net row) hl fun i hi => by
    rw [sums, if_pos hR, perWire_len] at hi
    obtain ⟨d, s, e1, e2, _, _, e5, _⟩ := diff_sum hR hi
    rw [e1, e2]; exact e5
  have hw : wsum net row net.length % 2 = 0 := sig_even fun k hk => by
    have := he k hk
    rw [Int.mul_emod, show ((pc ((net.getD k 0)).toNat : Nat) : Int) % 2 = 0 by omega]
    simp
  have h2 : (diffs net row).sum % 2 = 0 := by omega
  have hq := qOf_le h.ok
  generalize qOf net = q at *
  have hc : q = 0 ∨ q = 1 ∨ q = 2 ∨ q = 3 ∨ q = 4 ∨ q = 5 ∨ q = 6 ∨ q = 7 ∨ q = 8 ∨ q = 9 ∨ q = 10 ∨ q = 11 ∨ q = 12 ∨ q = 13 ∨ q = 14 ∨ q = 15 := by omega
  rcases hc with rfl | rfl | rfl | rfl | rfl | rfl | rfl | rfl | rfl | rfl | rfl | rfl | rfl | rfl | rfl | rfl <;> omega

end Go.Abs

/- All graceful rows of a net, in their order; how a search that leaves out what does not fit finds them. Own work; no condition. -/
set_option maxRecDepth 100000
set_option linter.unusedSimpArgs false
set_option linter.unusedVariables false
namespace Go.Abs
open Go.Proofs
attribute [local irreducible] awp awpOps awpKeep KeepK awpKeepF KeepF aloop ALoop ACalls ACallq AQuiet retPost retPostA AExit.thn AExit.blk aApp aSt aStA

/-- All rows that begin with a row, by numbers in 0..most. -/
def extRows (most : Nat) : Nat → List Int → List (List Int)
  | 0, row => [row]
  | rem + 1, row => (List.range (most + 1)).flatMap fun n : Nat => extRows most rem (row ++ [(n : Int)])
theorem mem_extRows {most : Nat} {x : List Int} : ∀ {rem : Nat} {row : List Int}, x ∈ extRows most rem row ↔ ∃ t, x = row ++ t ∧ t.length = rem ∧ ∀ z ∈ t, 0 ≤ z ∧ z ≤ (most : Int)
  | 0, row => by
    rw [extRows, List.mem_singleton]
    constructor
    · rintro rfl; exact ⟨[], by simp, rfl, by simp⟩
    · rintro ⟨t, rfl, h, _⟩; rw [List.eq_nil_of_length_eq_zero h, List.append_nil]
  | rem + 1, row => by
    rw [extRows, List.mem_flatMap]
    constructor
    · rintro ⟨n, hn, hx⟩
      obtain ⟨t, rfl, h1, h2⟩ := mem_extRows.1 hx
      have := List.mem_range.1 hn
      refine ⟨(n : Int) :: t, by simp, by simp [h1], fun z hz => ?_⟩
      rcases List.mem_cons.1 hz with rfl | hz
      · omega
      · exact h2 z hz
    · rintro ⟨t, rfl, h1, h2⟩
      cases t with
      | nil => cases h1
      | cons a t =>
        have ha := h2 a (by simp)
        refine ⟨a.toNat, List.mem_range.2 (by omega), mem_extRows.2 ⟨t, ?_, by simpa using h1, fun z hz => h2 z (by simp [hz])⟩⟩
        rw [Int.toNat_of_nonneg ha.1]; simp

/-- All graceful rows of a net. -/
def graceRows (net : List Int) : List (List Int) := if NetOk net then (extRows (qOf net) net.length []).filter (fun row => decide (Grace net row)) else []
theorem mem_graceRows {net row : List Int} : row ∈ graceRows net ↔ Grace net row := by
  unfold graceRows
  by_cases hN : NetOk net
  · rw [if_pos hN, List.mem_filter, mem_extRows]
    constructor
    · rintro ⟨_, h⟩; exact of_decide_eq_true h
    · intro h
      refine ⟨⟨row, rfl, h.low.len, fun z hz => ?_⟩, decide_eq_true h⟩
      obtain ⟨i, hi, rfl⟩ := mem_getI hz
      exact h.low.low i hi
  · rw [if_neg hN]
    exact ⟨fun h => absurd h List.not_mem_nil, fun h => absurd h.ok hN⟩

/-! ### Their order -/

def RowLt (a b : List Int) : Prop := ∃ k, k < a.length ∧ k < b.length ∧ (∀ i, i < k → (a.getD i 0) = (b.getD i 0)) ∧ (a.getD k 0) < (b.getD k 0)
theorem getI_app_l {a t : List Int} {i : Nat} (h : i < a.length) : (a ++ t).getD i 0 = (a.getD i 0) := by
  simp only [List.getD_eq_getElem?_getD, List.getElem?_append_left h]
theorem getI_app_at (a : List Int) (z : Int) (t : List Int) : (a ++ z :: t).getD a.length 0 = z := by
  simp [List.getD_eq_getElem?_getD]

theorem ext_sorted (most : Nat) : ∀ (rem : Nat) (row : List Int), (extRows most rem row).Pairwise RowLt
  | 0, row => by simp [extRows]
  | rem + 1, row => by
    rw [extRows]
    have key : ∀ (L : List Nat), L.Pairwise (· < ·) → (L.flatMap fun n : Nat => extRows most rem (row ++ [(n : Int)])).Pairwise RowLt := by
      intro L
      induction L with
      | nil => intro _; simp
      | cons n L ih =>
        intro hL
        rw [List.pairwise_cons] at hL
        rw [List.flatMap_cons, List.pairwise_append]
        refine ⟨ext_sorted most rem _, ih hL.2, fun x hx y hy => ?_⟩
        obtain ⟨m, hm, hy⟩ := List.mem_flatMap.1 hy
        obtain ⟨t, rfl, _⟩ := mem_extRows.1 hx
        obtain ⟨u, rfl, _⟩ := mem_extRows.1 hy
        have hlt := hL.1 m hm
        simp only [List.append_assoc, List.singleton_append]
        refine ⟨row.length, by simp, by simp, fun i hi => ?_, ?_⟩
        · rw [getI_app_l hi, getI_app_l hi]
        · rw [getI_app_at, getI_app_at]; omega
    exact key _ List.pairwise_lt_range

theorem graceRows_sorted (net : List Int) : (graceRows net).Pairwise RowLt := by
  unfold graceRows
  split
  · exact (ext_sorted _ _ _).filter _
  · exact List.Pairwise.nil
theorem rowLt_irrefl (a : List Int) : ¬ RowLt a a := fun ⟨k, _, _, _, h⟩ => Int.lt_irrefl _ h
theorem graceRows_nodup (net : List Int) : (graceRows net).Nodup := (graceRows_sorted net).imp fun h e => by subst e; exact rowLt_irrefl _ h

/-- A map that turns all, moves each, and comes back, pairs them up. -/
theorem even_of_pairs {α : Type} [DecidableEq α] (f : α → α) : ∀ (n : Nat) (l : List α), l.length ≤ n → l.Nodup → (∀ x ∈ l, f x ∈ l ∧ f x ≠ x ∧ f (f x) = x) → l.length % 2 = 0
  | _, [], _, _, _ => rfl
  | 0, _ :: _, h, _, _ => absurd h (by simp)
  | n + 1, a :: l, h, hn, hf => by
    obtain ⟨f1, f2, f3⟩ := hf a (by simp)
    have hn' := List.nodup_cons.1 hn
    have hm : f a ∈ l := by
      rcases List.mem_cons.1 f1 with e | e
      · exact absurd e f2
      · exact e
    have hp := List.perm_cons_erase hm
    have hne := List.nodup_cons.1 (hp.nodup_iff.1 hn'.2)
    have ih := even_of_pairs f n (l.erase (f a)) (by rw [List.length_erase_of_mem hm]; simp at h; omega) hne.2 fun x hx => by
      have hxl := List.mem_of_mem_erase hx
      obtain ⟨g1, g2, g3⟩ := hf x (by simp [hxl])
      have x1 : x ≠ a := fun e => hn'.1 (e ▸ hxl)
      have x2 : x ≠ f a := fun e => hne.1 (e ▸ hx)
      refine ⟨?_, g2, g3⟩
      rcases List.mem_cons.1 g1 with e | e
      · exact absurd (by rw [← e, g3] : x = f a) x2
      · refine (List.mem_erase_of_ne fun e2 => ?_).2 e
        apply x1
        rw [← g3, e2, f3]
    have hl := hp.length_eq
    simp only [List.length_cons] at hl ⊢
    omega

theorem grace_even {net : List Int} (hq : 0 < qOf net) : (graceRows net).length % 2 = 0 := by
  refine even_of_pairs (turnG net) _ _ (Nat.le_refl _) (graceRows_nodup net) fun x hx => ?_
  have h := mem_graceRows.1 hx
  refine ⟨mem_graceRows.2 h.turn, fun e => ?_, turnG_turnG _ _⟩
  obtain ⟨m0, m1⟩ := h.ends hq
  obtain ⟨i, hi, e0⟩ := mem_getI m0
  obtain ⟨j, hj, e1⟩ := mem_getI m1
  have ei : ((turnG net x).getD i 0) = (qOf net : Int) - (x.getD i 0) := map_get _ hi
  have ej : ((turnG net x).getD j 0) = (qOf net : Int) - (x.getD j 0) := map_get _ hj
  rw [e] at ei ej
  omega

theorem turn_rowLt {net a b : List Int} (h : RowLt a b) : RowLt (turnG net b) (turnG net a) := by
  obtain ⟨k, h1, h2, h3, h4⟩ := h
  refine ⟨k, by simp only [turnG, List.length_map]; exact h2, by simp only [turnG, List.length_map]; exact h1, fun i hi => ?_, ?_⟩
  · rw [turnG, turnG, map_get _ (by omega), map_get _ (by omega), h3 i hi]
  · rw [turnG, turnG, map_get _ h2, map_get _ h1]; omega

/-- The first one turned is the last one. -/
theorem grace_first_last {net : List Int} (h : 0 < (graceRows net).length) : turnG net ((graceRows net).getD 0 []) = (graceRows net).getD ((graceRows net).length - 1) [] := by
  have hs := List.pairwise_iff_getElem.1 (graceRows_sorted net)
  have e0 : (graceRows net).getD 0 [] = (graceRows net)[0] := by simp [List.getD_eq_getElem?_getD, h]
  have hlt : (graceRows net).length - 1 < (graceRows net).length := by omega
  have e1 : (graceRows net).getD ((graceRows net).length - 1) [] = (graceRows net)[(graceRows net).length - 1] := by simp [List.getD_eq_getElem?_getD, hlt]
  rw [e0, e1]
  have m0 : turnG net (graceRows net)[0] ∈ graceRows net := mem_graceRows.2 (mem_graceRows.1 (List.getElem_mem h)).turn
  have m1 : turnG net (graceRows net)[(graceRows net).length - 1] ∈ graceRows net := mem_graceRows.2 (mem_graceRows.1 (List.getElem_mem hlt)).turn
  obtain ⟨i, hi, ei⟩ := List.getElem_of_mem m0
  obtain ⟨j, hj, ej⟩ := List.getElem_of_mem m1
  by_cases hil : i = (graceRows net).length - 1
  · subst hil; exact ei.symm
  · exfalso
    have l1 := turn_rowLt (net := net) (hs i ((graceRows net).length - 1) hi hlt (by omega))
    rw [ei, turnG_turnG, ← ej] at l1
    rcases Nat.eq_zero_or_pos j with rfl | hj0
    · exact rowLt_irrefl _ l1
    · have l2 := hs 0 j h hj hj0
      obtain ⟨k, a1, a2, a3, a4⟩ := l1
      obtain ⟨k', b1, b2, b3, b4⟩ := l2
      rcases Nat.lt_trichotomy k k' with c | rfl | c
      · have := b3 k c; omega
      · omega
      · have := a3 k' c; omega

/-! ### The search -/

/-- No two wires of the first places have the same difference. -/
def DD (net row : List Int) : Prop := ∀ a b c d, a < b → b < row.length → c < d → d < row.length → bit ((net.getD b 0)) a = true → bit ((net.getD d 0)) c = true → dist ((row.getD a 0)) ((row.getD b 0)) = dist ((row.getD c 0)) ((row.getD d 0)) → a = c ∧ b = d
def Came (net row : List Int) (came : Nat) : Prop := ∀ v : Nat, came.testBit v = true ↔ ∃ a b, a < b ∧ b < row.length ∧ bit ((net.getD b 0)) a = true ∧ dist ((row.getD a 0)) ((row.getD b 0)) = (v : Int)

theorem wire_index {net : List Int} (h : NetOk net) {a b : Nat} (hab : a < b) (hb : b < net.length) (hw : bit ((net.getD a 0)) b = true) : ∃ i, i < (wires net).length ∧ (wires net).getD i [] = [(a : Int), (b : Int)] := by
  have m1 : ∀ j, b < j → [(a : Int), (b : Int)] ∈ wiresIn net a j := fun j => by
    induction j with
    | zero => intro c; omega
    | succ j ih =>
      intro c
      rw [wiresIn]
      by_cases e : b = j
      · subst e; rw [if_pos ⟨hab, hw⟩]; simp
      · have := ih (by omega)
        split
        · exact List.mem_append_left _ this
        · exact this
  have m2 : ∀ k, a < k → [(a : Int), (b : Int)] ∈ wiresTo net k := fun k => by
    induction k with
    | zero => intro c; omega
    | succ k ih =>
      intro c
      rw [wiresTo]
      by_cases e : a = k
      · subst e; exact List.mem_append_right _ (m1 _ hb)
      · exact List.mem_append_left _ (ih (by omega))
  obtain ⟨i, hi, he⟩ := List.getElem_of_mem (m2 net.length (by omega))
  exact ⟨i, hi, by rw [List.getD_eq_getElem?_getD]; show ((wiresTo net net.length)[i]?).getD [] = _; rw [List.getElem?_eq_getElem hi]; exact he⟩
theorem ahead_irrefl (x : List Int) : ¬ Ahead x x := by
  rintro ⟨a, b, c, d, h1, h2, h3⟩
  rw [h1] at h2
  simp only [List.cons.injEq, and_true] at h2
  omega
theorem wires_unlike {net : List Int} {i j : Nat} (hi : i < (wires net).length) (hj : j < i) : (wires net).getD j [] ≠ (wires net).getD i [] := by
  have hi' : i < (wiresTo net net.length).length := hi
  have := List.pairwise_iff_getElem.1 (to_order net net.length) j i (by omega) hi' hj
  intro e
  rw [List.getD_eq_getElem?_getD, List.getD_eq_getElem?_getD] at e
  have e1 : ((wires net)[j]?).getD [] = (wiresTo net net.length)[j]'(by omega) := by
    show ((wiresTo net net.length)[j]?).getD [] = _
    rw [List.getElem?_eq_getElem (by omega)]; rfl
  have e2 : ((wires net)[i]?).getD [] = (wiresTo net net.length)[i]'hi' := by
    show ((wiresTo net net.length)[i]?).getD [] = _
    rw [List.getElem?_eq_getElem hi']; rfl
  rw [e1, e2] at e
  rw [e] at this
  exact ahead_irrefl _ this

theorem once_diffs_iff {net row : List Int} (hR : RowOk net row) : Once (diffs net row) ↔ DD net row := by
  have hN := hR.ok
  have hl := hR.len
  rw [diffs_eq hR]
  constructor
  · intro h a b c d hab hb hcd hd wb wd he
    obtain ⟨i, hi, ei⟩ := wire_index hN hab (by omega) (by rw [hN.sym (by omega) (by omega)]; exact wb)
    obtain ⟨j, hj, ej⟩ := wire_index hN hcd (by omega) (by rw [hN.sym (by omega) (by omega)]; exact wd)
    have e1 := perWire_get dist (row := row) hi ei
    have e2 := perWire_get dist (row := row) hj ej
    rw [← e1, ← e2] at he
    have hij : i = j := by
      rcases Nat.lt_trichotomy i j with c | c | c
      · exact absurd he (h j (by rw [perWire_len]; exact hj) i c)
      · exact c
      · exact absurd he.symm (h i (by rw [perWire_len]; exact hi) j c)
    subst hij
    rw [ei] at ej
    simp only [List.cons.injEq, and_true] at ej
    omega
  · intro h i hi j hj he
    rw [perWire_len] at hi
    obtain ⟨a, b, g1, g2, g3, g4, g5⟩ := wire_at hi
    obtain ⟨c, d, k1, k2, k3, k4, k5⟩ := wire_at (show j < (wires net).length by omega)
    rw [perWire_get _ hi g1, perWire_get _ (show j < (wires net).length by omega) k1] at he
    obtain ⟨rfl, rfl⟩ := h c d a b k3 (by omega) g3 (by omega) (by rw [hN.sym (by omega) (by omega)]; exact k5) (by rw [hN.sym (by omega) (by omega)]; exact g5) he
    have := wires_unlike hi hj
    rw [g1, k1] at this
    exact this rfl

end Go.Abs

/- The search for graceful rows, place by place. Own work; no condition. -/
set_option maxRecDepth 100000
set_option linter.unusedSimpArgs false
set_option linter.unusedVariables false
namespace Go.Abs
open Go.Proofs
attribute [local irreducible] awp awpOps awpKeep KeepK awpKeepF KeepF aloop ALoop ACalls ACallq AQuiet retPost retPostA AExit.thn AExit.blk aApp aSt aStA

/-- Does the number n fit behind a row? The differences that came then. -/
def fitsTo (net row : List Int) (n : Int) (came : Nat) : Nat → Option Nat
  | 0 => some came
  | k + 1 => match fitsTo net row n came k with
    | none => none
    | some c => if (row.getD k 0) = n then none else if bit ((net.getD row.length 0)) k = true then (if c.testBit (dist ((row.getD k 0)) n).toNat = true then none else some (c ||| 2 ^ (dist ((row.getD k 0)) n).toNat)) else some c
def search (net : List Int) (most : Nat) : Nat → List Int → Nat → List (List Int)
  | 0, row, _ => [row]
  | rem + 1, row, came => (List.range (most + 1)).flatMap fun n : Nat => match fitsTo net row (n : Int) came row.length with
    | none => []
    | some c => search net most rem (row ++ [(n : Int)]) c

theorem dist_nat (a b : Int) : (((dist a b).toNat : Nat) : Int) = dist a b := by unfold dist; split <;> omega
theorem dist_toNat {a b c d : Int} : (dist a b).toNat = (dist c d).toNat ↔ dist a b = dist c d := by
  have h1 := dist_nat a b
  have h2 := dist_nat c d
  constructor
  · intro h; rw [← h1, ← h2, h]
  · intro h; rw [h]

theorem fits_some {net row : List Int} {n : Int} {came : Nat} : ∀ {k c : Nat}, fitsTo net row n came k = some c →
    (∀ i, i < k → (row.getD i 0) ≠ n) ∧ (∀ i, i < k → bit ((net.getD row.length 0)) i = true → came.testBit (dist ((row.getD i 0)) n).toNat = false ∧ ∀ j, j < i → bit ((net.getD row.length 0)) j = true → dist ((row.getD j 0)) n ≠ dist ((row.getD i 0)) n) ∧
    ∀ v, c.testBit v = true ↔ came.testBit v = true ∨ ∃ i, i < k ∧ bit ((net.getD row.length 0)) i = true ∧ (dist ((row.getD i 0)) n).toNat = v
  | 0, c, h => by
    cases h
    exact ⟨fun i hi => absurd hi (Nat.not_lt_zero _), fun i hi => absurd hi (Nat.not_lt_zero _), fun v => ⟨.inl, fun h => h.elim id fun ⟨i, hi, _⟩ => absurd hi (Nat.not_lt_zero _)⟩⟩
  | k + 1, c, h => by
    rw [fitsTo] at h
    cases hk : fitsTo net row n came k with
    | none => rw [hk] at h; cases h
    | some c0 =>
      rw [hk] at h
      simp only at h
      obtain ⟨p1, p2, p3⟩ := fits_some hk
      by_cases he : (row.getD k 0) = n
      · rw [if_pos he] at h; cases h
      · rw [if_neg he] at h
        have q1 : ∀ i, i < k + 1 → (row.getD i 0) ≠ n := fun i hi => by
          rcases Nat.lt_succ_iff_lt_or_eq.1 hi with c | rfl
          · exact p1 i c
          · exact he
        by_cases hb : bit ((net.getD row.length 0)) k = true
        · rw [if_pos hb] at h
          by_cases ht : c0.testBit (dist ((row.getD k 0)) n).toNat = true
          · rw [if_pos ht] at h; cases h
          · rw [if_neg ht] at h
            cases h
            refine ⟨q1, fun i hi hbi => ?_, fun v => ?_⟩
            · rcases Nat.lt_succ_iff_lt_or_eq.1 hi with c | rfl
              · exact p2 i c hbi
              · refine ⟨Bool.eq_false_iff.2 fun c => ht ((p3 _).2 (.inl c)), fun j hj hbj e => ht ((p3 _).2 (.inr ⟨j, hj, hbj, dist_toNat.2 e⟩))⟩
            · rw [Nat.testBit_or, Bool.or_eq_true, Nat.testBit_two_pow, decide_eq_true_eq, p3]
              constructor
              · rintro ((h | ⟨i, h1, h2, h3⟩) | h)
                · exact .inl h
                · exact .inr ⟨i, by omega, h2, h3⟩
                · exact .inr ⟨k, Nat.lt_succ_self _, hb, h⟩
              · rintro (h | ⟨i, h1, h2, h3⟩)
                · exact .inl (.inl h)
                · rcases Nat.lt_succ_iff_lt_or_eq.1 h1 with c | rfl
                  · exact .inl (.inr ⟨i, c, h2, h3⟩)
                  · exact .inr h3
        · rw [if_neg hb] at h
          cases h
          refine ⟨q1, fun i hi hbi => ?_, fun v => ?_⟩
          · rcases Nat.lt_succ_iff_lt_or_eq.1 hi with c | rfl
            · exact p2 i c hbi
            · exact absurd hbi hb
          · rw [p3]
            constructor
            · rintro (h | ⟨i, h1, h2, h3⟩)
              · exact .inl h
              · exact .inr ⟨i, by omega, h2, h3⟩
            · rintro (h | ⟨i, h1, h2, h3⟩)
              · exact .inl h
              · rcases Nat.lt_succ_iff_lt_or_eq.1 h1 with c | rfl
                · exact .inr ⟨i, c, h2, h3⟩
                · exact absurd h2 hb

theorem fits_none {net row : List Int} {n : Int} {came : Nat} : ∀ {k : Nat}, fitsTo net row n came k = none →
    (∃ i, i < k ∧ (row.getD i 0) = n) ∨ ∃ i, i < k ∧ bit ((net.getD row.length 0)) i = true ∧ (came.testBit (dist ((row.getD i 0)) n).toNat = true ∨ ∃ j, j < i ∧ bit ((net.getD row.length 0)) j = true ∧ dist ((row.getD j 0)) n = dist ((row.getD i 0)) n)
  | 0, h => by cases h
  | k + 1, h => by
    rw [fitsTo] at h
    cases hk : fitsTo net row n came k with
    | none =>
      rcases fits_none hk with ⟨i, h1, h2⟩ | ⟨i, h1, h2⟩
      · exact .inl ⟨i, by omega, h2⟩
      · exact .inr ⟨i, by omega, h2⟩
    | some c0 =>
      rw [hk] at h
      simp only at h
      obtain ⟨p1, p2, p3⟩ := fits_some hk
      by_cases he : (row.getD k 0) = n
      · exact .inl ⟨k, Nat.lt_succ_self _, he⟩
      · rw [if_neg he] at h
        by_cases hb : bit ((net.getD row.length 0)) k = true
        · rw [if_pos hb] at h
          by_cases ht : c0.testBit (dist ((row.getD k 0)) n).toNat = true
          · refine .inr ⟨k, Nat.lt_succ_self _, hb, ?_⟩
            rcases (p3 _).1 ht with c | ⟨j, h1, h2, h3⟩
            · exact .inl c
            · exact .inr ⟨j, h1, h2, dist_toNat.1 h3⟩
          · rw [if_neg ht] at h; cases h
        · rw [if_neg hb] at h; cases h

/-- What holds of a row on the way. -/
structure Way (net : List Int) (most : Nat) (row : List Int) (came : Nat) : Prop where
  low : ∀ i, i < row.length → 0 ≤ (row.getD i 0) ∧ (row.getD i 0) ≤ (most : Int)
  once : Once row
  dd : DD net row
  came : Came net row came

theorem way_nil (net : List Int) (most : Nat) : Way net most [] 0 :=
  ⟨fun i hi => absurd hi (Nat.not_lt_zero _), fun i hi => absurd hi (Nat.not_lt_zero _), fun a b c d _ hb => absurd hb (Nat.not_lt_zero _), fun v => by
    rw [Nat.zero_testBit]
    exact ⟨fun h => Bool.noConfusion h, fun ⟨a, b, _, hb, _⟩ => absurd hb (Nat.not_lt_zero _)⟩⟩

theorem push_l (row : List Int) (n : Int) {i : Nat} (h : i < row.length) : (row ++ [n]).getD i 0 = (row.getD i 0) := getI_app_l h
theorem push_at (row : List Int) (n : Int) : (row ++ [n]).getD row.length 0 = n := getI_app_at row n []

theorem Way.push {net : List Int} {most : Nat} {row : List Int} {came c : Nat} {n : Int} (h : Way net most row came) (hn : 0 ≤ n ∧ n ≤ (most : Int)) (hf : fitsTo net row n came row.length = some c) : Way net most (row ++ [n]) c := by
  obtain ⟨p1, p2, p3⟩ := fits_some hf
  have hl : (row ++ [n]).length = row.length + 1 := by simp
  refine ⟨fun i hi => ?_, fun i hi j hj => ?_, fun a b c' d hab hb hcd hd wb wd he => ?_, fun v => ?_⟩
  · rw [hl] at hi
    rcases Nat.lt_succ_iff_lt_or_eq.1 hi with e | rfl
    · rw [push_l _ _ e]; exact h.low i e
    · rw [push_at]; exact hn
  · rw [hl] at hi
    rcases Nat.lt_succ_iff_lt_or_eq.1 hi with e | rfl
    · rw [push_l _ _ e, push_l _ _ (by omega)]; exact h.once i e j hj
    · rw [push_at, push_l _ _ hj]; exact p1 j hj
  · rw [hl] at hb hd
    rcases Nat.lt_succ_iff_lt_or_eq.1 hb with eb | rfl
    · rw [push_l _ _ (by omega : a < row.length), push_l _ _ eb] at he
      rcases Nat.lt_succ_iff_lt_or_eq.1 hd with ed | rfl
      · rw [push_l _ _ (by omega : c' < row.length), push_l _ _ ed] at he
        exact h.dd a b c' d hab eb hcd ed wb wd he
      · rw [push_l _ _ hcd, push_at] at he
        have := (p2 c' hcd wd).1
        rw [(h.came _).2 ⟨a, b, hab, eb, wb, by rw [he, dist_nat]⟩] at this
        cases this
    · rw [push_l _ _ hab, push_at] at he
      rcases Nat.lt_succ_iff_lt_or_eq.1 hd with ed | rfl
      · rw [push_l _ _ (by omega : c' < row.length), push_l _ _ ed] at he
        have := (p2 a hab wb).1
        rw [(h.came _).2 ⟨c', d, hcd, ed, wd, by rw [← he, dist_nat]⟩] at this
        cases this
      · rw [push_l _ _ hcd, push_at] at he
        refine ⟨?_, rfl⟩
        rcases Nat.lt_trichotomy a c' with e | e | e
        · exact absurd he ((p2 c' hcd wd).2 a e wb)
        · exact e
        · exact absurd he.symm ((p2 a hab wb).2 c' e wd)
  · rw [p3, h.came v]
    constructor
    · rintro (⟨a, b, h1, h2, h3, h4⟩ | ⟨i, h1, h2, h3⟩)
      · exact ⟨a, b, h1, by omega, h3, by rw [push_l _ _ (by omega), push_l _ _ h2]; exact h4⟩
      · exact ⟨i, row.length, h1, by omega, h2, by rw [push_l _ _ h1, push_at, ← h3, dist_nat]⟩
    · rintro ⟨a, b, h1, h2, h3, h4⟩
      rw [hl] at h2
      rcases Nat.lt_succ_iff_lt_or_eq.1 h2 with e | rfl
      · rw [push_l _ _ (by omega), push_l _ _ e] at h4
        exact .inl ⟨a, b, h1, e, h3, h4⟩
      · rw [push_l _ _ h1, push_at] at h4
        exact .inr ⟨a, h1, h3, by rw [h4]; simp⟩

/-- What does not fit has no graceful row behind it. -/
theorem Way.none {net : List Int} {most : Nat} {row t : List Int} {came : Nat} {n : Int} (h : Way net most row came) (hf : fitsTo net row n came row.length = none) : ¬ (Once (row ++ n :: t) ∧ DD net (row ++ n :: t)) := by
  rintro ⟨ho, hd⟩
  have hl : row.length < (row ++ n :: t).length := by simp
  have gl : ∀ i, i < row.length → (row ++ n :: t).getD i 0 = (row.getD i 0) := fun i hi => getI_app_l hi
  have ga : (row ++ n :: t).getD row.length 0 = n := getI_app_at row n t
  rcases fits_none hf with ⟨i, h1, h2⟩ | ⟨i, h1, h2, h3 | ⟨j, g1, g2, g3⟩⟩
  · have := ho row.length hl i h1
    rw [gl i h1, ga] at this
    exact this h2
  · obtain ⟨a, b, k1, k2, k3, k4⟩ := (h.came _).1 h3
    rw [dist_nat] at k4
    have := hd a b i row.length k1 (by omega) h1 hl k3 h2 (by rw [gl a (by omega), gl b k2, gl i h1, ga]; exact k4)
    omega
  · have := hd j row.length i row.length (by omega) hl h1 hl g2 h2 (by rw [gl j (by omega), gl i h1, ga]; exact g3)
    omega

theorem flatMap_eq {α β : Type} {f g : α → List β} : ∀ {l : List α}, (∀ x ∈ l, f x = g x) → l.flatMap f = l.flatMap g
  | [], _ => rfl
  | a :: l, h => by rw [List.flatMap_cons, List.flatMap_cons, h a (by simp), flatMap_eq fun x hx => h x (by simp [hx])]
theorem filter_flat {α β : Type} (p : β → Bool) (f : α → List β) : ∀ l : List α, (l.flatMap f).filter p = l.flatMap fun x => (f x).filter p
  | [] => rfl
  | a :: l => by rw [List.flatMap_cons, List.flatMap_cons, List.filter_append, filter_flat p f l]

theorem grace_dd {net row : List Int} (hN : NetOk net) (hl : row.length = net.length) (hlow : ∀ i, i < row.length → 0 ≤ (row.getD i 0) ∧ (row.getD i 0) ≤ (qOf net : Int)) : Grace net row ↔ Once row ∧ DD net row := by
  have hI : RowIn (qOf net) net row := ⟨hN, hl, hlow⟩
  have hR := rowIn_30 (by have := qOf_le hN; omega) hI
  constructor
  · intro h; exact ⟨h.once, (once_diffs_iff hR).1 h.diff⟩
  · rintro ⟨h1, h2⟩; exact ⟨hN, hI, h1, (once_diffs_iff hR).2 h2⟩

theorem search_eq {net : List Int} (hN : NetOk net) : ∀ (rem : Nat) (row : List Int) (came : Nat), Way net (qOf net) row came → row.length + rem = net.length → search net (qOf net) rem row came = (extRows (qOf net) rem row).filter fun r => decide (Grace net r)
  | 0, row, came, h, hl => by
    rw [search, extRows]
    have : Grace net row := (grace_dd hN (by omega) h.low).2 ⟨h.once, h.dd⟩
    simp [this]
  | rem + 1, row, came, h, hl => by
    rw [search, extRows, filter_flat]
    refine flatMap_eq fun n hn => ?_
    have hn' := List.mem_range.1 hn
    cases hf : fitsTo net row (n : Int) came row.length with
    | some c =>
      simp only
      exact search_eq hN rem _ c (h.push (by omega) hf) (by rw [List.length_append, List.length_cons, List.length_nil]; omega)
    | none =>
      simp only
      symm
      rw [List.filter_eq_nil_iff]
      intro x hx hg
      obtain ⟨t, rfl, h1, h2⟩ := mem_extRows.1 hx
      have hG : Grace net (row ++ [(n : Int)] ++ t) := of_decide_eq_true hg
      refine h.none (t := t) hf ?_
      have e : row ++ [(n : Int)] ++ t = row ++ (n : Int) :: t := by simp
      rw [e] at hG
      exact (grace_dd hN hG.low.len hG.low.low).1 hG

theorem graceRows_search {net : List Int} (hN : NetOk net) : graceRows net = search net (qOf net) net.length [] 0 := by
  rw [graceRows, if_pos hN, search_eq hN _ _ _ (way_nil net _) (by simp)]

end Go.Abs
