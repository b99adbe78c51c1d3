/- Graceful rows: what they are, and what a turn does. Own work; no condition. -/
import Derived.Test.YtcbnigipnepnkaaRowM
set_option maxRecDepth 100000
set_option linter.unusedSimpArgs false
set_option linter.unusedVariables false
namespace Go.Abs
open Go.Proofs
attribute [local irreducible] awp awpOps aloop ALoop ACalls ACallq AQuiet retPost retPostA AExit.thn AExit.blk aApp aSt aStA

/-- How many wires, as a number. -/
def qOf (net : List Int) : Nat := (wires net).length
/-- A graceful row. -/
structure Grace (net row : List Int) : Prop where
  ok : NetOk net
  low : RowIn (qOf net) net row
  once : Once row
  diff : Once (diffs net row)
theorem grace_iff (net row : List Int) : Grace net row ↔ (NetOk net ∧ RowIn (qOf net) net row ∧ Once row ∧ Once (diffs net row)) := ⟨fun h => ⟨h.1, h.2, h.3, h.4⟩, fun h => ⟨h.1, h.2.1, h.2.2.1, h.2.2.2⟩⟩
instance (net row : List Int) : Decidable (Grace net row) := decidable_of_iff' _ (grace_iff net row)

theorem qOf_le {net : List Int} (h : NetOk net) : qOf net ≤ 15 := by
  obtain ⟨_, c2, _⟩ := count_wires h
  have h6 := h.six
  have hc : net.length = 0 ∨ net.length = 1 ∨ net.length = 2 ∨ net.length = 3 ∨ net.length = 4 ∨ net.length = 5 ∨ net.length = 6 := by omega
  unfold qOf
  rcases hc with e | e | e | e | e | e | e <;> rw [e] at c2 <;> omega
theorem Grace.rowOk {net row : List Int} (h : Grace net row) : RowOk net row := rowIn_30 (by have := qOf_le h.ok; omega) h.low
theorem diffs_eq {net row : List Int} (h : RowOk net row) : diffs net row = perWire dist net row := by rw [diffs, if_pos h]

/-- Each difference of a graceful row is in 1..q. -/
theorem Grace.range {net row : List Int} (h : Grace net row) {i : Nat} (hi : i < (diffs net row).length) : 1 ≤ ((diffs net row).getD i 0) ∧ ((diffs net row).getD i 0) ≤ qOf net := by
  have hR := h.rowOk
  have hl := hR.len
  rw [diffs_eq hR] at hi ⊢
  rw [perWire_len] at hi
  obtain ⟨x, y, g1, g2, g3, g4, _⟩ := wire_at hi
  rw [perWire_get _ hi g1]
  have hx := h.low.low x (by omega)
  have hy := h.low.low y (by omega)
  have hne := h.once y (by omega) x g3
  unfold dist
  split <;> omega
theorem Grace.len {net row : List Int} (h : Grace net row) : (diffs net row).length = qOf net := by rw [diffs_eq h.rowOk, perWire_len]; rfl

/-! ### Lists of unlike numbers -/

theorem once_cons {a : Int} {l : List Int} (h : Once (a :: l)) : Once l ∧ ¬ a ∈ l := by
  refine ⟨fun k hk j hj => ?_, fun hm => ?_⟩
  · have := h (k + 1) (by simpa using hk) (j + 1) (by omega)
    simpa [List.getD_eq_getElem?_getD] using this
  · obtain ⟨i, hi, he⟩ := List.getElem_of_mem hm
    have := h (i + 1) (by simpa using hi) 0 (by omega)
    apply this
    simp [List.getD_eq_getElem?_getD, hi, he]
theorem once_mk {a : Int} {l : List Int} (h : Once l) (ha : ¬ a ∈ l) : Once (a :: l) := by
  intro k hk j hj
  cases k with
  | zero => exact absurd hj (Nat.not_lt_zero _)
  | succ k =>
    have hk' : k < l.length := by simpa using hk
    cases j with
    | zero =>
      intro e
      apply ha
      simp only [List.getD_cons_zero, List.getD_cons_succ] at e
      rw [e, List.getD_eq_getElem?_getD, List.getElem?_eq_getElem hk']
      exact List.getElem_mem hk'
    | succ j =>
      have := h k hk' j (by omega)
      simpa using this
theorem once_iff_nodup : ∀ {l : List Int}, Once l ↔ l.Nodup
  | [] => ⟨fun _ => List.nodup_nil, fun _ k hk => absurd hk (Nat.not_lt_zero _)⟩
  | a :: l => by
    rw [List.nodup_cons]
    constructor
    · intro h
      obtain ⟨h1, h2⟩ := once_cons h
      exact ⟨h2, once_iff_nodup.1 h1⟩
    · rintro ⟨h1, h2⟩
      exact once_mk (once_iff_nodup.2 h2) h1

theorem perm_sum {l l' : List Int} (h : l.Perm l') : l.sum = l'.sum := by
  induction h with
  | nil => rfl
  | cons x _ ih => rw [List.sum_cons, List.sum_cons, ih]
  | swap x y l => simp only [List.sum_cons]; omega
  | trans _ _ h1 h2 => rw [h1, h2]

/-- Unlike numbers in 1..q are at most q; if there are q, each one is among them, and their sum is known. -/
theorem nodup_range : ∀ (q : Nat) (l : List Int), l.Nodup → (∀ x ∈ l, 1 ≤ x ∧ x ≤ (q : Int)) → l.length ≤ q ∧ (l.length = q → (∀ d : Int, 1 ≤ d → d ≤ q → d ∈ l) ∧ 2 * l.sum = (q : Int) * (q + 1))
  | 0, l, _, h => by
    have : l = [] := List.eq_nil_iff_forall_not_mem.2 fun x hx => by have := h x hx; omega
    subst this
    exact ⟨Nat.le_refl _, fun _ => ⟨fun d h1 h2 => by omega, by simp⟩⟩
  | q + 1, l, hn, h => by
    by_cases hm : ((q + 1 : Nat) : Int) ∈ l
    · have hp := List.perm_cons_erase hm
      have hn' : (l.erase ((q + 1 : Nat) : Int)).Nodup := hn.erase _
      have hr : ∀ x ∈ l.erase ((q + 1 : Nat) : Int), 1 ≤ x ∧ x ≤ (q : Int) := fun x hx => by
        have h1 := h x (List.mem_of_mem_erase hx)
        have h2 : x ≠ ((q + 1 : Nat) : Int) := fun c => by
          rw [c] at hx
          exact (List.nodup_cons.1 (hp.nodup_iff.1 hn)).1 hx
        omega
      obtain ⟨i1, i2⟩ := nodup_range q _ hn' hr
      have hl : l.length = (l.erase ((q + 1 : Nat) : Int)).length + 1 := by rw [hp.length_eq]; rfl
      refine ⟨by omega, fun hq => ?_⟩
      obtain ⟨j1, j2⟩ := i2 (by omega)
      refine ⟨fun d h1 h2 => ?_, ?_⟩
      · by_cases hd : d = ((q + 1 : Nat) : Int)
        · rw [hd]; exact hm
        · exact List.mem_of_mem_erase (j1 d h1 (by omega))
      · rw [perm_sum hp, List.sum_cons]
        have e : (((q + 1 : Nat) : Int)) * (((q + 1 : Nat) : Int) + 1) = (q : Int) * (q + 1) + 2 * (q + 1) := by
          rw [Int.natCast_add]
          show ((q : Int) + 1) * ((q : Int) + 1 + 1) = _
          rw [Int.add_mul, Int.mul_add, Int.mul_add]; omega
        omega
    · have hr : ∀ x ∈ l, 1 ≤ x ∧ x ≤ (q : Int) := fun x hx => by
        have h1 := h x hx
        have h2 : x ≠ ((q + 1 : Nat) : Int) := fun c => hm (c ▸ hx)
        omega
      obtain ⟨i1, _⟩ := nodup_range q l hn hr
      exact ⟨by omega, fun hq => by omega⟩

theorem mem_getI {l : List Int} {x : Int} (h : x ∈ l) : ∃ i, i < l.length ∧ (l.getD i 0) = x := by
  obtain ⟨i, hi, he⟩ := List.getElem_of_mem h
  exact ⟨i, hi, by rw [List.getD_eq_getElem?_getD, List.getElem?_eq_getElem hi]; exact he⟩
theorem getI_mem {l : List Int} {i : Nat} (h : i < l.length) : (l.getD i 0) ∈ l := by
  rw [List.getD_eq_getElem?_getD, List.getElem?_eq_getElem h]; exact List.getElem_mem h

theorem Grace.all {net row : List Int} (h : Grace net row) : (∀ d : Int, 1 ≤ d → d ≤ qOf net → d ∈ diffs net row) ∧ 2 * (diffs net row).sum = (qOf net : Int) * (qOf net + 1) :=
  (nodup_range (qOf net) _ (once_iff_nodup.1 h.diff) fun x hx => by obtain ⟨i, hi, he⟩ := mem_getI hx; rw [← he]; exact h.range hi).2 h.len

/-- 0 and the greatest number are there, if there are wires. -/
theorem Grace.ends {net row : List Int} (h : Grace net row) (hq : 0 < qOf net) : (0 : Int) ∈ row ∧ (qOf net : Int) ∈ row := by
  have hm := h.all.1 (qOf net) (by omega) (Int.le_refl _)
  obtain ⟨i, hi, he⟩ := mem_getI hm
  have hR := h.rowOk
  have hl := hR.len
  rw [diffs_eq hR] at hi he
  rw [perWire_len] at hi
  obtain ⟨x, y, g1, g2, g3, g4, _⟩ := wire_at hi
  rw [perWire_get _ hi g1] at he
  have hx := h.low.low x (by omega)
  have hy := h.low.low y (by omega)
  have mx := getI_mem (l := row) (i := x) (by omega)
  have my := getI_mem (l := row) (i := y) (by omega)
  unfold dist at he
  split at he
  · have e1 : (row.getD x 0) = 0 := by omega
    have e2 : (row.getD y 0) = qOf net := by omega
    rw [e1] at mx; rw [e2] at my
    exact ⟨mx, my⟩
  · have e1 : (row.getD y 0) = 0 := by omega
    have e2 : (row.getD x 0) = qOf net := by omega
    rw [e1] at my; rw [e2] at mx
    exact ⟨my, mx⟩

/-- A graceful row has at most one place more than there are wires. -/
theorem Grace.places {net row : List Int} (h : Grace net row) : net.length ≤ qOf net + 1 := by
  have hl := h.low.len
  have hr : ∀ x ∈ row.map fun z => z + 1, 1 ≤ x ∧ x ≤ ((qOf net + 1 : Nat) : Int) := fun x hx => by
    obtain ⟨z, hz, rfl⟩ := List.mem_map.1 hx
    obtain ⟨i, hi, he⟩ := mem_getI hz
    have := h.low.low i hi
    omega
  have hn : (row.map fun z => z + 1).Nodup := once_iff_nodup.1 (once_map _ (fun a b e => by omega) h.once)
  have := (nodup_range (qOf net + 1) _ hn hr).1
  rw [List.length_map] at this
  omega

/-- The turned row. -/
def turnG (net row : List Int) : List Int := row.map fun z => (qOf net : Int) - z
theorem turnG_eq {net row : List Int} (h : Grace net row) : turned net row (qOf net) = turnG net row := turned_in (by have := qOf_le h.ok; omega) h.low
theorem dist_turn (c a b : Int) : dist (c - a) (c - b) = dist a b := by unfold dist; split <;> split <;> omega
theorem diffs_turnG {net row : List Int} (h : RowIn (qOf net) net row) (hN : NetOk net) : diffs net (turnG net row) = diffs net row := by
  have hl := h.len
  have hq := qOf_le hN
  have h1 := rowIn_30 (by omega) h
  have h2 := rowIn_30 (by omega) (rowIn_turned h)
  rw [turnG, diffs_eq h2, diffs_eq h1]
  refine perWire_congr fun x y hx hy => ?_
  rw [map_get _ (by omega), map_get _ (by omega), dist_turn]
theorem Grace.turn {net row : List Int} (h : Grace net row) : Grace net (turnG net row) :=
  ⟨h.ok, rowIn_turned h.low, once_map _ (fun a b e => by omega) h.once, by rw [diffs_turnG h.low h.ok]; exact h.diff⟩
theorem turnG_turnG (net row : List Int) : turnG net (turnG net row) = row := map_map_id fun z => by omega

/-- Is each place's number of neighbours even? -/
def EvenNet (net : List Int) : Prop := ∀ k, k < net.length → pc ((net.getD k 0)).toNat % 2 = 0

theorem sig_even {f : Nat → Int} : ∀ {n : Nat}, (∀ i, i < n → f i % 2 = 0) → sig n f % 2 = 0
  | 0, _ => rfl
  | n + 1, h => by have h1 := sig_even (n := n) fun i hi => h i (by omega); have h2 := h n (by omega); rw [sig_succ]; omega

theorem sum_parity : ∀ (l r : List Int), l.length = r.length → (∀ i, i < l.length → ((l.getD i 0) - (r.getD i 0)) % 2 = 0) → (l.sum - r.sum) % 2 = 0
  | [], [], _, _ => rfl
  | a :: l, b :: r, h, hp => by
    have h1 := sum_parity l r (by simpa using h) fun i hi => by have := hp (i + 1) (by simpa using hi); simpa using this
    have h2 := hp 0 (by simp)
    simp only [List.getD_cons_zero] at h2
    rw [List.sum_cons, List.sum_cons]
    omega

/-- Even nets of the wrong size have none. -/
theorem Grace.parity {net row : List Int} (h : Grace net row) (he : EvenNet net) : qOf net % 4 = 0 ∨ qOf net % 4 = 3 := by
  have hR := h.rowOk
  have h1 := h.all.2
  have hs := sums_sum hR
  have hl : (sums net row).length = (diffs net row).length := by rw [sums, if_pos hR, perWire_len, diffs_eq hR, perWire_len]
  have hp := sum_parity (sums net row) (diffs net row) hl fun i hi => by
    rw [sums, if_pos hR, perWire_len] at hi
    obtain ⟨d, s, e1, e2, _, _, e5, _⟩ := diff_sum hR hi
    rw [e1, e2]; exact e5
  have hw : wsum net row net.length % 2 = 0 := sig_even fun k hk => by
    have := he k hk
    rw [Int.mul_emod, show ((pc ((net.getD k 0)).toNat : Nat) : Int) % 2 = 0 by omega]
    simp
  have h2 : (diffs net row).sum % 2 = 0 := by omega
  have hq := qOf_le h.ok
  generalize qOf net = q at *
  have hc : q = 0 ∨ q = 1 ∨ q = 2 ∨ q = 3 ∨ q = 4 ∨ q = 5 ∨ q = 6 ∨ q = 7 ∨ q = 8 ∨ q = 9 ∨ q = 10 ∨ q = 11 ∨ q = 12 ∨ q = 13 ∨ q = 14 ∨ q = 15 := by omega
  rcases hc with rfl | rfl | rfl | rfl | rfl | rfl | rfl | rfl | rfl | rfl | rfl | rfl | rfl | rfl | rfl | rfl <;> omega

end Go.Abs
