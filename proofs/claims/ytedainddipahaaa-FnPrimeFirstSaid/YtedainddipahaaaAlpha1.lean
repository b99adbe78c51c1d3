/- Rows of which each wire has a low end and a high one. Own work; no condition. -/
import Derived.Test.YtedainddipahaaaGrace3
set_option maxRecDepth 100000
set_option linter.unusedSimpArgs false
set_option linter.unusedVariables false
namespace Go.Abs
open Go.Proofs
attribute [local irreducible] awp awpOps awpKeep KeepK awpKeepF KeepF aloop ALoop ACalls ACallq AQuiet retPost retPostA AExit.thn AExit.blk aApp aSt aStA

/-- The greatest of the lesser numbers of the first k wires. -/
def lowTo (net row : List Int) : Nat → Int
  | 0 => 0
  | k + 1 => max (lowTo net row k) (((perWire min net row).getD k 0))
def lowOf (net row : List Int) : Int := lowTo net row (wires net).length
/-- Each wire has an end at n or below, and one above it. -/
def Parted (net row : List Int) (n : Int) : Prop := ∀ i, i < (wires net).length → ((perWire min net row).getD i 0) ≤ n ∧ n < ((perWire max net row).getD i 0)
instance (net row : List Int) (n : Int) : Decidable (Parted net row n) := by unfold Parted; infer_instance
def partedAt (net row : List Int) : Int := if Grace net row ∧ Parted net row (lowOf net row) then lowOf net row else -1

theorem lowTo_pos (net row : List Int) : ∀ k, 0 ≤ lowTo net row k
  | 0 => Int.le_refl _
  | k + 1 => by have := lowTo_pos net row k; rw [lowTo]; omega
theorem lowTo_le (net row : List Int) : ∀ {k i : Nat}, i < k → ((perWire min net row).getD i 0) ≤ lowTo net row k
  | k + 1, i, h => by
    rw [lowTo]
    rcases Nat.lt_succ_iff_lt_or_eq.1 h with c | rfl
    · have := lowTo_le net row c; omega
    · omega
theorem lowTo_or (net row : List Int) : ∀ k, lowTo net row k = 0 ∨ ∃ i, i < k ∧ lowTo net row k = ((perWire min net row).getD i 0)
  | 0 => .inl rfl
  | k + 1 => by
    rw [lowTo]
    by_cases h : lowTo net row k ≤ ((perWire min net row).getD k 0)
    · exact .inr ⟨k, Nat.lt_succ_self _, by omega⟩
    · rcases lowTo_or net row k with e | ⟨i, h1, h2⟩
      · exact .inl (by omega)
      · exact .inr ⟨i, by omega, by omega⟩
theorem lowTo_bound {net row : List Int} {n : Int} (hn : 0 ≤ n) {k : Nat} (h : ∀ i, i < k → ((perWire min net row).getD i 0) ≤ n) : lowTo net row k ≤ n := by
  rcases lowTo_or net row k with e | ⟨i, h1, h2⟩
  · omega
  · have := h i h1; omega
theorem parted_low {net row : List Int} {n : Int} (hn : 0 ≤ n) (h : Parted net row n) : lowOf net row ≤ n ∧ Parted net row (lowOf net row) := by
  have hl : lowOf net row ≤ n := lowTo_bound hn fun i hi => (h i hi).1
  exact ⟨hl, fun i hi => ⟨lowTo_le net row hi, by have := (h i hi).2; omega⟩⟩
theorem partedAt_of {net row : List Int} {n : Int} (hG : Grace net row) (hn : 0 ≤ n) (h : Parted net row n) : partedAt net row = lowOf net row ∧ 0 ≤ partedAt net row ∧ partedAt net row ≤ n := by
  obtain ⟨h1, h2⟩ := parted_low hn h
  have e : partedAt net row = lowOf net row := if_pos ⟨hG, h2⟩
  have := lowTo_pos net row (wires net).length
  unfold lowOf at *
  exact ⟨e, by omega, by omega⟩
theorem partedAt_use {net row : List Int} (h : 0 ≤ partedAt net row) : Grace net row ∧ Parted net row (partedAt net row) ∧ partedAt net row = lowOf net row := by
  unfold partedAt at *
  split at h
  · rename_i hc; rw [if_pos hc]; exact ⟨hc.1, hc.2, rfl⟩
  · omega
/-- A wire's numbers, whichever is the lesser one. -/
theorem wire_ends {net row : List Int} {i : Nat} (hi : i < (wires net).length) : ∃ x y : Nat, x < net.length ∧ x < y ∧ y < net.length ∧ bit ((net.getD x 0)) y = true ∧ ∀ f : Int → Int → Int, ((perWire f net row).getD i 0) = f ((row.getD x 0)) ((row.getD y 0)) := by
  obtain ⟨x, y, e, h1, h2, h3, h4⟩ := wire_at hi
  exact ⟨x, y, h1, h2, h3, h4, fun f => perWire_get f hi e⟩

theorem partedAt_le {net row : List Int} (h : 0 ≤ partedAt net row) : partedAt net row ≤ qOf net := by
  obtain ⟨hG, _, e⟩ := partedAt_use h
  rw [e]
  refine lowTo_bound (Int.natCast_nonneg _) fun i hi => ?_
  obtain ⟨x, y, hx, _, hy, _, hf⟩ := wire_ends (row := row) hi
  rw [hf]
  have hl := hG.low.len
  have := (hG.low.low x (by omega)).2
  omega
/-! ### Turned within its sides -/

def sideT (q a z : Int) : Int := if z ≤ a then a - z else q + a + 1 - z
def turnedSides (net row : List Int) : List Int := if 0 ≤ partedAt net row then row.map (sideT (qOf net) (partedAt net row)) else []

theorem sideT_sideT {q a z : Int} (h : 0 ≤ z ∧ z ≤ q) : sideT q a (sideT q a z) = z := by
  unfold sideT
  split <;> split <;> omega
theorem sideT_inj {q a z w : Int} (ha : a ≤ q) (hz : 0 ≤ z ∧ z ≤ q) (hw : 0 ≤ w ∧ w ≤ q) (h : sideT q a z = sideT q a w) : z = w := by
  unfold sideT at h
  split at h <;> split at h <;> omega

theorem Grace.sides {net row : List Int} (h : 0 ≤ partedAt net row) : Grace net (turnedSides net row) ∧ partedAt net (turnedSides net row) = partedAt net row ∧ turnedSides net (turnedSides net row) = row := by
  obtain ⟨hG, hP, he⟩ := partedAt_use h
  have hle := partedAt_le h
  have hlen := hG.low.len
  have hlow := hG.low.low
  have hq := qOf_le hG.ok
  have ets : turnedSides net row = row.map (sideT (qOf net) (partedAt net row)) := if_pos h
  have hR := hG.rowOk
  have hall := hG.all.1
  have hwz : (wires net).length = 0 → lowOf net row = 0 := fun e => by unfold lowOf; rw [e]; rfl
  rw [ets]
  generalize hat : partedAt net row = a at *
  have hl' : (row.map (sideT (qOf net) a)).length = row.length := List.length_map _
  have hI : RowIn (qOf net) net (row.map (sideT (qOf net) a)) := ⟨hG.ok, hl'.trans hlen, fun k hk => by
    rw [hl'] at hk
    rw [map_get _ hk]
    have := hlow k hk
    unfold sideT
    split <;> omega⟩
  have hR' := rowIn_30 (by omega) hI
  have hpw : ∀ (f : Int → Int → Int) (i : Nat), i < (wires net).length → ∃ u v : Int, (0 ≤ u ∧ u ≤ a) ∧ (a < v ∧ v ≤ qOf net) ∧ ((perWire dist net row).getD i 0) = v - u ∧ (perWire dist net (row.map (sideT (qOf net) a))).getD i 0 = (qOf net : Int) + 1 - (v - u) ∧ ((perWire min net row).getD i 0) = u ∧ (perWire min net (row.map (sideT (qOf net) a))).getD i 0 = a - u ∧ (perWire max net (row.map (sideT (qOf net) a))).getD i 0 = (qOf net : Int) + a + 1 - v := fun f i hi => by
    obtain ⟨x, y, h1, h2, h3, h4, h5⟩ := wire_ends (row := row) hi
    obtain ⟨x', y', h1', h2', h3', h4', h5'⟩ := wire_ends (row := row.map (sideT (qOf net) a)) hi
    obtain ⟨x0, y0, e0, _⟩ := wire_at hi
    have p0 := fun f => perWire_get f (row := row) hi e0
    have p1 := fun f => perWire_get f (row := row.map (sideT (qOf net) a)) hi e0
    obtain ⟨_, _, e1, q1, q2, q3, q4⟩ := wire_at hi
    rw [e0] at e1
    simp only [List.cons.injEq, and_true] at e1
    obtain ⟨ex, ey⟩ := e1
    have hx0 : x0 < row.length := by omega
    have hy0 : y0 < row.length := by omega
    obtain ⟨g1, g2⟩ := hP i hi
    rw [p0] at g1 g2
    have lx := hlow x0 hx0
    have ly := hlow y0 hy0
    rw [p0, p0, p1, p1, p1, map_get _ hx0, map_get _ hy0]
    generalize (row.getD x0 0) = rx at *
    generalize (row.getD y0 0) = ry at *
    clear p0 p1 h5 h5' hlow hall
    unfold dist sideT
    by_cases hc : rx ≤ a
    · refine ⟨rx, ry, by omega, by omega, ?_, ?_, by omega, ?_, ?_⟩
      · rw [if_pos (by omega)]
      · rw [if_pos hc, if_neg (by omega : ¬ ry ≤ a), if_pos (by omega)]; omega
      · rw [if_pos hc, if_neg (by omega : ¬ ry ≤ a)]; omega
      · rw [if_pos hc, if_neg (by omega : ¬ ry ≤ a)]; omega
    · refine ⟨ry, rx, by omega, by omega, ?_, ?_, by omega, ?_, ?_⟩
      · rw [if_neg (by omega)]
      · rw [if_neg hc, if_pos (by omega : ry ≤ a), if_neg (by omega)]; omega
      · rw [if_neg hc, if_pos (by omega : ry ≤ a)]; omega
      · rw [if_neg hc, if_pos (by omega : ry ≤ a)]; omega
  have hG' : Grace net (row.map (sideT (qOf net) a)) := by
    refine ⟨hG.ok, hI, fun k hk j hj e => ?_, fun k hk j hj e => ?_⟩
    · rw [hl'] at hk
      rw [map_get _ (by omega), map_get _ hk] at e
      exact hG.once k hk j hj (sideT_inj hle (hlow j (by omega)) (hlow k hk) e)
    · rw [diffs_eq hR', perWire_len] at hk
      rw [diffs_eq hR'] at e
      obtain ⟨u, v, _, _, d1, d2, _⟩ := hpw min k hk
      obtain ⟨u', v', _, _, d1', d2', _⟩ := hpw min j (by omega)
      have ho := hG.diff k (by rw [diffs_eq hR, perWire_len]; exact hk) j hj
      rw [diffs_eq hR] at ho
      exact ho (by omega)
  have hP' : Parted net (row.map (sideT (qOf net) a)) a := fun i hi => by
    obtain ⟨u, v, g1, g2, _, _, _, m1, m2⟩ := hpw min i hi
    omega
  obtain ⟨k1, k2, k3⟩ := partedAt_of hG' (by omega) hP'
  have hat' : partedAt net (row.map (sideT (qOf net) a)) = a := by
    by_cases hz : (wires net).length = 0
    · have := hwz hz; omega
    · obtain ⟨i, hi, ei⟩ := mem_getI (hall (qOf net) (by unfold qOf; omega) (Int.le_refl _))
      rw [diffs_eq hR, perWire_len] at hi
      rw [diffs_eq hR] at ei
      obtain ⟨u, v, g1, g2, d1, _, _, m1, _⟩ := hpw min i hi
      have h3 := lowTo_le net (row.map (sideT (qOf net) a)) hi
      unfold lowOf at k1
      omega
  refine ⟨hG', hat', ?_⟩
  have e2 : turnedSides net (row.map (sideT (qOf net) a)) = (row.map (sideT (qOf net) a)).map (sideT (qOf net) a) := by
    rw [turnedSides, hat', if_pos (by omega)]
  rw [e2]
  refine List.ext_getElem (by simp) fun i h1 h2 => ?_
  have g := hlow i h2
  have e3 : (row.getD i 0) = row[i] := by simp [List.getD_eq_getElem?_getD, h2]
  rw [e3] at g
  simp only [List.getElem_map]
  exact sideT_sideT g

/-! ### Raised -/

/-! ### How many are parted -/

end Go.Abs
