/- Rows on a ring: turned round, and how far their numbers are from each other. Own work; no condition. -/
import Derived.Test.YtklmfnafbfghjaaGrace3
set_option maxRecDepth 100000
set_option linter.unusedSimpArgs false
set_option linter.unusedVariables false
namespace Go.Abs
open Go.Proofs
attribute [local irreducible] awp awpOps awpKeep KeepK awpKeepF KeepF aloop ALoop ACalls ACallq AQuiet retPost retPostA AExit.thn AExit.blk aApp aSt aStA

/-- A row of unlike numbers that fits on a ring. -/
structure RingOk (net row : List Int) (ring : Int) : Prop where
  size : 1 ≤ ring ∧ ring ≤ 31
  low : RowIn (ring - 1) net row
  once : Once row
theorem ringOk_iff (net row : List Int) (ring : Int) : RingOk net row ring ↔ ((1 ≤ ring ∧ ring ≤ 31) ∧ RowIn (ring - 1) net row ∧ Once row) := ⟨fun h => ⟨h.1, h.2, h.3⟩, fun h => ⟨h.1, h.2.1, h.2.2⟩⟩
instance (net row : List Int) (ring : Int) : Decidable (RingOk net row ring) := decidable_of_iff' _ (ringOk_iff net row ring)
theorem RingOk.rowOk {net row : List Int} {ring : Int} (h : RingOk net row ring) : RowOk net row := rowIn_30 (by have := h.size; omega) h.low

theorem emod_ring {x ring : Int} (h0 : 0 ≤ x) (h : x < 2 * ring) : x % ring = if x < ring then x else x - ring := by
  split
  · exact Int.emod_eq_of_lt h0 (by assumption)
  · rename_i hn
    have e : x = (x - ring) + ring * 1 := by omega
    rw [e, Int.add_mul_emod_self_left, Int.emod_eq_of_lt (by omega) (by omega)]
    omega

def turnedBy (net row : List Int) (ring b : Int) : List Int := if RingOk net row ring ∧ (0 ≤ b ∧ b < ring) then row.map (fun z => (z + b) % ring) else []
/-- How far two numbers are from each other, the shorter way round. -/
def roundD (ring a b : Int) : Int := min (dist a b) (ring - dist a b)
def roundDiffs (net row : List Int) (ring : Int) : List Int := if RingOk net row ring then perWire (roundD ring) net row else []

theorem roundD_turned {ring a b c : Int} (ha : 0 ≤ a ∧ a < ring) (hb : 0 ≤ b ∧ b < ring) (hc : 0 ≤ c ∧ c < ring) : roundD ring ((a + c) % ring) ((b + c) % ring) = roundD ring a b := by
  rw [emod_ring (by omega) (by omega), emod_ring (by omega) (by omega)]
  unfold roundD dist
  split <;> split <;> split <;> split <;> omega

theorem turnedBy_use {net row : List Int} {ring b : Int} (h : ¬ (turnedBy net row ring b).length = 0) : RingOk net row ring ∧ (0 ≤ b ∧ b < ring) ∧ RingOk net (turnedBy net row ring b) ring ∧ turnedBy net (turnedBy net row ring b) ring ((ring - b) % ring) = row ∧ roundDiffs net (turnedBy net row ring b) ring = roundDiffs net row ring := by
  unfold turnedBy at h
  split at h
  case isFalse => exact absurd rfl h
  rename_i hc
  obtain ⟨hR, hb⟩ := hc
  have e : turnedBy net row ring b = row.map (fun z => (z + b) % ring) := if_pos ⟨hR, hb⟩
  have hr := hR.size
  have hlen := hR.low.len
  have hlow : ∀ k, k < row.length → 0 ≤ (row.getD k 0) ∧ (row.getD k 0) < ring := fun k hk => by have := hR.low.low k hk; omega
  have hl' : (row.map (fun z => (z + b) % ring)).length = row.length := List.length_map _
  have hR' : RingOk net (row.map (fun z => (z + b) % ring)) ring := by
    refine ⟨hr, ⟨hR.low.ok, hl'.trans hlen, fun k hk => ?_⟩, fun k hk j hj e => ?_⟩
    · rw [hl'] at hk
      rw [map_get _ hk]
      have h1 := Int.emod_nonneg ((row.getD k 0) + b) (show ring ≠ 0 by omega)
      have h2 := Int.emod_lt_of_pos ((row.getD k 0) + b) (show 0 < ring by omega)
      omega
    · rw [hl'] at hk
      rw [map_get _ (by omega), map_get _ hk] at e
      have h1 := hlow j (by omega)
      have h2 := hlow k hk
      have := hR.once k hk j hj
      rw [emod_ring (by omega) (by omega), emod_ring (by omega) (by omega)] at e
      split at e <;> split at e <;> omega
  rw [e]
  refine ⟨hR, hb, hR', ?_, ?_⟩
  · have hc : 0 ≤ (ring - b) % ring ∧ (ring - b) % ring < ring := ⟨Int.emod_nonneg _ (by omega), Int.emod_lt_of_pos _ (by omega)⟩
    rw [turnedBy, if_pos ⟨hR', hc⟩]
    refine List.ext_getElem (by simp) fun i h1 h2 => ?_
    have g := hlow i h2
    have e3 : (row.getD i 0) = row[i] := by simp [List.getD_eq_getElem?_getD, h2]
    rw [e3] at g
    simp only [List.getElem_map]
    generalize row[i] = z at g
    rw [emod_ring (show 0 ≤ z + b by omega) (by omega), emod_ring (show 0 ≤ ring - b by omega) (by omega)]
    split <;> split <;> rw [emod_ring (by omega) (by omega)] <;> split <;> omega
  · rw [roundDiffs, if_pos hR', roundDiffs, if_pos hR]
    refine perWire_congr fun x y hx hy => ?_
    rw [map_get _ (by omega), map_get _ (by omega)]
    exact roundD_turned (hlow x (by omega)) (hlow y (by omega)) hb

theorem roundDiffs_range {net row : List Int} {ring : Int} {i : Nat} (hi : i < (roundDiffs net row ring).length) : RingOk net row ring ∧ 1 ≤ ((roundDiffs net row ring).getD i 0) ∧ 2 * ((roundDiffs net row ring).getD i 0) ≤ ring := by
  unfold roundDiffs at *
  split at hi
  case isFalse => exact absurd hi (Nat.not_lt_zero _)
  rename_i hR
  rw [if_pos hR]
  rw [perWire_len] at hi
  obtain ⟨x, y, e0, q1, q2, q3, q4⟩ := wire_at hi
  have hlen := hR.low.len
  have h1 := hR.low.low x (by omega)
  have h2 := hR.low.low y (by omega)
  have h3 := hR.once y (by omega) x q2
  rw [perWire_get _ hi e0]
  refine ⟨hR, ?_⟩
  unfold roundD dist
  split <;> omega
theorem roundDiffs_diffs {net row : List Int} {ring : Int} (hR : RingOk net row ring) (h : ∀ k, k < row.length → 2 * (row.getD k 0) < ring) : roundDiffs net row ring = diffs net row := by
  rw [roundDiffs, if_pos hR, diffs_eq hR.rowOk]
  have hlen := hR.low.len
  refine perWire_congr fun x y hx hy => ?_
  have h1 := hR.low.low x (by omega)
  have h2 := hR.low.low y (by omega)
  have h3 := h x (by omega)
  have h4 := h y (by omega)
  unfold roundD dist
  split <;> omega

/-! ### How often a pair comes -/

/-- Do two numbers, turned on, stand at a pair? -/
def hit (ring u v a b : Int) (t : Nat) : Int := if (min ((u + t) % ring) ((v + t) % ring) = a ∧ max ((u + t) % ring) ((v + t) % ring) = b) then 1 else 0
theorem sig_at {n j : Nat} (h : j < n) (c : Int) : (sig n fun i => if i = j then c else 0) = c := by
  induction n with
  | zero => exact absurd h (Nat.not_lt_zero _)
  | succ n ih =>
    rw [sig_succ]
    by_cases e : j = n
    · subst e
      rw [if_pos rfl, sig_congr (g := fun _ => 0) fun i hi => if_neg (by omega), sig_none]
      omega
    · rw [ih (by omega), if_neg fun c => e c.symm]
      omega
/-- The turn that brings u to a. -/
def turnTo (ring u a : Int) : Nat := (if u ≤ a then a - u else a - u + ring).toNat
theorem turnTo_iff {ring u a : Int} (hu : 0 ≤ u ∧ u < ring) (ha : 0 ≤ a ∧ a < ring) {t : Nat} (ht : (t : Int) < ring) : (u + t) % ring = a ↔ t = turnTo ring u a := by
  rw [emod_ring (by omega) (by omega)]
  unfold turnTo
  split <;> split <;> omega
theorem turnTo_lt {ring u a : Int} (hu : 0 ≤ u ∧ u < ring) (ha : 0 ≤ a ∧ a < ring) : ((turnTo ring u a : Nat) : Int) < ring := by
  unfold turnTo
  split <;> omega

theorem hit_split {ring u v a b : Int} (hu : 0 ≤ u ∧ u < ring) (hv : 0 ≤ v ∧ v < ring) (ha : 0 ≤ a) (hab : a < b) (hb : b < ring) {t : Nat} (ht : (t : Int) < ring) :
    hit ring u v a b t = (if t = turnTo ring u a then (if (v + t) % ring = b then 1 else 0) else 0) + (if t = turnTo ring u b then (if (v + t) % ring = a then 1 else 0) else 0) := by
  have h1 := turnTo_iff hu (⟨ha, by omega⟩ : 0 ≤ a ∧ a < ring) ht
  have h2 := turnTo_iff hu (⟨by omega, hb⟩ : 0 ≤ b ∧ b < ring) ht
  unfold hit
  generalize (u + t) % ring = x at *
  generalize (v + t) % ring = y at *
  by_cases c1 : x = a
  · rw [if_pos (h1.1 c1), if_neg (fun c => by have := h2.2 c; omega : ¬ t = turnTo ring u b)]
    subst c1
    by_cases c2 : y = b
    · rw [if_pos (by omega), if_pos c2]; rfl
    · rw [if_neg (by omega), if_neg c2]; rfl
  · rw [if_neg (fun c => c1 (h1.2 c))]
    by_cases c3 : x = b
    · rw [if_pos (h2.1 c3)]
      by_cases c4 : y = a
      · rw [if_pos (by omega), if_pos c4]; rfl
      · rw [if_neg (by omega), if_neg c4]; rfl
    · rw [if_neg (fun c => c3 (h2.2 c)), if_neg (by omega)]; rfl

theorem ite_or {c : Prop} [Decidable c] {x y z : Int} (h : z = if c then x else y) : (c ∧ z = x) ∨ (¬ c ∧ z = y) := by
  by_cases hc : c
  · rw [if_pos hc] at h; exact .inl ⟨hc, h⟩
  · rw [if_neg hc] at h; exact .inr ⟨hc, h⟩
theorem hits_one {ring u v a b x p : Int} (hu : 0 ≤ u ∧ u < ring) (hv : 0 ≤ v ∧ v < ring) (ha : 0 ≤ a ∧ a < ring) (hb : 0 ≤ b ∧ b < ring) (tx : x = if u ≤ a then a - u else a - u + ring) (tp : p = if v + x < ring then v + x else v + x - ring) :
    p = b ↔ (v - u = b - a ∨ v - u = b - a - ring ∨ v - u = b - a + ring) := by
  rcases ite_or tx with ⟨c1, e1⟩ | ⟨c1, e1⟩ <;> rcases ite_or tp with ⟨c2, e2⟩ | ⟨c2, e2⟩ <;> clear tx tp <;> subst e1 <;> subst e2 <;> constructor <;> intro h <;> omega
theorem hits_far {ring u v a b z r d : Int} (hu : 0 ≤ u ∧ u < ring) (hv : 0 ≤ v ∧ v < ring) (huv : u ≠ v) (ha : 0 ≤ a) (hab : a < b) (hb : b < ring)
    (tz : z = if u < v then v - u else u - v) (tr : r = if z ≤ ring - z then z else ring - z) (td : d = if b - a ≤ ring - b + a then b - a else ring - b + a) :
    r = d ↔ ((v - u = b - a ∨ v - u = b - a - ring ∨ v - u = b - a + ring) ∨ (v - u = a - b ∨ v - u = a - b - ring ∨ v - u = a - b + ring)) := by
  rcases ite_or tz with ⟨c1, e1⟩ | ⟨c1, e1⟩ <;> rcases ite_or tr with ⟨c2, e2⟩ | ⟨c2, e2⟩ <;> rcases ite_or td with ⟨c3, e3⟩ | ⟨c3, e3⟩ <;> clear tz tr td <;> subst e1 <;> subst e2 <;> subst e3 <;> constructor <;> intro h <;> omega
theorem hits_core {ring u v a b x y z r d p q : Int} (hu : 0 ≤ u ∧ u < ring) (hv : 0 ≤ v ∧ v < ring) (huv : u ≠ v) (ha : 0 ≤ a) (hab : a < b) (hb : b < ring)
    (tx : x = if u ≤ a then a - u else a - u + ring) (ty : y = if u ≤ b then b - u else b - u + ring) (tz : z = if u < v then v - u else u - v) (tr : r = if z ≤ ring - z then z else ring - z) (td : d = if b - a ≤ ring - b + a then b - a else ring - b + a)
    (tp : p = if v + x < ring then v + x else v + x - ring) (tq : q = if v + y < ring then v + y else v + y - ring) :
    (if p = b then 1 else 0) + (if q = a then 1 else 0) = if r = d then (if 2 * d = ring then 2 else 1) else (0 : Int) := by
  have h1 := hits_one hu hv ⟨ha, by omega⟩ ⟨by omega, hb⟩ tx tp
  have h2 := hits_one hu hv ⟨by omega, hb⟩ ⟨ha, by omega⟩ ty tq
  have h3 := hits_far hu hv huv ha hab hb tz tr td
  have h4 := ite_or td
  clear tx ty tz tr td tp tq
  by_cases c1 : v - u = b - a ∨ v - u = b - a - ring ∨ v - u = b - a + ring
  · rw [if_pos (h1.2 c1), if_pos (h3.2 (.inl c1))]
    clear h1 h3
    by_cases c2 : v - u = a - b ∨ v - u = a - b - ring ∨ v - u = a - b + ring
    · rw [if_pos (h2.2 c2), if_pos (by clear h2; omega)]; rfl
    · rw [if_neg (fun c => c2 (h2.1 c)), if_neg (by clear h2; omega)]; rfl
  · rw [if_neg (fun c => c1 (h1.1 c))]
    by_cases c2 : v - u = a - b ∨ v - u = a - b - ring ∨ v - u = a - b + ring
    · rw [if_pos (h2.2 c2), if_pos (h3.2 (.inr c2)), if_neg (by clear h1 h2 h3; omega)]; rfl
    · rw [if_neg (fun c => c2 (h2.1 c)), if_neg (fun c => (h3.1 c).elim c1 c2)]; rfl

theorem hits {ring u v a b : Int} (hu : 0 ≤ u ∧ u < ring) (hv : 0 ≤ v ∧ v < ring) (huv : u ≠ v) (ha : 0 ≤ a) (hab : a < b) (hb : b < ring) :
    sig ring.toNat (hit ring u v a b) = if roundD ring u v = min (b - a) (ring - b + a) then (if 2 * min (b - a) (ring - b + a) = ring then 2 else 1) else 0 := by
  rw [sig_congr (g := fun t => (if t = turnTo ring u a then (if (v + (turnTo ring u a : Nat)) % ring = b then 1 else 0) else 0) + (if t = turnTo ring u b then (if (v + (turnTo ring u b : Nat)) % ring = a then 1 else 0) else 0)) fun t ht => ?_, sig_add, sig_at (by have := turnTo_lt hu (⟨ha, by omega⟩ : 0 ≤ a ∧ a < ring); omega), sig_at (by have := turnTo_lt hu (⟨by omega, hb⟩ : 0 ≤ b ∧ b < ring); omega)]
  · have l1 := turnTo_lt hu (⟨ha, by omega⟩ : 0 ≤ a ∧ a < ring)
    have l2 := turnTo_lt hu (⟨by omega, hb⟩ : 0 ≤ b ∧ b < ring)
    rw [emod_ring (by omega) (by omega), emod_ring (by omega) (by omega)]
    have t1 : ((turnTo ring u a : Nat) : Int) = if u ≤ a then a - u else a - u + ring := by unfold turnTo; split <;> omega
    have t2 : ((turnTo ring u b : Nat) : Int) = if u ≤ b then b - u else b - u + ring := by unfold turnTo; split <;> omega
    generalize ((turnTo ring u a : Nat) : Int) = x at *
    generalize ((turnTo ring u b : Nat) : Int) = y at *
    have hmin : ∀ p q : Int, min p q = if p ≤ q then p else q := fun p q => by split <;> omega
    unfold roundD
    rw [hmin, hmin]
    exact hits_core hu hv huv ha hab hb t1 t2 rfl rfl rfl rfl rfl
  · rw [hit_split hu hv ha hab hb (by omega)]
    congr 1
    · split
      · rename_i e; subst e; rfl
      · rfl
    · split
      · rename_i e; subst e; rfl
      · rfl

end Go.Abs
