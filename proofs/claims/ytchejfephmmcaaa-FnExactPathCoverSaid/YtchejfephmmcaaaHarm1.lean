/- Harmonious rows: moved harmony is harmony, how often they come. Own work; no condition. -/
import Derived.Test.YtchejfephmmcaaaPart4
import Derived.Test.YtchejfephmmcaaaGrace3
import Derived.Test.YtchejfephmmcaaaCome
set_option maxRecDepth 100000
set_option linter.unusedSimpArgs false
set_option linter.unusedVariables false
namespace Go.Abs
open Go.Proofs
attribute [local irreducible] awp awpOps awpKeep KeepK awpKeepF KeepF aloop ALoop ACalls ACallq AQuiet retPost retPostA AExit.thn AExit.blk aApp aSt aStA

/-- How many pairs of places have the same number. -/
def twice (row : List Int) : Int := sig row.length fun k => sig k fun j => if (row.getD j 0) = (row.getD k 0) then 1 else 0
noncomputable def mayT (net : List Int) : Int := if treeOk net = true then 1 else 0
def resid (net row : List Int) : List Int := (sums net row).map fun z => z % (qOf net : Int)
structure Harm (net row : List Int) : Prop where
  ok : NetOk net
  pos : 0 < qOf net
  low : RowIn ((qOf net : Int) - 1) net row
  may : twice row = mayT net
  res : Once (resid net row)
theorem harm_iff (net row : List Int) : Harm net row ↔ (NetOk net ∧ 0 < qOf net ∧ RowIn ((qOf net : Int) - 1) net row ∧ twice row = mayT net ∧ Once (resid net row)) := ⟨fun h => ⟨h.1, h.2, h.3, h.4, h.5⟩, fun h => ⟨h.1, h.2.1, h.2.2.1, h.2.2.2.1, h.2.2.2.2⟩⟩
noncomputable instance (net row : List Int) : Decidable (Harm net row) := decidable_of_iff' _ (harm_iff net row)

theorem Harm.rowOk {net row : List Int} (h : Harm net row) : RowOk net row := rowIn_30 (by have := qOf_le h.ok; omega) h.low
theorem resid_len {net row : List Int} (h : RowOk net row) : (resid net row).length = qOf net := by rw [resid, List.length_map, sums, if_pos h, perWire_len]; rfl
theorem resid_get {net row : List Int} (h : RowOk net row) {i : Nat} (hi : i < qOf net) {x y : Nat} (hw : (wires net).getD i [] = [(x : Int), (y : Int)]) : ((resid net row).getD i 0) = ((row.getD x 0) + (row.getD y 0)) % (qOf net : Int) := by
  have hl : (sums net row).length = qOf net := by rw [sums, if_pos h, perWire_len]; rfl
  rw [resid, map_get _ (by omega), sums, if_pos h, perWire_get _ hi hw]

theorem twice_zero {row : List Int} (h : twice row = 0) : Once row := by
  intro k hk j hj e
  have h1 : ∀ n, n ≤ row.length → 0 ≤ sig n fun k => sig k fun j => if (row.getD j 0) = (row.getD k 0) then (1 : Int) else 0 := fun n _ => sig_nonneg fun i _ => sig_nonneg fun i _ => by split <;> decide
  have h2 : ∀ n, k < n → n ≤ row.length → 1 ≤ sig n fun k => sig k fun j => if (row.getD j 0) = (row.getD k 0) then (1 : Int) else 0 := fun n => by
    induction n with
    | zero => intro c _; omega
    | succ n ih =>
      intro c hn
      rw [sig_succ]
      rcases Nat.lt_succ_iff_lt_or_eq.1 c with c | rfl
      · have := ih c (by omega)
        have : 0 ≤ sig n fun j => if (row.getD j 0) = (row.getD n 0) then (1 : Int) else 0 := sig_nonneg fun i _ => by split <;> decide
        omega
      · have := h1 k (by omega)
        have h3 : ∀ n, j < n → n ≤ k → 1 ≤ sig n fun j => if (row.getD j 0) = (row.getD k 0) then (1 : Int) else 0 := fun n => by
          induction n with
          | zero => intro c _; omega
          | succ n ih =>
            intro c hn
            rw [sig_succ]
            rcases Nat.lt_succ_iff_lt_or_eq.1 c with c | rfl
            · have := ih c (by omega)
              split <;> omega
            · have : 0 ≤ sig j fun j => if (row.getD j 0) = (row.getD k 0) then (1 : Int) else 0 := sig_nonneg fun i _ => by split <;> decide
              rw [if_pos e]
              omega
        have := h3 k hj (Nat.le_refl _)
        omega
  have := h2 row.length hk (Nat.le_refl _)
  unfold twice at h
  omega
theorem once_few {row : List Int} {q : Nat} (ho : Once row) (hl : ∀ k, k < row.length → 0 ≤ (row.getD k 0) ∧ (row.getD k 0) ≤ (q : Int) - 1) : row.length ≤ q := by
  have := (nodup_range q (row.map fun z => z + 1) (once_iff_nodup.1 (once_map _ (fun a b e => by omega) ho)) fun x hx => by
    obtain ⟨z, hz, rfl⟩ := List.mem_map.1 hx
    obtain ⟨i, hi, rfl⟩ := mem_getI hz
    have := hl i hi
    omega).1
  rwa [List.length_map] at this
/-- Harmony needs as many wires as places. -/
theorem Harm.places {net row : List Int} (h : Harm net row) : net.length ≤ qOf net ∨ treeOk net = true := by
  cases hT : treeOk net with
  | true => exact .inr rfl
  | false =>
    refine .inl ?_
    have hm := h.may
    rw [mayT, if_neg (by rw [hT]; exact Bool.noConfusion)] at hm
    rw [← h.low.len]
    exact once_few (twice_zero hm) h.low.low

theorem twice_map {row : List Int} {f : Int → Int} (hf : ∀ i j, i < row.length → j < row.length → (f ((row.getD i 0)) = f ((row.getD j 0)) ↔ (row.getD i 0) = (row.getD j 0))) : twice (row.map f) = twice row := by
  unfold twice
  rw [List.length_map]
  refine sig_congr fun k hk => sig_congr fun j hj => ?_
  rw [map_get _ hk, map_get _ (by omega)]
  have := hf j k (by omega) hk
  by_cases c : (row.getD j 0) = (row.getD k 0)
  · rw [if_pos c, if_pos (this.2 c)]
  · rw [if_neg c, if_neg fun h => c (this.1 h)]

/-! ### Moved -/

theorem mod_inj {q : Nat} {f x y c : Int} (hq : 0 < q) (hg : Nat.gcd f.natAbs q = 1) (h : (x * f + c) % (q : Int) = (y * f + c) % (q : Int)) : x % (q : Int) = y % (q : Int) := by
  have h1 : ((x * f + c) - (y * f + c)) % (q : Int) = 0 := Int.emod_eq_emod_iff_emod_sub_eq_zero.1 h
  have h2 : (x - y) * f = (x * f + c) - (y * f + c) := by rw [Int.sub_mul]; omega
  rw [← h2] at h1
  have h3 : (q : Int) ∣ (x - y) * f := Int.dvd_of_emod_eq_zero h1
  have h4 : q ∣ (x - y).natAbs * f.natAbs := by rw [← Int.natAbs_mul]; exact Int.ofNat_dvd_left.1 h3
  have h5 : q ∣ (x - y).natAbs := Nat.Coprime.dvd_of_dvd_mul_right (by rw [Nat.coprime_comm]; exact hg) h4
  have h6 : (q : Int) ∣ x - y := Int.ofNat_dvd_left.2 h5
  exact Int.emod_eq_emod_iff_emod_sub_eq_zero.2 (Int.emod_eq_zero_of_dvd h6)

def moveH (q f b z : Int) : Int := (z * f + b) % q
theorem moveH_iff {q : Nat} {f b x y : Int} (hq : 0 < q) (hg : Nat.gcd f.natAbs q = 1) (hx : 0 ≤ x ∧ x ≤ (q : Int) - 1) (hy : 0 ≤ y ∧ y ≤ (q : Int) - 1) : moveH q f b x = moveH q f b y ↔ x = y := by
  constructor
  · intro h
    have := mod_inj hq hg h
    rw [Int.emod_eq_of_lt hx.1 (by omega), Int.emod_eq_of_lt hy.1 (by omega)] at this
    exact this
  · intro h; rw [h]

theorem Harm.move {net row : List Int} (h : Harm net row) {f b : Int} (hg : Nat.gcd f.natAbs (qOf net) = 1) : Harm net (row.map (moveH (qOf net) f b)) := by
  have hq := h.pos
  have hlen := h.low.len
  have hlow := h.low.low
  have hl' : (row.map (moveH (qOf net) f b)).length = row.length := List.length_map _
  have hI : RowIn ((qOf net : Int) - 1) net (row.map (moveH (qOf net) f b)) := ⟨h.ok, hl'.trans hlen, fun k hk => by
    rw [hl'] at hk
    rw [map_get _ hk]
    have h1 := Int.emod_nonneg ((row.getD k 0) * f + b) (show (qOf net : Int) ≠ 0 by omega)
    have h2 := Int.emod_lt_of_pos ((row.getD k 0) * f + b) (show 0 < (qOf net : Int) by omega)
    unfold moveH
    omega⟩
  have hR := h.rowOk
  have hR' := rowIn_30 (by have := qOf_le h.ok; omega) hI
  refine ⟨h.ok, hq, hI, (twice_map fun i j hi hj => moveH_iff hq hg (hlow i hi) (hlow j hj)).trans h.may, fun k hk j hj e => ?_⟩
  rw [resid_len hR'] at hk
  obtain ⟨x, y, e0, q1, q2, q3, _⟩ := wire_at (net := net) (i := k) hk
  obtain ⟨x', y', e0', q1', q2', q3', _⟩ := wire_at (net := net) (i := j) (show j < qOf net by omega)
  have ho := h.res k (by rw [resid_len hR]; exact hk) j hj
  rw [resid_get hR hk e0, resid_get hR (by omega) e0'] at ho
  rw [resid_get hR' hk e0, resid_get hR' (by omega) e0', map_get _ (by omega), map_get _ (by omega), map_get _ (by omega), map_get _ (by omega)] at e
  unfold moveH at e
  rw [← Int.add_emod, ← Int.add_emod] at e
  refine ho (mod_inj (f := f) (c := b + b) hq hg ?_)
  rw [Int.add_mul, Int.add_mul]
  rw [show (row.getD x' 0) * f + (row.getD y' 0) * f + (b + b) = (row.getD x' 0) * f + b + ((row.getD y' 0) * f + b) by omega, show (row.getD x 0) * f + (row.getD y 0) * f + (b + b) = (row.getD x 0) * f + b + ((row.getD y 0) * f + b) by omega]
  exact e

/-! ### How many there are -/

end Go.Abs
