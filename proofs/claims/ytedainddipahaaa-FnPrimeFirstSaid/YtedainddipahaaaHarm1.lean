/- Harmonious rows: moved harmony is harmony, how often they come. Own work; no condition. -/
import Derived.Test.YtedainddipahaaaPart4
import Derived.Test.YtedainddipahaaaGrace3
import Derived.Test.YtedainddipahaaaCome
set_option maxRecDepth 100000
set_option linter.unusedSimpArgs false
set_option linter.unusedVariables false
namespace Go.Abs
open Go.Proofs
attribute [local irreducible] awp awpOps awpKeep KeepK awpKeepF KeepF aloop ALoop ACalls ACallq AQuiet retPost retPostA AExit.thn AExit.blk aApp aSt aStA

/-- How many pairs of places have the same number. -/
def twice (row : List Int) : Int := sig row.length fun k => sig k fun j => if (row.getD j 0) = (row.getD k 0) then 1 else 0
noncomputable def mayT (net : List Int) : Int := if treeOk net = true then 1 else 0
def resid (net row : List Int) : List Int := (sums net row).map fun z => z % (qOf net : Int)
structure Harm (net row : List Int) : Prop where
  ok : NetOk net
  pos : 0 < qOf net
  low : RowIn ((qOf net : Int) - 1) net row
  may : twice row = mayT net
  res : Once (resid net row)
theorem harm_iff (net row : List Int) : Harm net row ↔ (NetOk net ∧ 0 < qOf net ∧ RowIn ((qOf net : Int) - 1) net row ∧ twice row = mayT net ∧ Once (resid net row)) := ⟨fun h => ⟨h.1, h.2, h.3, h.4, h.5⟩, fun h => ⟨h.1, h.2.1, h.2.2.1, h.2.2.2.1, h.2.2.2.2⟩⟩
noncomputable instance (net row : List Int) : Decidable (Harm net row) := decidable_of_iff' _ (harm_iff net row)

theorem Harm.rowOk {net row : List Int} (h : Harm net row) : RowOk net row := rowIn_30 (by have := qOf_le h.ok; omega) h.low
theorem twice_zero {row : List Int} (h : twice row = 0) : Once row := by
  intro k hk j hj e
  have h1 : ∀ n, n ≤ row.length → 0 ≤ sig n fun k => sig k fun j => if (row.getD j 0) = (row.getD k 0) then (1 : Int) else 0 := fun n _ => sig_nonneg fun i _ => sig_nonneg fun i _ => by split <;> decide
  have h2 : ∀ n, k < n → n ≤ row.length → 1 ≤ sig n fun k => sig k fun j => if (row.getD j 0) = (row.getD k 0) then (1 : Int) else 0 := fun n => by
    induction n with
    | zero => intro c _; omega
    | succ n ih =>
      intro c hn
      rw [sig_succ]
      rcases Nat.lt_succ_iff_lt_or_eq.1 c with c | rfl
      · have := ih c (by omega)
        have : 0 ≤ sig n fun j => if (row.getD j 0) = (row.getD n 0) then (1 : Int) else 0 := sig_nonneg fun i _ => by split <;> decide
        omega
      · have := h1 k (by omega)
        have h3 : ∀ n, j < n → n ≤ k → 1 ≤ sig n fun j => if (row.getD j 0) = (row.getD k 0) then (1 : Int) else 0 := fun n => by
          induction n with
          | zero => intro c _; omega
          | succ n ih =>
            intro c hn
            rw [sig_succ]
            rcases Nat.lt_succ_iff_lt_or_eq.1 c with c | rfl
            · have := ih c (by omega)
              split <;> omega
            · have : 0 ≤ sig j fun j => if (row.getD j 0) = (row.getD k 0) then (1 : Int) else 0 := sig_nonneg fun i _ => by split <;> decide
              rw [if_pos e]
              omega
        have := h3 k hj (Nat.le_refl _)
        omega
  have := h2 row.length hk (Nat.le_refl _)
  unfold twice at h
  omega
theorem once_few {row : List Int} {q : Nat} (ho : Once row) (hl : ∀ k, k < row.length → 0 ≤ (row.getD k 0) ∧ (row.getD k 0) ≤ (q : Int) - 1) : row.length ≤ q := by
  have := (nodup_range q (row.map fun z => z + 1) (once_iff_nodup.1 (once_map _ (fun a b e => by omega) ho)) fun x hx => by
    obtain ⟨z, hz, rfl⟩ := List.mem_map.1 hx
    obtain ⟨i, hi, rfl⟩ := mem_getI hz
    have := hl i hi
    omega).1
  rwa [List.length_map] at this
/-- Harmony needs as many wires as places. -/
theorem Harm.places {net row : List Int} (h : Harm net row) : net.length ≤ qOf net ∨ treeOk net = true := by
  cases hT : treeOk net with
  | true => exact .inr rfl
  | false =>
    refine .inl ?_
    have hm := h.may
    rw [mayT, if_neg (by rw [hT]; exact Bool.noConfusion)] at hm
    rw [← h.low.len]
    exact once_few (twice_zero hm) h.low.low

/-! ### Moved -/

/-! ### How many there are -/

end Go.Abs
