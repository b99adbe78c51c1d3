/- Channels: what bars a number, the right rows, turned and moved. Own work; no condition. -/
import Derived.Test.YtchejfephmmcaaaChan3
set_option maxRecDepth 100000
set_option linter.unusedSimpArgs false
set_option linter.unusedVariables false
namespace Go.Abs
open Go.Proofs
attribute [local irreducible] awp awpOps awpKeep KeepK awpKeepF KeepF aloop ALoop ACalls ACallq AQuiet retPost retPostA AExit.thn AExit.blk aApp aSt aStA
open Parts

/-! ### Second neighbours -/

noncomputable def secN (net : List Int) (p : Nat) : Nat := less (nearTo net (nrow net p) net.length) (2 ^ p)
theorem secN_lt {net : List Int} (hN : NetOk net) (p : Nat) : secN net p < 64 := less_lt _ (nearTo_lt hN _ _)
theorem secN_tb {net : List Int} (hN : NetOk net) {p k : Nat} : (secN net p).testBit k = true ↔ k ≠ p ∧ Com net p k := by
  unfold secN
  rw [less_tb _ (nearTo_lt hN _ _), Bool.and_eq_true, nearTo_tb, Nat.testBit_two_pow]
  constructor
  · rintro ⟨⟨i, h1, h2, h3⟩, h4⟩
    refine ⟨fun c => by subst c; simp at h4, i, h1, by rw [bit_nrow]; exact h2, by rw [bit_nrow]; exact h3⟩
  · rintro ⟨h1, i, h2, h3, h4⟩
    exact ⟨⟨i, h2, by rw [← bit_nrow]; exact h3, by rw [← bit_nrow]; exact h4⟩, by simp; exact fun c => h1 c.symm⟩

/-- Does a number fit a place beside those of the given places, of the first m? -/
def FitTo (net row : List Int) (G p : Nat) (v : Int) (m : Nat) : Prop := ∀ k, k < m → G.testBit k = true → k ≠ p → (bit ((net.getD p 0)) k = true → ¬ (-2 < (row.getD k 0) - v ∧ (row.getD k 0) - v < 2)) ∧ (Com net p k → (row.getD k 0) ≠ v)
def Fit (net row : List Int) (G p : Nat) (v : Int) : Prop := FitTo net row G p v net.length
noncomputable instance (net row : List Int) (G p : Nat) (v : Int) : Decidable (Fit net row G p v) := Classical.propDecidable _
theorem FitTo.step {net row : List Int} {G p : Nat} {v : Int} {k : Nat} (h : FitTo net row G p v k) (hk : G.testBit k = true → k ≠ p → (bit ((net.getD p 0)) k = true → ¬ (-2 < (row.getD k 0) - v ∧ (row.getD k 0) - v < 2)) ∧ (Com net p k → (row.getD k 0) ≠ v)) : FitTo net row G p v (k + 1) := fun j hj => by
  rcases Nat.lt_succ_iff_lt_or_eq.1 hj with c | rfl
  · exact h j c
  · exact hk

/-! ### Right rows -/

def ChOk (net row : List Int) : Prop := NetOk net ∧ Ch net row 30
noncomputable instance (net row : List Int) : Decidable (ChOk net row) := Classical.propDecidable _
theorem ChOk.rowOk {net row : List Int} (h : ChOk net row) : RowOk net row := ⟨h.1, h.2.len, fun k hk => h.2.low k (by rw [← h.2.len]; exact hk)⟩
theorem Ch.mono {net row : List Int} {t t' : Int} (h : Ch net row t) (ht : t ≤ t') : Ch net row t' := ⟨h.len, fun k hk => by have := h.low k hk; omega, h.near, h.com⟩
theorem Ch.below {net row : List Int} {t : Int} (h : Ch net row t) : Ch net row (maxL row) := ⟨h.len, fun k hk => ⟨(h.low k hk).1, maxK_ge row (by rw [h.len]; exact hk)⟩, h.near, h.com⟩
theorem Ch.most_le {net row : List Int} {t : Int} (h : Ch net row t) (ht : 0 ≤ t) : maxL row ≤ t := maxK_le ht fun i hi => (h.low i (by rw [← h.len]; exact hi)).2
/-- Rows fit place by place. -/
theorem chOk_fit {net row : List Int} (hR : RowOk net row) : ChOk net row ↔ ∀ p, p < net.length → Fit net row (2 ^ net.length - 1) p ((row.getD p 0)) := by
  have hl := hR.len
  have hall : ∀ k, k < net.length → (2 ^ net.length - 1).testBit k = true := fun k hk => by rw [Nat.testBit_two_pow_sub_one, decide_eq_true hk]
  constructor
  · rintro ⟨hN, h⟩ p hp k hk _ hkp
    exact ⟨fun hb => by have := h.near p k hp hk (Ne.symm hkp) hb; omega, fun hc => fun e => h.com p k hp hk (Ne.symm hkp) hc e.symm⟩
  · intro h
    refine ⟨hR.ok, hl, fun k hk => hR.low k (by omega), fun a b ha hb hab hbit => ?_, fun a b ha hb hab hc => ?_⟩
    · have := (h a ha b hb (hall b hb) (Ne.symm hab)).1 hbit; omega
    · have := (h a ha b hb (hall b hb) (Ne.symm hab)).2 hc; exact fun e => this e.symm
end Go.Abs
