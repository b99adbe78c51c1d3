/- Sides in the program. Own work; no condition. -/
import Derived.Test.YtmanphhghdnliaaPart4
set_option maxRecDepth 100000
set_option linter.unusedSimpArgs false
set_option linter.unusedVariables false
namespace Go.Abs
open Go.Proofs
attribute [local irreducible] awp awpOps awpKeep KeepK awpKeepF KeepF aloop ALoop ACalls ACallq AQuiet retPost retPostA AExit.thn AExit.blk aApp aSt aStA
open Parts

theorem sdi_step (N f left d : Nat) (h : sdi N f left d ≠ 1000) : (left = 0 ∧ sdi N f left d = d) ∨ (left ≠ 0 ∧ ∃ f' R, f = f' + 1 ∧ R = wv N 5 (least left) 0 (least left) ∧ R < 4096 ∧
    ((Nat.land (near N (R % 64)) (R % 64) = 0 ∧ Nat.land (near N (R / 64)) (R / 64) = 0 ∧ sdi N f left d = sdi N f' (less left (Nat.lor (R % 64) (R / 64))) (Nat.lor d (R % 64))) ∨
     ((Nat.land (near N (R % 64)) (R % 64) ≠ 0 ∨ Nat.land (near N (R % 64)) (R % 64) = 0 ∧ Nat.land (near N (R / 64)) (R / 64) ≠ 0) ∧ sdi N f left d = 777))) := by
  cases f with
  | zero =>
    have e : sdi N 0 left d = bif Nat.beq left 0 then d else 1000 := rfl
    rw [e] at h ⊢
    cases left with
    | zero => exact .inl ⟨rfl, rfl⟩
    | succ l => exact absurd rfl h
  | succ f =>
    have e : sdi N (f + 1) left d = bif Nat.beq left 0 then d else frc (least left) fun s => frc (wv N 5 s 0 s) fun R => bif Nat.ble 4096 R then 1000 else
      frc (Nat.mod R 64) fun e => frc (Nat.div R 64) fun o => bif Nat.beq (Nat.land (near N e) e) 0 then (bif Nat.beq (Nat.land (near N o) o) 0 then frc (less left (Nat.lor e o)) fun left1 => sdi N f left1 (Nat.lor d e) else 777) else 777 := rfl
    simp only [frc_eq] at e
    rw [e] at h ⊢
    cases left with
    | zero => exact .inl ⟨rfl, rfl⟩
    | succ l =>
      refine .inr ⟨Nat.succ_ne_zero l, f, _, rfl, rfl, ?_⟩
      rw [show Nat.beq (l + 1) 0 = false from rfl] at h ⊢
      simp only [cond_false] at h ⊢
      generalize wv N 5 (least (l + 1)) 0 (least (l + 1)) = R at h ⊢
      have em : Nat.mod R 64 = R % 64 := rfl
      have ed : Nat.div R 64 = R / 64 := rfl
      rw [em, ed] at h ⊢
      cases hb : Nat.ble 4096 R with
      | true => rw [hb] at h; exact absurd rfl h
      | false =>
        refine ⟨?_, ?_⟩
        · rcases Nat.lt_or_ge R 4096 with h1 | h1
          · exact h1
          · rw [Nat.ble_eq_true_of_le h1] at hb; cases hb
        · simp only [cond_false]
          cases h1 : Nat.beq (Nat.land (near N (R % 64)) (R % 64)) 0 with
          | false => exact .inr ⟨.inl fun c => (by rw [c] at h1; exact Bool.noConfusion h1), rfl⟩
          | true =>
            cases h2 : Nat.beq (Nat.land (near N (R / 64)) (R / 64)) 0 with
            | false => exact .inr ⟨.inr ⟨Nat.eq_of_beq_eq_true h1, fun c => (by rw [c] at h2; exact Bool.noConfusion h2)⟩, rfl⟩
            | true => exact .inl ⟨Nat.eq_of_beq_eq_true h1, Nat.eq_of_beq_eq_true h2, rfl⟩

/-- One side of a net; -1 if there is none. -/
noncomputable def sidesOf (net : List Int) : Int := if NetOk net then (if sdi (pk net) 6 (2 ^ net.length - 1) 0 = 777 then -1 else (sdi (pk net) 6 (2 ^ net.length - 1) 0 : Nat)) else -1

theorem land_int_zero {x y : Nat} (h : x < 64) (h' : y < 64) : (bandInt .i64 (x : Int) (y : Int) ≠ 0) ↔ Nat.land x y ≠ 0 := by
  rw [band_land h h']
  omega

end Go.Abs
