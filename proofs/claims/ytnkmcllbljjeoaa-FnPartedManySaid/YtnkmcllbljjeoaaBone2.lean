/- Caterpillars: what is known of each tree; the model's functions, by contracts. Own work; no condition. -/
import Derived.Test.YtnkmcllbljjeoaaBone1
import Derived.Test.YtnkmcllbljjeoaaSpecG2
set_option maxRecDepth 100000
set_option linter.unusedSimpArgs false
set_option linter.unusedVariables false
namespace Go.Abs
open Go.Proofs
attribute [local irreducible] awp awpOps awpKeep KeepK aloop ALoop ACalls ACallq AQuiet retPost retPostA AExit.thn AExit.blk aApp aSt aStA
open Parts

theorem inn_succ (N k : Nat) : inn N (k + 1) = if 2 ≤ pc (row N k) then inn N k + 2 ^ k else inn N k := by
  have e : inn N (k + 1) = frc (inn N k) fun s => bif Nat.ble 2 (pc (row N k)) then Nat.add s (Nat.pow 2 k) else s := rfl
  rw [e, frc_eq]
  cases hb : Nat.ble 2 (pc (row N k)) with
  | true => rw [if_pos (Nat.le_of_ble_eq_true hb)]; rfl
  | false => rw [if_neg fun c => (by rw [Nat.ble_eq_true_of_le c] at hb; cases hb)]; rfl
theorem inn_lt (N : Nat) : ∀ k, inn N k < 2 ^ k
  | 0 => Nat.one_pos
  | k + 1 => by
    have ih := inn_lt N k
    rw [inn_succ, Nat.pow_succ]
    split <;> omega
theorem bor_add {x k : Nat} (h : x < 2 ^ k) (hk : k < 6) : borInt .i64 (x : Int) ((2 : Int) ^ k) = ((x + 2 ^ k : Nat) : Int) := by
  have h2 := pow_lt64 hk
  have e : ((2 : Int) ^ k) = ((2 ^ k : Nat) : Int) := by simp
  rw [e, bor_nat x (2 ^ k) (by omega) (by omega)]
  congr 1
  have := Nat.two_pow_add_eq_or_of_lt h 1
  rw [Nat.mul_one] at this
  rw [Nat.or_comm, ← this, Nat.add_comm]
theorem inn64 {net : List Int} (h : NetOk net) {k : Nat} (hk : k ≤ net.length) : inn (pk net) k < 64 := by
  have h6 := h.six
  have h1 := inn_lt (pk net) k
  have h2 := full_lt (n := k) (by omega)
  omega

/-- The backbone, told by one number. -/
noncomputable def boneOf (net : List Int) : Nat := boneP (pk net) net.length
noncomputable def colA (net : List Int) : Nat := Nat.mod (colsP (pk net) net.length) big
noncomputable def colB (net : List Int) : Nat := Nat.div (colsP (pk net) net.length) big
noncomputable def catRow (net : List Int) : Nat := catR (pk net) net.length

structure CatIs (net : List Int) : Prop where
  ok : NetOk net
  one : (wires net).length + 1 = net.length
  inner : ∀ k, k < net.length → pc (Nat.land (nrow net k) (inn (pk net) net.length)) ≤ 2
  bone1 : 1 ≤ boneOf net % 16
  boneN : boneOf net % 16 ≤ net.length
  boneLt : ∀ k, k < boneOf net % 16 → pa (boneOf net) k < net.length
  legs : 3 ≤ net.length → boneOf net % 16 + 2 ≤ net.length
  next : ∀ k, k + 1 < boneOf net % 16 → (nrow net (pa (boneOf net) k)).testBit (pa (boneOf net) (k + 1)) = true ∧ 2 ≤ pc (nrow net (pa (boneOf net) (k + 1)))
  colsLen : ∀ k, k ≤ boneOf net % 16 → cols (pk net) net.length (boneOf net) k % big % 16 ≤ 6 ∧ cols (pk net) net.length (boneOf net) k / big % 16 ≤ 6
  ltA : ∀ k, k < colA net % 16 → pa (colA net) k < net.length
  ltB : ∀ k, k < colB net % 16 → pa (colB net) k < net.length
  both : colA net % 16 + colB net % 16 = net.length
  colA1 : 1 ≤ colA net % 16
  uncrossed : scans (pk net) (colA net) (colB net) (colA net % 16) < 4096
  count : scans (pk net) (colA net) (colB net) (colA net % 16) / 16 = (wires net).length
  grace : Grace net (labs (catRow net) net.length)
  nought : lab (catRow net) (pa (colA net) 0) = 0

theorem cat_is {net : List Int} (h : treeOk net = true) : CatIs net := by
  obtain ⟨hN, h1, h2⟩ := of_decide_eq_true h
  have h6 := hN.six
  have hp := hN.pos
  have hF := all_of catF1 catF2 catF3 catF4 catF5 catF6 hN
  rw [partMany, if_pos hN] at h1
  rw [wiresOf, if_pos hN] at h2
  unfold catF at hF
  rw [show Nat.beq (Nat.succ (wires net).length) net.length = true by rw [show Nat.succ (wires net).length = net.length by omega]; simp] at hF
  have e1 : pm (pk net) 6 (2 ^ net.length - 1) 0 = 1 := by omega
  have e2 : Nat.sub (Nat.pow 2 net.length) 1 = 2 ^ net.length - 1 := rfl
  rw [e2, e1] at hF
  simp only [frc_eq, cond_true, show Nat.beq 1 1 = true from rfl] at hF
  obtain ⟨g1, hF⟩ := bif_and hF
  obtain ⟨g2, hF⟩ := bif_and hF
  obtain ⟨g3, hF⟩ := bif_and hF
  obtain ⟨g4, hF⟩ := bif_and hF
  obtain ⟨g5, hF⟩ := bif_and hF
  obtain ⟨g5b, hF⟩ := bif_and hF
  obtain ⟨g6, hF⟩ := bif_and hF
  obtain ⟨g7, hF⟩ := bif_and hF
  obtain ⟨g8, hF⟩ := bif_and hF
  obtain ⟨g9, hF⟩ := bif_and hF
  obtain ⟨g10, hF⟩ := bif_and hF
  obtain ⟨g11, g12⟩ := bif_and hF
  have hlt : ∀ k, k < boneOf net % 16 → pa (boneOf net) k < net.length := fun k hk => Nat.le_of_ble_eq_true (upto_all g3 k hk)
  have g10' : scans (pk net) (colA net) (colB net) (colA net % 16) < 4096 ∧ scans (pk net) (colA net) (colB net) (colA net % 16) / 16 = (wires net).length := by
    have g : (bif Nat.ble 4096 (scans (pk net) (colA net) (colB net) (colA net % 16)) then false else Nat.beq (scans (pk net) (colA net) (colB net) (colA net % 16) / 16) (wires net).length) = true := g10
    generalize scans (pk net) (colA net) (colB net) (colA net % 16) = z at g ⊢
    cases hb : Nat.ble 4096 z with
    | true => rw [hb] at g; cases g
    | false =>
      rw [hb] at g
      exact ⟨Nat.lt_of_not_le fun c => (by rw [Nat.ble_eq_true_of_le c] at hb; cases hb), Nat.eq_of_beq_eq_true g⟩
  have hle : 1 ≤ boneOf net % 16 := Nat.le_of_ble_eq_true g2
  have g4' : (bif Nat.ble net.length 2 then Nat.ble (boneOf net % 16) net.length else Nat.ble (boneOf net % 16 + 2) net.length) = true := g4
  have hleg : boneOf net % 16 ≤ net.length ∧ (3 ≤ net.length → boneOf net % 16 + 2 ≤ net.length) := by
    generalize boneOf net % 16 = z at g4' ⊢
    cases hb : Nat.ble net.length 2 with
    | true => rw [hb] at g4'; have := Nat.le_of_ble_eq_true hb; have := Nat.le_of_ble_eq_true g4'; exact ⟨by omega, fun _ => by omega⟩
    | false => rw [hb] at g4'; have := Nat.le_of_ble_eq_true g4'; exact ⟨by omega, fun _ => by omega⟩
  exact ⟨hN, by omega, fun k hk => by have := Nat.le_of_ble_eq_true (upto_all g1 k hk); rw [row_of hN (by omega)] at this; exact this, hle, hleg.1, hlt, hleg.2,
    fun k hk => by
      have g := upto_all g5 (k + 1) hk
      have g : (bif has (row (pk net) (pa (boneOf net) k)) (pa (boneOf net) (k + 1)) then Nat.ble 2 (pc (row (pk net) (pa (boneOf net) (k + 1)))) else false) = true := g
      have q1 := hlt k (by omega)
      have q2 := hlt (k + 1) hk
      rw [row_of hN (by omega), row_of hN (by omega), has_tbit] at g
      obtain ⟨q3, q4⟩ := bif_and g
      exact ⟨q3, Nat.le_of_ble_eq_true q4⟩,
    fun k hk => by
      have g := upto_all g5b k (Nat.lt_succ_of_le hk)
      obtain ⟨q3, q4⟩ := bif_and (show (bif Nat.ble (cols (pk net) net.length (boneOf net) k % big % 16) 6 then Nat.ble (cols (pk net) net.length (boneOf net) k / big % 16) 6 else false) = true from g)
      exact ⟨Nat.le_of_ble_eq_true q3, Nat.le_of_ble_eq_true q4⟩,
    fun k hk => Nat.le_of_ble_eq_true (upto_all g6 k hk), fun k hk => Nat.le_of_ble_eq_true (upto_all g7 k hk), Nat.eq_of_beq_eq_true g8, Nat.le_of_ble_eq_true g9, g10'.1, g10'.2, okRow_grace hN g11, Nat.eq_of_beq_eq_true g12⟩

end Go.Abs
