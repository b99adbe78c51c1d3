/- Each tree has a graceful row, and is not even: by going through all nets. Own work; no condition. -/
import Derived.Test.YtklmfnafbfghjaaGrace3
import Derived.Test.YtklmfnafbfghjaaPart2
import Derived.Test.YtklmfnafbfghjaaPart4
set_option maxRecDepth 100000
set_option linter.unusedSimpArgs false
set_option linter.unusedVariables false
namespace Go.Abs
open Go.Proofs
attribute [local irreducible] awp awpOps awpKeep KeepK awpKeepF KeepF aloop ALoop ACalls ACallq AQuiet retPost retPostA AExit.thn AExit.blk aApp aSt aStA
open Parts

/-- The number of a place, of a row told by one number. -/
def lab (R k : Nat) : Nat := Nat.land (Nat.shiftRight R (Nat.mul 8 k)) 255
def ndist (a b : Nat) : Nat := Nat.add (Nat.sub a b) (Nat.sub b a)
/-- Is a row graceful? -/
noncomputable def okRow (n N W R : Nat) : Bool :=
  bif upto (fun k => bif Nat.ble (lab R k) W then upto (fun j => bif Nat.beq (lab R j) (lab R k) then false else true) k else false) n then
    upto (fun b => upto (fun a => bif has (row N b) a then upto (fun d => upto (fun c => bif has (row N d) c then (bif Nat.beq (ndist (lab R a) (lab R b)) (ndist (lab R c) (lab R d)) then (bif Nat.beq a c then Nat.beq b d else false) else true) else true) d) n else true) b) n
  else false
theorem has_tbit (x k : Nat) : has x k = x.testBit k := by
  unfold has
  have e : Nat.land (Nat.shiftRight x k) 1 = x / 2 ^ k % 2 := by
    show (x >>> k) &&& 1 = _
    rw [Nat.and_one_is_mod, Nat.shiftRight_eq_div_pow]
  rw [e, Nat.testBit_eq_decide_div_mod_eq]
  cases hb : Nat.beq (x / 2 ^ k % 2) 1 with
  | true => exact (decide_eq_true (Nat.eq_of_beq_eq_true hb)).symm
  | false => exact (decide_eq_false fun c => by rw [c] at hb; cases hb).symm

/-- The row that a number tells. -/
def labs (R n : Nat) : List Int := (List.range n).map fun k => (lab R k : Int)
theorem labs_len (R n : Nat) : (labs R n).length = n := by simp [labs]
theorem labs_get {R n k : Nat} (h : k < n) : (labs R n).getD k 0 = (lab R k : Int) := by simp [labs, List.getD_eq_getElem?_getD, h]
theorem ndist_int (a b : Nat) : ((ndist a b : Nat) : Int) = dist (a : Int) (b : Int) := by
  show (((a - b) + (b - a) : Nat) : Int) = _
  unfold dist
  split <;> omega

theorem okRow_grace {net : List Int} (hN : NetOk net) {R : Nat} (h : okRow net.length (pk net) (wires net).length R = true) : Grace net (labs R net.length) := by
  have h6 := hN.six
  obtain ⟨h1, h2⟩ := bif_and h
  have hb : ∀ b a, b < net.length → a < 6 → has (row (pk net) b) a = bit ((net.getD b 0)) a := fun b a hb ha => by
    rw [row_of hN (by omega), has_tbit]; unfold bit nrow; rfl
  refine (grace_dd hN (labs_len _ _) fun i hi => ?_).2 ⟨fun k hk j hj e => ?_, fun a b c d hab hb1 hcd hd1 wb wd he => ?_⟩
  · rw [labs_len] at hi
    obtain ⟨g1, _⟩ := bif_and (upto_all h1 i hi)
    have := Nat.le_of_ble_eq_true g1
    rw [labs_get hi]
    unfold qOf
    omega
  · rw [labs_len] at hk
    obtain ⟨_, g2⟩ := bif_and (upto_all h1 k hk)
    have g3 := upto_all g2 j hj
    rw [labs_get hk, labs_get (by omega)] at e
    have e' : lab R j = lab R k := by omega
    rw [e', show Nat.beq (lab R k) (lab R k) = true by simp] at g3
    cases g3
  · rw [labs_len] at hb1 hd1
    have g1 := upto_all (upto_all h2 b hb1) a hab
    rw [hb b a hb1 (by omega), wb] at g1
    have g2 := upto_all (upto_all (show upto (fun d => upto (fun c => bif has (row (pk net) d) c then (bif Nat.beq (ndist (lab R a) (lab R b)) (ndist (lab R c) (lab R d)) then (bif Nat.beq a c then Nat.beq b d else false) else true) else true) d) net.length = true from g1) d hd1) c hcd
    rw [hb d c hd1 (by omega), wd] at g2
    rw [labs_get (by omega), labs_get hb1, labs_get (by omega), labs_get hd1, ← ndist_int, ← ndist_int] at he
    have e' : ndist (lab R a) (lab R b) = ndist (lab R c) (lab R d) := by omega
    rw [e', show Nat.beq (ndist (lab R c) (lab R d)) (ndist (lab R c) (lab R d)) = true by simp] at g2
    obtain ⟨g3, g4⟩ := bif_and (show (bif Nat.beq a c then Nat.beq b d else false) = true from g2)
    exact ⟨Nat.eq_of_beq_eq_true g3, Nat.eq_of_beq_eq_true g4⟩

end Go.Abs
