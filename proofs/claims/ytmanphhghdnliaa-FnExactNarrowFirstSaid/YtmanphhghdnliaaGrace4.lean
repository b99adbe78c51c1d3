/- Each tree has a graceful row, and is not even: by going through all nets. Own work; no condition. -/
import Derived.Test.YtmanphhghdnliaaGrace3
import Derived.Test.YtmanphhghdnliaaPart2
import Derived.Test.YtmanphhghdnliaaPart4
set_option maxRecDepth 100000
set_option linter.unusedSimpArgs false
set_option linter.unusedVariables false
namespace Go.Abs
open Go.Proofs
attribute [local irreducible] awp awpOps awpKeep KeepK awpKeepF KeepF aloop ALoop ACalls ACallq AQuiet retPost retPostA AExit.thn AExit.blk aApp aSt aStA
open Parts

/-- The number of a place, of a row told by one number. -/
def lab (R k : Nat) : Nat := Nat.land (Nat.shiftRight R (Nat.mul 8 k)) 255
def ndist (a b : Nat) : Nat := Nat.add (Nat.sub a b) (Nat.sub b a)
/-- The differences of a place with those ahead of it are new: the set then, 0 if one is not. The set has 0 as a mark. -/
noncomputable def newC (N a R x C : Nat) (k : Nat) : Nat := @Nat.rec (fun _ => Nat) C (fun j ih => frc ih fun c => bif Nat.beq c 0 then 0 else bif has (row N a) j then frc (ndist x (lab R j)) fun d => bif has c d then 0 else Nat.add c (Nat.pow 2 d) else c) k
/-- The first row that fits, from place a on; 0 if there is none, else the row with a mark above. -/
noncomputable def dfs (N W : Nat) (f : Nat) : Nat → Nat → Nat → Nat → Nat := @Nat.rec (fun _ => Nat → Nat → Nat → Nat → Nat) (fun _ R _ _ => Nat.add R 1152921504606846976)
  (fun _ ih a R U C => @Nat.rec (fun _ => Nat) 0 (fun x sofar => frc sofar fun found => bif Nat.beq found 0 then (bif has U x then 0 else frc (newC N a R x C a) fun C1 => bif Nat.beq C1 0 then 0 else
    frc (Nat.succ a) fun a1 => frc (Nat.add R (Nat.mul x (Nat.pow 256 a))) fun R1 => frc (Nat.add U (Nat.pow 2 x)) fun U1 => ih a1 R1 U1 C1) else found) (Nat.succ W)) f
/-- Is a row graceful? -/
noncomputable def okRow (n N W R : Nat) : Bool :=
  bif upto (fun k => bif Nat.ble (lab R k) W then upto (fun j => bif Nat.beq (lab R j) (lab R k) then false else true) k else false) n then
    upto (fun b => upto (fun a => bif has (row N b) a then upto (fun d => upto (fun c => bif has (row N d) c then (bif Nat.beq (ndist (lab R a) (lab R b)) (ndist (lab R c) (lab R d)) then (bif Nat.beq a c then Nat.beq b d else false) else true) else true) d) n else true) b) n
  else false
noncomputable def anyK (P : Nat → Bool) (n : Nat) : Bool := @Nat.rec (fun _ => Bool) false (fun k ih => bif P k then true else ih) n
noncomputable def treeF (n N W : Nat) : Bool := bif Nat.beq (Nat.succ W) n then (bif Nat.beq (pm N 6 (Nat.sub (Nat.pow 2 n) 1) 0) 1 then
  frc (Nat.land (dfs N W n 0 0 0 1) 1152921504606846975) fun R => (bif okRow n N W R then (bif Nat.ble n 1 then true else anyK (fun k => Nat.beq (Nat.mod (pc (row N k)) 2) 1) n) else false) else true) else true

theorem treeF1 : chkF treeF 1 0 0 0 = true := by decide +kernel
theorem treeF2 : chkF treeF 2 0 0 0 = true := by decide +kernel
theorem treeF3 : chkF treeF 3 0 0 0 = true := by decide +kernel
theorem treeF4 : chkF treeF 4 0 0 0 = true := by decide +kernel
theorem treeF5 : chkF treeF 5 0 0 0 = true := by decide +kernel
theorem treeF6 : chkF treeF 6 0 0 0 = true := by decide +kernel

theorem anyK_ex {P : Nat → Bool} : ∀ {n : Nat}, anyK P n = true → ∃ k, k < n ∧ P k = true
  | 0, h => by cases h
  | n + 1, h => by
    have h' : (bif P n then true else anyK P n) = true := h
    cases hp : P n with
    | true => exact ⟨n, Nat.lt_succ_self _, hp⟩
    | false =>
      rw [hp] at h'
      obtain ⟨k, h1, h2⟩ := anyK_ex (n := n) h'
      exact ⟨k, by omega, h2⟩

theorem has_tbit (x k : Nat) : has x k = x.testBit k := by
  unfold has
  have e : Nat.land (Nat.shiftRight x k) 1 = x / 2 ^ k % 2 := by
    show (x >>> k) &&& 1 = _
    rw [Nat.and_one_is_mod, Nat.shiftRight_eq_div_pow]
  rw [e, Nat.testBit_eq_decide_div_mod_eq]
  cases hb : Nat.beq (x / 2 ^ k % 2) 1 with
  | true => exact (decide_eq_true (Nat.eq_of_beq_eq_true hb)).symm
  | false => exact (decide_eq_false fun c => by rw [c] at hb; cases hb).symm

/-- The row that a number tells. -/
def labs (R n : Nat) : List Int := (List.range n).map fun k => (lab R k : Int)
theorem labs_len (R n : Nat) : (labs R n).length = n := by simp [labs]
theorem labs_get {R n k : Nat} (h : k < n) : (labs R n).getD k 0 = (lab R k : Int) := by simp [labs, List.getD_eq_getElem?_getD, h]
theorem ndist_int (a b : Nat) : ((ndist a b : Nat) : Int) = dist (a : Int) (b : Int) := by
  show (((a - b) + (b - a) : Nat) : Int) = _
  unfold dist
  split <;> omega

theorem okRow_grace {net : List Int} (hN : NetOk net) {R : Nat} (h : okRow net.length (pk net) (wires net).length R = true) : Grace net (labs R net.length) := by
  have h6 := hN.six
  obtain ⟨h1, h2⟩ := bif_and h
  have hb : ∀ b a, b < net.length → a < 6 → has (row (pk net) b) a = bit ((net.getD b 0)) a := fun b a hb ha => by
    rw [row_of hN (by omega), has_tbit]; unfold bit nrow; rfl
  refine (grace_dd hN (labs_len _ _) fun i hi => ?_).2 ⟨fun k hk j hj e => ?_, fun a b c d hab hb1 hcd hd1 wb wd he => ?_⟩
  · rw [labs_len] at hi
    obtain ⟨g1, _⟩ := bif_and (upto_all h1 i hi)
    have := Nat.le_of_ble_eq_true g1
    rw [labs_get hi]
    unfold qOf
    omega
  · rw [labs_len] at hk
    obtain ⟨_, g2⟩ := bif_and (upto_all h1 k hk)
    have g3 := upto_all g2 j hj
    rw [labs_get hk, labs_get (by omega)] at e
    have e' : lab R j = lab R k := by omega
    rw [e', show Nat.beq (lab R k) (lab R k) = true by simp] at g3
    cases g3
  · rw [labs_len] at hb1 hd1
    have g1 := upto_all (upto_all h2 b hb1) a hab
    rw [hb b a hb1 (by omega), wb] at g1
    have g2 := upto_all (upto_all (show upto (fun d => upto (fun c => bif has (row (pk net) d) c then (bif Nat.beq (ndist (lab R a) (lab R b)) (ndist (lab R c) (lab R d)) then (bif Nat.beq a c then Nat.beq b d else false) else true) else true) d) net.length = true from g1) d hd1) c hcd
    rw [hb d c hd1 (by omega), wd] at g2
    rw [labs_get (by omega), labs_get hb1, labs_get (by omega), labs_get hd1, ← ndist_int, ← ndist_int] at he
    have e' : ndist (lab R a) (lab R b) = ndist (lab R c) (lab R d) := by omega
    rw [e', show Nat.beq (ndist (lab R c) (lab R d)) (ndist (lab R c) (lab R d)) = true by simp] at g2
    obtain ⟨g3, g4⟩ := bif_and (show (bif Nat.beq a c then Nat.beq b d else false) = true from g2)
    exact ⟨Nat.eq_of_beq_eq_true g3, Nat.eq_of_beq_eq_true g4⟩

/-- What is known of a tree: it has a graceful row, and, of two places or more, some place has an odd number of neighbours. -/
theorem tree_grace {net : List Int} (h : treeOk net = true) : (∃ row, Grace net row) ∧ (1 < net.length → ¬ EvenNet net) := by
  obtain ⟨hN, h1, h2⟩ := of_decide_eq_true h
  have h6 := hN.six
  have hp := hN.pos
  have hF := all_of treeF1 treeF2 treeF3 treeF4 treeF5 treeF6 hN
  rw [partMany, if_pos hN] at h1
  rw [wiresOf, if_pos hN] at h2
  unfold treeF at hF
  rw [show Nat.beq (Nat.succ (wires net).length) net.length = true by rw [show Nat.succ (wires net).length = net.length by omega]; simp] at hF
  have e1 : pm (pk net) 6 (2 ^ net.length - 1) 0 = 1 := by omega
  have e2 : Nat.sub (Nat.pow 2 net.length) 1 = 2 ^ net.length - 1 := rfl
  rw [e2, e1] at hF
  simp only [frc_eq, cond_true, show Nat.beq 1 1 = true from rfl] at hF
  obtain ⟨g1, g2⟩ := bif_and hF
  refine ⟨⟨_, okRow_grace hN g1⟩, fun hl he => ?_⟩
  rw [show Nat.ble net.length 1 = false by cases hb : Nat.ble net.length 1 with | true => exact absurd (Nat.le_of_ble_eq_true hb) (by omega) | false => rfl] at g2
  obtain ⟨k, hk, hk2⟩ := anyK_ex (show anyK _ _ = true from g2)
  rw [row_of hN (by omega)] at hk2
  have h3 : pc (nrow net k) % 2 = 1 := Nat.eq_of_beq_eq_true hk2
  have h4 := he k hk
  unfold nrow at h3
  omega

end Go.Abs
