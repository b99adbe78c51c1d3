/- The other net of the other net is the net; the wires of both together. Own work; no condition. -/
import Derived.Test.YtchejfephmmcaaaChan6
set_option maxRecDepth 100000
set_option linter.unusedSimpArgs false
set_option linter.unusedVariables false
namespace Go.Abs
open Go.Proofs
attribute [local irreducible] awp awpOps awpKeep KeepK awpKeepF KeepF aloop ALoop ACalls ACallq AQuiet retPost retPostA AExit.thn AExit.blk aApp aSt aStA

theorem other_val {net : List Int} (hN : NetOk net) {k : Nat} (hk : k < net.length) : (other net).getD k 0 = 2 ^ net.length - 1 - (net.getD k 0) - 2 ^ k := by
  rw [show other net = (List.range net.length).map fun k : Nat => 2 ^ net.length - 1 - (net.getD k 0) - 2 ^ k from if_pos hN]
  simp [List.getD_eq_getElem?_getD, hk]
theorem other_other {net : List Int} (hN : NetOk net) : other (other net) = net := by
  have hl := other_len hN
  have hl2 := other_len (other_net hN)
  refine List.ext_getElem (by rw [hl2, hl]) fun i h1 h2 => ?_
  have e1 : (other (other net)).getD i 0 = (other (other net))[i] := by rw [List.getD_eq_getElem?_getD, List.getElem?_eq_getElem h1]; rfl
  have e2 : net.getD i 0 = net[i] := by rw [List.getD_eq_getElem?_getD, List.getElem?_eq_getElem h2]; rfl
  rw [← e1, ← e2, other_val (other_net hN) (by rw [hl]; exact h2), hl, show ((other net).getD i 0) = _ from other_val hN h2]
  show _ = (net.getD i 0)
  omega
theorem pc_other : ∀ n, n < 7 → ∀ s, s < 2 ^ n → ∀ k, k < n → s.testBit k = false → pc s + pc (2 ^ n - 1 - s - 2 ^ k) = n - 1 := by decide +kernel
theorem sizes_other {net : List Int} (hN : NetOk net) : ∀ k, k ≤ net.length → sizes net k + sizes (other net) k = k * (net.length - 1)
  | 0, _ => by simp [sizes]
  | k + 1, hk => by
    have ih := sizes_other hN k (by omega)
    have hv := other_val hN (show k < net.length by omega)
    obtain ⟨s, hs⟩ := Int.eq_ofNat_of_zero_le (hN.low k hk)
    have hh := hN.high k hk
    have ho := hN.own k hk
    have hp : (2 : Int) ^ net.length = ((2 ^ net.length : Nat) : Int) := by simp
    have hpk : (2 : Int) ^ k = ((2 ^ k : Nat) : Int) := by simp
    rw [hs, bit_nat] at ho
    rw [hs, hp] at hh
    have hsl : s < 2 ^ net.length := by omega
    obtain ⟨q1, _⟩ := other_bit net.length (by have := hN.six; omega) s hsl k hk ho
    have hc := pc_other net.length (by have := hN.six; omega) s hsl k hk ho
    rw [hs, hp, hpk, show (((2 ^ net.length : Nat) : Int) - 1 - (s : Int) - ((2 ^ k : Nat) : Int)) = ((2 ^ net.length - 1 - s - 2 ^ k : Nat) : Int) by omega] at hv
    show sizes net k + pc ((net.getD k 0)).toNat + (sizes (other net) k + pc (((other net).getD k 0)).toNat) = _
    rw [hs, show ((other net).getD k 0) = _ from hv, Int.toNat_natCast, Int.toNat_natCast, Nat.succ_mul]
    omega
theorem other_wires {net : List Int} (hN : NetOk net) : 2 * (qOf net + qOf (other net)) = net.length * (net.length - 1) := by
  have h := sizes_other hN _ (Nat.le_refl _)
  have a := (count_wires hN).1
  have b := (count_wires (other_net hN)).1
  rw [other_len hN] at b
  unfold qOf
  omega

end Go.Abs
