/- How many wires, by counting neighbours. Own work; no condition. -/
import Derived.Test.YtcbnigipnepnkaaNear1
import Derived.Test.YtcbnigipnepnkaaWire1
set_option maxRecDepth 100000
set_option linter.unusedSimpArgs false
set_option linter.unusedVariables false
namespace Go.Abs
open Go.Proofs
attribute [local irreducible] awp awpOps aloop ALoop ACalls ACallq AQuiet retPost retPostA AExit.thn AExit.blk aApp aSt aStA

/-- One or nothing: is place j near place k? -/
def nb (net : List Int) (k j : Nat) : Nat := (bit ((net.getD k 0)) j).toNat

theorem pc_bits : ∀ n, n < 64 → pc n = (n.testBit 0).toNat + (n.testBit 1).toNat + (n.testBit 2).toNat + (n.testBit 3).toNat + (n.testBit 4).toNat + (n.testBit 5).toNat := by decide +kernel

theorem pc_nb {net : List Int} (h : NetOk net) {k : Nat} (hk : k < net.length) : pc ((net.getD k 0)).toNat = nb net k 0 + nb net k 1 + nb net k 2 + nb net k 3 + nb net k 4 + nb net k 5 := by
  have := h.small hk
  rw [pc_bits _ (by omega)]
  unfold nb bit
  rfl
theorem nb_one (net : List Int) (k j : Nat) : nb net k j ≤ 1 := by unfold nb; cases bit (net.getD k 0) j <;> simp
theorem nb_out {net : List Int} (h : NetOk net) {k j : Nat} (hk : k < net.length) (hj : net.length ≤ j) : nb net k j = 0 := by unfold nb; rw [bit_lt (h.low k hk) (h.high k hk) hj]; rfl
theorem nb_own {net : List Int} (h : NetOk net) {k : Nat} (hk : k < net.length) : nb net k k = 0 := by unfold nb; rw [h.own k hk]; rfl
theorem nb_sym {net : List Int} (h : NetOk net) {k j : Nat} (hk : k < net.length) (hj : j < net.length) : nb net k j = nb net j k := by unfold nb; rw [h.sym hk hj]

def sizes (net : List Int) : Nat → Nat
  | 0 => 0
  | k + 1 => sizes net k + pc ((net.getD k 0)).toNat

theorem in_zero (net : List Int) (k : Nat) : (wiresIn net k 0).length = 0 := rfl
theorem in_succ (net : List Int) (k j : Nat) : (wiresIn net k (j + 1)).length = (wiresIn net k j).length + if k < j then nb net k j else 0 := by
  rw [wiresIn]
  by_cases h : k < j
  · cases hb : bit (net.getD k 0) j with
    | true => rw [if_pos ⟨h, rfl⟩, if_pos h, List.length_append, nb, hb]; rfl
    | false => rw [if_neg (fun c => Bool.noConfusion c.2), if_pos h, nb, hb]; rfl
  · rw [if_neg (fun c => h c.1), if_neg h]; rfl
theorem to_succ (net : List Int) (k : Nat) : (wiresTo net (k + 1)).length = (wiresTo net k).length + (wiresIn net k net.length).length := by rw [wiresTo, List.length_append]

theorem count_wires {net : List Int} (h : NetOk net) : sizes net net.length = 2 * (wires net).length ∧ (wires net).length * 2 ≤ net.length * (net.length - 1) ∧ (∀ k, k < net.length → pc ((net.getD k 0)).toNat + 1 ≤ net.length) := by
  have h1 := h.pos
  have h6 := h.six
  have hc : net.length = 1 ∨ net.length = 2 ∨ net.length = 3 ∨ net.length = 4 ∨ net.length = 5 ∨ net.length = 6 := by omega
  have hp := fun k (hk : k < net.length) => pc_nb h hk
  have ho := fun k (hk : k < net.length) => nb_own h hk
  have hz := fun k j (hk : k < net.length) (hj : net.length ≤ j) => nb_out h hk hj
  have hs := fun k j (hk : k < net.length) (hj : j < net.length) => nb_sym h hk hj
  have hn := nb_one net
  clear h h1 h6
  rcases hc with e | e | e | e | e | e
  · have ew := congrArg List.length (show wires net = wiresTo net 1 by rw [wires, e])
    simp only [to_succ, e, in_succ, in_zero, Nat.reduceLT, Nat.reduceAdd, Nat.not_lt_zero, Nat.lt_irrefl, if_true, if_false, Nat.zero_add, Nat.add_zero, show (wiresTo net 0).length = 0 from rfl] at ew
    have p0 := hp 0 (by omega)
    have o0 := ho 0 (by omega)
    have z01 := hz 0 1 (by omega) (by omega)
    have z02 := hz 0 2 (by omega) (by omega)
    have z03 := hz 0 3 (by omega) (by omega)
    have z04 := hz 0 4 (by omega) (by omega)
    have z05 := hz 0 5 (by omega) (by omega)
    have es : sizes net net.length = pc ((net.getD 0 0)).toNat := by rw [e]; simp only [sizes, Nat.zero_add]
    clear hp ho hz hs hn
    refine ⟨by rw [es]; omega, by rw [e]; omega, fun k hk => ?_⟩
    have hk2 : k = 0 := by omega
    subst hk2; omega
  · have ew := congrArg List.length (show wires net = wiresTo net 2 by rw [wires, e])
    simp only [to_succ, e, in_succ, in_zero, Nat.reduceLT, Nat.reduceAdd, Nat.not_lt_zero, Nat.lt_irrefl, if_true, if_false, Nat.zero_add, Nat.add_zero, show (wiresTo net 0).length = 0 from rfl] at ew
    have p0 := hp 0 (by omega)
    have o0 := ho 0 (by omega)
    have z02 := hz 0 2 (by omega) (by omega)
    have z03 := hz 0 3 (by omega) (by omega)
    have z04 := hz 0 4 (by omega) (by omega)
    have z05 := hz 0 5 (by omega) (by omega)
    have p1 := hp 1 (by omega)
    have o1 := ho 1 (by omega)
    have s10 := hs 1 0 (by omega) (by omega)
    have n10 := hn 1 0
    have z12 := hz 1 2 (by omega) (by omega)
    have z13 := hz 1 3 (by omega) (by omega)
    have z14 := hz 1 4 (by omega) (by omega)
    have z15 := hz 1 5 (by omega) (by omega)
    have es : sizes net net.length = pc ((net.getD 0 0)).toNat + pc ((net.getD 1 0)).toNat := by rw [e]; simp only [sizes, Nat.zero_add]
    clear hp ho hz hs hn
    refine ⟨by rw [es]; omega, by rw [e]; omega, fun k hk => ?_⟩
    have hk2 : k = 0 ∨ k = 1 := by omega
    rcases hk2 with rfl | rfl <;> omega
  · have ew := congrArg List.length (show wires net = wiresTo net 3 by rw [wires, e])
    simp only [to_succ, e, in_succ, in_zero, Nat.reduceLT, Nat.reduceAdd, Nat.not_lt_zero, Nat.lt_irrefl, if_true, if_false, Nat.zero_add, Nat.add_zero, show (wiresTo net 0).length = 0 from rfl] at ew
    have p0 := hp 0 (by omega)
    have o0 := ho 0 (by omega)
    have z03 := hz 0 3 (by omega) (by omega)
    have z04 := hz 0 4 (by omega) (by omega)
    have z05 := hz 0 5 (by omega) (by omega)
    have p1 := hp 1 (by omega)
    have o1 := ho 1 (by omega)
    have s10 := hs 1 0 (by omega) (by omega)
    have n10 := hn 1 0
    have z13 := hz 1 3 (by omega) (by omega)
    have z14 := hz 1 4 (by omega) (by omega)
    have z15 := hz 1 5 (by omega) (by omega)
    have p2 := hp 2 (by omega)
    have o2 := ho 2 (by omega)
    have s20 := hs 2 0 (by omega) (by omega)
    have n20 := hn 2 0
    have s21 := hs 2 1 (by omega) (by omega)
    have n21 := hn 2 1
    have z23 := hz 2 3 (by omega) (by omega)
    have z24 := hz 2 4 (by omega) (by omega)
    have z25 := hz 2 5 (by omega) (by omega)
    have es : sizes net net.length = pc ((net.getD 0 0)).toNat + pc ((net.getD 1 0)).toNat + pc ((net.getD 2 0)).toNat := by rw [e]; simp only [sizes, Nat.zero_add]
    clear hp ho hz hs hn
    refine ⟨by rw [es]; omega, by rw [e]; omega, fun k hk => ?_⟩
    have hk2 : k = 0 ∨ k = 1 ∨ k = 2 := by omega
    rcases hk2 with rfl | rfl | rfl <;> omega
  · have ew := congrArg List.length (show wires net = wiresTo net 4 by rw [wires, e])
    simp only [to_succ, e, in_succ, in_zero, Nat.reduceLT, Nat.reduceAdd, Nat.not_lt_zero, Nat.lt_irrefl, if_true, if_false, Nat.zero_add, Nat.add_zero, show (wiresTo net 0).length = 0 from rfl] at ew
    have p0 := hp 0 (by omega)
    have o0 := ho 0 (by omega)
    have z04 := hz 0 4 (by omega) (by omega)
    have z05 := hz 0 5 (by omega) (by omega)
    have p1 := hp 1 (by omega)
    have o1 := ho 1 (by omega)
    have s10 := hs 1 0 (by omega) (by omega)
    have n10 := hn 1 0
    have z14 := hz 1 4 (by omega) (by omega)
    have z15 := hz 1 5 (by omega) (by omega)
    have p2 := hp 2 (by omega)
    have o2 := ho 2 (by omega)
    have s20 := hs 2 0 (by omega) (by omega)
    have n20 := hn 2 0
    have s21 := hs 2 1 (by omega) (by omega)
    have n21 := hn 2 1
    have z24 := hz 2 4 (by omega) (by omega)
    have z25 := hz 2 5 (by omega) (by omega)
    have p3 := hp 3 (by omega)
    have o3 := ho 3 (by omega)
    have s30 := hs 3 0 (by omega) (by omega)
    have n30 := hn 3 0
    have s31 := hs 3 1 (by omega) (by omega)
    have n31 := hn 3 1
    have s32 := hs 3 2 (by omega) (by omega)
    have n32 := hn 3 2
    have z34 := hz 3 4 (by omega) (by omega)
    have z35 := hz 3 5 (by omega) (by omega)
    have es : sizes net net.length = pc ((net.getD 0 0)).toNat + pc ((net.getD 1 0)).toNat + pc ((net.getD 2 0)).toNat + pc ((net.getD 3 0)).toNat := by rw [e]; simp only [sizes, Nat.zero_add]
    clear hp ho hz hs hn
    refine ⟨by rw [es]; omega, by rw [e]; omega, fun k hk => ?_⟩
    have hk2 : k = 0 ∨ k = 1 ∨ k = 2 ∨ k = 3 := by omega
    rcases hk2 with rfl | rfl | rfl | rfl <;> omega
  · have ew := congrArg List.length (show wires net = wiresTo net 5 by rw [wires, e])
    simp only [to_succ, e, in_succ, in_zero, Nat.reduceLT, Nat.reduceAdd, Nat.not_lt_zero, Nat.lt_irrefl, if_true, if_false, Nat.zero_add, Nat.add_zero, show (wiresTo net 0).length = 0 from rfl] at ew
    have p0 := hp 0 (by omega)
    have o0 := ho 0 (by omega)
    have z05 := hz 0 5 (by omega) (by omega)
    have p1 := hp 1 (by omega)
    have o1 := ho 1 (by omega)
    have s10 := hs 1 0 (by omega) (by omega)
    have n10 := hn 1 0
    have z15 := hz 1 5 (by omega) (by omega)
    have p2 := hp 2 (by omega)
    have o2 := ho 2 (by omega)
    have s20 := hs 2 0 (by omega) (by omega)
    have n20 := hn 2 0
    have s21 := hs 2 1 (by omega) (by omega)
    have n21 := hn 2 1
    have z25 := hz 2 5 (by omega) (by omega)
    have p3 := hp 3 (by omega)
    have o3 := ho 3 (by omega)
    have s30 := hs 3 0 (by omega) (by omega)
    have n30 := hn 3 0
    have s31 := hs 3 1 (by omega) (by omega)
    have n31 := hn 3 1
    have s32 := hs 3 2 (by omega) (by omega)
    have n32 := hn 3 2
    have z35 := hz 3 5 (by omega) (by omega)
    have p4 := hp 4 (by omega)
    have o4 := ho 4 (by omega)
    have s40 := hs 4 0 (by omega) (by omega)
    have n40 := hn 4 0
    have s41 := hs 4 1 (by omega) (by omega)
    have n41 := hn 4 1
    have s42 := hs 4 2 (by omega) (by omega)
    have n42 := hn 4 2
    have s43 := hs 4 3 (by omega) (by omega)
    have n43 := hn 4 3
    have z45 := hz 4 5 (by omega) (by omega)
    have es : sizes net net.length = pc ((net.getD 0 0)).toNat + pc ((net.getD 1 0)).toNat + pc ((net.getD 2 0)).toNat + pc ((net.getD 3 0)).toNat + pc ((net.getD 4 0)).toNat := by rw [e]; simp only [sizes, Nat.zero_add]
    clear hp ho hz hs hn
    refine ⟨by rw [es]; omega, by rw [e]; omega, fun k hk => ?_⟩
    have hk2 : k = 0 ∨ k = 1 ∨ k = 2 ∨ k = 3 ∨ k = 4 := by omega
    rcases hk2 with rfl | rfl | rfl | rfl | rfl <;> omega
  · have ew := congrArg List.length (show wires net = wiresTo net 6 by rw [wires, e])
    simp only [to_succ, e, in_succ, in_zero, Nat.reduceLT, Nat.reduceAdd, Nat.not_lt_zero, Nat.lt_irrefl, if_true, if_false, Nat.zero_add, Nat.add_zero, show (wiresTo net 0).length = 0 from rfl] at ew
    have p0 := hp 0 (by omega)
    have o0 := ho 0 (by omega)
    have p1 := hp 1 (by omega)
    have o1 := ho 1 (by omega)
    have s10 := hs 1 0 (by omega) (by omega)
    have n10 := hn 1 0
    have p2 := hp 2 (by omega)
    have o2 := ho 2 (by omega)
    have s20 := hs 2 0 (by omega) (by omega)
    have n20 := hn 2 0
    have s21 := hs 2 1 (by omega) (by omega)
    have n21 := hn 2 1
    have p3 := hp 3 (by omega)
    have o3 := ho 3 (by omega)
    have s30 := hs 3 0 (by omega) (by omega)
    have n30 := hn 3 0
    have s31 := hs 3 1 (by omega) (by omega)
    have n31 := hn 3 1
    have s32 := hs 3 2 (by omega) (by omega)
    have n32 := hn 3 2
    have p4 := hp 4 (by omega)
    have o4 := ho 4 (by omega)
    have s40 := hs 4 0 (by omega) (by omega)
    have n40 := hn 4 0
    have s41 := hs 4 1 (by omega) (by omega)
    have n41 := hn 4 1
    have s42 := hs 4 2 (by omega) (by omega)
    have n42 := hn 4 2
    have s43 := hs 4 3 (by omega) (by omega)
    have n43 := hn 4 3
    have p5 := hp 5 (by omega)
    have o5 := ho 5 (by omega)
    have s50 := hs 5 0 (by omega) (by omega)
    have n50 := hn 5 0
    have s51 := hs 5 1 (by omega) (by omega)
    have n51 := hn 5 1
    have s52 := hs 5 2 (by omega) (by omega)
    have n52 := hn 5 2
    have s53 := hs 5 3 (by omega) (by omega)
    have n53 := hn 5 3
    have s54 := hs 5 4 (by omega) (by omega)
    have n54 := hn 5 4
    have es : sizes net net.length = pc ((net.getD 0 0)).toNat + pc ((net.getD 1 0)).toNat + pc ((net.getD 2 0)).toNat + pc ((net.getD 3 0)).toNat + pc ((net.getD 4 0)).toNat + pc ((net.getD 5 0)).toNat := by rw [e]; simp only [sizes, Nat.zero_add]
    clear hp ho hz hs hn
    refine ⟨by rw [es]; omega, by rw [e]; omega, fun k hk => ?_⟩
    have hk2 : k = 0 ∨ k = 1 ∨ k = 2 ∨ k = 3 ∨ k = 4 ∨ k = 5 := by omega
    rcases hk2 with rfl | rfl | rfl | rfl | rfl | rfl <;> omega

theorem most_le (net : List Int) (c : Int) (hc : 0 ≤ c) : ∀ k, (∀ i, i < k → (pc ((net.getD i 0)).toNat : Int) ≤ c) → most net k ≤ c
  | 0, _ => hc
  | k + 1, h => by
    have h1 := most_le net c hc k fun i hi => h i (by omega)
    have h2 := h k (by omega)
    unfold most
    omega
theorem le_most (net : List Int) : ∀ k i, i < k → (pc ((net.getD i 0)).toNat : Int) ≤ most net k
  | 0, _, h => absurd h (Nat.not_lt_zero _)
  | k + 1, i, h => by
    unfold most
    rcases Nat.lt_succ_iff_lt_or_eq.1 h with h | rfl
    · have := le_most net k i h; omega
    · omega
theorem most_succ (net : List Int) (k : Nat) : most net (k + 1) = max (most net k) (pc ((net.getD k 0)).toNat) := rfl
theorem sizes_most (net : List Int) : ∀ k, (sizes net k : Int) ≤ most net k * k ∧ (sizes net k = 0 → most net k = 0)
  | 0 => ⟨by simp [sizes], fun _ => rfl⟩
  | k + 1 => by
    have h1 := sizes_most net k
    have h2 := most_pos net k
    have h3 : most net k * k ≤ most net (k + 1) * k := Int.mul_le_mul_of_nonneg_right (by rw [most_succ]; omega) (by omega)
    have h4 : (pc ((net.getD k 0)).toNat : Int) ≤ most net (k + 1) := le_most net (k + 1) k (by omega)
    refine ⟨?_, fun h0 => ?_⟩
    · have e : most net (k + 1) * ((k + 1 : Nat) : Int) = most net (k + 1) * k + most net (k + 1) := by rw [Int.natCast_add, Int.mul_add]; simp
      rw [e]
      unfold sizes
      omega
    · unfold sizes at h0
      have := h1.2 (by omega)
      rw [most_succ]
      omega

end Go.Abs
