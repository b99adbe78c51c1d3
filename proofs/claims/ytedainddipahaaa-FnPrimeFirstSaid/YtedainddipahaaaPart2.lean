/- Nets told by one number: what the places near a set are, and how the machine tells sets. Own work; no condition. -/
import Derived.Test.YtedainddipahaaaParts0
import Derived.Test.YtedainddipahaaaWire2
import Derived.Test.YtedainddipahaaaParts1
import Derived.Test.YtedainddipahaaaParts2
import Derived.Test.YtedainddipahaaaParts3
import Derived.Test.YtedainddipahaaaParts4
set_option maxRecDepth 100000
set_option linter.unusedSimpArgs false
set_option linter.unusedVariables false
namespace Go.Abs
open Go.Proofs
attribute [local irreducible] awp awpOps awpKeep KeepK awpKeepF KeepF aloop ALoop ACalls ACallq AQuiet retPost retPostA AExit.thn AExit.blk aApp aSt aStA
open Parts

theorem split_land {p u : Nat} (q v : Nat) (hp : p < 256) (hu : u < 256) : Nat.land (p + 256 * q) (u + 256 * v) = Nat.land p u + 256 * Nat.land q v := by
  have e : Nat.land p u < 2 ^ 8 := Nat.lt_of_le_of_lt (Nat.and_le_left (n := p) (m := u)) hp
  apply Nat.eq_of_testBit_eq
  intro i
  show ((p + 256 * q) &&& (u + 256 * v)).testBit i = _
  rw [Nat.testBit_and, Nat.add_comm p, Nat.add_comm u, Nat.add_comm (Nat.land p u)]
  rw [show 256 = 2 ^ 8 from rfl, Nat.testBit_two_pow_mul_add q hp, Nat.testBit_two_pow_mul_add v hu, Nat.testBit_two_pow_mul_add _ e]
  split
  · exact (Nat.testBit_and p u i).symm
  · exact (Nat.testBit_and q v _).symm
theorem split_lor {p u : Nat} (q v : Nat) (hp : p < 256) (hu : u < 256) : Nat.lor (p + 256 * q) (u + 256 * v) = Nat.lor p u + 256 * Nat.lor q v := by
  have e : Nat.lor p u < 2 ^ 8 := Nat.or_lt_two_pow hp hu
  apply Nat.eq_of_testBit_eq
  intro i
  show ((p + 256 * q) ||| (u + 256 * v)).testBit i = _
  rw [Nat.testBit_or, Nat.add_comm p, Nat.add_comm u, Nat.add_comm (Nat.lor p u)]
  rw [show 256 = 2 ^ 8 from rfl, Nat.testBit_two_pow_mul_add q hp, Nat.testBit_two_pow_mul_add v hu, Nat.testBit_two_pow_mul_add _ e]
  split
  · exact (Nat.testBit_or p u i).symm
  · exact (Nat.testBit_or q v _).symm

/-- The neighbours of a place, as a set. -/
def nrow (net : List Int) (k : Nat) : Nat := ((net.getD k 0)).toNat
/-- A net, told by one number. -/
def pk (net : List Int) : Nat := nrow net 0 + 256 * (nrow net 1 + 256 * (nrow net 2 + 256 * (nrow net 3 + 256 * (nrow net 4 + 256 * nrow net 5))))
/-- The places with a neighbour in s, of the first k places. -/
def nearTo (net : List Int) (s : Nat) : Nat → Nat
  | 0 => 0
  | k + 1 => if s.testBit k = true then nearTo net s k ||| nrow net k else nearTo net s k

theorem nrow_lt {net : List Int} (h : NetOk net) (k : Nat) : nrow net k < 64 := by
  unfold nrow
  by_cases hk : k < net.length
  · have := h.small hk; omega
  · rw [List.getD_eq_getElem?_getD, List.getElem?_eq_none (by omega)]; decide
theorem nrow_out {net : List Int} {k : Nat} (hk : net.length ≤ k) : nrow net k = 0 := by
  unfold nrow
  rw [List.getD_eq_getElem?_getD, List.getElem?_eq_none hk]; rfl
theorem nearTo_lt {net : List Int} (h : NetOk net) (s : Nat) : ∀ k, nearTo net s k < 64
  | 0 => by show 0 < 64; decide
  | k + 1 => by
    have h1 := nearTo_lt h s k
    have h2 := nrow_lt h k
    unfold nearTo
    split
    · exact Nat.or_lt_two_pow (n := 6) h1 h2
    · exact h1
theorem nearTo_out {net : List Int} (s : Nat) {k : Nat} : ∀ {j : Nat}, net.length ≤ k → k ≤ j → nearTo net s j = nearTo net s k
  | 0, _, h => by rw [Nat.le_zero.1 h]
  | j + 1, hk, h => by
    by_cases e : k = j + 1
    · rw [e]
    · rw [show nearTo net s (j + 1) = if s.testBit j = true then nearTo net s j ||| nrow net j else nearTo net s j from rfl, nearTo_out s hk (by omega : k ≤ j), nrow_out (by omega), Nat.or_zero, ite_self]

theorem spread_eq : ∀ s, s < 64 → Nat.mul (spread s) 63 = 63 * (s.testBit 0).toNat + 256 * (63 * (s.testBit 1).toNat + 256 * (63 * (s.testBit 2).toNat + 256 * (63 * (s.testBit 3).toNat + 256 * (63 * (s.testBit 4).toNat + 256 * (63 * (s.testBit 5).toNat))))) := by decide +kernel
theorem land_b {a : Nat} (h : a < 64) (b : Bool) : Nat.land a (63 * b.toNat) = if b = true then a else 0 := by
  cases b
  · exact Nat.and_zero a
  · show a &&& (2 ^ 6 - 1) = _
    rw [Nat.and_two_pow_sub_one_eq_mod, Nat.mod_eq_of_lt h]; rfl
theorem b63 (b : Bool) : 63 * b.toNat < 256 := by cases b <;> decide

theorem near_pk {net : List Int} (h : NetOk net) {s : Nat} (hs : s < 64) : near (pk net) s = nearTo net s net.length := by
  rw [← nearTo_out s (Nat.le_refl _) h.six]
  have a := nrow_lt h
  unfold near
  rw [frc_eq, spread_eq s hs, pk]
  rw [split_land _ _ (by have := a 0; omega) (b63 _), split_land _ _ (by have := a 1; omega) (b63 _), split_land _ _ (by have := a 2; omega) (b63 _), split_land _ _ (by have := a 3; omega) (b63 _), split_land _ _ (by have := a 4; omega) (b63 _)]
  rw [land_b (a 0), land_b (a 1), land_b (a 2), land_b (a 3), land_b (a 4), land_b (a 5)]
  have hc : ∀ (b : Bool) (k : Nat), (if b = true then nrow net k else 0) < 64 := fun b k => by split; exact a k; decide
  have c0 := hc (s.testBit 0) 0
  have c1 := hc (s.testBit 1) 1
  have c2 := hc (s.testBit 2) 2
  have c3 := hc (s.testBit 3) 3
  have c4 := hc (s.testBit 4) 4
  have c5 := hc (s.testBit 5) 5
  have hstep : ∀ k, nearTo net s (k + 1) = nearTo net s k ||| (if s.testBit k = true then nrow net k else 0) := fun k => by
    rw [nearTo]
    split
    · rfl
    · rw [Nat.or_zero]
  rw [hstep 5, hstep 4, hstep 3, hstep 2, hstep 1, hstep 0, nearTo]
  generalize (if s.testBit 0 = true then nrow net 0 else 0) = d0 at *
  generalize (if s.testBit 1 = true then nrow net 1 else 0) = d1 at *
  generalize (if s.testBit 2 = true then nrow net 2 else 0) = d2 at *
  generalize (if s.testBit 3 = true then nrow net 3 else 0) = d3 at *
  generalize (if s.testBit 4 = true then nrow net 4 else 0) = d4 at *
  generalize (if s.testBit 5 = true then nrow net 5 else 0) = d5 at *
  have e1 : Nat.shiftRight (d0 + 256 * (d1 + 256 * (d2 + 256 * (d3 + 256 * (d4 + 256 * d5))))) 24 = d3 + 256 * (d4 + 256 * (d5 + 256 * 0)) := by
    show (_ >>> 24) = _
    rw [Nat.shiftRight_eq_div_pow]; omega
  rw [e1, split_lor _ _ (by omega) (by omega), split_lor _ _ (by omega) (by omega), split_lor _ _ (by omega) (by omega)]
  have o1 : Nat.lor d0 d3 < 64 := Nat.or_lt_two_pow (n := 6) c0 c3
  have o2 : Nat.lor d1 d4 < 64 := Nat.or_lt_two_pow (n := 6) c1 c4
  have o3 : Nat.lor d2 d5 < 64 := Nat.or_lt_two_pow (n := 6) c2 c5
  unfold pick1
  generalize hq : Nat.lor (d3 + 256 * (d4 + 256 * d5)) 0 = q
  have e2 : Nat.shiftRight (Nat.lor d0 d3 + 256 * (Nat.lor d1 d4 + 256 * (Nat.lor d2 d5 + 256 * q))) 8 = Nat.lor d1 d4 + 256 * (Nat.lor d2 d5 + 256 * q) := by
    show (_ >>> 8) = _
    rw [Nat.shiftRight_eq_div_pow]; omega
  have e3 : Nat.shiftRight (Nat.lor d0 d3 + 256 * (Nat.lor d1 d4 + 256 * (Nat.lor d2 d5 + 256 * q))) 16 = Nat.lor d2 d5 + 256 * q := by
    show (_ >>> 16) = _
    rw [Nat.shiftRight_eq_div_pow]; omega
  rw [e2, e3, split_lor _ _ (by omega) (by omega), split_lor _ _ (by omega) (by exact Nat.lt_trans (Nat.or_lt_two_pow (n := 6) o2 o3) (by decide))]
  have o4 : Nat.lor (Nat.lor d0 d3) (Nat.lor (Nat.lor d1 d4) (Nat.lor d2 d5)) < 2 ^ 6 := Nat.or_lt_two_pow (n := 6) o1 (Nat.or_lt_two_pow (n := 6) o2 o3)
  have e5 : ∀ r, Nat.land (Nat.lor (Nat.lor d0 d3) (Nat.lor (Nat.lor d1 d4) (Nat.lor d2 d5)) + 256 * r) 63 = Nat.lor (Nat.lor d0 d3) (Nat.lor (Nat.lor d1 d4) (Nat.lor d2 d5)) := fun r => by
    show _ &&& (2 ^ 6 - 1) = _
    rw [Nat.and_two_pow_sub_one_eq_mod]
    omega
  rw [e5]
  show ((d0 ||| d3) ||| ((d1 ||| d4) ||| (d2 ||| d5))) = ((((((0 ||| d0) ||| d1) ||| d2) ||| d3) ||| d4) ||| d5)
  rw [Nat.zero_or]
  ac_rfl

theorem less_int : ∀ x, x < 64 → ∀ y, y < 64 → bandNotInt .i64 ((x : Nat) : Int) ((y : Nat) : Int) = ((less x y : Nat) : Int) := by decide +kernel
theorem least_int : ∀ x, x < 64 → bandInt .i64 ((x : Nat) : Int) (0 - ((x : Nat) : Int)) = ((least x : Nat) : Int) ∧ least x < 64 := by decide +kernel
theorem less_lt {x : Nat} (y : Nat) (h : x < 64) : less x y < 64 := Nat.lt_of_le_of_lt (Nat.and_le_left (n := x)) h
theorem lor_lt {x y : Nat} (h : x < 64) (h' : y < 64) : Nat.lor x y < 64 := Nat.or_lt_two_pow (n := 6) h h'

end Go.Abs

/- Every net has been gone through. Own work; no condition. -/
set_option maxRecDepth 100000
set_option linter.unusedSimpArgs false
set_option linter.unusedVariables false
namespace Go.Abs
open Go.Proofs
attribute [local irreducible] awp awpOps awpKeep KeepK awpKeepF KeepF aloop ALoop ACalls ACallq AQuiet retPost retPostA AExit.thn AExit.blk aApp aSt aStA
open Parts

theorem bif_and {a b : Bool} (h : (bif a then b else false) = true) : a = true ∧ b = true := by cases a <;> simp_all
theorem upto_all {P : Nat → Bool} : ∀ {n : Nat}, upto P n = true → ∀ k, k < n → P k = true
  | 0, _, k, hk => absurd hk (Nat.not_lt_zero _)
  | n + 1, h, k, hk => by
    have h' : (bif P n then upto P n else false) = true := h
    obtain ⟨h1, h2⟩ := bif_and h'
    rcases Nat.lt_succ_iff_lt_or_eq.1 hk with h | rfl
    · exact upto_all h2 k h
    · exact h1

def nsum : Nat → (Nat → Nat) → Nat
  | 0, _ => 0
  | n + 1, f => nsum n f + f n
/-- The neighbours of place j below k, as a set; the first k places, told by one number; their wires. -/
def srow (net : List Int) (k j : Nat) : Nat := nsum k fun i => nb net j i * 2 ^ i
def pkTo (net : List Int) (k : Nat) : Nat := nsum k fun j => srow net k j * 256 ^ j
def wTo (net : List Int) (k : Nat) : Nat := nsum k fun j => nsum j fun i => nb net j i

theorem spread_bits : ∀ b0, b0 < 2 → ∀ b1, b1 < 2 → ∀ b2, b2 < 2 → ∀ b3, b3 < 2 → ∀ b4, b4 < 2 → spread (b0 + 2 * b1 + 4 * b2 + 8 * b3 + 16 * b4) = b0 + 256 * b1 + 65536 * b2 + 16777216 * b3 + 4294967296 * b4 ∧ pop (b0 + 2 * b1 + 4 * b2 + 8 * b3 + 16 * b4) = b0 + b1 + b2 + b3 + b4 := by decide +kernel

theorem nb_lt (net : List Int) (k j : Nat) : nb net k j < 2 := by have := nb_one net k j; omega

theorem srow_bits (net : List Int) (k : Nat) (hk : k < 6) : srow net k k = (if 0 < k then nb net k 0 else 0) + 2 * (if 1 < k then nb net k 1 else 0) + 4 * (if 2 < k then nb net k 2 else 0) + 8 * (if 3 < k then nb net k 3 else 0) + 16 * (if 4 < k then nb net k 4 else 0) := by
  have hc : k = 0 ∨ k = 1 ∨ k = 2 ∨ k = 3 ∨ k = 4 ∨ k = 5 := by omega
  rcases hc with rfl | rfl | rfl | rfl | rfl | rfl <;> simp only [srow, nsum, Nat.reduceLT, if_true, if_false, Nat.lt_irrefl] <;> omega

theorem srow_lt (net : List Int) (k : Nat) (hk : k < 6) : srow net k k < 2 ^ k := by
  have h := nb_lt net k
  have h0 := h 0
  have h1 := h 1
  have h2 := h 2
  have h3 := h 3
  have h4 := h 4
  rw [srow_bits net k hk]
  have hc : k = 0 ∨ k = 1 ∨ k = 2 ∨ k = 3 ∨ k = 4 ∨ k = 5 := by omega
  rcases hc with rfl | rfl | rfl | rfl | rfl | rfl <;> simp only [Nat.reduceLT, if_true, if_false, Nat.lt_irrefl, Nat.reducePow] <;> omega

theorem ite_lt {p : Prop} [Decidable p] {x : Nat} (h : x < 2) : (if p then x else 0) < 2 := by split <;> omega

theorem ext_step {net : List Int} (h : NetOk net) {k : Nat} (hk : k < net.length) : ext k (pkTo net k) (srow net k k) = pkTo net (k + 1) ∧ wTo net k + pop (srow net k k) = wTo net (k + 1) := by
  have h6 := h.six
  have hn := nb_lt net k
  have hs := fun j (hj : j < k) => nb_sym h (show j < net.length by omega) hk
  have ho := nb_own h hk
  have hb := spread_bits _ (ite_lt (p := 0 < k) (hn 0)) _ (ite_lt (p := 1 < k) (hn 1)) _ (ite_lt (p := 2 < k) (hn 2)) _ (ite_lt (p := 3 < k) (hn 3)) _ (ite_lt (p := 4 < k) (hn 4))
  rw [← srow_bits net k (by omega)] at hb
  show pkTo net k + (spread (srow net k k) * 2 ^ k + srow net k k * 256 ^ k) = _ ∧ _
  rw [hb.1, hb.2]
  clear hb
  have hc : k = 0 ∨ k = 1 ∨ k = 2 ∨ k = 3 ∨ k = 4 ∨ k = 5 := by omega
  rcases hc with rfl | rfl | rfl | rfl | rfl | rfl
  · simp only [pkTo, wTo, srow, nsum, Nat.reduceLT, if_true, if_false, Nat.lt_irrefl]; exact ⟨by omega, trivial⟩
  · have s0 := hs 0 (by omega)
    simp only [pkTo, wTo, srow, nsum, Nat.reduceLT, if_true, if_false, Nat.lt_irrefl]; omega
  · have s0 := hs 0 (by omega)
    have s1 := hs 1 (by omega)
    simp only [pkTo, wTo, srow, nsum, Nat.reduceLT, if_true, if_false, Nat.lt_irrefl]; omega
  · have s0 := hs 0 (by omega)
    have s1 := hs 1 (by omega)
    have s2 := hs 2 (by omega)
    simp only [pkTo, wTo, srow, nsum, Nat.reduceLT, if_true, if_false, Nat.lt_irrefl]; omega
  · have s0 := hs 0 (by omega)
    have s1 := hs 1 (by omega)
    have s2 := hs 2 (by omega)
    have s3 := hs 3 (by omega)
    simp only [pkTo, wTo, srow, nsum, Nat.reduceLT, if_true, if_false, Nat.lt_irrefl]; omega
  · have s0 := hs 0 (by omega)
    have s1 := hs 1 (by omega)
    have s2 := hs 2 (by omega)
    have s3 := hs 3 (by omega)
    have s4 := hs 4 (by omega)
    simp only [pkTo, wTo, srow, nsum, Nat.reduceLT, if_true, if_false, Nat.lt_irrefl]; omega

theorem chk_down {net : List Int} (h : NetOk net) : ∀ (d k : Nat), k + d = net.length → chk d k (pkTo net k) (wTo net k) = true → fact net.length (pkTo net net.length) (wTo net net.length) = true
  | 0, k, e, hc => by rw [Nat.add_zero] at e; rw [← e]; exact hc
  | d + 1, k, e, hc => by
    have h6 := h.six
    have hu : upto (fun s => frc (ext k (pkTo net k) s) fun N1 => frc (Nat.add (wTo net k) (pop s)) fun W1 => chk d (Nat.succ k) N1 W1) (Nat.pow 2 k) = true := hc
    have h1 := upto_all hu (srow net k k) (srow_lt net k (by omega))
    simp only [frc_eq] at h1
    obtain ⟨e1, e2⟩ := ext_step h (k := k) (by omega)
    have e3 : Nat.add (wTo net k) (pop (srow net k k)) = wTo net (k + 1) := e2
    rw [e1, e3] at h1
    exact chk_down h d (k + 1) (by omega) h1

theorem eighths (i : Nat) (hi : i < 8) : eighth i = true := by
  have hc : i = 0 ∨ i = 1 ∨ i = 2 ∨ i = 3 ∨ i = 4 ∨ i = 5 ∨ i = 6 ∨ i = 7 := by omega
  rcases hc with rfl | rfl | rfl | rfl | rfl | rfl | rfl | rfl
  · exact eighth0
  · exact eighth1
  · exact eighth2
  · exact eighth3
  · exact eighth4
  · exact eighth5
  · exact eighth6
  · exact eighth7

theorem nrow_bits : ∀ x, x < 64 → x = (x.testBit 0).toNat + 2 * (x.testBit 1).toNat + 4 * (x.testBit 2).toNat + 8 * (x.testBit 3).toNat + 16 * (x.testBit 4).toNat + 32 * (x.testBit 5).toNat := by decide +kernel
theorem nrow_nb {net : List Int} (h : NetOk net) (k : Nat) : nrow net k = nb net k 0 + 2 * nb net k 1 + 4 * nb net k 2 + 8 * nb net k 3 + 16 * nb net k 4 + 32 * nb net k 5 := by
  have := nrow_bits _ (nrow_lt h k)
  unfold nb bit
  exact this

theorem pkTo_all {net : List Int} (h : NetOk net) : pkTo net net.length = pk net := by
  have h1 := h.pos
  have h6 := h.six
  have hz := fun k j (hk : k < net.length) (hj : net.length ≤ j) => nb_out h hk hj
  have hr := nrow_nb h
  have ho := fun k (hk : net.length ≤ k) => nrow_out hk
  have hc : net.length = 1 ∨ net.length = 2 ∨ net.length = 3 ∨ net.length = 4 ∨ net.length = 5 ∨ net.length = 6 := by omega
  have key : ∀ n, n = net.length → ∀ k, k < 6 → nrow net k = if k < n then srow net n k else 0 := fun n hn k hk => by
    by_cases hkn : k < n
    · rw [if_pos hkn, hr k]
      have z := fun j (hj : n ≤ j) => hz k j (by omega) (by omega)
      rcases hc with e | e | e | e | e | e <;> rw [e] at hn <;> subst hn <;> simp only [srow, nsum]
      · have := z 1 (by omega); have := z 2 (by omega); have := z 3 (by omega); have := z 4 (by omega); have := z 5 (by omega); omega
      · have := z 2 (by omega); have := z 3 (by omega); have := z 4 (by omega); have := z 5 (by omega); omega
      · have := z 3 (by omega); have := z 4 (by omega); have := z 5 (by omega); omega
      · have := z 4 (by omega); have := z 5 (by omega); omega
      · have := z 5 (by omega); omega
      · omega
    · rw [if_neg hkn, ho k (by omega)]
  unfold pk pkTo
  rw [key _ rfl 0 (by omega), key _ rfl 1 (by omega), key _ rfl 2 (by omega), key _ rfl 3 (by omega), key _ rfl 4 (by omega), key _ rfl 5 (by omega)]
  clear key hr ho hz
  rcases hc with e | e | e | e | e | e <;> rw [e] <;> simp only [nsum, Nat.reduceLT, if_true, if_false, Nat.lt_irrefl] <;> omega

theorem wTo_all {net : List Int} (h : NetOk net) : wTo net net.length = (wires net).length := by
  have h1 := h.pos
  have h6 := h.six
  have hs := fun k j (hk : k < net.length) (hj : j < net.length) => nb_sym h hk hj
  have hc : net.length = 1 ∨ net.length = 2 ∨ net.length = 3 ∨ net.length = 4 ∨ net.length = 5 ∨ net.length = 6 := by omega
  have hl : (wires net).length = nsum net.length fun k => nsum net.length fun j => if k < j then nb net k j else 0 := by
    have key1 : ∀ k j, (wiresIn net k j).length = nsum j fun j => if k < j then nb net k j else 0 := fun k j => by
      induction j with
      | zero => rfl
      | succ j ih => rw [in_succ, ih]; rfl
    have key2 : ∀ k, (wiresTo net k).length = nsum k fun k => nsum net.length fun j => if k < j then nb net k j else 0 := fun k => by
      induction k with
      | zero => rfl
      | succ k ih => rw [to_succ, ih, key1]; rfl
    exact key2 _
  rw [hl]
  unfold wTo
  rcases hc with e | e | e | e | e | e <;> rw [e] at hs ⊢ <;> simp only [nsum, Nat.reduceLT, if_true, if_false, Nat.lt_irrefl]
  all_goals first
    | omega
    | (rw [hs 0 1 (by omega) (by omega)]; omega)
    | (rw [hs 0 1 (by omega) (by omega), hs 0 2 (by omega) (by omega), hs 1 2 (by omega) (by omega)]; omega)
    | (rw [hs 0 1 (by omega) (by omega), hs 0 2 (by omega) (by omega), hs 1 2 (by omega) (by omega), hs 0 3 (by omega) (by omega), hs 1 3 (by omega) (by omega), hs 2 3 (by omega) (by omega)]; omega)
    | (rw [hs 0 1 (by omega) (by omega), hs 0 2 (by omega) (by omega), hs 1 2 (by omega) (by omega), hs 0 3 (by omega) (by omega), hs 1 3 (by omega) (by omega), hs 2 3 (by omega) (by omega), hs 0 4 (by omega) (by omega), hs 1 4 (by omega) (by omega), hs 2 4 (by omega) (by omega), hs 3 4 (by omega) (by omega)]; omega)
    | (rw [hs 0 1 (by omega) (by omega), hs 0 2 (by omega) (by omega), hs 1 2 (by omega) (by omega), hs 0 3 (by omega) (by omega), hs 1 3 (by omega) (by omega), hs 2 3 (by omega) (by omega), hs 0 4 (by omega) (by omega), hs 1 4 (by omega) (by omega), hs 2 4 (by omega) (by omega), hs 3 4 (by omega) (by omega), hs 0 5 (by omega) (by omega), hs 1 5 (by omega) (by omega), hs 2 5 (by omega) (by omega), hs 3 5 (by omega) (by omega), hs 4 5 (by omega) (by omega)]; omega)

theorem all_fact {net : List Int} (h : NetOk net) : fact net.length (pk net) (wires net).length = true := by
  rw [← pkTo_all h, ← wTo_all h]
  have h1 := h.pos
  have h6 := h.six
  by_cases e6 : net.length = 6
  · have he := eighths (srow net 3 3) (srow_lt net 3 (by omega))
    unfold eighth at he
    have u1 := upto_all he (srow net 1 1) (srow_lt net 1 (by omega))
    have u2 := upto_all u1 (srow net 2 2) (srow_lt net 2 (by omega))
    simp only [frc_eq] at u2
    obtain ⟨a0, b0⟩ := ext_step h (k := 0) (by omega)
    obtain ⟨a1, b1⟩ := ext_step h (k := 1) (by omega)
    obtain ⟨a2, b2⟩ := ext_step h (k := 2) (by omega)
    obtain ⟨a3, b3⟩ := ext_step h (k := 3) (by omega)
    have z0 : pkTo net 1 = 0 := by rw [← a0]; show ext 0 0 0 = 0; decide +kernel
    have w0 : wTo net 1 = 0 := by rw [← b0]; show 0 + pop 0 = 0; decide +kernel
    rw [z0] at a1
    have e : Nat.add (Nat.add (pop (srow net 1 1)) (pop (srow net 2 2))) (pop (srow net 3 3)) = wTo net 4 := by
      show pop (srow net 1 1) + pop (srow net 2 2) + pop (srow net 3 3) = _
      rw [w0] at b1
      rw [← b3, ← b2, ← b1]
      omega
    rw [a1, a2, a3, e] at u2
    exact chk_down h 2 4 (by omega) u2
  · have hc : net.length = 1 ∨ net.length = 2 ∨ net.length = 3 ∨ net.length = 4 ∨ net.length = 5 := by omega
    have : chk net.length 0 0 0 = true := by
      rcases hc with e | e | e | e | e <;> rw [e]
      · exact nets1
      · exact nets2
      · exact nets3
      · exact nets4
      · exact nets5
    exact chk_down h net.length 0 (by omega) this

theorem fact_use {n N W : Nat} (h : fact n N W = true) : pm N 6 (2 ^ n - 1) 0 = cnt N n ∧ 1 ≤ pm N 6 (2 ^ n - 1) 0 ∧ pm N 6 (2 ^ n - 1) 0 ≤ n ∧ n ≤ pm N 6 (2 ^ n - 1) 0 + W ∧ (pm N 6 (2 ^ n - 1) 0 = n ↔ W = 0) ∧ sdi N 6 (2 ^ n - 1) 0 = sdsEnd N n ∧
    (sdi N 6 (2 ^ n - 1) 0 = 777 ∨ (sdi N 6 (2 ^ n - 1) 0 % 2 = 1 ∧ sdi N 6 (2 ^ n - 1) 0 ≤ 2 ^ n - 1 ∧ proper N (sdi N 6 (2 ^ n - 1) 0) = true ∧ proper N (less (2 ^ n - 1) (sdi N 6 (2 ^ n - 1) 0)) = true)) ∧
    (pm N 6 (2 ^ n - 1) 0 = 1 → W + 1 = n → sdi N 6 (2 ^ n - 1) 0 ≠ 777 ∧ cuts N n = true) := by
  unfold fact at h
  simp only [frc_eq] at h
  have e : Nat.sub (Nat.pow 2 n) 1 = 2 ^ n - 1 := rfl
  rw [e] at h
  generalize pm N 6 (2 ^ n - 1) 0 = p at h ⊢
  generalize sdi N 6 (2 ^ n - 1) 0 = d at h ⊢
  obtain ⟨h1, h⟩ := bif_and h
  obtain ⟨h2, h⟩ := bif_and h
  obtain ⟨h3, h⟩ := bif_and h
  obtain ⟨h4, h⟩ := bif_and h
  obtain ⟨h5, h⟩ := bif_and h
  obtain ⟨h6, h⟩ := bif_and h
  obtain ⟨h7, h8⟩ := bif_and h
  have g1 := Nat.eq_of_beq_eq_true h1
  have g2 := Nat.le_of_ble_eq_true h2
  have g3 := Nat.le_of_ble_eq_true h3
  have g4 := Nat.le_of_ble_eq_true h4
  have g6 := Nat.eq_of_beq_eq_true h6
  refine ⟨g1, g2, g3, g4, ?_, g6, ?_, fun hp hW => ?_⟩
  · cases hb : Nat.beq p n with
    | true =>
      rw [hb] at h5
      exact ⟨fun _ => Nat.eq_of_beq_eq_true h5, fun _ => Nat.eq_of_beq_eq_true hb⟩
    | false =>
      rw [hb] at h5
      have := Nat.le_of_ble_eq_true h5
      refine ⟨fun e => ?_, fun e => by omega⟩
      rw [e] at hb
      simp at hb
  · cases hb : Nat.beq d 777 with
    | true => exact .inl (Nat.eq_of_beq_eq_true hb)
    | false =>
      rw [hb] at h7
      obtain ⟨k1, h7⟩ := bif_and h7
      obtain ⟨k2, h7⟩ := bif_and h7
      obtain ⟨k3, k4⟩ := bif_and h7
      have k1' := Nat.eq_of_beq_eq_true k1
      have k1'' : d % 2 = 1 := by rw [← Nat.and_one_is_mod]; exact k1'
      exact .inr ⟨k1'', Nat.le_of_ble_eq_true k2, k3, k4⟩
  · subst hp
    rw [show Nat.beq 1 1 = true from rfl, show Nat.beq (Nat.succ W) n = true by rw [← hW]; simp] at h8
    cases hb : Nat.beq d 777 with
    | true => rw [hb] at h8; cases h8
    | false =>
      rw [hb] at h8
      exact ⟨fun c => by rw [c] at hb; simp at hb, h8⟩

end Go.Abs

/- What holds of every net because it has been tried: the way there. Own work; no condition. -/
set_option maxRecDepth 100000
set_option linter.unusedSimpArgs false
set_option linter.unusedVariables false
namespace Go.Abs
open Go.Proofs
attribute [local irreducible] awp awpOps awpKeep KeepK awpKeepF KeepF aloop ALoop ACalls ACallq AQuiet retPost retPostA AExit.thn AExit.blk aApp aSt aStA
open Parts

/-- F of all nets with d places more than this one. -/
noncomputable def chkF (F : Nat → Nat → Nat → Bool) (d : Nat) : Nat → Nat → Nat → Bool := @Nat.rec (fun _ => Nat → Nat → Nat → Bool) F
  (fun _ ih n N W => upto (fun s => frc (ext n N s) fun N1 => frc (Nat.add W (pop s)) fun W1 => ih (Nat.succ n) N1 W1) (Nat.pow 2 n)) d

theorem chkF_down {F : Nat → Nat → Nat → Bool} {net : List Int} (h : NetOk net) : ∀ (d k : Nat), k + d = net.length → chkF F d k (pkTo net k) (wTo net k) = true → F net.length (pkTo net net.length) (wTo net net.length) = true
  | 0, k, e, hc => by rw [Nat.add_zero] at e; rw [← e]; exact hc
  | d + 1, k, e, hc => by
    have h6 := h.six
    have hu : upto (fun s => frc (ext k (pkTo net k) s) fun N1 => frc (Nat.add (wTo net k) (pop s)) fun W1 => chkF F d (Nat.succ k) N1 W1) (Nat.pow 2 k) = true := hc
    have h1 := upto_all hu (srow net k k) (srow_lt net k (by omega))
    simp only [frc_eq] at h1
    obtain ⟨e1, e2⟩ := ext_step h (k := k) (by omega)
    have e3 : Nat.add (wTo net k) (pop (srow net k k)) = wTo net (k + 1) := e2
    rw [e1, e3] at h1
    exact chkF_down h d (k + 1) (by omega) h1

theorem all_of {F : Nat → Nat → Nat → Bool} (h1 : chkF F 1 0 0 0 = true) (h2 : chkF F 2 0 0 0 = true) (h3 : chkF F 3 0 0 0 = true) (h4 : chkF F 4 0 0 0 = true) (h5 : chkF F 5 0 0 0 = true) (h6 : chkF F 6 0 0 0 = true)
    {net : List Int} (h : NetOk net) : F net.length (pk net) (wires net).length = true := by
  rw [← pkTo_all h, ← wTo_all h]
  have q1 := h.pos
  have q6 := h.six
  have hc : net.length = 1 ∨ net.length = 2 ∨ net.length = 3 ∨ net.length = 4 ∨ net.length = 5 ∨ net.length = 6 := by omega
  have : chkF F net.length 0 0 0 = true := by
    rcases hc with e | e | e | e | e | e <;> rw [e]
    · exact h1
    · exact h2
    · exact h3
    · exact h4
    · exact h5
    · exact h6
  exact chkF_down h net.length 0 (by omega) this

/-- A net's row, of the number that tells it. -/
theorem row_of {net : List Int} (h : NetOk net) {a : Nat} (ha : a < 6) : row (pk net) a = nrow net a := by
  have r := nrow_lt h
  have r0 := r 0
  have r1 := r 1
  have r2 := r 2
  have r3 := r 3
  have r4 := r 4
  have r5 := r 5
  have e : row (pk net) a = pk net / 2 ^ (8 * a) % 256 := by
    show (pk net >>> (8 * a)) &&& (2 ^ 8 - 1) = _
    rw [Nat.and_two_pow_sub_one_eq_mod, Nat.shiftRight_eq_div_pow]
  rw [e]
  unfold pk
  have hc : a = 0 ∨ a = 1 ∨ a = 2 ∨ a = 3 ∨ a = 4 ∨ a = 5 := by omega
  rcases hc with rfl | rfl | rfl | rfl | rfl | rfl <;> omega

end Go.Abs
