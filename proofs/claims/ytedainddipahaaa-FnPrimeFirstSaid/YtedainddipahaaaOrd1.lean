/- Orders: their width, length and cuts. Own work; no condition. -/
import Derived.Test.YtedainddipahaaaWire2
import Derived.Test.YtedainddipahaaaGrace3
set_option maxRecDepth 100000
set_option linter.unusedSimpArgs false
set_option linter.unusedVariables false
namespace Go.Abs
open Go.Proofs
attribute [local irreducible] awp awpOps awpKeep KeepK awpKeepF KeepF aloop ALoop ACalls ACallq AQuiet retPost retPostA AExit.thn AExit.blk aApp aSt aStA

def OrdOk (net row : List Int) : Prop := RowIn ((net.length : Int) - 1) net row ∧ Once row
instance (net row : List Int) : Decidable (OrdOk net row) := by unfold OrdOk; infer_instance
theorem OrdOk.ok {net row : List Int} (h : OrdOk net row) : NetOk net := h.1.ok
theorem OrdOk.len {net row : List Int} (h : OrdOk net row) : row.length = net.length := h.1.len
theorem OrdOk.low {net row : List Int} (h : OrdOk net row) {k : Nat} (hk : k < net.length) : 0 ≤ (row.getD k 0) ∧ (row.getD k 0) ≤ (net.length : Int) - 1 := h.1.low k (by rw [h.len]; exact hk)
theorem OrdOk.rowOk {net row : List Int} (h : OrdOk net row) : RowOk net row := rowIn_30 (by have := h.ok.six; omega) h.1
theorem OrdOk.un {net row : List Int} (h : OrdOk net row) {a b : Nat} (ha : a < net.length) (hb : b < net.length) (e : (row.getD a 0) = (row.getD b 0)) : a = b := by
  have hl := h.len
  rcases Nat.lt_trichotomy a b with c | c | c
  · exact absurd e (h.2 b (by omega) a c)
  · exact c
  · exact absurd e.symm (h.2 a (by omega) b c)

/-- A sum over the places of an order is one over all numbers. -/
theorem map_sum_sig (f : Int → Int) (l : List Int) : (l.map f).sum = sig l.length fun k => f ((l.getD k 0)) := by
  rw [← psum_sum, psum, List.length_map]
  exact sig_congr fun i hi => map_get f hi
def upN (n : Nat) : List Int := (List.range n).map fun i : Nat => (i : Int)
theorem upN_len (n : Nat) : (upN n).length = n := by simp [upN]
theorem upN_get {n k : Nat} (h : k < n) : (upN n).getD k 0 = (k : Int) := by simp [upN, List.getD_eq_getElem?_getD, h]
theorem upN_mem {n : Nat} {z : Int} : z ∈ upN n ↔ 0 ≤ z ∧ z < n := by
  unfold upN
  rw [List.mem_map]
  constructor
  · rintro ⟨a, h1, rfl⟩; have := List.mem_range.1 h1; omega
  · rintro ⟨h1, h2⟩; exact ⟨z.toNat, List.mem_range.2 (by omega), by omega⟩
theorem upN_once (n : Nat) : Once (upN n) := fun k hk j hj => by
  rw [upN_len] at hk
  rw [upN_get hk, upN_get (by omega)]
  omega
theorem OrdOk.perm {net row : List Int} (h : OrdOk net row) : row.Perm (upN net.length) := by
  have hn := once_iff_nodup.1 h.2
  have hr : ∀ x ∈ row, 0 ≤ x ∧ x < (net.length : Int) := fun x hx => by
    obtain ⟨i, hi, rfl⟩ := mem_getI hx
    have := h.1.low i hi
    omega
  refine (List.perm_ext_iff_of_nodup hn (once_iff_nodup.1 (upN_once _))).2 fun a => ⟨fun ha => upN_mem.2 (hr a ha), fun ha => ?_⟩
  have h2 := (nodup_range net.length (row.map fun z => z + 1) (once_iff_nodup.1 (once_map _ (fun a b e => by omega) h.2)) fun x hx => by
    obtain ⟨z, hz, rfl⟩ := List.mem_map.1 hx
    have := hr z hz
    omega).2 (by rw [List.length_map]; exact h.len)
  have h3 := upN_mem.1 ha
  obtain ⟨z, hz, e⟩ := List.mem_map.1 (h2.1 (a + 1) (by omega) (by omega))
  rwa [show a = z by omega]
theorem OrdOk.sum {net row : List Int} (h : OrdOk net row) (f : Int → Int) : (sig net.length fun k => f ((row.getD k 0))) = sig net.length fun i => f (i : Int) := by
  have e := perm_sum (h.perm.map f)
  rw [map_sum_sig, map_sum_sig, h.len, upN_len] at e
  rw [e]
  exact sig_congr fun i hi => by rw [upN_get hi]
/-- Each number has its place. -/
theorem OrdOk.at {net row : List Int} (h : OrdOk net row) {i : Nat} (hi : i < net.length) : ∃ a, a < net.length ∧ (row.getD a 0) = (i : Int) := by
  obtain ⟨a, h1, h2⟩ := mem_getI (h.perm.mem_iff.2 (upN_mem.2 ⟨by omega, by omega⟩) : (i : Int) ∈ row)
  exact ⟨a, by rw [← h.len]; exact h1, h2⟩

/-! ### Width -/

def maxK (l : List Int) : Nat → Int
  | 0 => 0
  | k + 1 => max (maxK l k) ((l.getD k 0))
def maxL (l : List Int) : Int := maxK l l.length
theorem maxK_step (l : List Int) (k : Nat) : maxK l (k + 1) = max (maxK l k) ((l.getD k 0)) := rfl
theorem maxK_pos (l : List Int) : ∀ k, 0 ≤ maxK l k
  | 0 => Int.le_refl _
  | k + 1 => by have := maxK_pos l k; rw [maxK_step]; omega
theorem maxK_ge (l : List Int) : ∀ {k i : Nat}, i < k → (l.getD i 0) ≤ maxK l k
  | k + 1, i, h => by
    rw [maxK_step]
    rcases Nat.lt_succ_iff_lt_or_eq.1 h with c | rfl
    · have := maxK_ge l c; omega
    · omega
theorem maxK_le {l : List Int} {c : Int} (hc : 0 ≤ c) : ∀ {k : Nat}, (∀ i, i < k → (l.getD i 0) ≤ c) → maxK l k ≤ c
  | 0, _ => hc
  | k + 1, h => by have := maxK_le hc (k := k) fun i hi => h i (by omega); have := h k (by omega); rw [maxK_step]; omega

def widthOf (net row : List Int) : Int := if OrdOk net row then maxL (diffs net row) else -1
def lengthOf (net row : List Int) : Int := if OrdOk net row then psum (diffs net row) (diffs net row).length else -1

theorem OrdOk.diff {net row : List Int} (h : OrdOk net row) : diffs net row = perWire dist net row := if_pos h.rowOk
theorem OrdOk.diffLen {net row : List Int} (h : OrdOk net row) : (diffs net row).length = (wires net).length := by rw [h.diff, perWire_len]
theorem OrdOk.wire {net row : List Int} (h : OrdOk net row) {i : Nat} (hi : i < (wires net).length) : ∃ x y : Nat, x < y ∧ y < net.length ∧ bit ((net.getD x 0)) y = true ∧ ((diffs net row).getD i 0) = dist ((row.getD x 0)) ((row.getD y 0)) ∧ (row.getD x 0) ≠ (row.getD y 0) := by
  obtain ⟨x, y, e, h1, h2, h3, h4⟩ := wire_at hi
  refine ⟨x, y, h2, h3, h4, by rw [h.diff, perWire_get _ hi e], fun c => ?_⟩
  have := h.un (by omega) h3 c
  omega
theorem OrdOk.each {net row : List Int} (h : OrdOk net row) {i : Nat} (hi : i < (wires net).length) : 1 ≤ ((diffs net row).getD i 0) ∧ ((diffs net row).getD i 0) ≤ (net.length : Int) - 1 := by
  obtain ⟨x, y, h1, h2, _, e, h3⟩ := h.wire hi
  have := h.low (k := x) (by omega)
  have := h.low h2
  rw [e]
  unfold dist
  split <;> omega
theorem OrdOk.width {net row : List Int} (h : OrdOk net row) : 0 ≤ widthOf net row ∧ widthOf net row ≤ (net.length : Int) - 1 ∧ ∀ i, i < (wires net).length → ((diffs net row).getD i 0) ≤ widthOf net row := by
  have e : widthOf net row = maxL (diffs net row) := if_pos h
  rw [e]
  unfold maxL
  rw [h.diffLen]
  have := h.ok.pos
  exact ⟨maxK_pos _ _, maxK_le (by omega) fun i hi => (h.each hi).2, fun i hi => maxK_ge _ hi⟩
/-- Neighbours are at most as far as the order is wide. -/
theorem OrdOk.near {net row : List Int} (h : OrdOk net row) {a b : Nat} (ha : a < net.length) (hb : b < net.length) (hab : bit ((net.getD a 0)) b = true) : (row.getD a 0) ≠ (row.getD b 0) ∧ (row.getD a 0) - (row.getD b 0) ≤ widthOf net row ∧ (row.getD b 0) - (row.getD a 0) ≤ widthOf net row := by
  have key : ∀ x y, x < y → y < net.length → bit ((net.getD x 0)) y = true → (row.getD x 0) ≠ (row.getD y 0) ∧ (row.getD x 0) - (row.getD y 0) ≤ widthOf net row ∧ (row.getD y 0) - (row.getD x 0) ≤ widthOf net row := fun x y hxy hy hb => by
    obtain ⟨i, hi, e⟩ := wire_index h.ok hxy hy hb
    have h1 := h.width.2.2 i hi
    rw [h.diff, perWire_get _ hi e] at h1
    refine ⟨fun c => by have := h.un (by omega) hy c; omega, ?_⟩
    unfold dist at h1
    split at h1 <;> omega
  rcases Nat.lt_trichotomy a b with c | rfl | c
  · exact key a b c hb hab
  · rw [h.ok.own a ha] at hab; cases hab
  · have := key b a c ha (by rw [h.ok.sym hb ha]; exact hab)
    exact ⟨fun e => this.1 e.symm, this.2.2, this.2.1⟩

theorem near_few : ∀ n, n < 7 → ∀ r, r < n → ∀ w : Nat, w < 6 → (sig n fun i => if (i : Int) ≠ (r : Int) ∧ (r : Int) - (i : Int) ≤ (w : Int) ∧ (i : Int) - (r : Int) ≤ (w : Int) then 1 else 0) ≤ 2 * (w : Int) := by decide +kernel
/-- Who has many neighbours makes rows wide. -/
theorem OrdOk.most {net row : List Int} (h : OrdOk net row) : mostNear net ≤ 2 * widthOf net row := by
  obtain ⟨w0, w1, _⟩ := h.width
  have h6 := h.ok.six
  obtain ⟨w, hw⟩ := Int.eq_ofNat_of_zero_le w0
  rw [mostNear, if_pos h.ok]
  have each : ∀ k, k < net.length → (pc ((net.getD k 0)).toNat : Int) ≤ 2 * widthOf net row := fun k hk => by
    rw [pc_sig h.ok hk]
    obtain ⟨r0, r1⟩ := h.low hk
    obtain ⟨r, hr⟩ := Int.eq_ofNat_of_zero_le r0
    refine Int.le_trans (sig_le (g := fun j => if (row.getD j 0) ≠ (row.getD k 0) ∧ (row.getD k 0) - (row.getD j 0) ≤ widthOf net row ∧ (row.getD j 0) - (row.getD k 0) ≤ widthOf net row then 1 else 0) fun j hj => ?_) ?_
    · unfold nb
      cases hb : bit ((net.getD k 0)) j with
      | true =>
        have := h.near hk hj hb
        rw [if_pos ⟨fun c => this.1 c.symm, this.2.1, this.2.2⟩]
        decide
      | false => simp only [Bool.toNat_false]; split <;> decide
    · rw [h.sum fun z => if z ≠ (row.getD k 0) ∧ (row.getD k 0) - z ≤ widthOf net row ∧ z - (row.getD k 0) ≤ widthOf net row then 1 else 0, hr, hw]
      exact near_few net.length (by omega) r (by omega) w (by omega)
  have to : ∀ k, k ≤ net.length → Go.Abs.most net k ≤ 2 * widthOf net row := fun k => by
    induction k with
    | zero => intro _; show (0 : Int) ≤ _; omega
    | succ k ih =>
      intro hk
      have := ih (by omega)
      have := each k (by omega)
      unfold Go.Abs.most
      omega
  exact to _ (Nat.le_refl _)

/-! ### Cuts -/

def cr (n a b : Int) : Int := if (a ≤ n) ↔ (b ≤ n) then 0 else 1
def cutTo (net row : List Int) (n : Int) (k : Nat) : Int := psum (perWire (cr n) net row) k
def cutOf (net row : List Int) (n : Int) : Int := cutTo net row n (wires net).length
def cuts (net row : List Int) : List Int := if OrdOk net row then (List.range (net.length - 1)).map fun n : Nat => cutOf net row (n : Int) else []
theorem OrdOk.cuts {net row : List Int} (h : OrdOk net row) : (cuts net row).length = net.length - 1 ∧ ∀ n, n < net.length - 1 → ((cuts net row).getD n 0) = cutOf net row n := by
  unfold Go.Abs.cuts
  rw [if_pos h]
  exact ⟨by simp, fun n hn => by simp [List.getD_eq_getElem?_getD, hn]⟩

theorem cut_each : ∀ m, m < 6 → ∀ a, a ≤ m → ∀ b, b ≤ m → (sig m fun n => cr (n : Int) (a : Int) (b : Int)) = dist (a : Int) (b : Int) := by decide +kernel
/-- All wires are all cuts. -/
theorem OrdOk.length {net row : List Int} (h : OrdOk net row) : lengthOf net row = psum (Go.Abs.cuts net row) (Go.Abs.cuts net row).length := by
  obtain ⟨c1, c2⟩ := h.cuts
  have h6 := h.ok.six
  have h0 := h.ok.pos
  rw [lengthOf, if_pos h, c1, h.diffLen]
  unfold psum
  rw [sig_congr (n := net.length - 1) (f := fun i => (Go.Abs.cuts net row).getD i 0) (g := fun n => sig (wires net).length fun i => (perWire (cr (n : Int)) net row).getD i 0) fun n hn => by rw [c2 n hn]; rfl]
  rw [sig_swap]
  refine sig_congr fun i hi => ?_
  obtain ⟨x, y, e, h1, h2, h3, h4⟩ := wire_at hi
  rw [h.diff, perWire_get _ hi e, sig_congr (g := fun n => cr (n : Int) ((row.getD x 0)) ((row.getD y 0))) fun n hn => perWire_get _ hi e]
  have hx := h.low h1
  have hy := h.low h3
  obtain ⟨a, ha⟩ := Int.eq_ofNat_of_zero_le hx.1
  obtain ⟨b, hb⟩ := Int.eq_ofNat_of_zero_le hy.1
  rw [ha, hb]
  exact (cut_each (net.length - 1) (by omega) a (by omega) b (by omega)).symm
def gp (n w i j : Int) : Int := if i ≤ n ∧ n < j ∧ j - i ≤ w then 1 else 0
theorem gp_few : ∀ m, m < 7 → ∀ n : Nat, n < 6 → ∀ w : Nat, w < 6 → 2 * (sig m fun i => sig m fun j => gp (n : Int) (w : Int) (i : Int) (j : Int)) ≤ (w : Int) * ((w : Int) + 1) := by decide +kernel
/-- Narrow rows have small cuts. -/
theorem OrdOk.cut {net row : List Int} (h : OrdOk net row) {n : Nat} (hn : n < 6) : 2 * cutOf net row (n : Int) ≤ widthOf net row * (widthOf net row + 1) := by
  obtain ⟨w0, w1, _⟩ := h.width
  have h6 := h.ok.six
  obtain ⟨w, hw⟩ := Int.eq_ofNat_of_zero_le w0
  have e : cutOf net row (n : Int) = (perWire (cr (n : Int)) net row).sum := by
    rw [← psum_sum, cutOf, cutTo, perWire_len]
  have h1 : cutOf net row (n : Int) ≤ sig net.length fun k => sig net.length fun j => gp (n : Int) (widthOf net row) ((row.getD k 0)) ((row.getD j 0)) := by
    rw [e, perWire, wires_sum, sig_pairs (fun k j => gp (n : Int) (widthOf net row) ((row.getD k 0)) ((row.getD j 0))) _ fun i hi => by unfold gp; rw [if_neg (by omega)]]
    refine sig_le fun k hk => sig_le fun j hj => ?_
    by_cases c : k < j
    · rw [if_pos c]
      by_cases hb : bit ((net.getD k 0)) j = true
      · rw [if_pos ⟨c, hb⟩]
        simp only [List.getD_cons_zero, List.getD_cons_succ, Int.toNat_natCast]
        have := h.near hk hj hb
        unfold cr gp
        split <;> split <;> split <;> omega
      · rw [if_neg fun d => hb d.2]
        unfold gp
        split <;> split <;> omega
    · rw [if_neg c, if_neg fun d => c d.1]
      exact Int.le_refl _
  have h2 : (sig net.length fun k => sig net.length fun j => gp (n : Int) (widthOf net row) ((row.getD k 0)) ((row.getD j 0))) = sig net.length fun i => sig net.length fun j => gp (n : Int) (widthOf net row) (i : Int) (j : Int) := by
    rw [sig_congr (n := net.length) (g := fun k => sig net.length fun j => gp (n : Int) (widthOf net row) ((row.getD k 0)) (j : Int)) fun k hk => h.sum fun z => gp (n : Int) (widthOf net row) ((row.getD k 0)) z]
    exact h.sum fun z => sig net.length fun j => gp (n : Int) (widthOf net row) z (j : Int)
  rw [h2, hw] at h1
  rw [hw]
  have := gp_few net.length (by omega) n hn w (by omega)
  omega

end Go.Abs
