/- Rows that are turned and moved: what stays. Own work; no condition. -/
import Derived.Test.YtcbnigipnepnkaaRows4
import Derived.Test.YtcbnigipnepnkaaSig
set_option maxRecDepth 100000
set_option linter.unusedSimpArgs false
set_option linter.unusedVariables false
namespace Go.Abs
open Go.Proofs
attribute [local irreducible] awp awpOps aloop ALoop ACalls ACallq AQuiet retPost retPostA AExit.thn AExit.blk aApp aSt aStA

theorem perWire_congr {f g : Int → Int → Int} {net row row2 : List Int} (h : ∀ x y, x < net.length → y < net.length → f ((row2.getD x 0)) ((row2.getD y 0)) = g ((row.getD x 0)) ((row.getD y 0))) : perWire f net row2 = perWire g net row := by
  unfold perWire
  apply List.map_congr_left
  intro w hw
  obtain ⟨a, b, rfl, h1, h2, h3, _⟩ := mem_to hw
  simpa using h a b (by omega) h3

theorem turned_in {net row : List Int} {most : Int} (hm : 0 ≤ most ∧ most ≤ 30) (h : RowIn most net row) : turned net row most = row.map fun z => most - z := by rw [turned, if_pos ⟨hm, h⟩]
theorem rowIn_turned {net row : List Int} {most : Int} (h : RowIn most net row) : RowIn most net (row.map fun z => most - z) :=
  ⟨h.ok, by rw [List.length_map]; exact h.len, fun k hk => by rw [List.length_map] at hk; rw [map_get _ hk]; have := h.low k hk; omega⟩
theorem once_map {row : List Int} (f : Int → Int) (hf : ∀ a b, f a = f b → a = b) (h : Once row) : Once (row.map f) := by
  intro k hk j hj
  rw [List.length_map] at hk
  rw [map_get _ hk, map_get _ (by omega)]
  exact fun e => h k hk j hj (hf _ _ e)
theorem map_map_id {row : List Int} {f g : Int → Int} (h : ∀ z, g (f z) = z) : (row.map f).map g = row := by
  rw [List.map_map]
  conv => rhs; rw [← List.map_id row]
  exact List.map_congr_left fun z _ => h z
theorem diffs_turned {net row : List Int} (h : RowOk net row) : diffs net (row.map fun z => 30 - z) = diffs net row := by
  have hl := h.len
  rw [diffs, if_pos (rowIn_turned h), diffs, if_pos h]
  refine perWire_congr fun x y hx hy => ?_
  rw [map_get _ (by omega), map_get _ (by omega)]
  unfold dist
  split <;> split <;> omega
theorem diffs_zero {net row : List Int} (h : RowOk net row) (ho : Once row) : ¬ (0 : Int) ∈ diffs net row := by
  have hl := h.len
  rw [diffs, if_pos h]
  intro hm
  obtain ⟨w, hw, he⟩ := List.mem_map.1 hm
  obtain ⟨a, b, rfl, h1, h2, h3, _⟩ := mem_to hw
  have := ho b (by omega) a h2
  simp only [List.getD_cons_zero, List.getD_cons_succ, Int.toNat_natCast] at he
  unfold dist at he
  split at he <;> omega

theorem zeros_get (n k : Nat) : (List.replicate n (0 : Int)).getD k 0 = 0 := by
  rw [List.getD_eq_getElem?_getD, List.getElem?_replicate]
  split <;> rfl
theorem rowOk_zeros {net : List Int} (h : NetOk net) : RowOk net (List.replicate net.length 0) := ⟨h, by simp, fun k _ => by rw [zeros_get]; decide⟩

theorem diff_sum {net row : List Int} (h : RowOk net row) {k : Nat} (hk : k < (wires net).length) :
    ∃ d s : Int, (diffs net row).getD k 0 = d ∧ (sums net row).getD k 0 = s ∧ 0 ≤ d ∧ d ≤ s ∧ (s - d) % 2 = 0 ∧ s ≤ 60 := by
  have hl := h.len
  obtain ⟨x, y, g1, g2, g3, g4, _⟩ := wire_at hk
  have hx := h.low x (by omega)
  have hy := h.low y (by omega)
  refine ⟨_, _, by rw [diffs, if_pos h, perWire_get _ hk g1], by rw [sums, if_pos h, perWire_get _ hk g1], ?_⟩
  unfold dist
  split <;> omega

/-- Numbers, each as often as its place has neighbours. -/
def wsum (net row : List Int) (k : Nat) : Int := sig k fun k => (row.getD k 0) * (pc ((net.getD k 0)).toNat : Int)
theorem sums_sum {net row : List Int} (h : RowOk net row) : (sums net row).sum = wsum net row net.length := by
  have hN := h.ok
  rw [sums, if_pos h, perWire, wires_sum, wsum]
  rw [sig_congr (f := fun k => (row.getD k 0) * (pc ((net.getD k 0)).toNat : Int)) (g := fun k => sig net.length fun j => (row.getD k 0) * (nb net k j : Int)) fun k hk => by rw [pc_sig hN hk, sig_mul]]
  rw [sig_pairs (fun k j => (row.getD k 0) * (nb net k j : Int)) _ fun i hi => by rw [nb_own hN hi]; simp]
  refine sig_congr fun k hk => sig_congr fun j hj => ?_
  by_cases hkj : k < j
  · rw [if_pos hkj, nb_sym hN hj hk]
    simp only [List.getD_cons_zero, List.getD_cons_succ, Int.toNat_natCast]
    unfold nb
    cases hb : bit ((net.getD k 0)) j with
    | true => rw [if_pos ⟨hkj, rfl⟩]; simp
    | false => rw [if_neg (by simp)]; simp
  · rw [if_neg hkj, if_neg fun c => hkj c.1]
theorem psum_sums {net row : List Int} (h : RowOk net row) : psum (sums net row) (wires net).length = wsum net row net.length := by
  rw [← sums_sum h, ← psum_sum]
  congr 1
  rw [sums, if_pos h, perWire_len]

theorem sums_moved {net row : List Int} (h : RowOk net row) (h' : RowOk net (row.map fun z => z + 1)) {k : Nat} (hk : k < (wires net).length) : (sums net (row.map fun z => z + 1)).getD k 0 = (sums net row).getD k 0 + 2 := by
  have hl := h.len
  obtain ⟨x, y, g1, g2, g3, g4, _⟩ := wire_at hk
  rw [sums, if_pos h', sums, if_pos h, perWire_get _ hk g1, perWire_get _ hk g1, map_get _ (by omega), map_get _ (by omega)]
  omega

theorem turned_back {net row : List Int} {v : Int} (h : ¬ (turned net row v).length = 0) : RowOk net (turned net row v) ∧ turned net (turned net row v) v = row ∧ row.length ≤ 1048576 := by
  have hc : (0 ≤ v ∧ v ≤ 30) ∧ RowIn v net row := Decidable.byContradiction fun c => h (by rw [turned, if_neg c]; rfl)
  have hr := rowIn_turned hc.2
  refine ⟨?_, ?_, by have := hc.2.len; have := hc.2.ok.six; omega⟩
  · rw [turned_in hc.1 hc.2]; exact rowIn_30 hc.1.2 hr
  · rw [turned_in hc.1 hc.2, turned_in hc.1 hr, map_map_id fun z => by omega]
theorem moved_back {net row : List Int} {v : Int} (h : ¬ (moved net row v).length = 0) : RowOk net (moved net row v) ∧ moved net (moved net row v) (-v) = row ∧ row.length ≤ 1048576 := by
  have hc : RowOk net row ∧ (-30 ≤ v ∧ v ≤ 30) ∧ Within 30 (row.map fun z => z + v) := Decidable.byContradiction fun c => h (by rw [moved, if_neg c]; rfl)
  have e : moved net row v = row.map fun z => z + v := by rw [moved, if_pos hc]
  have hr : RowOk net (row.map fun z => z + v) := ⟨hc.1.ok, by rw [List.length_map]; exact hc.1.len, hc.2.2⟩
  have e2 : (row.map fun z => z + v).map (fun z => z + -v) = row := map_map_id fun z => by omega
  refine ⟨by rw [e]; exact hr, ?_, by have := hc.1.len; have := hc.1.ok.six; omega⟩
  rw [e, moved, if_pos ⟨hr, by omega, by rw [e2]; exact hc.1.low⟩, e2]

end Go.Abs
