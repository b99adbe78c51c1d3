/- All orders; the least width, length and cut of all. Own work; no condition. -/
import Derived.Test.YtedainddipahaaaOrd2
set_option maxRecDepth 100000
set_option linter.unusedSimpArgs false
set_option linter.unusedVariables false
namespace Go.Abs
open Go.Proofs
attribute [local irreducible] awp awpOps awpKeep KeepK awpKeepF KeepF aloop ALoop ACalls ACallq AQuiet retPost retPostA AExit.thn AExit.blk aApp aSt aStA

/-- All orders of so many that begin with a row. -/
def ordsFrom (many : Nat) : Nat → List Int → List (List Int)
  | 0, row => [row]
  | r + 1, row => (List.range many).flatMap fun n : Nat => if (n : Int) ∈ row then [] else ordsFrom many r (row ++ [(n : Int)])
def ordsTo (many r : Nat) (row : List Int) (k : Nat) : List (List Int) := (List.range k).flatMap fun n : Nat => if (n : Int) ∈ row then [] else ordsFrom many r (row ++ [(n : Int)])
theorem ordsTo_step (many r : Nat) (row : List Int) (k : Nat) : ordsTo many r row (k + 1) = ordsTo many r row k ++ if (k : Int) ∈ row then [] else ordsFrom many r (row ++ [(k : Int)]) := by
  unfold ordsTo
  rw [List.range_succ, List.flatMap_append]
  simp
theorem ordsFrom_all (many r : Nat) (row : List Int) : ordsFrom many (r + 1) row = ordsTo many r row many := rfl
theorem pow6_succ (r : Nat) : 6 ^ (r + 1) = 6 * 6 ^ r := by rw [Nat.pow_succ, Nat.mul_comm]
theorem ords_len {many : Nat} (h6 : many ≤ 6) : ∀ (r : Nat) (row : List Int), (ordsFrom many r row).length ≤ 6 ^ r
  | 0, row => Nat.le_refl _
  | r + 1, row => by
    have key : ∀ k, (ordsTo many r row k).length ≤ k * 6 ^ r := fun k => by
      induction k with
      | zero => simp [ordsTo]
      | succ k ih =>
        rw [ordsTo_step, List.length_append, Nat.add_mul, Nat.one_mul]
        refine Nat.add_le_add ih ?_
        split
        · exact Nat.zero_le _
        · exact ords_len h6 r _
    rw [ordsFrom_all]
    have := key many
    have h2 : many * 6 ^ r ≤ 6 * 6 ^ r := Nat.mul_le_mul_right _ h6
    rw [pow6_succ]
    omega
theorem ordsTo_len {many : Nat} (h6 : many ≤ 6) (r : Nat) (row : List Int) {k : Nat} (hk : k ≤ many) : (ordsTo many r row k).length ≤ 6 ^ (r + 1) := by
  have key : ∀ k, (ordsTo many r row k).length ≤ k * 6 ^ r := fun k => by
    induction k with
    | zero => simp [ordsTo]
    | succ k ih =>
      rw [ordsTo_step, List.length_append, Nat.add_mul, Nat.one_mul]
      refine Nat.add_le_add ih ?_
      split
      · exact Nat.zero_le _
      · exact ords_len h6 r _
  have := key k
  have h2 : k * 6 ^ r ≤ 6 * 6 ^ r := Nat.mul_le_mul_right _ (by omega)
  rw [pow6_succ]
  omega

/-- Numbers below many, each once. -/
def Part (many : Nat) (row : List Int) : Prop := Once row ∧ ∀ k, k < row.length → 0 ≤ (row.getD k 0) ∧ (row.getD k 0) ≤ (many : Int) - 1
theorem Part.push {many : Nat} {row : List Int} {n : Nat} (h : Part many row) (hn : n < many) (hm : ¬ (n : Int) ∈ row) : Part many (row ++ [(n : Int)]) := by
  have hg : ∀ i, i < row.length → (row ++ [(n : Int)]).getD i 0 = (row.getD i 0) := fun i hi => push_l _ _ hi
  refine ⟨fun k hk j hj => ?_, fun k hk => ?_⟩
  · rw [List.length_append, List.length_cons, List.length_nil] at hk
    rcases Nat.lt_succ_iff_lt_or_eq.1 hk with c | rfl
    · have := h.1 k c j hj
      rw [push_l _ _ c, push_l _ _ (by omega)]
      exact this
    · rw [push_at, push_l _ _ hj]
      intro e
      refine hm ?_
      rw [← e, List.getD_eq_getElem?_getD, List.getElem?_eq_getElem hj]
      exact List.getElem_mem _
  · rw [List.length_append, List.length_cons, List.length_nil] at hk
    rcases Nat.lt_succ_iff_lt_or_eq.1 hk with c | rfl
    · rw [push_l _ _ c]; exact h.2 k c
    · rw [push_at]; omega
theorem ords_in {many : Nat} : ∀ (r : Nat) (row x : List Int), row.length + r = many → Part many row → x ∈ ordsFrom many r row → x.length = many ∧ Part many x
  | 0, row, x, hl, hp, hx => by
    have : x = row := by simpa [ordsFrom] using hx
    subst this
    exact ⟨hl, hp⟩
  | r + 1, row, x, hl, hp, hx => by
    unfold ordsFrom at hx
    obtain ⟨n, h1, h2⟩ := List.mem_flatMap.1 hx
    have hn := List.mem_range.1 h1
    by_cases c : (n : Int) ∈ row
    · rw [if_pos c] at h2; cases h2
    · rw [if_neg c] at h2
      exact ords_in r _ x (by rw [List.length_append, List.length_cons, List.length_nil]; omega) (hp.push hn c) h2
theorem ords_has {many : Nat} : ∀ (r : Nat) (row x : List Int), row.length + r = many → x.length = many → Part many x → x.take row.length = row → x ∈ ordsFrom many r row
  | 0, row, x, hl, hxl, hx, ht => by
    have : x = row := by rw [← ht, List.take_of_length_le (by omega)]
    rw [this]
    exact List.mem_singleton.2 rfl
  | r + 1, row, x, hl, hxl, hx, ht => by
    unfold ordsFrom
    have hk : row.length < x.length := by omega
    obtain ⟨n, hn⟩ := Int.eq_ofNat_of_zero_le (hx.2 _ hk).1
    have hlt := (hx.2 _ hk).2
    refine List.mem_flatMap.2 ⟨n, List.mem_range.2 (by omega), ?_⟩
    have hnot : ¬ (n : Int) ∈ row := fun hm => by
      obtain ⟨j, hj, e⟩ := mem_getI hm
      have e2 : (row.getD j 0) = (x.getD j 0) := by
        rw [← ht]
        simp only [List.getD_eq_getElem?_getD, List.getElem?_take]
        rw [if_pos (by omega)]
      exact hx.1 _ hk j (by omega) (by rw [← e2, e, hn])
    rw [if_neg hnot]
    refine ords_has r _ x (by rw [List.length_append, List.length_cons, List.length_nil]; omega) hxl hx ?_
    rw [List.length_append, List.length_cons, List.length_nil, List.take_succ_eq_append_getElem hk, ht]
    congr 2
    rw [← hn, List.getD_eq_getElem?_getD, List.getElem?_eq_getElem hk]
    rfl

def ords (n : Nat) : List (List Int) := ordsFrom n n []
theorem ord_part {net row : List Int} (hN : NetOk net) : OrdOk net row ↔ row.length = net.length ∧ Part net.length row := by
  constructor
  · intro h; exact ⟨h.len, h.2, h.1.low⟩
  · rintro ⟨h1, h2, h3⟩; exact ⟨⟨hN, h1, h3⟩, h2⟩
theorem mem_ords {net x : List Int} (hN : NetOk net) : x ∈ ords net.length ↔ OrdOk net x := by
  rw [ord_part hN]
  constructor
  · exact fun h => ords_in net.length [] x (by simp) ⟨fun k hk => absurd hk (Nat.not_lt_zero _), fun k hk => absurd hk (Nat.not_lt_zero _)⟩ h
  · rintro ⟨h1, h2⟩; exact ords_has net.length [] x (by simp) h1 h2 rfl
theorem own_ord {net : List Int} (hN : NetOk net) : OrdOk net (upN net.length) := ⟨⟨hN, upN_len _, fun k hk => by rw [upN_len] at hk; rw [upN_get hk]; omega⟩, upN_once _⟩
theorem ords_some {net : List Int} (hN : NetOk net) : 0 < (ords net.length).length := List.length_pos_of_mem ((mem_ords hN).2 (own_ord hN))
theorem ords_few {n : Nat} (h6 : n ≤ 6) : (ords n).length ≤ 46656 := Nat.le_trans (ords_len h6 n []) (Nat.pow_le_pow_right (n := 6) (by decide) h6)
theorem ords_at {net : List Int} (hN : NetOk net) {i : Nat} (hi : i < (ords net.length).length) : OrdOk net ((ords net.length).getD i []) := (mem_ords hN).1 (by
  rw [List.getD_eq_getElem?_getD, List.getElem?_eq_getElem hi]; exact List.getElem_mem _)
theorem ords_index {net x : List Int} (hN : NetOk net) (h : OrdOk net x) : ∃ i, i < (ords net.length).length ∧ (ords net.length).getD i [] = x := by
  obtain ⟨i, hi, e⟩ := List.getElem_of_mem ((mem_ords hN).2 h)
  exact ⟨i, hi, by rw [List.getD_eq_getElem?_getD, List.getElem?_eq_getElem hi]; exact e⟩

/-! ### The least of all -/

def minTo (f : List Int → Int) (L : List (List Int)) (z : Int) : Nat → Int
  | 0 => z
  | k + 1 => min (minTo f L z k) (f (L.getD k []))
theorem minTo_step (f : List Int → Int) (L : List (List Int)) (z : Int) (k : Nat) : minTo f L z (k + 1) = min (minTo f L z k) (f (L.getD k [])) := rfl
theorem minTo_le (f : List Int → Int) (L : List (List Int)) (z : Int) : ∀ {k i : Nat}, i < k → minTo f L z k ≤ f (L.getD i [])
  | k + 1, i, h => by
    rw [minTo_step]
    rcases Nat.lt_succ_iff_lt_or_eq.1 h with c | rfl
    · have := minTo_le f L z c; omega
    · omega
theorem minTo_is {f : List Int → Int} {L : List (List Int)} {z : Int} : ∀ {k : Nat}, 0 < k → (∀ i, i < k → f (L.getD i []) ≤ z) → ∃ i, i < k ∧ minTo f L z k = f (L.getD i [])
  | k + 1, _, h => by
    rw [minTo_step]
    by_cases c : f (L.getD k []) ≤ minTo f L z k
    · exact ⟨k, Nat.lt_succ_self _, by omega⟩
    · cases k with
      | zero => exact ⟨0, Nat.lt_succ_self _, by have := h 0 (Nat.lt_succ_self _); show min z _ = _; omega⟩
      | succ k =>
        obtain ⟨i, h1, h2⟩ := minTo_is (k := k + 1) (Nat.zero_lt_succ _) fun i hi => h i (by omega)
        exact ⟨i, by omega, by omega⟩
/-! ### The first one -/

end Go.Abs
