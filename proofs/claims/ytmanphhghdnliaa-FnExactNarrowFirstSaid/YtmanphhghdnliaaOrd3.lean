/- All orders; the least width, length and cut of all. Own work; no condition. -/
import Derived.Test.YtmanphhghdnliaaOrd2
set_option maxRecDepth 100000
set_option linter.unusedSimpArgs false
set_option linter.unusedVariables false
namespace Go.Abs
open Go.Proofs
attribute [local irreducible] awp awpOps awpKeep KeepK awpKeepF KeepF aloop ALoop ACalls ACallq AQuiet retPost retPostA AExit.thn AExit.blk aApp aSt aStA

/-- All orders of so many that begin with a row. -/
def ordsFrom (many : Nat) : Nat → List Int → List (List Int)
  | 0, row => [row]
  | r + 1, row => (List.range many).flatMap fun n : Nat => if (n : Int) ∈ row then [] else ordsFrom many r (row ++ [(n : Int)])
def ordsTo (many r : Nat) (row : List Int) (k : Nat) : List (List Int) := (List.range k).flatMap fun n : Nat => if (n : Int) ∈ row then [] else ordsFrom many r (row ++ [(n : Int)])
theorem ordsTo_step (many r : Nat) (row : List Int) (k : Nat) : ordsTo many r row (k + 1) = ordsTo many r row k ++ if (k : Int) ∈ row then [] else ordsFrom many r (row ++ [(k : Int)]) := by
  unfold ordsTo
  rw [List.range_succ, List.flatMap_append]
  simp
theorem ordsFrom_all (many r : Nat) (row : List Int) : ordsFrom many (r + 1) row = ordsTo many r row many := rfl
theorem pow6_succ (r : Nat) : 6 ^ (r + 1) = 6 * 6 ^ r := by rw [Nat.pow_succ, Nat.mul_comm]
theorem ords_len {many : Nat} (h6 : many ≤ 6) : ∀ (r : Nat) (row : List Int), (ordsFrom many r row).length ≤ 6 ^ r
  | 0, row => Nat.le_refl _
  | r + 1, row => by
    have key : ∀ k, (ordsTo many r row k).length ≤ k * 6 ^ r := fun k => by
      induction k with
      | zero => simp [ordsTo]
      | succ k ih =>
        rw [ordsTo_step, List.length_append, Nat.add_mul, Nat.one_mul]
        refine Nat.add_le_add ih ?_
        split
        · exact Nat.zero_le _
        · exact ords_len h6 r _
    rw [ordsFrom_all]
    have := key many
    have h2 : many * 6 ^ r ≤ 6 * 6 ^ r := Nat.mul_le_mul_right _ h6
    rw [pow6_succ]
    omega
theorem ordsTo_len {many : Nat} (h6 : many ≤ 6) (r : Nat) (row : List Int) {k : Nat} (hk : k ≤ many) : (ordsTo many r row k).length ≤ 6 ^ (r + 1) := by
  have key : ∀ k, (ordsTo many r row k).length ≤ k * 6 ^ r := fun k => by
    induction k with
    | zero => simp [ordsTo]
    | succ k ih =>
      rw [ordsTo_step, List.length_append, Nat.add_mul, Nat.one_mul]
      refine Nat.add_le_add ih ?_
      split
      · exact Nat.zero_le _
      · exact ords_len h6 r _
  have := key k
  have h2 : k * 6 ^ r ≤ 6 * 6 ^ r := Nat.mul_le_mul_right _ (by omega)
  rw [pow6_succ]
  omega

/-- Numbers below many, each once. -/
def Part (many : Nat) (row : List Int) : Prop := Once row ∧ ∀ k, k < row.length → 0 ≤ (row.getD k 0) ∧ (row.getD k 0) ≤ (many : Int) - 1
theorem Part.push {many : Nat} {row : List Int} {n : Nat} (h : Part many row) (hn : n < many) (hm : ¬ (n : Int) ∈ row) : Part many (row ++ [(n : Int)]) := by
  have hg : ∀ i, i < row.length → (row ++ [(n : Int)]).getD i 0 = (row.getD i 0) := fun i hi => push_l _ _ hi
  refine ⟨fun k hk j hj => ?_, fun k hk => ?_⟩
  · rw [List.length_append, List.length_cons, List.length_nil] at hk
    rcases Nat.lt_succ_iff_lt_or_eq.1 hk with c | rfl
    · have := h.1 k c j hj
      rw [push_l _ _ c, push_l _ _ (by omega)]
      exact this
    · rw [push_at, push_l _ _ hj]
      intro e
      refine hm ?_
      rw [← e, List.getD_eq_getElem?_getD, List.getElem?_eq_getElem hj]
      exact List.getElem_mem _
  · rw [List.length_append, List.length_cons, List.length_nil] at hk
    rcases Nat.lt_succ_iff_lt_or_eq.1 hk with c | rfl
    · rw [push_l _ _ c]; exact h.2 k c
    · rw [push_at]; omega
theorem ords_in {many : Nat} : ∀ (r : Nat) (row x : List Int), row.length + r = many → Part many row → x ∈ ordsFrom many r row → x.length = many ∧ Part many x
  | 0, row, x, hl, hp, hx => by
    have : x = row := by simpa [ordsFrom] using hx
    subst this
    exact ⟨hl, hp⟩
  | r + 1, row, x, hl, hp, hx => by
    unfold ordsFrom at hx
    obtain ⟨n, h1, h2⟩ := List.mem_flatMap.1 hx
    have hn := List.mem_range.1 h1
    by_cases c : (n : Int) ∈ row
    · rw [if_pos c] at h2; cases h2
    · rw [if_neg c] at h2
      exact ords_in r _ x (by rw [List.length_append, List.length_cons, List.length_nil]; omega) (hp.push hn c) h2
theorem ords_has {many : Nat} : ∀ (r : Nat) (row x : List Int), row.length + r = many → x.length = many → Part many x → x.take row.length = row → x ∈ ordsFrom many r row
  | 0, row, x, hl, hxl, hx, ht => by
    have : x = row := by rw [← ht, List.take_of_length_le (by omega)]
    rw [this]
    exact List.mem_singleton.2 rfl
  | r + 1, row, x, hl, hxl, hx, ht => by
    unfold ordsFrom
    have hk : row.length < x.length := by omega
    obtain ⟨n, hn⟩ := Int.eq_ofNat_of_zero_le (hx.2 _ hk).1
    have hlt := (hx.2 _ hk).2
    refine List.mem_flatMap.2 ⟨n, List.mem_range.2 (by omega), ?_⟩
    have hnot : ¬ (n : Int) ∈ row := fun hm => by
      obtain ⟨j, hj, e⟩ := mem_getI hm
      have e2 : (row.getD j 0) = (x.getD j 0) := by
        rw [← ht]
        simp only [List.getD_eq_getElem?_getD, List.getElem?_take]
        rw [if_pos (by omega)]
      exact hx.1 _ hk j (by omega) (by rw [← e2, e, hn])
    rw [if_neg hnot]
    refine ords_has r _ x (by rw [List.length_append, List.length_cons, List.length_nil]; omega) hxl hx ?_
    rw [List.length_append, List.length_cons, List.length_nil, List.take_succ_eq_append_getElem hk, ht]
    congr 2
    rw [← hn, List.getD_eq_getElem?_getD, List.getElem?_eq_getElem hk]
    rfl

def ords (n : Nat) : List (List Int) := ordsFrom n n []
theorem ord_part {net row : List Int} (hN : NetOk net) : OrdOk net row ↔ row.length = net.length ∧ Part net.length row := by
  constructor
  · intro h; exact ⟨h.len, h.2, h.1.low⟩
  · rintro ⟨h1, h2, h3⟩; exact ⟨⟨hN, h1, h3⟩, h2⟩
theorem mem_ords {net x : List Int} (hN : NetOk net) : x ∈ ords net.length ↔ OrdOk net x := by
  rw [ord_part hN]
  constructor
  · exact fun h => ords_in net.length [] x (by simp) ⟨fun k hk => absurd hk (Nat.not_lt_zero _), fun k hk => absurd hk (Nat.not_lt_zero _)⟩ h
  · rintro ⟨h1, h2⟩; exact ords_has net.length [] x (by simp) h1 h2 rfl
theorem own_ord {net : List Int} (hN : NetOk net) : OrdOk net (upN net.length) := ⟨⟨hN, upN_len _, fun k hk => by rw [upN_len] at hk; rw [upN_get hk]; omega⟩, upN_once _⟩
theorem ords_some {net : List Int} (hN : NetOk net) : 0 < (ords net.length).length := List.length_pos_of_mem ((mem_ords hN).2 (own_ord hN))
theorem ords_few {n : Nat} (h6 : n ≤ 6) : (ords n).length ≤ 46656 := Nat.le_trans (ords_len h6 n []) (Nat.pow_le_pow_right (n := 6) (by decide) h6)
theorem ords_at {net : List Int} (hN : NetOk net) {i : Nat} (hi : i < (ords net.length).length) : OrdOk net ((ords net.length).getD i []) := (mem_ords hN).1 (by
  rw [List.getD_eq_getElem?_getD, List.getElem?_eq_getElem hi]; exact List.getElem_mem _)
theorem ords_index {net x : List Int} (hN : NetOk net) (h : OrdOk net x) : ∃ i, i < (ords net.length).length ∧ (ords net.length).getD i [] = x := by
  obtain ⟨i, hi, e⟩ := List.getElem_of_mem ((mem_ords hN).2 h)
  exact ⟨i, hi, by rw [List.getD_eq_getElem?_getD, List.getElem?_eq_getElem hi]; exact e⟩

/-! ### The least of all -/

def minTo (f : List Int → Int) (L : List (List Int)) (z : Int) : Nat → Int
  | 0 => z
  | k + 1 => min (minTo f L z k) (f (L.getD k []))
theorem minTo_step (f : List Int → Int) (L : List (List Int)) (z : Int) (k : Nat) : minTo f L z (k + 1) = min (minTo f L z k) (f (L.getD k [])) := rfl
theorem minTo_le (f : List Int → Int) (L : List (List Int)) (z : Int) : ∀ {k i : Nat}, i < k → minTo f L z k ≤ f (L.getD i [])
  | k + 1, i, h => by
    rw [minTo_step]
    rcases Nat.lt_succ_iff_lt_or_eq.1 h with c | rfl
    · have := minTo_le f L z c; omega
    · omega
theorem minTo_is {f : List Int → Int} {L : List (List Int)} {z : Int} : ∀ {k : Nat}, 0 < k → (∀ i, i < k → f (L.getD i []) ≤ z) → ∃ i, i < k ∧ minTo f L z k = f (L.getD i [])
  | k + 1, _, h => by
    rw [minTo_step]
    by_cases c : f (L.getD k []) ≤ minTo f L z k
    · exact ⟨k, Nat.lt_succ_self _, by omega⟩
    · cases k with
      | zero => exact ⟨0, Nat.lt_succ_self _, by have := h 0 (Nat.lt_succ_self _); show min z _ = _; omega⟩
      | succ k =>
        obtain ⟨i, h1, h2⟩ := minTo_is (k := k + 1) (Nat.zero_lt_succ _) fun i hi => h i (by omega)
        exact ⟨i, by omega, by omega⟩
theorem minTo_range {f : List Int → Int} {L : List (List Int)} {z c : Int} (hz : c ≤ z) : ∀ {k : Nat}, (∀ i, i < k → c ≤ f (L.getD i [])) → c ≤ minTo f L z k ∧ minTo f L z k ≤ z
  | 0, _ => ⟨hz, Int.le_refl _⟩
  | k + 1, h => by
    have := minTo_range hz (k := k) fun i hi => h i (by omega)
    have := h k (Nat.lt_succ_self _)
    rw [minTo_step]
    omega

def wdt (net : List Int) (k : Nat) : Int := minTo (widthOf net) (ords net.length) net.length k
def lgt (net : List Int) (k : Nat) : Int := minTo (lengthOf net) (ords net.length) ((net.length : Int) * 100) k
def cut9 (net row : List Int) : Int := maxL (cuts net row)
def ctt (net : List Int) (k : Nat) : Int := minTo (cut9 net) (ords net.length) 100 k
def narrow (net : List Int) : List Int := if NetOk net then [wdt net (ords net.length).length, lgt net (ords net.length).length, ctt net (ords net.length).length] else []

theorem OrdOk.cut9 {net row : List Int} (h : OrdOk net row) : 0 ≤ cut9 net row ∧ 2 * Go.Abs.cut9 net row ≤ widthOf net row * (widthOf net row + 1) ∧ Go.Abs.cut9 net row ≤ 15 := by
  obtain ⟨c1, c2⟩ := h.cuts
  have h6 := h.ok.six
  have hq := qOf_le h.ok
  have hw := h.width
  have hp := Int.mul_nonneg hw.1 (show 0 ≤ widthOf net row + 1 by omega)
  unfold Go.Abs.cut9 maxL
  rw [c1]
  refine ⟨maxK_pos _ _, ?_, maxK_le (by decide) fun i hi => ?_⟩
  · have := maxK_le (l := Go.Abs.cuts net row) (c := widthOf net row * (widthOf net row + 1) / 2) (by omega) (k := net.length - 1) fun i hi => by
      rw [c2 i hi]
      have := h.cut (n := i) (by omega)
      omega
    omega
  · rw [c2 i hi]
    have := cutTo_range net row i (wires net).length (Nat.le_refl _)
    unfold qOf at hq
    unfold cutOf
    omega
theorem lengthOf_le {net row : List Int} (h : OrdOk net row) : lengthOf net row ≤ 75 := by
  have h1 := h.lengthRange.2
  have h2 := h.width
  have h6 := h.ok.six
  have hq := qOf_le h.ok
  have h3 : (qOf net : Int) * widthOf net row ≤ (qOf net : Int) * 5 := Int.mul_le_mul_of_nonneg_left (by omega) (by omega)
  omega

/-- The three numbers of a net. -/
theorem narrow_use {net : List Int} (hN : NetOk net) : ∃ w l c : Int, narrow net = [w, l, c] ∧ 0 ≤ w ∧ (w = 0 ↔ qOf net = 0) ∧ (w < 2 ↔ (mostNear net < 3 ∧ (qOf net : Int) + partMany net = net.length)) ∧ (qOf net : Int) ≤ l ∧ 2 * c ≤ w * (w + 1) ∧ wdt net (ords net.length).length = w ∧ w ≤ 6 ∧ (0 ≤ l ∧ l ≤ 75) ∧ (0 ≤ c ∧ c ≤ 15) := by
  have h6 := hN.six
  have hp := hN.pos
  have hs := ords_some hN
  have hat := fun i (hi : i < (ords net.length).length) => ords_at hN hi
  obtain ⟨i, i1, i2⟩ := minTo_is (f := widthOf net) (L := ords net.length) (z := net.length) hs fun i hi => by have := (hat i hi).width; omega
  obtain ⟨j, j1, j2⟩ := minTo_is (f := lengthOf net) (L := ords net.length) (z := (net.length : Int) * 100) hs fun i hi => by have := lengthOf_le (hat i hi); omega
  obtain ⟨k, k1, k2⟩ := minTo_is (f := cut9 net) (L := ords net.length) (z := 100) hs fun i hi => by have := (hat i hi).cut9; omega
  have hO := hat i i1
  have hw := hO.width
  refine ⟨_, _, _, if_pos hN, ?_⟩
  have ew : wdt net (ords net.length).length = widthOf net ((ords net.length).getD i []) := i2
  have el : lgt net (ords net.length).length = lengthOf net ((ords net.length).getD j []) := j2
  have ec : ctt net (ords net.length).length = cut9 net ((ords net.length).getD k []) := k2
  rw [ew]
  have hmin : ∀ x, OrdOk net x → widthOf net ((ords net.length).getD i []) ≤ widthOf net x := fun x hx => by
    obtain ⟨t, t1, t2⟩ := ords_index hN hx
    rw [← ew, ← t2]
    exact minTo_le _ _ _ t1
  refine ⟨hw.1, ?_, ?_, ?_, ?_, rfl, by omega, ?_, ?_⟩
  · constructor
    · intro e
      refine Decidable.byContradiction fun hq => ?_
      have hq0 : 0 < (wires net).length := by unfold qOf at hq; omega
      have := (hO.each hq0).1
      have := hw.2.2 0 hq0
      omega
    · intro e
      rw [widthOf, if_pos hO, maxL, hO.diffLen, show (wires net).length = 0 from e]
      rfl
  · rw [← narrow_one hN]
    constructor
    · intro h; exact ⟨_, hO, h⟩
    · rintro ⟨x, hx, h⟩; have := hmin x hx; omega
  · rw [el]; exact (hat j j1).lengthRange.1
  · have h1 : ctt net (ords net.length).length ≤ cut9 net ((ords net.length).getD i []) := minTo_le _ _ _ i1
    have := hO.cut9
    omega
  · rw [el]
    have := (hat j j1).lengthRange.1
    exact ⟨by omega, lengthOf_le (hat j j1)⟩
  · rw [ec]
    have := (hat k k1).cut9
    exact ⟨this.1, this.2.2⟩

/-! ### The first one -/

def bestTo (net : List Int) (L : List (List Int)) : Nat → List Int
  | 0 => []
  | k + 1 => if (bestTo net L k).length = 0 ∨ widthOf net (L.getD k []) < widthOf net (bestTo net L k) then L.getD k [] else bestTo net L k
theorem bestTo_step (net : List Int) (L : List (List Int)) (k : Nat) : bestTo net L (k + 1) = if (bestTo net L k).length = 0 ∨ widthOf net (L.getD k []) < widthOf net (bestTo net L k) then L.getD k [] else bestTo net L k := rfl
def best (net : List Int) : List Int := if NetOk net then bestTo net (ords net.length) (ords net.length).length else []
theorem bestTo_use {net : List Int} (hN : NetOk net) : ∀ k, 0 < k → k ≤ (ords net.length).length → OrdOk net (bestTo net (ords net.length) k) ∧ widthOf net (bestTo net (ords net.length) k) = wdt net k
  | 1, _, h => by
    have hO := ords_at hN (i := 0) (by omega)
    have e : bestTo net (ords net.length) 1 = (ords net.length).getD 0 [] := by rw [bestTo_step, if_pos (.inl rfl)]
    rw [e]
    refine ⟨hO, ?_⟩
    have := hO.width
    have e1 : wdt net 1 = min (net.length : Int) (widthOf net ((ords net.length).getD 0 [])) := rfl
    rw [e1]
    omega
  | k + 2, _, h => by
    obtain ⟨g1, g2⟩ := bestTo_use hN (k + 1) (Nat.zero_lt_succ _) (by omega)
    have hO := ords_at hN (i := k + 1) (by omega)
    have hl : ¬ (bestTo net (ords net.length) (k + 1)).length = 0 := by rw [g1.len]; have := hN.pos; omega
    have e : wdt net (k + 2) = min (wdt net (k + 1)) (widthOf net ((ords net.length).getD (k + 1) [])) := rfl
    rw [bestTo_step, e]
    by_cases c : widthOf net ((ords net.length).getD (k + 1) []) < widthOf net (bestTo net (ords net.length) (k + 1))
    · rw [if_pos (.inr c)]; exact ⟨hO, by omega⟩
    · rw [if_neg fun d => d.elim hl c]; exact ⟨g1, by omega⟩
theorem best_use {net : List Int} (hN : NetOk net) : OrdOk net (best net) ∧ widthOf net (best net) = wdt net (ords net.length).length := by
  have e : best net = bestTo net (ords net.length) (ords net.length).length := if_pos hN
  rw [e]
  exact bestTo_use hN _ (ords_some hN) (Nat.le_refl _)

end Go.Abs
