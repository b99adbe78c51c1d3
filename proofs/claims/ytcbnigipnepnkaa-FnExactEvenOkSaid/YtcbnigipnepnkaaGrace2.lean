/- All graceful rows of a net, in their order; how a search that leaves out what does not fit finds them. Own work; no condition. -/
import Derived.Test.YtcbnigipnepnkaaGrace1
set_option maxRecDepth 100000
set_option linter.unusedSimpArgs false
set_option linter.unusedVariables false
namespace Go.Abs
open Go.Proofs
attribute [local irreducible] awp awpOps aloop ALoop ACalls ACallq AQuiet retPost retPostA AExit.thn AExit.blk aApp aSt aStA

/-- All rows that begin with a row, by numbers in 0..most. -/
def extRows (most : Nat) : Nat → List Int → List (List Int)
  | 0, row => [row]
  | rem + 1, row => (List.range (most + 1)).flatMap fun n : Nat => extRows most rem (row ++ [(n : Int)])
theorem mem_extRows {most : Nat} {x : List Int} : ∀ {rem : Nat} {row : List Int}, x ∈ extRows most rem row ↔ ∃ t, x = row ++ t ∧ t.length = rem ∧ ∀ z ∈ t, 0 ≤ z ∧ z ≤ (most : Int)
  | 0, row => by
    rw [extRows, List.mem_singleton]
    constructor
    · rintro rfl; exact ⟨[], by simp, rfl, by simp⟩
    · rintro ⟨t, rfl, h, _⟩; rw [List.eq_nil_of_length_eq_zero h, List.append_nil]
  | rem + 1, row => by
    rw [extRows, List.mem_flatMap]
    constructor
    · rintro ⟨n, hn, hx⟩
      obtain ⟨t, rfl, h1, h2⟩ := mem_extRows.1 hx
      have := List.mem_range.1 hn
      refine ⟨(n : Int) :: t, by simp, by simp [h1], fun z hz => ?_⟩
      rcases List.mem_cons.1 hz with rfl | hz
      · omega
      · exact h2 z hz
    · rintro ⟨t, rfl, h1, h2⟩
      cases t with
      | nil => cases h1
      | cons a t =>
        have ha := h2 a (by simp)
        refine ⟨a.toNat, List.mem_range.2 (by omega), mem_extRows.2 ⟨t, ?_, by simpa using h1, fun z hz => h2 z (by simp [hz])⟩⟩
        rw [Int.toNat_of_nonneg ha.1]; simp

/-- All graceful rows of a net. -/
def graceRows (net : List Int) : List (List Int) := if NetOk net then (extRows (qOf net) net.length []).filter (fun row => decide (Grace net row)) else []
theorem mem_graceRows {net row : List Int} : row ∈ graceRows net ↔ Grace net row := by
  unfold graceRows
  by_cases hN : NetOk net
  · rw [if_pos hN, List.mem_filter, mem_extRows]
    constructor
    · rintro ⟨_, h⟩; exact of_decide_eq_true h
    · intro h
      refine ⟨⟨row, rfl, h.low.len, fun z hz => ?_⟩, decide_eq_true h⟩
      obtain ⟨i, hi, rfl⟩ := mem_getI hz
      exact h.low.low i hi
  · rw [if_neg hN]
    exact ⟨fun h => absurd h List.not_mem_nil, fun h => absurd h.ok hN⟩

/-! ### Their order -/

def RowLt (a b : List Int) : Prop := ∃ k, k < a.length ∧ k < b.length ∧ (∀ i, i < k → (a.getD i 0) = (b.getD i 0)) ∧ (a.getD k 0) < (b.getD k 0)
theorem getI_app_l {a t : List Int} {i : Nat} (h : i < a.length) : (a ++ t).getD i 0 = (a.getD i 0) := by
  simp only [List.getD_eq_getElem?_getD, List.getElem?_append_left h]
theorem getI_app_at (a : List Int) (z : Int) (t : List Int) : (a ++ z :: t).getD a.length 0 = z := by
  simp [List.getD_eq_getElem?_getD]

theorem ext_sorted (most : Nat) : ∀ (rem : Nat) (row : List Int), (extRows most rem row).Pairwise RowLt
  | 0, row => by simp [extRows]
  | rem + 1, row => by
    rw [extRows]
    have key : ∀ (L : List Nat), L.Pairwise (· < ·) → (L.flatMap fun n : Nat => extRows most rem (row ++ [(n : Int)])).Pairwise RowLt := by
      intro L
      induction L with
      | nil => intro _; simp
      | cons n L ih =>
        intro hL
        rw [List.pairwise_cons] at hL
        rw [List.flatMap_cons, List.pairwise_append]
        refine ⟨ext_sorted most rem _, ih hL.2, fun x hx y hy => ?_⟩
        obtain ⟨m, hm, hy⟩ := List.mem_flatMap.1 hy
        obtain ⟨t, rfl, _⟩ := mem_extRows.1 hx
        obtain ⟨u, rfl, _⟩ := mem_extRows.1 hy
        have hlt := hL.1 m hm
        simp only [List.append_assoc, List.singleton_append]
        refine ⟨row.length, by simp, by simp, fun i hi => ?_, ?_⟩
        · rw [getI_app_l hi, getI_app_l hi]
        · rw [getI_app_at, getI_app_at]; omega
    exact key _ List.pairwise_lt_range

theorem graceRows_sorted (net : List Int) : (graceRows net).Pairwise RowLt := by
  unfold graceRows
  split
  · exact (ext_sorted _ _ _).filter _
  · exact List.Pairwise.nil
theorem rowLt_irrefl (a : List Int) : ¬ RowLt a a := fun ⟨k, _, _, _, h⟩ => Int.lt_irrefl _ h
theorem graceRows_nodup (net : List Int) : (graceRows net).Nodup := (graceRows_sorted net).imp fun h e => by subst e; exact rowLt_irrefl _ h

/-- A map that turns all, moves each, and comes back, pairs them up. -/
theorem even_of_pairs {α : Type} [DecidableEq α] (f : α → α) : ∀ (n : Nat) (l : List α), l.length ≤ n → l.Nodup → (∀ x ∈ l, f x ∈ l ∧ f x ≠ x ∧ f (f x) = x) → l.length % 2 = 0
  | _, [], _, _, _ => rfl
  | 0, _ :: _, h, _, _ => absurd h (by simp)
  | n + 1, a :: l, h, hn, hf => by
    obtain ⟨f1, f2, f3⟩ := hf a (by simp)
    have hn' := List.nodup_cons.1 hn
    have hm : f a ∈ l := by
      rcases List.mem_cons.1 f1 with e | e
      · exact absurd e f2
      · exact e
    have hp := List.perm_cons_erase hm
    have hne := List.nodup_cons.1 (hp.nodup_iff.1 hn'.2)
    have ih := even_of_pairs f n (l.erase (f a)) (by rw [List.length_erase_of_mem hm]; simp at h; omega) hne.2 fun x hx => by
      have hxl := List.mem_of_mem_erase hx
      obtain ⟨g1, g2, g3⟩ := hf x (by simp [hxl])
      have x1 : x ≠ a := fun e => hn'.1 (e ▸ hxl)
      have x2 : x ≠ f a := fun e => hne.1 (e ▸ hx)
      refine ⟨?_, g2, g3⟩
      rcases List.mem_cons.1 g1 with e | e
      · exact absurd (by rw [← e, g3] : x = f a) x2
      · refine (List.mem_erase_of_ne fun e2 => ?_).2 e
        apply x1
        rw [← g3, e2, f3]
    have hl := hp.length_eq
    simp only [List.length_cons] at hl ⊢
    omega

theorem grace_even {net : List Int} (hq : 0 < qOf net) : (graceRows net).length % 2 = 0 := by
  refine even_of_pairs (turnG net) _ _ (Nat.le_refl _) (graceRows_nodup net) fun x hx => ?_
  have h := mem_graceRows.1 hx
  refine ⟨mem_graceRows.2 h.turn, fun e => ?_, turnG_turnG _ _⟩
  obtain ⟨m0, m1⟩ := h.ends hq
  obtain ⟨i, hi, e0⟩ := mem_getI m0
  obtain ⟨j, hj, e1⟩ := mem_getI m1
  have ei : ((turnG net x).getD i 0) = (qOf net : Int) - (x.getD i 0) := map_get _ hi
  have ej : ((turnG net x).getD j 0) = (qOf net : Int) - (x.getD j 0) := map_get _ hj
  rw [e] at ei ej
  omega

theorem turn_rowLt {net a b : List Int} (h : RowLt a b) : RowLt (turnG net b) (turnG net a) := by
  obtain ⟨k, h1, h2, h3, h4⟩ := h
  refine ⟨k, by simp only [turnG, List.length_map]; exact h2, by simp only [turnG, List.length_map]; exact h1, fun i hi => ?_, ?_⟩
  · rw [turnG, turnG, map_get _ (by omega), map_get _ (by omega), h3 i hi]
  · rw [turnG, turnG, map_get _ h2, map_get _ h1]; omega

/-- The first one turned is the last one. -/
theorem grace_first_last {net : List Int} (h : 0 < (graceRows net).length) : turnG net ((graceRows net).getD 0 []) = (graceRows net).getD ((graceRows net).length - 1) [] := by
  have hs := List.pairwise_iff_getElem.1 (graceRows_sorted net)
  have e0 : (graceRows net).getD 0 [] = (graceRows net)[0] := by simp [List.getD_eq_getElem?_getD, h]
  have hlt : (graceRows net).length - 1 < (graceRows net).length := by omega
  have e1 : (graceRows net).getD ((graceRows net).length - 1) [] = (graceRows net)[(graceRows net).length - 1] := by simp [List.getD_eq_getElem?_getD, hlt]
  rw [e0, e1]
  have m0 : turnG net (graceRows net)[0] ∈ graceRows net := mem_graceRows.2 (mem_graceRows.1 (List.getElem_mem h)).turn
  have m1 : turnG net (graceRows net)[(graceRows net).length - 1] ∈ graceRows net := mem_graceRows.2 (mem_graceRows.1 (List.getElem_mem hlt)).turn
  obtain ⟨i, hi, ei⟩ := List.getElem_of_mem m0
  obtain ⟨j, hj, ej⟩ := List.getElem_of_mem m1
  by_cases hil : i = (graceRows net).length - 1
  · subst hil; exact ei.symm
  · exfalso
    have l1 := turn_rowLt (net := net) (hs i ((graceRows net).length - 1) hi hlt (by omega))
    rw [ei, turnG_turnG, ← ej] at l1
    rcases Nat.eq_zero_or_pos j with rfl | hj0
    · exact rowLt_irrefl _ l1
    · have l2 := hs 0 j h hj hj0
      obtain ⟨k, a1, a2, a3, a4⟩ := l1
      obtain ⟨k', b1, b2, b3, b4⟩ := l2
      rcases Nat.lt_trichotomy k k' with c | rfl | c
      · have := b3 k c; omega
      · omega
      · have := a3 k' c; omega

/-! ### The search -/

/-- No two wires of the first places have the same difference. -/
def DD (net row : List Int) : Prop := ∀ a b c d, a < b → b < row.length → c < d → d < row.length → bit ((net.getD b 0)) a = true → bit ((net.getD d 0)) c = true → dist ((row.getD a 0)) ((row.getD b 0)) = dist ((row.getD c 0)) ((row.getD d 0)) → a = c ∧ b = d
def Came (net row : List Int) (came : Nat) : Prop := ∀ v : Nat, came.testBit v = true ↔ ∃ a b, a < b ∧ b < row.length ∧ bit ((net.getD b 0)) a = true ∧ dist ((row.getD a 0)) ((row.getD b 0)) = (v : Int)

theorem wire_index {net : List Int} (h : NetOk net) {a b : Nat} (hab : a < b) (hb : b < net.length) (hw : bit ((net.getD a 0)) b = true) : ∃ i, i < (wires net).length ∧ (wires net).getD i [] = [(a : Int), (b : Int)] := by
  have m1 : ∀ j, b < j → [(a : Int), (b : Int)] ∈ wiresIn net a j := fun j => by
    induction j with
    | zero => intro c; omega
    | succ j ih =>
      intro c
      rw [wiresIn]
      by_cases e : b = j
      · subst e; rw [if_pos ⟨hab, hw⟩]; simp
      · have := ih (by omega)
        split
        · exact List.mem_append_left _ this
        · exact this
  have m2 : ∀ k, a < k → [(a : Int), (b : Int)] ∈ wiresTo net k := fun k => by
    induction k with
    | zero => intro c; omega
    | succ k ih =>
      intro c
      rw [wiresTo]
      by_cases e : a = k
      · subst e; exact List.mem_append_right _ (m1 _ hb)
      · exact List.mem_append_left _ (ih (by omega))
  obtain ⟨i, hi, he⟩ := List.getElem_of_mem (m2 net.length (by omega))
  exact ⟨i, hi, by rw [List.getD_eq_getElem?_getD]; show ((wiresTo net net.length)[i]?).getD [] = _; rw [List.getElem?_eq_getElem hi]; exact he⟩
theorem ahead_irrefl (x : List Int) : ¬ Ahead x x := by
  rintro ⟨a, b, c, d, h1, h2, h3⟩
  rw [h1] at h2
  simp only [List.cons.injEq, and_true] at h2
  omega
theorem wires_unlike {net : List Int} {i j : Nat} (hi : i < (wires net).length) (hj : j < i) : (wires net).getD j [] ≠ (wires net).getD i [] := by
  have hi' : i < (wiresTo net net.length).length := hi
  have := List.pairwise_iff_getElem.1 (to_order net net.length) j i (by omega) hi' hj
  intro e
  rw [List.getD_eq_getElem?_getD, List.getD_eq_getElem?_getD] at e
  have e1 : ((wires net)[j]?).getD [] = (wiresTo net net.length)[j]'(by omega) := by
    show ((wiresTo net net.length)[j]?).getD [] = _
    rw [List.getElem?_eq_getElem (by omega)]; rfl
  have e2 : ((wires net)[i]?).getD [] = (wiresTo net net.length)[i]'hi' := by
    show ((wiresTo net net.length)[i]?).getD [] = _
    rw [List.getElem?_eq_getElem hi']; rfl
  rw [e1, e2] at e
  rw [e] at this
  exact ahead_irrefl _ this

theorem once_diffs_iff {net row : List Int} (hR : RowOk net row) : Once (diffs net row) ↔ DD net row := by
  have hN := hR.ok
  have hl := hR.len
  rw [diffs_eq hR]
  constructor
  · intro h a b c d hab hb hcd hd wb wd he
    obtain ⟨i, hi, ei⟩ := wire_index hN hab (by omega) (by rw [hN.sym (by omega) (by omega)]; exact wb)
    obtain ⟨j, hj, ej⟩ := wire_index hN hcd (by omega) (by rw [hN.sym (by omega) (by omega)]; exact wd)
    have e1 := perWire_get dist (row := row) hi ei
    have e2 := perWire_get dist (row := row) hj ej
    rw [← e1, ← e2] at he
    have hij : i = j := by
      rcases Nat.lt_trichotomy i j with c | c | c
      · exact absurd he (h j (by rw [perWire_len]; exact hj) i c)
      · exact c
      · exact absurd he.symm (h i (by rw [perWire_len]; exact hi) j c)
    subst hij
    rw [ei] at ej
    simp only [List.cons.injEq, and_true] at ej
    omega
  · intro h i hi j hj he
    rw [perWire_len] at hi
    obtain ⟨a, b, g1, g2, g3, g4, g5⟩ := wire_at hi
    obtain ⟨c, d, k1, k2, k3, k4, k5⟩ := wire_at (show j < (wires net).length by omega)
    rw [perWire_get _ hi g1, perWire_get _ (show j < (wires net).length by omega) k1] at he
    obtain ⟨rfl, rfl⟩ := h c d a b k3 (by omega) g3 (by omega) (by rw [hN.sym (by omega) (by omega)]; exact k5) (by rw [hN.sym (by omega) (by omega)]; exact g5) he
    have := wires_unlike hi hj
    rw [g1, k1] at this
    exact this rfl

end Go.Abs
