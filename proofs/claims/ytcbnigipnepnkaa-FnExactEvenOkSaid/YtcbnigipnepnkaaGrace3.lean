/- The search for graceful rows, place by place. Own work; no condition. -/
import Derived.Test.YtcbnigipnepnkaaGrace2
set_option maxRecDepth 100000
set_option linter.unusedSimpArgs false
set_option linter.unusedVariables false
namespace Go.Abs
open Go.Proofs
attribute [local irreducible] awp awpOps aloop ALoop ACalls ACallq AQuiet retPost retPostA AExit.thn AExit.blk aApp aSt aStA

/-- Does the number n fit behind a row? The differences that came then. -/
def fitsTo (net row : List Int) (n : Int) (came : Nat) : Nat → Option Nat
  | 0 => some came
  | k + 1 => match fitsTo net row n came k with
    | none => none
    | some c => if (row.getD k 0) = n then none else if bit ((net.getD row.length 0)) k = true then (if c.testBit (dist ((row.getD k 0)) n).toNat = true then none else some (c ||| 2 ^ (dist ((row.getD k 0)) n).toNat)) else some c
def search (net : List Int) (most : Nat) : Nat → List Int → Nat → List (List Int)
  | 0, row, _ => [row]
  | rem + 1, row, came => (List.range (most + 1)).flatMap fun n : Nat => match fitsTo net row (n : Int) came row.length with
    | none => []
    | some c => search net most rem (row ++ [(n : Int)]) c

theorem dist_nat (a b : Int) : (((dist a b).toNat : Nat) : Int) = dist a b := by unfold dist; split <;> omega
theorem dist_toNat {a b c d : Int} : (dist a b).toNat = (dist c d).toNat ↔ dist a b = dist c d := by
  have h1 := dist_nat a b
  have h2 := dist_nat c d
  constructor
  · intro h; rw [← h1, ← h2, h]
  · intro h; rw [h]

theorem fits_some {net row : List Int} {n : Int} {came : Nat} : ∀ {k c : Nat}, fitsTo net row n came k = some c →
    (∀ i, i < k → (row.getD i 0) ≠ n) ∧ (∀ i, i < k → bit ((net.getD row.length 0)) i = true → came.testBit (dist ((row.getD i 0)) n).toNat = false ∧ ∀ j, j < i → bit ((net.getD row.length 0)) j = true → dist ((row.getD j 0)) n ≠ dist ((row.getD i 0)) n) ∧
    ∀ v, c.testBit v = true ↔ came.testBit v = true ∨ ∃ i, i < k ∧ bit ((net.getD row.length 0)) i = true ∧ (dist ((row.getD i 0)) n).toNat = v
  | 0, c, h => by
    cases h
    exact ⟨fun i hi => absurd hi (Nat.not_lt_zero _), fun i hi => absurd hi (Nat.not_lt_zero _), fun v => ⟨.inl, fun h => h.elim id fun ⟨i, hi, _⟩ => absurd hi (Nat.not_lt_zero _)⟩⟩
  | k + 1, c, h => by
    rw [fitsTo] at h
    cases hk : fitsTo net row n came k with
    | none => rw [hk] at h; cases h
    | some c0 =>
      rw [hk] at h
      simp only at h
      obtain ⟨p1, p2, p3⟩ := fits_some hk
      by_cases he : (row.getD k 0) = n
      · rw [if_pos he] at h; cases h
      · rw [if_neg he] at h
        have q1 : ∀ i, i < k + 1 → (row.getD i 0) ≠ n := fun i hi => by
          rcases Nat.lt_succ_iff_lt_or_eq.1 hi with c | rfl
          · exact p1 i c
          · exact he
        by_cases hb : bit ((net.getD row.length 0)) k = true
        · rw [if_pos hb] at h
          by_cases ht : c0.testBit (dist ((row.getD k 0)) n).toNat = true
          · rw [if_pos ht] at h; cases h
          · rw [if_neg ht] at h
            cases h
            refine ⟨q1, fun i hi hbi => ?_, fun v => ?_⟩
            · rcases Nat.lt_succ_iff_lt_or_eq.1 hi with c | rfl
              · exact p2 i c hbi
              · refine ⟨Bool.eq_false_iff.2 fun c => ht ((p3 _).2 (.inl c)), fun j hj hbj e => ht ((p3 _).2 (.inr ⟨j, hj, hbj, dist_toNat.2 e⟩))⟩
            · rw [Nat.testBit_or, Bool.or_eq_true, Nat.testBit_two_pow, decide_eq_true_eq, p3]
              constructor
              · rintro ((h | ⟨i, h1, h2, h3⟩) | h)
                · exact .inl h
                · exact .inr ⟨i, by omega, h2, h3⟩
                · exact .inr ⟨k, Nat.lt_succ_self _, hb, h⟩
              · rintro (h | ⟨i, h1, h2, h3⟩)
                · exact .inl (.inl h)
                · rcases Nat.lt_succ_iff_lt_or_eq.1 h1 with c | rfl
                  · exact .inl (.inr ⟨i, c, h2, h3⟩)
                  · exact .inr h3
        · rw [if_neg hb] at h
          cases h
          refine ⟨q1, fun i hi hbi => ?_, fun v => ?_⟩
          · rcases Nat.lt_succ_iff_lt_or_eq.1 hi with c | rfl
            · exact p2 i c hbi
            · exact absurd hbi hb
          · rw [p3]
            constructor
            · rintro (h | ⟨i, h1, h2, h3⟩)
              · exact .inl h
              · exact .inr ⟨i, by omega, h2, h3⟩
            · rintro (h | ⟨i, h1, h2, h3⟩)
              · exact .inl h
              · rcases Nat.lt_succ_iff_lt_or_eq.1 h1 with c | rfl
                · exact .inr ⟨i, c, h2, h3⟩
                · exact absurd h2 hb

theorem fits_none {net row : List Int} {n : Int} {came : Nat} : ∀ {k : Nat}, fitsTo net row n came k = none →
    (∃ i, i < k ∧ (row.getD i 0) = n) ∨ ∃ i, i < k ∧ bit ((net.getD row.length 0)) i = true ∧ (came.testBit (dist ((row.getD i 0)) n).toNat = true ∨ ∃ j, j < i ∧ bit ((net.getD row.length 0)) j = true ∧ dist ((row.getD j 0)) n = dist ((row.getD i 0)) n)
  | 0, h => by cases h
  | k + 1, h => by
    rw [fitsTo] at h
    cases hk : fitsTo net row n came k with
    | none =>
      rcases fits_none hk with ⟨i, h1, h2⟩ | ⟨i, h1, h2⟩
      · exact .inl ⟨i, by omega, h2⟩
      · exact .inr ⟨i, by omega, h2⟩
    | some c0 =>
      rw [hk] at h
      simp only at h
      obtain ⟨p1, p2, p3⟩ := fits_some hk
      by_cases he : (row.getD k 0) = n
      · exact .inl ⟨k, Nat.lt_succ_self _, he⟩
      · rw [if_neg he] at h
        by_cases hb : bit ((net.getD row.length 0)) k = true
        · rw [if_pos hb] at h
          by_cases ht : c0.testBit (dist ((row.getD k 0)) n).toNat = true
          · refine .inr ⟨k, Nat.lt_succ_self _, hb, ?_⟩
            rcases (p3 _).1 ht with c | ⟨j, h1, h2, h3⟩
            · exact .inl c
            · exact .inr ⟨j, h1, h2, dist_toNat.1 h3⟩
          · rw [if_neg ht] at h; cases h
        · rw [if_neg hb] at h; cases h

/-- What holds of a row on the way. -/
structure Way (net : List Int) (most : Nat) (row : List Int) (came : Nat) : Prop where
  low : ∀ i, i < row.length → 0 ≤ (row.getD i 0) ∧ (row.getD i 0) ≤ (most : Int)
  once : Once row
  dd : DD net row
  came : Came net row came

theorem way_nil (net : List Int) (most : Nat) : Way net most [] 0 :=
  ⟨fun i hi => absurd hi (Nat.not_lt_zero _), fun i hi => absurd hi (Nat.not_lt_zero _), fun a b c d _ hb => absurd hb (Nat.not_lt_zero _), fun v => by
    rw [Nat.zero_testBit]
    exact ⟨fun h => Bool.noConfusion h, fun ⟨a, b, _, hb, _⟩ => absurd hb (Nat.not_lt_zero _)⟩⟩

theorem push_l (row : List Int) (n : Int) {i : Nat} (h : i < row.length) : (row ++ [n]).getD i 0 = (row.getD i 0) := getI_app_l h
theorem push_at (row : List Int) (n : Int) : (row ++ [n]).getD row.length 0 = n := getI_app_at row n []

theorem Way.push {net : List Int} {most : Nat} {row : List Int} {came c : Nat} {n : Int} (h : Way net most row came) (hn : 0 ≤ n ∧ n ≤ (most : Int)) (hf : fitsTo net row n came row.length = some c) : Way net most (row ++ [n]) c := by
  obtain ⟨p1, p2, p3⟩ := fits_some hf
  have hl : (row ++ [n]).length = row.length + 1 := by simp
  refine ⟨fun i hi => ?_, fun i hi j hj => ?_, fun a b c' d hab hb hcd hd wb wd he => ?_, fun v => ?_⟩
  · rw [hl] at hi
    rcases Nat.lt_succ_iff_lt_or_eq.1 hi with e | rfl
    · rw [push_l _ _ e]; exact h.low i e
    · rw [push_at]; exact hn
  · rw [hl] at hi
    rcases Nat.lt_succ_iff_lt_or_eq.1 hi with e | rfl
    · rw [push_l _ _ e, push_l _ _ (by omega)]; exact h.once i e j hj
    · rw [push_at, push_l _ _ hj]; exact p1 j hj
  · rw [hl] at hb hd
    rcases Nat.lt_succ_iff_lt_or_eq.1 hb with eb | rfl
    · rw [push_l _ _ (by omega : a < row.length), push_l _ _ eb] at he
      rcases Nat.lt_succ_iff_lt_or_eq.1 hd with ed | rfl
      · rw [push_l _ _ (by omega : c' < row.length), push_l _ _ ed] at he
        exact h.dd a b c' d hab eb hcd ed wb wd he
      · rw [push_l _ _ hcd, push_at] at he
        have := (p2 c' hcd wd).1
        rw [(h.came _).2 ⟨a, b, hab, eb, wb, by rw [he, dist_nat]⟩] at this
        cases this
    · rw [push_l _ _ hab, push_at] at he
      rcases Nat.lt_succ_iff_lt_or_eq.1 hd with ed | rfl
      · rw [push_l _ _ (by omega : c' < row.length), push_l _ _ ed] at he
        have := (p2 a hab wb).1
        rw [(h.came _).2 ⟨c', d, hcd, ed, wd, by rw [← he, dist_nat]⟩] at this
        cases this
      · rw [push_l _ _ hcd, push_at] at he
        refine ⟨?_, rfl⟩
        rcases Nat.lt_trichotomy a c' with e | e | e
        · exact absurd he ((p2 c' hcd wd).2 a e wb)
        · exact e
        · exact absurd he.symm ((p2 a hab wb).2 c' e wd)
  · rw [p3, h.came v]
    constructor
    · rintro (⟨a, b, h1, h2, h3, h4⟩ | ⟨i, h1, h2, h3⟩)
      · exact ⟨a, b, h1, by omega, h3, by rw [push_l _ _ (by omega), push_l _ _ h2]; exact h4⟩
      · exact ⟨i, row.length, h1, by omega, h2, by rw [push_l _ _ h1, push_at, ← h3, dist_nat]⟩
    · rintro ⟨a, b, h1, h2, h3, h4⟩
      rw [hl] at h2
      rcases Nat.lt_succ_iff_lt_or_eq.1 h2 with e | rfl
      · rw [push_l _ _ (by omega), push_l _ _ e] at h4
        exact .inl ⟨a, b, h1, e, h3, h4⟩
      · rw [push_l _ _ h1, push_at] at h4
        exact .inr ⟨a, h1, h3, by rw [h4]; simp⟩

/-- What does not fit has no graceful row behind it. -/
theorem Way.none {net : List Int} {most : Nat} {row t : List Int} {came : Nat} {n : Int} (h : Way net most row came) (hf : fitsTo net row n came row.length = none) : ¬ (Once (row ++ n :: t) ∧ DD net (row ++ n :: t)) := by
  rintro ⟨ho, hd⟩
  have hl : row.length < (row ++ n :: t).length := by simp
  have gl : ∀ i, i < row.length → (row ++ n :: t).getD i 0 = (row.getD i 0) := fun i hi => getI_app_l hi
  have ga : (row ++ n :: t).getD row.length 0 = n := getI_app_at row n t
  rcases fits_none hf with ⟨i, h1, h2⟩ | ⟨i, h1, h2, h3 | ⟨j, g1, g2, g3⟩⟩
  · have := ho row.length hl i h1
    rw [gl i h1, ga] at this
    exact this h2
  · obtain ⟨a, b, k1, k2, k3, k4⟩ := (h.came _).1 h3
    rw [dist_nat] at k4
    have := hd a b i row.length k1 (by omega) h1 hl k3 h2 (by rw [gl a (by omega), gl b k2, gl i h1, ga]; exact k4)
    omega
  · have := hd j row.length i row.length (by omega) hl h1 hl g2 h2 (by rw [gl j (by omega), gl i h1, ga]; exact g3)
    omega

theorem flatMap_eq {α β : Type} {f g : α → List β} : ∀ {l : List α}, (∀ x ∈ l, f x = g x) → l.flatMap f = l.flatMap g
  | [], _ => rfl
  | a :: l, h => by rw [List.flatMap_cons, List.flatMap_cons, h a (by simp), flatMap_eq fun x hx => h x (by simp [hx])]
theorem filter_flat {α β : Type} (p : β → Bool) (f : α → List β) : ∀ l : List α, (l.flatMap f).filter p = l.flatMap fun x => (f x).filter p
  | [] => rfl
  | a :: l => by rw [List.flatMap_cons, List.flatMap_cons, List.filter_append, filter_flat p f l]

theorem grace_dd {net row : List Int} (hN : NetOk net) (hl : row.length = net.length) (hlow : ∀ i, i < row.length → 0 ≤ (row.getD i 0) ∧ (row.getD i 0) ≤ (qOf net : Int)) : Grace net row ↔ Once row ∧ DD net row := by
  have hI : RowIn (qOf net) net row := ⟨hN, hl, hlow⟩
  have hR := rowIn_30 (by have := qOf_le hN; omega) hI
  constructor
  · intro h; exact ⟨h.once, (once_diffs_iff hR).1 h.diff⟩
  · rintro ⟨h1, h2⟩; exact ⟨hN, hI, h1, (once_diffs_iff hR).2 h2⟩

theorem search_eq {net : List Int} (hN : NetOk net) : ∀ (rem : Nat) (row : List Int) (came : Nat), Way net (qOf net) row came → row.length + rem = net.length → search net (qOf net) rem row came = (extRows (qOf net) rem row).filter fun r => decide (Grace net r)
  | 0, row, came, h, hl => by
    rw [search, extRows]
    have : Grace net row := (grace_dd hN (by omega) h.low).2 ⟨h.once, h.dd⟩
    simp [this]
  | rem + 1, row, came, h, hl => by
    rw [search, extRows, filter_flat]
    refine flatMap_eq fun n hn => ?_
    have hn' := List.mem_range.1 hn
    cases hf : fitsTo net row (n : Int) came row.length with
    | some c =>
      simp only
      exact search_eq hN rem _ c (h.push (by omega) hf) (by rw [List.length_append, List.length_cons, List.length_nil]; omega)
    | none =>
      simp only
      symm
      rw [List.filter_eq_nil_iff]
      intro x hx hg
      obtain ⟨t, rfl, h1, h2⟩ := mem_extRows.1 hx
      have hG : Grace net (row ++ [(n : Int)] ++ t) := of_decide_eq_true hg
      refine h.none (t := t) hf ?_
      have e : row ++ [(n : Int)] ++ t = row ++ (n : Int) :: t := by simp
      rw [e] at hG
      exact (grace_dd hN hG.low.len hG.low.low).1 hG

theorem graceRows_search {net : List Int} (hN : NetOk net) : graceRows net = search net (qOf net) net.length [] 0 := by
  rw [graceRows, if_pos hN, search_eq hN _ _ _ (way_nil net _) (by simp)]

end Go.Abs
