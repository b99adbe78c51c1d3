/- The search for harmonious rows, place by place. Own work; no condition. -/
import Derived.Test.YtedainddipahaaaHarm1
import Derived.Test.YtedainddipahaaaGrace3
set_option maxRecDepth 100000
set_option linter.unusedSimpArgs false
set_option linter.unusedVariables false
namespace Go.Abs
open Go.Proofs
attribute [local irreducible] awp awpOps awpKeep KeepK awpKeepF KeepF aloop ALoop ACalls ACallq AQuiet retPost retPostA AExit.thn AExit.blk aApp aSt aStA

/-- What a wire's sum leaves. -/
def rs (q : Nat) (x y : Int) : Nat := ((x + y) % (q : Int)).toNat
/-- No two wires of the first places leave the same. -/
def DDH (net : List Int) (q : Nat) (row : List Int) : Prop := ∀ a b c d, a < b → b < row.length → c < d → d < row.length → bit ((net.getD b 0)) a = true → bit ((net.getD d 0)) c = true → rs q ((row.getD a 0)) ((row.getD b 0)) = rs q ((row.getD c 0)) ((row.getD d 0)) → a = c ∧ b = d
def CameH (net : List Int) (q : Nat) (row : List Int) (came : Nat) : Prop := ∀ v : Nat, came.testBit v = true ↔ ∃ a b, a < b ∧ b < row.length ∧ bit ((net.getD b 0)) a = true ∧ rs q ((row.getD a 0)) ((row.getD b 0)) = v

/-- What has come, and whether it fits, behind the first k places. -/
def runH (net : List Int) (q : Nat) (row : List Int) (n : Int) (came : Nat) (ok : Bool) : Nat → Nat × Bool
  | 0 => (came, ok)
  | k + 1 => if bit ((net.getD row.length 0)) k = true then ((runH net q row n came ok k).1 ||| 2 ^ rs q ((row.getD k 0)) n, (runH net q row n came ok k).2 && !((runH net q row n came ok k).1.testBit (rs q ((row.getD k 0)) n))) else runH net q row n came ok k

theorem runH_came (net : List Int) (q : Nat) (row : List Int) (n : Int) (came : Nat) (ok : Bool) (v : Nat) : ∀ k, (runH net q row n came ok k).1.testBit v = true ↔ came.testBit v = true ∨ ∃ i, i < k ∧ bit ((net.getD row.length 0)) i = true ∧ rs q ((row.getD i 0)) n = v
  | 0 => ⟨.inl, fun h => h.elim id fun ⟨i, hi, _⟩ => absurd hi (Nat.not_lt_zero _)⟩
  | k + 1 => by
    have ih := runH_came net q row n came ok v k
    rw [runH]
    by_cases hb : bit ((net.getD row.length 0)) k = true
    · rw [if_pos hb]
      simp only
      rw [Nat.testBit_or, Bool.or_eq_true, Nat.testBit_two_pow, decide_eq_true_eq, ih]
      constructor
      · rintro ((h | ⟨i, h1, h2, h3⟩) | h)
        · exact .inl h
        · exact .inr ⟨i, by omega, h2, h3⟩
        · exact .inr ⟨k, Nat.lt_succ_self _, hb, h⟩
      · rintro (h | ⟨i, h1, h2, h3⟩)
        · exact .inl (.inl h)
        · rcases Nat.lt_succ_iff_lt_or_eq.1 h1 with c | rfl
          · exact .inl (.inr ⟨i, c, h2, h3⟩)
          · exact .inr h3
    · rw [if_neg hb, ih]
      constructor
      · rintro (h | ⟨i, h1, h2, h3⟩)
        · exact .inl h
        · exact .inr ⟨i, by omega, h2, h3⟩
      · rintro (h | ⟨i, h1, h2, h3⟩)
        · exact .inl h
        · rcases Nat.lt_succ_iff_lt_or_eq.1 h1 with c | rfl
          · exact .inr ⟨i, c, h2, h3⟩
          · exact absurd h2 hb
theorem runH_ok (net : List Int) (q : Nat) (row : List Int) (n : Int) (came : Nat) (ok : Bool) : ∀ k, (runH net q row n came ok k).2 = true ↔ ok = true ∧ ∀ i, i < k → bit ((net.getD row.length 0)) i = true → came.testBit (rs q ((row.getD i 0)) n) = false ∧ ∀ j, j < i → bit ((net.getD row.length 0)) j = true → rs q ((row.getD j 0)) n ≠ rs q ((row.getD i 0)) n
  | 0 => ⟨fun h => ⟨h, fun i hi => absurd hi (Nat.not_lt_zero _)⟩, fun h => h.1⟩
  | k + 1 => by
    have ih := runH_ok net q row n came ok k
    rw [runH]
    by_cases hb : bit ((net.getD row.length 0)) k = true
    · rw [if_pos hb]
      simp only
      rw [Bool.and_eq_true, ih, Bool.not_eq_true', Bool.eq_false_iff, Ne, runH_came]
      constructor
      · rintro ⟨⟨h1, h2⟩, h3⟩
        refine ⟨h1, fun i hi hbi => ?_⟩
        rcases Nat.lt_succ_iff_lt_or_eq.1 hi with c | rfl
        · exact h2 i c hbi
        · exact ⟨Bool.eq_false_iff.2 fun c => h3 (.inl c), fun j hj hbj e => h3 (.inr ⟨j, hj, hbj, e⟩)⟩
      · rintro ⟨h1, h2⟩
        refine ⟨⟨h1, fun i hi hbi => h2 i (by omega) hbi⟩, ?_⟩
        obtain ⟨g1, g2⟩ := h2 k (Nat.lt_succ_self _) hb
        rintro (c | ⟨i, e1, e2, e3⟩)
        · rw [g1] at c; cases c
        · exact g2 i e1 e2 e3
    · rw [if_neg hb, ih]
      constructor
      · rintro ⟨h1, h2⟩
        refine ⟨h1, fun i hi hbi => ?_⟩
        rcases Nat.lt_succ_iff_lt_or_eq.1 hi with c | rfl
        · exact h2 i c hbi
        · exact absurd hbi hb
      · rintro ⟨h1, h2⟩
        exact ⟨h1, fun i hi hbi => h2 i (by omega) hbi⟩

structure WayH (net : List Int) (q : Nat) (row : List Int) (came : Nat) : Prop where
  low : ∀ i, i < row.length → 0 ≤ (row.getD i 0) ∧ (row.getD i 0) ≤ (q : Int) - 1
  dd : DDH net q row
  came : CameH net q row came
theorem WayH.push {net : List Int} {q : Nat} {row : List Int} {came : Nat} {n : Int} {ok : Bool} (h : WayH net q row came) (hn : 0 ≤ n ∧ n ≤ (q : Int) - 1) (hf : (runH net q row n came ok row.length).2 = true) : WayH net q (row ++ [n]) (runH net q row n came ok row.length).1 := by
  obtain ⟨_, p2⟩ := (runH_ok net q row n came ok row.length).1 hf
  have hl : (row ++ [n]).length = row.length + 1 := by simp
  refine ⟨fun i hi => ?_, fun a b c' d hab hb hcd hd wb wd he => ?_, fun v => ?_⟩
  · rw [hl] at hi
    rcases Nat.lt_succ_iff_lt_or_eq.1 hi with e | rfl
    · rw [push_l _ _ e]; exact h.low i e
    · rw [push_at]; exact hn
  · rw [hl] at hb hd
    rcases Nat.lt_succ_iff_lt_or_eq.1 hb with eb | rfl
    · rw [push_l _ _ (by omega : a < row.length), push_l _ _ eb] at he
      rcases Nat.lt_succ_iff_lt_or_eq.1 hd with ed | rfl
      · rw [push_l _ _ (by omega : c' < row.length), push_l _ _ ed] at he
        exact h.dd a b c' d hab eb hcd ed wb wd he
      · rw [push_l _ _ hcd, push_at] at he
        have := (p2 c' hcd wd).1
        rw [(h.came _).2 ⟨a, b, hab, eb, wb, he⟩] at this
        cases this
    · rw [push_l _ _ hab, push_at] at he
      rcases Nat.lt_succ_iff_lt_or_eq.1 hd with ed | rfl
      · rw [push_l _ _ (by omega : c' < row.length), push_l _ _ ed] at he
        have := (p2 a hab wb).1
        rw [(h.came _).2 ⟨c', d, hcd, ed, wd, he.symm⟩] at this
        cases this
      · rw [push_l _ _ hcd, push_at] at he
        refine ⟨?_, rfl⟩
        rcases Nat.lt_trichotomy a c' with e | e | e
        · exact absurd he ((p2 c' hcd wd).2 a e wb)
        · exact e
        · exact absurd he.symm ((p2 a hab wb).2 c' e wd)
  · rw [runH_came, h.came v]
    constructor
    · rintro (⟨a, b, h1, h2, h3, h4⟩ | ⟨i, h1, h2, h3⟩)
      · exact ⟨a, b, h1, by omega, h3, by rw [push_l _ _ (by omega), push_l _ _ h2]; exact h4⟩
      · exact ⟨i, row.length, h1, by omega, h2, by rw [push_l _ _ h1, push_at]; exact h3⟩
    · rintro ⟨a, b, h1, h2, h3, h4⟩
      rw [hl] at h2
      rcases Nat.lt_succ_iff_lt_or_eq.1 h2 with e | rfl
      · rw [push_l _ _ (by omega), push_l _ _ e] at h4
        exact .inl ⟨a, b, h1, e, h3, h4⟩
      · rw [push_l _ _ h1, push_at] at h4
        exact .inr ⟨a, h1, h3, h4⟩

theorem WayH.none {net : List Int} {q : Nat} {row t : List Int} {came : Nat} {n : Int} {ok : Bool} (h : WayH net q row came) (hok : ok = true) (hf : ¬ (runH net q row n came ok row.length).2 = true) : ¬ DDH net q (row ++ n :: t) := by
  intro hd
  refine hf ((runH_ok net q row n came ok row.length).2 ⟨hok, fun i h1 h2 => ?_⟩)
  have hl : row.length < (row ++ n :: t).length := by simp
  have gl : ∀ i, i < row.length → (row ++ n :: t).getD i 0 = (row.getD i 0) := fun i hi => getI_app_l hi
  have ga : (row ++ n :: t).getD row.length 0 = n := getI_app_at row n t
  refine ⟨Bool.eq_false_iff.2 fun h3 => ?_, fun j g1 g2 g3 => ?_⟩
  · obtain ⟨a, b, k1, k2, k3, k4⟩ := (h.came _).1 h3
    have := hd a b i row.length k1 (by omega) h1 hl k3 h2 (by rw [gl a (by omega), gl b k2, gl i h1, ga]; exact k4)
    omega
  · have := hd j row.length i row.length (by omega) hl h1 hl g2 h2 (by rw [gl j (by omega), gl i h1, ga]; exact g3)
    omega

end Go.Abs
