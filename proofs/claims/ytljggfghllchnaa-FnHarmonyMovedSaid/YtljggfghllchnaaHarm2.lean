/- The search for harmonious rows, place by place. Own work; no condition. -/
import Derived.Test.YtljggfghllchnaaHarm1
import Derived.Test.YtljggfghllchnaaGrace3
set_option maxRecDepth 100000
set_option linter.unusedSimpArgs false
set_option linter.unusedVariables false
namespace Go.Abs
open Go.Proofs
attribute [local irreducible] awp awpOps awpKeep KeepK awpKeepF KeepF aloop ALoop ACalls ACallq AQuiet retPost retPostA AExit.thn AExit.blk aApp aSt aStA

/-- What a wire's sum leaves. -/
def rs (q : Nat) (x y : Int) : Nat := ((x + y) % (q : Int)).toNat
theorem rs_lt {q : Nat} (hq : 0 < q) (x y : Int) : rs q x y < q := by
  have h1 := Int.emod_nonneg (x + y) (show (q : Int) ≠ 0 by omega)
  have h2 := Int.emod_lt_of_pos (x + y) (show 0 < (q : Int) by omega)
  unfold rs
  omega
theorem rs_nat {q : Nat} (hq : 0 < q) (x y : Int) : ((rs q x y : Nat) : Int) = (x + y) % (q : Int) := Int.toNat_of_nonneg (Int.emod_nonneg (x + y) (show (q : Int) ≠ 0 by omega))

/-- No two wires of the first places leave the same. -/
def DDH (net : List Int) (q : Nat) (row : List Int) : Prop := ∀ a b c d, a < b → b < row.length → c < d → d < row.length → bit ((net.getD b 0)) a = true → bit ((net.getD d 0)) c = true → rs q ((row.getD a 0)) ((row.getD b 0)) = rs q ((row.getD c 0)) ((row.getD d 0)) → a = c ∧ b = d
def CameH (net : List Int) (q : Nat) (row : List Int) (came : Nat) : Prop := ∀ v : Nat, came.testBit v = true ↔ ∃ a b, a < b ∧ b < row.length ∧ bit ((net.getD b 0)) a = true ∧ rs q ((row.getD a 0)) ((row.getD b 0)) = v

theorem once_resid_iff {net row : List Int} (hN : NetOk net) (hq : 0 < qOf net) (hI : RowIn ((qOf net : Int) - 1) net row) : Once (resid net row) ↔ DDH net (qOf net) row := by
  have hl := hI.len
  have hR := rowIn_30 (by have := qOf_le hN; omega) hI
  have hrl := resid_len hR
  constructor
  · intro h a b c d hab hb hcd hd wb wd he
    obtain ⟨i, hi, ei⟩ := wire_index hN hab (by omega) (by rw [hN.sym (by omega) (by omega)]; exact wb)
    obtain ⟨j, hj, ej⟩ := wire_index hN hcd (by omega) (by rw [hN.sym (by omega) (by omega)]; exact wd)
    have e1 := resid_get hR (i := i) hi ei
    have e2 := resid_get hR (i := j) hj ej
    rw [← rs_nat hq] at e1 e2
    rw [he, ← e2] at e1
    have hij : i = j := by
      rcases Nat.lt_trichotomy i j with c | c | c
      · exact absurd e1 (h j (by rw [hrl]; exact hj) i c)
      · exact c
      · exact absurd e1.symm (h i (by rw [hrl]; exact hi) j c)
    subst hij
    rw [ei] at ej
    simp only [List.cons.injEq, and_true] at ej
    omega
  · intro h i hi j hj he
    rw [hrl] at hi
    obtain ⟨a, b, g1, g2, g3, g4, g5⟩ := wire_at (net := net) (i := i) hi
    obtain ⟨c, d, k1, k2, k3, k4, k5⟩ := wire_at (net := net) (i := j) (show j < (wires net).length from Nat.lt_trans hj hi)
    rw [resid_get hR hi g1, resid_get hR (by omega) k1] at he
    have he2 : rs (qOf net) ((row.getD c 0)) ((row.getD d 0)) = rs (qOf net) ((row.getD a 0)) ((row.getD b 0)) := by unfold rs; rw [he]
    obtain ⟨rfl, rfl⟩ := h c d a b k3 (by omega) g3 (by omega) (by rw [hN.sym (by omega) (by omega)]; exact k5) (by rw [hN.sym (by omega) (by omega)]; exact g5) he2
    have := wires_unlike (net := net) (i := i) (j := j) hi hj
    rw [g1, k1] at this
    exact this rfl
theorem harm_dd {net row : List Int} (hN : NetOk net) (hq : 0 < qOf net) (hl : row.length = net.length) (hlow : ∀ i, i < row.length → 0 ≤ (row.getD i 0) ∧ (row.getD i 0) ≤ (qOf net : Int) - 1) : Harm net row ↔ twice row = mayT net ∧ DDH net (qOf net) row := by
  have hI : RowIn ((qOf net : Int) - 1) net row := ⟨hN, hl, hlow⟩
  constructor
  · intro h; exact ⟨h.may, (once_resid_iff hN hq hI).1 h.res⟩
  · rintro ⟨h1, h2⟩; exact ⟨hN, hq, hI, h1, (once_resid_iff hN hq hI).2 h2⟩

/-- What has come, and whether it fits, behind the first k places. -/
def runH (net : List Int) (q : Nat) (row : List Int) (n : Int) (came : Nat) (ok : Bool) : Nat → Nat × Bool
  | 0 => (came, ok)
  | k + 1 => if bit ((net.getD row.length 0)) k = true then ((runH net q row n came ok k).1 ||| 2 ^ rs q ((row.getD k 0)) n, (runH net q row n came ok k).2 && !((runH net q row n came ok k).1.testBit (rs q ((row.getD k 0)) n))) else runH net q row n came ok k

theorem runH_came (net : List Int) (q : Nat) (row : List Int) (n : Int) (came : Nat) (ok : Bool) (v : Nat) : ∀ k, (runH net q row n came ok k).1.testBit v = true ↔ came.testBit v = true ∨ ∃ i, i < k ∧ bit ((net.getD row.length 0)) i = true ∧ rs q ((row.getD i 0)) n = v
  | 0 => ⟨.inl, fun h => h.elim id fun ⟨i, hi, _⟩ => absurd hi (Nat.not_lt_zero _)⟩
  | k + 1 => by
    have ih := runH_came net q row n came ok v k
    rw [runH]
    by_cases hb : bit ((net.getD row.length 0)) k = true
    · rw [if_pos hb]
      simp only
      rw [Nat.testBit_or, Bool.or_eq_true, Nat.testBit_two_pow, decide_eq_true_eq, ih]
      constructor
      · rintro ((h | ⟨i, h1, h2, h3⟩) | h)
        · exact .inl h
        · exact .inr ⟨i, by omega, h2, h3⟩
        · exact .inr ⟨k, Nat.lt_succ_self _, hb, h⟩
      · rintro (h | ⟨i, h1, h2, h3⟩)
        · exact .inl (.inl h)
        · rcases Nat.lt_succ_iff_lt_or_eq.1 h1 with c | rfl
          · exact .inl (.inr ⟨i, c, h2, h3⟩)
          · exact .inr h3
    · rw [if_neg hb, ih]
      constructor
      · rintro (h | ⟨i, h1, h2, h3⟩)
        · exact .inl h
        · exact .inr ⟨i, by omega, h2, h3⟩
      · rintro (h | ⟨i, h1, h2, h3⟩)
        · exact .inl h
        · rcases Nat.lt_succ_iff_lt_or_eq.1 h1 with c | rfl
          · exact .inr ⟨i, c, h2, h3⟩
          · exact absurd h2 hb
theorem runH_ok (net : List Int) (q : Nat) (row : List Int) (n : Int) (came : Nat) (ok : Bool) : ∀ k, (runH net q row n came ok k).2 = true ↔ ok = true ∧ ∀ i, i < k → bit ((net.getD row.length 0)) i = true → came.testBit (rs q ((row.getD i 0)) n) = false ∧ ∀ j, j < i → bit ((net.getD row.length 0)) j = true → rs q ((row.getD j 0)) n ≠ rs q ((row.getD i 0)) n
  | 0 => ⟨fun h => ⟨h, fun i hi => absurd hi (Nat.not_lt_zero _)⟩, fun h => h.1⟩
  | k + 1 => by
    have ih := runH_ok net q row n came ok k
    rw [runH]
    by_cases hb : bit ((net.getD row.length 0)) k = true
    · rw [if_pos hb]
      simp only
      rw [Bool.and_eq_true, ih, Bool.not_eq_true', Bool.eq_false_iff, Ne, runH_came]
      constructor
      · rintro ⟨⟨h1, h2⟩, h3⟩
        refine ⟨h1, fun i hi hbi => ?_⟩
        rcases Nat.lt_succ_iff_lt_or_eq.1 hi with c | rfl
        · exact h2 i c hbi
        · exact ⟨Bool.eq_false_iff.2 fun c => h3 (.inl c), fun j hj hbj e => h3 (.inr ⟨j, hj, hbj, e⟩)⟩
      · rintro ⟨h1, h2⟩
        refine ⟨⟨h1, fun i hi hbi => h2 i (by omega) hbi⟩, ?_⟩
        obtain ⟨g1, g2⟩ := h2 k (Nat.lt_succ_self _) hb
        rintro (c | ⟨i, e1, e2, e3⟩)
        · rw [g1] at c; cases c
        · exact g2 i e1 e2 e3
    · rw [if_neg hb, ih]
      constructor
      · rintro ⟨h1, h2⟩
        refine ⟨h1, fun i hi hbi => ?_⟩
        rcases Nat.lt_succ_iff_lt_or_eq.1 hi with c | rfl
        · exact h2 i c hbi
        · exact absurd hbi hb
      · rintro ⟨h1, h2⟩
        exact ⟨h1, fun i hi hbi => h2 i (by omega) hbi⟩

structure WayH (net : List Int) (q : Nat) (row : List Int) (came : Nat) : Prop where
  low : ∀ i, i < row.length → 0 ≤ (row.getD i 0) ∧ (row.getD i 0) ≤ (q : Int) - 1
  dd : DDH net q row
  came : CameH net q row came
theorem wayH_nil (net : List Int) (q : Nat) : WayH net q [] 0 :=
  ⟨fun i hi => absurd hi (Nat.not_lt_zero _), fun a b c d _ hb => absurd hb (Nat.not_lt_zero _), fun v => by
    rw [Nat.zero_testBit]
    exact ⟨fun h => Bool.noConfusion h, fun ⟨a, b, _, hb, _⟩ => absurd hb (Nat.not_lt_zero _)⟩⟩
theorem WayH.push {net : List Int} {q : Nat} {row : List Int} {came : Nat} {n : Int} {ok : Bool} (h : WayH net q row came) (hn : 0 ≤ n ∧ n ≤ (q : Int) - 1) (hf : (runH net q row n came ok row.length).2 = true) : WayH net q (row ++ [n]) (runH net q row n came ok row.length).1 := by
  obtain ⟨_, p2⟩ := (runH_ok net q row n came ok row.length).1 hf
  have hl : (row ++ [n]).length = row.length + 1 := by simp
  refine ⟨fun i hi => ?_, fun a b c' d hab hb hcd hd wb wd he => ?_, fun v => ?_⟩
  · rw [hl] at hi
    rcases Nat.lt_succ_iff_lt_or_eq.1 hi with e | rfl
    · rw [push_l _ _ e]; exact h.low i e
    · rw [push_at]; exact hn
  · rw [hl] at hb hd
    rcases Nat.lt_succ_iff_lt_or_eq.1 hb with eb | rfl
    · rw [push_l _ _ (by omega : a < row.length), push_l _ _ eb] at he
      rcases Nat.lt_succ_iff_lt_or_eq.1 hd with ed | rfl
      · rw [push_l _ _ (by omega : c' < row.length), push_l _ _ ed] at he
        exact h.dd a b c' d hab eb hcd ed wb wd he
      · rw [push_l _ _ hcd, push_at] at he
        have := (p2 c' hcd wd).1
        rw [(h.came _).2 ⟨a, b, hab, eb, wb, he⟩] at this
        cases this
    · rw [push_l _ _ hab, push_at] at he
      rcases Nat.lt_succ_iff_lt_or_eq.1 hd with ed | rfl
      · rw [push_l _ _ (by omega : c' < row.length), push_l _ _ ed] at he
        have := (p2 a hab wb).1
        rw [(h.came _).2 ⟨c', d, hcd, ed, wd, he.symm⟩] at this
        cases this
      · rw [push_l _ _ hcd, push_at] at he
        refine ⟨?_, rfl⟩
        rcases Nat.lt_trichotomy a c' with e | e | e
        · exact absurd he ((p2 c' hcd wd).2 a e wb)
        · exact e
        · exact absurd he.symm ((p2 a hab wb).2 c' e wd)
  · rw [runH_came, h.came v]
    constructor
    · rintro (⟨a, b, h1, h2, h3, h4⟩ | ⟨i, h1, h2, h3⟩)
      · exact ⟨a, b, h1, by omega, h3, by rw [push_l _ _ (by omega), push_l _ _ h2]; exact h4⟩
      · exact ⟨i, row.length, h1, by omega, h2, by rw [push_l _ _ h1, push_at]; exact h3⟩
    · rintro ⟨a, b, h1, h2, h3, h4⟩
      rw [hl] at h2
      rcases Nat.lt_succ_iff_lt_or_eq.1 h2 with e | rfl
      · rw [push_l _ _ (by omega), push_l _ _ e] at h4
        exact .inl ⟨a, b, h1, e, h3, h4⟩
      · rw [push_l _ _ h1, push_at] at h4
        exact .inr ⟨a, h1, h3, h4⟩

/-- Rows that go on have no fewer places alike. -/
theorem twice_app (row t : List Int) : twice row ≤ twice (row ++ t) := by
  unfold twice
  have hl : (row ++ t).length = row.length + t.length := List.length_append
  have e1 : (sig row.length fun k => sig k fun j => if (row.getD j 0) = (row.getD k 0) then (1 : Int) else 0) = sig row.length fun k => sig k fun j => if (row ++ t).getD j 0 = (row ++ t).getD k 0 then (1 : Int) else 0 := by
    refine sig_congr fun k hk => sig_congr fun j hj => ?_
    rw [getI_app_l (by omega : j < row.length), getI_app_l hk]
  rw [e1, hl]
  have key : ∀ n, (sig row.length fun k => sig k fun j => if (row ++ t).getD j 0 = (row ++ t).getD k 0 then (1 : Int) else 0) ≤ sig (row.length + n) fun k => sig k fun j => if (row ++ t).getD j 0 = (row ++ t).getD k 0 then (1 : Int) else 0 := fun n => by
    induction n with
    | zero => exact Int.le_refl _
    | succ n ih =>
      rw [← Nat.add_assoc, sig_succ]
      have : 0 ≤ sig (row.length + n) fun j => if (row ++ t).getD j 0 = (row ++ t).getD (row.length + n) 0 then (1 : Int) else 0 := sig_nonneg fun i _ => by split <;> decide
      omega
  exact key _

theorem WayH.none {net : List Int} {q : Nat} {row t : List Int} {came : Nat} {n : Int} {ok : Bool} (h : WayH net q row came) (hok : ok = true) (hf : ¬ (runH net q row n came ok row.length).2 = true) : ¬ DDH net q (row ++ n :: t) := by
  intro hd
  refine hf ((runH_ok net q row n came ok row.length).2 ⟨hok, fun i h1 h2 => ?_⟩)
  have hl : row.length < (row ++ n :: t).length := by simp
  have gl : ∀ i, i < row.length → (row ++ n :: t).getD i 0 = (row.getD i 0) := fun i hi => getI_app_l hi
  have ga : (row ++ n :: t).getD row.length 0 = n := getI_app_at row n t
  refine ⟨Bool.eq_false_iff.2 fun h3 => ?_, fun j g1 g2 g3 => ?_⟩
  · obtain ⟨a, b, k1, k2, k3, k4⟩ := (h.came _).1 h3
    have := hd a b i row.length k1 (by omega) h1 hl k3 h2 (by rw [gl a (by omega), gl b k2, gl i h1, ga]; exact k4)
    omega
  · have := hd j row.length i row.length (by omega) hl h1 hl g2 h2 (by rw [gl j (by omega), gl i h1, ga]; exact g3)
    omega

/-- All harmonious rows that begin with a row, as they are found. -/
noncomputable def searchH (net : List Int) (q : Nat) : Nat → List Int → Nat → List (List Int)
  | 0, row, _ => if decide (Harm net row) = true then [row] else []
  | rem + 1, row, came => (List.range q).flatMap fun n : Nat => if (runH net q row (n : Int) came (decide (twice (row ++ [(n : Int)]) ≤ mayT net)) row.length).2 = true then searchH net q rem (row ++ [(n : Int)]) (runH net q row (n : Int) came (decide (twice (row ++ [(n : Int)]) ≤ mayT net)) row.length).1 else []

theorem searchH_eq {net : List Int} (hN : NetOk net) (hq : 0 < qOf net) : ∀ (rem : Nat) (row : List Int) (came : Nat), WayH net (qOf net) row came → row.length + rem = net.length → searchH net (qOf net) rem row came = (extRows (qOf net - 1) rem row).filter fun r => decide (Harm net r)
  | 0, row, came, h, hl => by
    rw [searchH, extRows]
    by_cases c : Harm net row <;> simp [c]
  | rem + 1, row, came, h, hl => by
    rw [searchH, extRows, filter_flat, show qOf net - 1 + 1 = qOf net by omega]
    refine flatMap_eq fun n hn => ?_
    have hn' := List.mem_range.1 hn
    split
    · rename_i hf
      exact searchH_eq hN hq rem _ _ (h.push (by omega) hf) (by rw [List.length_append, List.length_cons, List.length_nil]; omega)
    · rename_i hf
      symm
      rw [List.filter_eq_nil_iff]
      intro x hx hg
      obtain ⟨t, rfl, h1, h2⟩ := mem_extRows.1 hx
      have hG : Harm net (row ++ [(n : Int)] ++ t) := of_decide_eq_true hg
      have hG' := (harm_dd hN hq hG.low.len hG.low.low).1 hG
      have ht := twice_app (row ++ [(n : Int)]) t
      rw [hG'.1] at ht
      have e : row ++ [(n : Int)] ++ t = row ++ (n : Int) :: t := by simp
      rw [e] at hG'
      exact h.none (t := t) (decide_eq_true ht) hf hG'.2
theorem harmRows_search {net : List Int} (hN : NetOk net) (hq : 0 < qOf net) : harmRows net = searchH net (qOf net) net.length [] 0 := by
  rw [harmRows, if_pos ⟨hN, hq⟩, searchH_eq hN hq _ _ _ (wayH_nil net _) (by simp)]

end Go.Abs
