/- Channels that stay apart: places alike are taken apart where there is a hole. Own work; no condition. -/
import Derived.Test.YtchejfephmmcaaaCover1
import Derived.Test.YtchejfephmmcaaaHarm1
set_option maxRecDepth 100000
set_option linter.unusedSimpArgs false
set_option linter.unusedVariables false
namespace Go.Abs
open Go.Proofs
attribute [local irreducible] awp awpOps awpKeep KeepK awpKeepF KeepF aloop ALoop ACalls ACallq AQuiet retPost retPostA AExit.thn AExit.blk aApp aSt aStA

/-- Two places have a common neighbour. -/
def Com (net : List Int) (a b : Nat) : Prop := ∃ k, k < net.length ∧ bit ((net.getD a 0)) k = true ∧ bit ((net.getD k 0)) b = true
theorem Com.sym {net : List Int} (hN : NetOk net) {a b : Nat} (ha : a < net.length) (hb : b < net.length) (h : Com net a b) : Com net b a := by
  obtain ⟨k, h1, h2, h3⟩ := h
  exact ⟨k, h1, by rw [hN.sym hb h1]; exact h3, by rw [hN.sym h1 ha]; exact h2⟩
/-- Channels of at most t. -/
structure Ch (net row : List Int) (t : Int) : Prop where
  len : row.length = net.length
  low : ∀ k, k < net.length → 0 ≤ (row.getD k 0) ∧ (row.getD k 0) ≤ t
  near : ∀ a b, a < net.length → b < net.length → a ≠ b → bit ((net.getD a 0)) b = true → 2 ≤ (row.getD a 0) - (row.getD b 0) ∨ 2 ≤ (row.getD b 0) - (row.getD a 0)
  com : ∀ a b, a < net.length → b < net.length → a ≠ b → Com net a b → (row.getD a 0) ≠ (row.getD b 0)

/-- Of two places alike at most one is a neighbour of a third one. -/
theorem Ch.only {net row : List Int} {t : Int} (hN : NetOk net) (h : Ch net row t) {x y w : Nat} (hx : x < net.length) (hy : y < net.length) (hw : w < net.length) (hxy : x ≠ y) (e : (row.getD x 0) = (row.getD y 0)) (h1 : bit ((net.getD x 0)) w = true) (h2 : bit ((net.getD y 0)) w = true) : False :=
  h.com x y hx hy hxy ⟨w, hw, h1, by rw [hN.sym hw hy]; exact h2⟩ e

theorem set_get {l : List Int} {x : Nat} (hx : x < l.length) (v : Int) (k : Nat) : (l.set x v).getD k 0 = if k = x then v else (l.getD k 0) := by
  simp only [List.getD_eq_getElem?_getD, List.getElem?_set]
  by_cases e : k = x
  · subst e; simp [hx]
  · rw [if_neg e, if_neg fun c => e c.symm]

/-- One place moves into a hole. -/
theorem Ch.move {net row : List Int} {t : Int} (hN : NetOk net) (h : Ch net row t) {x : Nat} {i : Int} (hx : x < net.length) (hi : 0 ≤ i ∧ i ≤ t) (hole : ∀ k, k < net.length → (row.getD k 0) ≠ i) (hn : ∀ k, k < net.length → bit ((net.getD x 0)) k = true → (row.getD k 0) ≠ i - 1 ∧ (row.getD k 0) ≠ i + 1) : Ch net (row.set x i) t := by
  have hl := h.len
  have g := fun k => set_get (l := row) (x := x) (by omega) i k
  refine ⟨by rw [List.length_set]; exact hl, fun k hk => ?_, fun a b ha hb hab hbit => ?_, fun a b ha hb hab hc => ?_⟩
  · rw [g]
    split
    · exact hi
    · exact h.low k hk
  · rw [g, g]
    by_cases ea : a = x
    · subst ea
      rw [if_pos rfl, if_neg fun c => hab c.symm]
      have := hn b hb hbit
      have := hole b hb
      omega
    · by_cases eb : b = x
      · subst eb
        rw [if_neg ea, if_pos rfl]
        have := hn a ha (by rw [hN.sym hb ha]; exact hbit)
        have := hole a ha
        omega
      · rw [if_neg ea, if_neg eb]; exact h.near a b ha hb hab hbit
  · rw [g, g]
    by_cases ea : a = x
    · rw [if_pos ea, if_neg fun c => hab (ea.trans c.symm)]; exact fun c => hole b hb c.symm
    · by_cases eb : b = x
      · rw [if_neg ea, if_pos eb]; exact hole a ha
      · rw [if_neg ea, if_neg eb]; exact h.com a b ha hb hab hc

/-- The channels between a hole i and j are turned round, and one place of j is put at i. -/
def turnX (row : List Int) (n : Nat) (x : Nat) (i j : Int) : List Int := (List.range n).map fun k : Nat => if k = x then i else if i < (row.getD k 0) ∧ (row.getD k 0) < j then i + j - (row.getD k 0) else (row.getD k 0)
theorem turnX_get {row : List Int} {n x : Nat} {i j : Int} {k : Nat} (h : k < n) : (turnX row n x i j).getD k 0 = if k = x then i else if i < (row.getD k 0) ∧ (row.getD k 0) < j then i + j - (row.getD k 0) else (row.getD k 0) := by simp [turnX, List.getD_eq_getElem?_getD, h]
theorem Ch.turn {net row : List Int} {t : Int} (hN : NetOk net) (h : Ch net row t) {x : Nat} {i j : Int} (hx : x < net.length) (hi : 0 ≤ i) (hij : i < j) (hxj : (row.getD x 0) = j) (hole : ∀ k, k < net.length → (row.getD k 0) ≠ i)
    (c1 : ∀ k, k < net.length → bit ((net.getD x 0)) k = true → (row.getD k 0) ≠ i - 1) (c2 : ∀ y k, y < net.length → k < net.length → (row.getD y 0) = j → y ≠ x → bit ((net.getD y 0)) k = true → (row.getD k 0) ≠ i + 1) : Ch net (turnX row net.length x i j) t := by
  have hjt := (h.low x hx).2
  have main : ∀ a b, a < net.length → b < net.length → a ≠ b → bit ((net.getD a 0)) b = true → b ≠ x → 2 ≤ (turnX row net.length x i j).getD a 0 - (turnX row net.length x i j).getD b 0 ∨ 2 ≤ (turnX row net.length x i j).getD b 0 - (turnX row net.length x i j).getD a 0 := fun a b ha hb hab hbit hbx => by
    rw [turnX_get ha, turnX_get hb, if_neg hbx]
    have hn := h.near a b ha hb hab hbit
    have ha0 := hole a ha
    have hb0 := hole b hb
    by_cases ea : a = x
    · subst ea
      rw [if_pos rfl]
      have := c1 b hb hbit
      split <;> omega
    · rw [if_neg ea]
      have q1 : (row.getD a 0) = j → (row.getD b 0) ≠ i + 1 := fun e => c2 a b ha hb e ea hbit
      have q2 : (row.getD b 0) = j → (row.getD a 0) ≠ i + 1 := fun e => c2 b a hb ha e hbx (by rw [hN.sym hb ha]; exact hbit)
      split <;> split <;> omega
  refine ⟨by simp [turnX], fun k hk => ?_, fun a b ha hb hab hbit => ?_, fun a b ha hb hab hc => ?_⟩
  · rw [turnX_get hk]
    have := h.low k hk
    split
    · omega
    · split <;> omega
  · by_cases eb : b = x
    · have := main b a hb ha (Ne.symm hab) (by rw [hN.sym hb ha]; exact hbit) (fun c => hab (c.trans eb.symm))
      omega
    · exact main a b ha hb hab hbit eb
  · rw [turnX_get ha, turnX_get hb]
    have hne := h.com a b ha hb hab hc
    have ha0 := hole a ha
    have hb0 := hole b hb
    by_cases ea : a = x
    · rw [if_pos ea, if_neg fun c => hab (ea.trans c.symm)]
      split <;> omega
    · rw [if_neg ea]
      by_cases eb : b = x
      · rw [if_pos eb]; split <;> omega
      · rw [if_neg eb]; split <;> split <;> omega
/-- Upside down. -/
theorem Ch.flip {net row : List Int} {t : Int} (h : Ch net row t) : Ch net (row.map fun z => t - z) t := by
  have hl := h.len
  have g : ∀ k, k < net.length → (row.map fun z => t - z).getD k 0 = t - (row.getD k 0) := fun k hk => map_get _ (by omega)
  refine ⟨by rw [List.length_map]; exact hl, fun k hk => ?_, fun a b ha hb hab hbit => ?_, fun a b ha hb hab hc => ?_⟩
  · rw [g k hk]; have := h.low k hk; omega
  · rw [g a ha, g b hb]; have := h.near a b ha hb hab hbit; omega
  · rw [g a ha, g b hb]; have := h.com a b ha hb hab hc; omega

/-! ### Places alike get fewer -/

theorem sig_lt {f g : Nat → Int} : ∀ {n j : Nat}, (∀ i, i < n → f i ≤ g i) → j < n → f j < g j → sig n f < sig n g
  | n + 1, j, h, hj, hlt => by
    rw [sig_succ, sig_succ]
    have h1 := sig_le (n := n) (f := f) (g := g) fun i hi => h i (by omega)
    have h2 := h n (by omega)
    rcases Nat.lt_succ_iff_lt_or_eq.1 hj with c | rfl
    · have := sig_lt (n := n) (fun i hi => h i (by omega)) c hlt; omega
    · omega
theorem twice_lt {r g : List Int} (hl : g.length = r.length) (h : ∀ a b, a < b → b < r.length → (g.getD a 0) = (g.getD b 0) → (r.getD a 0) = (r.getD b 0)) {x y : Nat} (hxy : x ≠ y) (hx : x < r.length) (hy : y < r.length) (e : (r.getD x 0) = (r.getD y 0)) (ne : (g.getD x 0) ≠ (g.getD y 0)) : twice g < twice r := by
  have key : ∀ x y, x < y → y < r.length → (r.getD x 0) = (r.getD y 0) → (g.getD x 0) ≠ (g.getD y 0) → twice g < twice r := fun x y hxy hy e ne => by
    unfold twice
    rw [hl]
    have le : ∀ k, k < r.length → ∀ j, j < k → (if (g.getD j 0) = (g.getD k 0) then (1 : Int) else 0) ≤ if (r.getD j 0) = (r.getD k 0) then 1 else 0 := fun k hk j hj => by
      by_cases c : (g.getD j 0) = (g.getD k 0)
      · rw [if_pos c, if_pos (h j k hj hk c)]; exact Int.le_refl _
      · rw [if_neg c]; split <;> decide
    refine sig_lt (j := y) (fun k hk => sig_le fun j hj => le k hk j hj) hy (sig_lt (j := x) (fun j hj => le y hy j hj) hxy ?_)
    rw [if_neg ne, if_pos e]
    decide
  rcases Nat.lt_trichotomy x y with c | c | c
  · exact key x y c hy e ne
  · exact absurd c hxy
  · exact key y x c hx e.symm fun d => ne d.symm
theorem twice_flip (r : List Int) (t : Int) : twice (r.map fun z => t - z) = twice r := twice_map fun i j _ _ => by omega

/-- A place alone in its channel, with no channel taken just below it. -/
def Bad (net g : List Int) (w : Nat) : Prop := w < net.length ∧ 0 < (g.getD w 0) ∧ (∀ k, k < net.length → (g.getD k 0) ≠ (g.getD w 0) - 1) ∧ ∀ k, k < net.length → k ≠ w → (g.getD k 0) ≠ (g.getD w 0)

/-- Where places are alike, and one is bad, there are channels with fewer places alike. -/
theorem Ch.better {net row : List Int} {t : Int} (hN : NetOk net) (h : Ch net row t) {x y w : Nat} (hx : x < net.length) (hy : y < net.length) (hxy : x ≠ y) (e : (row.getD x 0) = (row.getD y 0)) (hw : Bad net row w) : ∃ g, Ch net g t ∧ twice g < twice row := by
  obtain ⟨w1, w2, w3, w4⟩ := hw
  have hl := h.len
  have hwt := (h.low w w1).2
  generalize hi : (row.getD w 0) - 1 = i at w3
  have hwi : (row.getD w 0) = i + 1 := by omega
  have hole : ∀ k, k < net.length → (row.getD k 0) ≠ i := w3
  -- a place of some that are alike goes into the hole
  have go : ∀ v v', v < net.length → v' < net.length → v ≠ v' → (row.getD v 0) = (row.getD v' 0) → (∀ k, k < net.length → bit ((net.getD v 0)) k = true → (row.getD k 0) ≠ i - 1) → bit ((net.getD v 0)) w = false → ∃ g, Ch net g t ∧ twice g < twice row := fun v v' hv hv' hvv hve ha hb => by
    have gg := fun k => set_get (l := row) (x := v) (by omega) i k
    refine ⟨row.set v i, h.move hN hv (by omega) hole fun k hk hbit => ⟨ha k hk hbit, fun c => ?_⟩, twice_lt (by rw [List.length_set]) (fun a b hab hb' hg => ?_) hvv (by omega) (by omega) hve ?_⟩
    · by_cases ek : k = w
      · rw [ek, hb] at hbit; cases hbit
      · exact w4 k hk ek (by rw [c, hwi])
    · rw [gg, gg] at hg
      by_cases ea : a = v
      · rw [if_pos ea, if_neg (by omega)] at hg
        exact absurd hg.symm (hole b (by omega))
      · rw [if_neg ea] at hg
        by_cases eb : b = v
        · rw [if_pos eb] at hg
          exact absurd hg (hole a (by omega))
        · rw [if_neg eb] at hg; exact hg
    · rw [gg, gg, if_pos rfl, if_neg (Ne.symm hvv)]
      exact fun c => hole v' hv' c.symm
  by_cases hA : ∃ v v', v < net.length ∧ v' < net.length ∧ v ≠ v' ∧ (row.getD v 0) = i - 1 ∧ (row.getD v' 0) = i - 1
  · -- two places just below the hole
    obtain ⟨v, v', hv, hv', hvv, e1, e2⟩ := hA
    have self : ∀ u, u < net.length → (row.getD u 0) = i - 1 → ∀ k, k < net.length → bit ((net.getD u 0)) k = true → (row.getD k 0) ≠ i - 1 := fun u hu eu k hk hbit c => by
      have huk : u ≠ k := fun d => by rw [d, hN.own k hk] at hbit; cases hbit
      have := h.near u k hu hk huk hbit
      omega
    cases hvw : bit ((net.getD v 0)) w with
    | false => exact go v v' hv hv' hvv (by omega) (self v hv e1) hvw
    | true =>
      cases hvw' : bit ((net.getD v' 0)) w with
      | false => exact go v' v hv' hv (Ne.symm hvv) (by omega) (self v' hv' e2) hvw'
      | true => exact (h.only hN hv hv' w1 hvv (by omega) hvw hvw').elim
  · have hA' : ∀ v v', v < net.length → v' < net.length → (row.getD v 0) = i - 1 → (row.getD v' 0) = i - 1 → v = v' := fun v v' hv hv' e1 e2 => Decidable.byContradiction fun c => hA ⟨v, v', hv, hv', c, e1, e2⟩
    -- is a place a neighbour of what is just below the hole?
    have dec : ∀ z, z < net.length → (∀ k, k < net.length → bit ((net.getD z 0)) k = true → (row.getD k 0) ≠ i - 1) ∨ ∃ k, k < net.length ∧ bit ((net.getD z 0)) k = true ∧ (row.getD k 0) = i - 1 := fun z _ => by
      by_cases c : ∃ k, k < net.length ∧ bit ((net.getD z 0)) k = true ∧ (row.getD k 0) = i - 1
      · exact .inr c
      · exact .inl fun k hk hb d => c ⟨k, hk, hb, d⟩
    have hjw : (row.getD x 0) ≠ i + 1 := fun c => by
      by_cases ex : x = w
      · exact w4 y hy (fun d => hxy (ex.trans d.symm)) (by rw [← e, c, hwi])
      · exact w4 x hx ex (by rw [c, hwi])
    have hji := hole x hx
    -- one is a neighbour of w alone, the other one of what is below alone
    have both : ∀ p q, p < net.length → q < net.length → p ≠ q → (row.getD p 0) = (row.getD x 0) → (row.getD q 0) = (row.getD x 0) → bit ((net.getD p 0)) w = true → (∀ k, k < net.length → bit ((net.getD p 0)) k = true → (row.getD k 0) ≠ i - 1) → bit ((net.getD q 0)) w = false → (∃ k, k < net.length ∧ bit ((net.getD q 0)) k = true ∧ (row.getD k 0) = i - 1) → ∃ g, Ch net g t ∧ twice g < twice row := fun p q hp hq hpq ep eq' bp ap bq aq => by
      rcases Int.lt_trichotomy i ((row.getD x 0)) with hlt | heq | hgt
      · refine ⟨turnX row net.length p i ((row.getD x 0)), h.turn hN hp (by omega) hlt ep hole ap fun z k hz hk ez hzp hzk c => ?_, ?_⟩
        · have ekw : k = w := Decidable.byContradiction fun d => w4 k hk d (by rw [c, hwi])
          subst ekw
          exact h.only hN hp hz w1 (Ne.symm hzp) (by omega) bp hzk
        · refine twice_lt (by simp [turnX, hl]) (fun a b hab hb hg => ?_) hpq (by omega) (by omega) (by omega) ?_
          · rw [turnX_get (by omega), turnX_get (by omega)] at hg
            have h1 := hole a (by omega)
            have h2 := hole b (by omega)
            split at hg
            · rename_i c; rw [if_neg (by omega)] at hg; split at hg <;> omega
            · split at hg
              · split at hg
                · omega
                · split at hg <;> omega
              · split at hg
                · omega
                · split at hg <;> omega
          · rw [turnX_get hp, turnX_get hq, if_pos rfl, if_neg (Ne.symm hpq)]
            split <;> omega
      · exact absurd heq.symm hji
      · -- upside down
        obtain ⟨k0, k1, k2, k3⟩ := aq
        have hf := h.flip
        have gf : ∀ k, k < net.length → (row.map fun z => t - z).getD k 0 = t - (row.getD k 0) := fun k hk => map_get _ (by omega)
        have hxt := h.low x hx
        have hT := hf.turn hN (x := q) (i := t - i) (j := t - (row.getD x 0)) hq (by omega) (by omega) (by rw [gf q hq]; omega) (fun k hk => by rw [gf k hk]; have := hole k hk; omega) (fun k hk hb => by
          rw [gf k hk]
          intro c
          have ekw : k = w := Decidable.byContradiction fun d => w4 k hk d (by omega)
          rw [ekw, bq] at hb
          cases hb) (fun z k hz hk ez hzq hzk => by
          rw [gf z hz] at ez
          rw [gf k hk]
          intro c
          have ekk := hA' k k0 hk k1 (by omega) k3
          subst ekk
          exact h.only hN hq hz hk (Ne.symm hzq) (by omega) k2 hzk)
        refine ⟨_, hT, ?_⟩
        rw [← twice_flip row t]
        refine twice_lt (by simp [turnX, hl]) (fun a b hab hb hg => ?_) (Ne.symm hpq) (by simp; omega) (by simp; omega) (by rw [gf q hq, gf p hp]; omega) ?_
        · rw [List.length_map] at hb
          rw [turnX_get (by omega), turnX_get (by omega), gf a (by omega), gf b (by omega)] at hg
          rw [gf a (by omega), gf b (by omega)]
          have h1 := hole a (by omega)
          have h2 := hole b (by omega)
          split at hg
          · rw [if_neg (by omega)] at hg; split at hg <;> omega
          · split at hg
            · split at hg
              · omega
              · split at hg <;> omega
            · split at hg
              · omega
              · split at hg <;> omega
        · rw [turnX_get hq, turnX_get hp, if_pos rfl, if_neg hpq, gf p hp]
          split <;> omega
    cases hxw : bit ((net.getD x 0)) w with
    | false =>
      rcases dec x hx with ax | ax
      · exact go x y hx hy hxy e ax hxw
      · cases hyw : bit ((net.getD y 0)) w with
        | false =>
          rcases dec y hy with ay | ⟨k', q1, q2, q3⟩
          · exact go y x hy hx (Ne.symm hxy) e.symm ay hyw
          · obtain ⟨k, p1, p2, p3⟩ := ax
            have := hA' k k' p1 q1 p3 q3
            subst this
            exact (h.only hN hx hy p1 hxy e p2 q2).elim
        | true =>
          rcases dec y hy with ay | ⟨k', q1, q2, q3⟩
          · exact both y x hy hx (Ne.symm hxy) e.symm rfl hyw ay hxw ax
          · obtain ⟨k, p1, p2, p3⟩ := ax
            have := hA' k k' p1 q1 p3 q3
            subst this
            exact (h.only hN hx hy p1 hxy e p2 q2).elim
    | true =>
      cases hyw : bit ((net.getD y 0)) w with
      | true => exact (h.only hN hx hy w1 hxy e hxw hyw).elim
      | false =>
        rcases dec y hy with ay | ay
        · exact go y x hy hx (Ne.symm hxy) e.symm ay hyw
        · rcases dec x hx with ax | ⟨k', q1, q2, q3⟩
          · exact both x y hx hy hxy rfl e.symm hxw ax hyw ay
          · obtain ⟨k, p1, p2, p3⟩ := ay
            have := hA' k k' p1 q1 p3 q3
            subst this
            exact (h.only hN hx hy p1 hxy e q2 p2).elim

end Go.Abs
