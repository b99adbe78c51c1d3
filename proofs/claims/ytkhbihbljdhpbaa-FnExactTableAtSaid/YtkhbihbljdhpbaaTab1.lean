/- Tables of differences: their nets are graceful as they stand, and such nets have tables. Own work; no condition. -/
import Derived.Test.YtkhbihbljdhpbaaSets
import Derived.Test.YtkhbihbljdhpbaaGrace3
set_option maxRecDepth 100000
set_option linter.unusedSimpArgs false
set_option linter.unusedVariables false
namespace Go.Abs
open Go.Proofs
attribute [local irreducible] awp awpOps awpKeep KeepK awpKeepF KeepF aloop ALoop ACalls ACallq AQuiet retPost retPostA AExit.thn AExit.blk aApp aSt aStA

/-- A table of choices. -/
structure TabOk (l : List Int) : Prop where
  pos : 1 ≤ l.length
  five : l.length ≤ 5
  low : ∀ k, k < l.length → 0 ≤ (l.getD k 0) ∧ (l.getD k 0) ≤ (l.length : Int) - 1 - k
theorem tabOk_iff (l : List Int) : TabOk l ↔ ((1 ≤ l.length ∧ l.length ≤ 5) ∧ ∀ k, k < l.length → 0 ≤ (l.getD k 0) ∧ (l.getD k 0) ≤ (l.length : Int) - 1 - k) := ⟨fun h => ⟨⟨h.1, h.2⟩, h.3⟩, fun h => ⟨h.1.1, h.1.2, h.2⟩⟩
instance (l : List Int) : Decidable (TabOk l) := decidable_of_iff' _ (tabOk_iff l)

/-- All tables of n choices. -/
def tabs : Nat → List (List Int)
  | 0 => [[]]
  | n + 1 => (List.range (n + 1)).flatMap fun c : Nat => (tabs n).map fun t => (c : Int) :: t
theorem mem_tabs : ∀ {n : Nat} {l : List Int}, l.length = n → (∀ k, k < n → 0 ≤ (l.getD k 0) ∧ (l.getD k 0) ≤ (n : Int) - 1 - k) → l ∈ tabs n
  | 0, [], _, _ => by simp [tabs]
  | n + 1, [], h, _ => by cases h
  | n + 1, c :: t, h, hl => by
    have h0 := hl 0 (Nat.succ_pos n)
    simp only [List.getD_cons_zero] at h0
    obtain ⟨u, rfl⟩ := Int.eq_ofNat_of_zero_le h0.1
    refine List.mem_flatMap.2 ⟨u, List.mem_range.2 (by omega), List.mem_map.2 ⟨t, mem_tabs (by simpa using h) fun k hk => ?_, rfl⟩⟩
    have := hl (k + 1) (by omega)
    simp only [List.getD_cons_succ] at this
    omega
theorem TabOk.mem {l : List Int} (h : TabOk l) : l ∈ tabs l.length := mem_tabs rfl h.low

def tabF (l : List Int) (x y : Nat) : Bool := (List.range l.length).any fun k => (decide ((l.getD k 0) = x) && decide ((l.getD k 0) + k + 1 = y)) || (decide ((l.getD k 0) = y) && decide ((l.getD k 0) + k + 1 = x))
def tabN (l : List Int) : List Int := netBy (tabF l) (l.length + 1)
def tabNet (l : List Int) : List Int := if TabOk l then tabN l else []
/-- Each place's own number. -/
def own (n : Nat) : List Int := (List.range n).map fun k : Nat => (k : Int)
/-- Where the first wire begins that has a difference. -/
def lowAt (net : List Int) (k : Nat) : Nat := ((List.range net.length).find? fun x => decide (x + k + 1 < net.length) && bit ((net.getD x 0)) (x + k + 1)).getD 0
def tabL (net : List Int) : List Int := (List.range (net.length - 1)).map fun k => (lowAt net k : Int)
def TabNet (net : List Int) : Prop := (2 ≤ net.length ∧ net.length ≤ 6) ∧ qOf net + 1 = net.length ∧ Grace net (own net.length)
instance (net : List Int) : Decidable (TabNet net) := by unfold TabNet; infer_instance
def tableOf (net : List Int) : List Int := if TabNet net then tabL net else []
def numTo (l : List Int) : Nat → Int
  | 0 => 0
  | k + 1 => numTo l k * ((l.length : Int) - k) + (l.getD k 0)
theorem numTo_step (l : List Int) (k : Nat) : numTo l (k + 1) = numTo l k * ((l.length : Int) - k) + (l.getD k 0) := rfl
def tabNum (l : List Int) : Int := if TabOk l then numTo l l.length else -1
def fac : Nat → Nat
  | 0 => 1
  | n + 1 => fac n * (n + 1)
def tabMany (c : Int) : Int := if 1 ≤ c ∧ c ≤ 5 then (fac c.toNat : Int) else -1
def atL (c n : Nat) : List Int := (List.range c).map fun k : Nat => ((n / fac (c - 1 - k) % (c - k) : Nat) : Int)
def AtOk (c n : Int) : Prop := (1 ≤ c ∧ c ≤ 5) ∧ (0 ≤ n ∧ n ≤ (fac c.toNat : Int) - 1)
instance (c n : Int) : Decidable (AtOk c n) := by unfold AtOk; infer_instance
def tabAt (c n : Int) : List Int := if AtOk c n then atL c.toNat n.toNat else []

theorem tab_facts1 : ∀ n, n < 6 → 1 ≤ n → ∀ l ∈ tabs n, NetOk (tabN l) ∧ (tabN l).length = n + 1 ∧ TabNet (tabN l) ∧ tabL (tabN l) = l := by decide +kernel
theorem tab_facts2 : ∀ n, n < 6 → 1 ≤ n → ∀ l ∈ tabs n, (0 ≤ numTo l n ∧ numTo l n ≤ (fac n : Int) - 1) ∧ atL n (numTo l n).toNat = l := by decide +kernel
theorem tab_facts3 : ∀ c, c < 6 → 1 ≤ c → ∀ n, n < fac c → TabOk (atL c n) ∧ numTo (atL c n) c = n := by decide +kernel

theorem tab_net {l : List Int} (h : TabOk l) : NetOk (tabNet l) ∧ (tabNet l).length = l.length + 1 ∧ qOf (tabNet l) = l.length ∧ Grace (tabNet l) (own (tabNet l).length) ∧ TabNet (tabNet l) ∧ tableOf (tabNet l) = l := by
  obtain ⟨h1, h2, h3, h4⟩ := tab_facts1 l.length (by have := h.five; omega) h.pos l h.mem
  have e : tabNet l = tabN l := if_pos h
  rw [e]
  refine ⟨h1, h2, by have := h3.2.1; omega, h3.2.2, h3, ?_⟩
  rw [tableOf, if_pos h3, h4]
theorem tab_num {l : List Int} (h : TabOk l) : (0 ≤ tabNum l ∧ tabNum l ≤ tabMany l.length - 1) ∧ AtOk l.length (tabNum l) ∧ tabAt l.length (tabNum l) = l := by
  obtain ⟨h1, h2⟩ := tab_facts2 l.length (by have := h.five; omega) h.pos l h.mem
  have h5 := h.five
  have hp := h.pos
  have e : tabNum l = numTo l l.length := if_pos h
  have em : tabMany l.length = fac l.length := by rw [tabMany, if_pos ⟨by omega, by omega⟩, Int.toNat_natCast]
  have ha : AtOk l.length (tabNum l) := ⟨⟨by omega, by omega⟩, by rw [Int.toNat_natCast, e]; exact h1⟩
  rw [em]
  refine ⟨e ▸ h1, ha, ?_⟩
  rw [tabAt, if_pos ha, Int.toNat_natCast, e, h2]
theorem tab_at {c n : Int} (h : AtOk c n) : TabOk (tabAt c n) ∧ ((tabAt c n).length : Int) = c ∧ tabNum (tabAt c n) = n := by
  obtain ⟨⟨h1, h2⟩, h3, h4⟩ := h
  obtain ⟨u, rfl⟩ := Int.eq_ofNat_of_zero_le (show 0 ≤ c by omega)
  obtain ⟨v, rfl⟩ := Int.eq_ofNat_of_zero_le h3
  rw [Int.toNat_natCast] at h4
  obtain ⟨q1, q2⟩ := tab_facts3 u (by omega) (by omega) v (by omega)
  have e : tabAt u v = atL u v := by rw [tabAt, if_pos ⟨⟨h1, h2⟩, h3, by rw [Int.toNat_natCast]; exact h4⟩, Int.toNat_natCast, Int.toNat_natCast]
  have hl : (atL u v).length = u := by simp [atL]
  rw [e]
  refine ⟨q1, by rw [hl], ?_⟩
  rw [tabNum, if_pos q1, hl, q2]

/-! ### Nets that are graceful as they stand -/

theorem own_len (n : Nat) : (own n).length = n := by simp [own]
theorem own_get {n k : Nat} (h : k < n) : (own n).getD k 0 = (k : Int) := by simp [own, List.getD_eq_getElem?_getD, h]
theorem find_spec {n : Nat} {p : Nat → Bool} {x : Nat} (hx : x < n) (hp : p x = true) : ((List.range n).find? p).getD 0 < n ∧ p (((List.range n).find? p).getD 0) = true := by
  cases h : (List.range n).find? p with
  | none => exact absurd hp (by have := List.find?_eq_none.1 h x (List.mem_range.2 hx); simpa using this)
  | some y => exact ⟨List.mem_range.1 (List.mem_of_find?_eq_some h), List.find?_some h⟩

theorem own_diff {net : List Int} (hG : Grace net (own net.length)) {x k : Nat} (hx : x + k + 1 < net.length) (hb : bit ((net.getD x 0)) (x + k + 1) = true) : ∃ i, i < (wires net).length ∧ (wires net).getD i [] = [(x : Int), ((x + k + 1 : Nat) : Int)] ∧ (diffs net (own net.length)).getD i 0 = (k : Int) + 1 := by
  obtain ⟨i, hi, e⟩ := wire_index hG.ok (show x < x + k + 1 by omega) hx hb
  refine ⟨i, hi, e, ?_⟩
  rw [diffs_eq hG.rowOk, perWire_get _ hi e, own_get (by omega), own_get hx]
  unfold dist
  rw [if_pos (by omega)]
  omega
theorem own_once {net : List Int} (hG : Grace net (own net.length)) {x y k : Nat} (hx : x + k + 1 < net.length) (hbx : bit ((net.getD x 0)) (x + k + 1) = true) (hy : y + k + 1 < net.length) (hby : bit ((net.getD y 0)) (y + k + 1) = true) : x = y := by
  obtain ⟨i, hi, e1, d1⟩ := own_diff hG hx hbx
  obtain ⟨j, hj, e2, d2⟩ := own_diff hG hy hby
  have hl := hG.len
  have hij : i = j := by
    rcases Nat.lt_trichotomy i j with c | c | c
    · exact absurd (d1.trans d2.symm) (hG.diff j (by rw [hl]; exact hj) i c)
    · exact c
    · exact absurd (d2.trans d1.symm) (hG.diff i (by rw [hl]; exact hi) j c)
  rw [hij, e2] at e1
  have := congrArg (fun l : List Int => l.getD 0 0) e1
  simp at this
  omega
theorem own_some {net : List Int} (hG : Grace net (own net.length)) (hq : qOf net + 1 = net.length) {k : Nat} (hk : k + 1 < net.length) : lowAt net k + k + 1 < net.length ∧ bit ((net.getD (lowAt net k) 0)) (lowAt net k + k + 1) = true := by
  obtain ⟨i, hi, e⟩ := mem_getI (hG.all.1 ((k : Int) + 1) (by omega) (by omega))
  rw [hG.len] at hi
  obtain ⟨x, y, g1, g2, g3, g4, g5⟩ := wire_at hi
  rw [diffs_eq hG.rowOk, perWire_get _ hi g1, own_get g2, own_get g4] at e
  have hy : y = x + k + 1 := by unfold dist at e; split at e <;> omega
  subst hy
  have h := find_spec (n := net.length) (p := fun x => decide (x + k + 1 < net.length) && bit ((net.getD x 0)) (x + k + 1)) g2 (by simp only [Bool.and_eq_true]; exact ⟨decide_eq_true g4, g5⟩)
  have h2 := h.2
  simp only [Bool.and_eq_true] at h2
  exact ⟨of_decide_eq_true h2.1, h2.2⟩
theorem own_at {net : List Int} (hG : Grace net (own net.length)) (hq : qOf net + 1 = net.length) {x k : Nat} (hx : x + k + 1 < net.length) (hb : bit ((net.getD x 0)) (x + k + 1) = true) : lowAt net k = x := by
  obtain ⟨h1, h2⟩ := own_some hG hq (k := k) (by omega)
  exact own_once hG h1 h2 hx hb

theorem tabL_len (net : List Int) : (tabL net).length = net.length - 1 := by simp [tabL]
theorem tabL_get {net : List Int} {k : Nat} (h : k < net.length - 1) : (tabL net).getD k 0 = (lowAt net k : Int) := by simp [tabL, List.getD_eq_getElem?_getD, h]
theorem tab_back {net : List Int} (h : TabNet net) : TabOk (tabL net) ∧ tabNet (tabL net) = net := by
  obtain ⟨h6, hq, hG⟩ := h
  have hN := hG.ok
  have hl := tabL_len net
  have hT : TabOk (tabL net) := ⟨by omega, by omega, fun k hk => by
    rw [tabL_get (by omega)]
    have := (own_some hG hq (k := k) (by omega)).1
    omega⟩
  refine ⟨hT, ?_⟩
  rw [tabNet, if_pos hT, tabN]
  have hn : (tabL net).length + 1 = net.length := by omega
  rw [hn]
  have half : ∀ x y, x < y → y < net.length → (tabF (tabL net) x y = bit ((net.getD x 0)) y) ∧ (tabF (tabL net) y x = bit ((net.getD x 0)) y) := fun x y hxy hy => by
    have key : ∀ k, k < net.length - 1 → ((lowAt net k = x ∧ lowAt net k + k + 1 = y) → bit ((net.getD x 0)) y = true) := fun k hk ⟨e1, e2⟩ => by
      have := (own_some hG hq (k := k) (by omega)).2
      rwa [e2, e1] at this
    have hk0 : y - x - 1 < net.length - 1 := by omega
    have hyx : y = x + (y - x - 1) + 1 := by omega
    have back : bit ((net.getD x 0)) y = true → lowAt net (y - x - 1) = x ∧ lowAt net (y - x - 1) + (y - x - 1) + 1 = y := fun hb => by
      have := own_at hG hq (x := x) (k := y - x - 1) (by omega) (by rw [← hyx]; exact hb)
      exact ⟨this, by omega⟩
    constructor
    · apply Bool.eq_iff_iff.2
      unfold tabF
      rw [List.any_eq_true]
      constructor
      · rintro ⟨k, hk, hc⟩
        rw [List.mem_range, hl] at hk
        rw [tabL_get hk] at hc
        simp only [Bool.or_eq_true, Bool.and_eq_true, decide_eq_true_eq] at hc
        rcases hc with c | c
        · exact key k hk ⟨by omega, by omega⟩
        · omega
      · intro hb
        obtain ⟨b1, b2⟩ := back hb
        refine ⟨y - x - 1, by rw [List.mem_range, hl]; exact hk0, ?_⟩
        rw [tabL_get hk0]
        simp only [Bool.or_eq_true, Bool.and_eq_true, decide_eq_true_eq]
        exact .inl ⟨by omega, by omega⟩
    · apply Bool.eq_iff_iff.2
      unfold tabF
      rw [List.any_eq_true]
      constructor
      · rintro ⟨k, hk, hc⟩
        rw [List.mem_range, hl] at hk
        rw [tabL_get hk] at hc
        simp only [Bool.or_eq_true, Bool.and_eq_true, decide_eq_true_eq] at hc
        rcases hc with c | c
        · omega
        · exact key k hk ⟨by omega, by omega⟩
      · intro hb
        obtain ⟨b1, b2⟩ := back hb
        refine ⟨y - x - 1, by rw [List.mem_range, hl]; exact hk0, ?_⟩
        rw [tabL_get hk0]
        simp only [Bool.or_eq_true, Bool.and_eq_true, decide_eq_true_eq]
        exact .inr ⟨by omega, by omega⟩
  have all : ∀ x y, x < net.length → y < net.length → tabF (tabL net) x y = bit ((net.getD x 0)) y := fun x y hx hy => by
    rcases Nat.lt_trichotomy x y with c | c | c
    · exact (half x y c hy).1
    · subst c
      rw [hN.own x hx]
      have hno : ∀ k, ((decide ((tabL net).getD k 0 = x) && decide ((tabL net).getD k 0 + k + 1 = x)) || (decide ((tabL net).getD k 0 = x) && decide ((tabL net).getD k 0 + k + 1 = x))) = false := fun k => by
        rw [Bool.or_self, Bool.and_eq_false_iff]
        by_cases c : (tabL net).getD k 0 = x
        · exact .inr (decide_eq_false (by omega))
        · exact .inl (decide_eq_false c)
      unfold tabF
      rw [List.any_eq_false]
      intro k _
      rw [hno k]
      decide
    · rw [(half y x c hx).2, hN.sym hy hx]
  refine List.ext_getElem (netBy_len _ _) fun i h1 h2 => ?_
  have e1 : (netBy (tabF (tabL net)) net.length).getD i 0 = (netBy (tabF (tabL net)) net.length)[i] := by rw [List.getD_eq_getElem?_getD, List.getElem?_eq_getElem h1]; rfl
  have e2 : net.getD i 0 = net[i] := by rw [List.getD_eq_getElem?_getD, List.getElem?_eq_getElem h2]; rfl
  rw [← e1, ← e2, netBy_get _ h2]
  obtain ⟨s, hs⟩ := Int.eq_ofNat_of_zero_le (hN.low i h2)
  have hh := hN.high i h2
  have hp : (2 : Int) ^ net.length = ((2 ^ net.length : Nat) : Int) := by simp
  show _ = (net.getD i 0)
  rw [hs, hp] at hh
  rw [hs]
  congr 1
  apply Nat.eq_of_testBit_eq
  intro j
  rw [setN_bit]
  by_cases hj : j < net.length
  · rw [decide_eq_true hj, Bool.true_and, all i j h2 hj, hs, bit_cast]
  · rw [decide_eq_false hj, Bool.false_and]
    exact (Nat.testBit_lt_two_pow (Nat.lt_of_lt_of_le (show s < 2 ^ net.length by omega) (Nat.pow_le_pow_right (by decide) (by omega)))).symm

end Go.Abs
