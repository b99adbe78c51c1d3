/- Orders of places, paths, covers. Own work; no condition. -/
import Derived.Test.YtedainddipahaaaOrd3
set_option maxRecDepth 100000
set_option linter.unusedSimpArgs false
set_option linter.unusedVariables false
namespace Go.Abs
open Go.Proofs
attribute [local irreducible] awp awpOps awpKeep KeepK awpKeepF KeepF aloop ALoop ACalls ACallq AQuiet retPost retPostA AExit.thn AExit.blk aApp aSt aStA
open Parts

/-- Are two places neighbours, told by numbers? -/
def adj (net : List Int) (a b : Int) : Bool := bit ((net.getD a.toNat 0)) b.toNat
/-- How often two places of a list that stand side by side are no neighbours, of the first k steps. -/
def brkTo (net x : List Int) : Nat → Nat
  | 0 => 0
  | k + 1 => brkTo net x k + if adj net (x.getD k 0) (x.getD (k + 1) 0) = true then 0 else 1
def brk (net x : List Int) : Nat := brkTo net x (x.length - 1)
def pathsOf (net x : List Int) : Int := (brk net x : Int) + 1
def coverTo (net : List Int) (k : Nat) : Int := minTo (pathsOf net) (ords net.length) net.length k
def cover (net : List Int) : Int := if NetOk net then coverTo net (ords net.length).length else -1

theorem brkTo_le (net x : List Int) : ∀ k, brkTo net x k ≤ k
  | 0 => Nat.le_refl _
  | k + 1 => by have := brkTo_le net x k; unfold brkTo; split <;> omega
theorem brkTo_step (net x : List Int) (k : Nat) : brkTo net x (k + 1) = brkTo net x k + if adj net (x.getD k 0) (x.getD (k + 1) 0) = true then 0 else 1 := rfl
theorem OrdOk.paths {net x : List Int} (h : OrdOk net x) : 1 ≤ pathsOf net x ∧ pathsOf net x ≤ net.length := by
  have := brkTo_le net x (x.length - 1)
  have := h.len
  have := h.ok.pos
  unfold pathsOf brk
  omega
/-- The cover is met by an order, and no order is better. -/
theorem cover_is {net : List Int} (hN : NetOk net) : (∃ x, OrdOk net x ∧ cover net = pathsOf net x) ∧ ∀ x, OrdOk net x → cover net ≤ pathsOf net x := by
  have e : cover net = coverTo net (ords net.length).length := if_pos hN
  rw [e]
  constructor
  · obtain ⟨i, h1, h2⟩ := minTo_is (f := pathsOf net) (L := ords net.length) (z := net.length) (ords_some hN) fun i hi => (ords_at hN hi).paths.2
    exact ⟨_, ords_at hN h1, h2⟩
  · intro x hx
    obtain ⟨i, h1, h2⟩ := ords_index hN hx
    rw [← h2]
    exact minTo_le _ _ _ h1
theorem cover_range {net : List Int} (hN : NetOk net) : 1 ≤ cover net ∧ cover net ≤ net.length := by
  obtain ⟨⟨x, hx, e⟩, _⟩ := cover_is hN
  rw [e]
  exact hx.paths

/-! ### An order of a list in which each place is once -/

theorem ord_of_list {net P : List Int} (hN : NetOk net) (hn : P.Nodup) (hm : ∀ z, z ∈ P ↔ 0 ≤ z ∧ z < net.length) : OrdOk net P := by
  have hp : P.Perm (upN net.length) := (List.perm_ext_iff_of_nodup hn (once_iff_nodup.1 (upN_once _))).2 fun a => by rw [hm, upN_mem]
  have hl : P.length = net.length := by rw [hp.length_eq, upN_len]
  refine ⟨⟨hN, hl, fun k hk => ?_⟩, once_iff_nodup.2 hn⟩
  have := (hm ((P.getD k 0))).1 (by rw [List.getD_eq_getElem?_getD, List.getElem?_eq_getElem hk]; exact List.getElem_mem _)
  omega

/-! ### The places less the wires, and the parts -/

theorem adj_nat {net : List Int} {a b : Nat} : adj net (a : Int) (b : Int) = bit ((net.getD a 0)) b := by unfold adj; rw [Int.toNat_natCast, Int.toNat_natCast]

section
variable {net : List Int}
/-- The part of a place. -/
noncomputable def partN (net : List Int) (k : Nat) : Nat := pt (pk net) 6 (2 ^ k)
theorem pt_grow (N : Nat) : ∀ (f s j : Nat), s.testBit j = true → (pt N f s).testBit j = true
  | 0, _, _, h => h
  | f + 1, s, j, h => by
    rw [pt_succ]
    split
    · exact h
    · exact pt_grow N f _ j (by rw [lor_tb, h]; rfl)
theorem part_own (k : Nat) : (partN net k).testBit k = true := pt_grow _ 6 _ k (by rw [Nat.testBit_two_pow]; simp)
/-- The part of a place is closed: neighbours are both in it or none is. -/
theorem part_closed (hN : NetOk net) {k : Nat} (hk : k < net.length) (hf : first (pk net) k ≠ 2) : ∀ x y, x < net.length → y < net.length → bit ((net.getD x 0)) y = true → (partN net k).testBit x = (partN net k).testBit y := by
  have hfx := (first_two hf).1
  have h6 := hN.six
  have hlt : partN net k < 64 := pt_lt hN 6 _ (pow_lt64 (by omega))
  have hfe : Nat.lor (partN net k) (near (pk net) (partN net k)) = partN net k := fixed_eq hfx
  have step : ∀ x y, x < net.length → bit ((net.getD x 0)) y = true → (partN net k).testBit x = true → (partN net k).testBit y = true := fun x y hx hb h => by
    rw [← hfe, lor_tb, near_pk hN hlt]
    rw [(nearTo_tb net (partN net k) y net.length).2 ⟨x, hx, h, by rw [← bit_nrow]; exact hb⟩, Bool.or_true]
  intro x y hx hy hb
  cases h1 : (partN net k).testBit x with
  | true => rw [step x y hx hb h1]
  | false =>
    cases h2 : (partN net k).testBit y with
    | false => rfl
    | true =>
      have := step y x hy (by rw [hN.sym hy hx]; exact hb) h2
      rw [h1] at this
      cases this
theorem first_apart (hN : NetOk net) {k k' y : Nat} (hk : k < k') (hk' : k' < net.length) (h1 : first (pk net) k = 1) (h2 : first (pk net) k' = 1) (hy : (partN net k).testBit y = true) (hy' : (partN net k').testBit y = true) : False := by
  have h6 := hN.six
  have hc := part_closed hN hk' (by omega)
  have hI : InCl net (fun j => (partN net k').testBit j) ((partN net k').testBit k) (partN net k) := pt_class hN hc 6 _ (pow_lt64 (by omega)) fun j h => by
    rw [Nat.testBit_two_pow, decide_eq_true_eq] at h
    subst h
    exact ⟨by omega, rfl⟩
  have hkk : (partN net k').testBit k = true := by rw [← (hI y hy).2]; exact hy'
  have h3 := (first_two (N := pk net) (k := k') (by omega)).2
  rw [h2] at h3
  split at h3
  · rename_i h0
    have : (Nat.land (partN net k') (2 ^ k' - 1)).testBit k = true := by
      rw [show (Nat.land (partN net k') (2 ^ k' - 1)).testBit k = ((partN net k').testBit k && (2 ^ k' - 1).testBit k) from Nat.testBit_and _ _ k, hkk, Nat.testBit_two_pow_sub_one, decide_eq_true hk]
      rfl
    unfold partN at this
    rw [h0, Nat.zero_testBit] at this
    cases this
  · omega
end

theorem sig_ge {f : Nat → Int} : ∀ {n j : Nat}, (∀ i, i < n → 0 ≤ f i) → j < n → f j ≤ sig n f
  | n + 1, j, h, hj => by
    rw [sig_succ]
    have h0 := sig_nonneg (n := n) (f := f) fun i hi => h i (by omega)
    have hn := h n (by omega)
    rcases Nat.lt_succ_iff_lt_or_eq.1 hj with c | rfl
    · have := sig_ge (n := n) (fun i hi => h i (by omega)) c; omega
    · omega
theorem sig_one {A : Nat → Prop} [DecidablePred A] : ∀ {n : Nat}, (∀ i j, i < j → j < n → A i → ¬ A j) → (sig n fun i => if A i then (1 : Int) else 0) ≤ 1
  | 0, _ => by rw [sig_zero]; decide
  | n + 1, h => by
    rw [sig_succ]
    by_cases c : A n
    · rw [if_pos c, sig_congr (g := fun _ => 0) fun i hi => if_neg fun d => h i n hi (Nat.lt_succ_self _) d c, sig_none]
      decide
    · rw [if_neg c]
      have := sig_one (n := n) fun i j h1 h2 => h i j h1 (by omega)
      omega

/-- Does a path begin at a place of a list? -/
def strt (net x : List Int) (j : Nat) : Int := if j = 0 then 1 else if adj net (x.getD (j - 1) 0) (x.getD j 0) = true then 0 else 1
theorem strt_sum (net x : List Int) : ∀ k, sig (k + 1) (strt net x) = (brkTo net x k : Int) + 1
  | 0 => rfl
  | k + 1 => by
    rw [sig_succ, strt_sum net x k, brkTo_step]
    unfold strt
    rw [if_neg (by omega), show k + 1 - 1 = k from rfl]
    split <;> omega
theorem cnt_sum {N : Nat} : ∀ {n : Nat}, cnt N n < 1000 → ((cnt N n : Nat) : Int) = sig n fun k => if first N k = 1 then 1 else 0
  | 0, _ => rfl
  | n + 1, h => by
    obtain ⟨h1, h2⟩ := cnt_step h
    rw [sig_succ, ← cnt_sum (n := n) (by omega), h2]
    have h3 := (first_two h1).2
    split at h3 <;> rw [h3] <;> simp
/-- Each part begins a path. -/
theorem OrdOk.parts {net x : List Int} (h : OrdOk net x) : partMany net ≤ pathsOf net x := by
  have hN := h.ok
  have h6 := hN.six
  have hp := hN.pos
  have hf := fact_use (all_fact hN)
  have hcnt : cnt (pk net) net.length < 1000 := by rw [← hf.1]; omega
  rw [partMany, if_pos hN, hf.1, cnt_sum hcnt]
  have hfo : ∀ k, k < net.length → first (pk net) k ≠ 2 := fun k hk => first_ok (n := net.length) hcnt hk
  have hxn : ∀ j, j < net.length → ∃ a : Nat, (x.getD j 0) = (a : Int) ∧ a < net.length := fun j hj => by
    have := h.low hj
    exact ⟨((x.getD j 0)).toNat, by omega, by omega⟩
  have e : pathsOf net x = sig net.length (strt net x) := by
    have := strt_sum net x (net.length - 1)
    rw [show net.length - 1 + 1 = net.length by omega] at this
    rw [this, pathsOf, brk, h.len]
  rw [e]
  -- k, j: place k is the least of its part, and a path begins at the j-th place, which is of that part
  have h1 : (sig net.length fun k => if first (pk net) k = 1 then (1 : Int) else 0) ≤ sig net.length fun k => sig net.length fun j => if (first (pk net) k = 1 ∧ (partN net k).testBit ((x.getD j 0)).toNat = true) ∧ strt net x j = 1 then 1 else 0 := sig_le fun k hk => by
    by_cases c : first (pk net) k = 1
    · rw [if_pos c]
      obtain ⟨p, hp1, hp2⟩ := h.at hk
      obtain ⟨j, j1, j2, j3⟩ := least_at (P := fun j => (partN net k).testBit ((x.getD j 0)).toNat = true) (k := p) (by rw [hp2, Int.toNat_natCast]; exact part_own k)
      have hj : j < net.length := by omega
      have hs : strt net x j = 1 := by
        unfold strt
        by_cases z : j = 0
        · rw [if_pos z]
        · rw [if_neg z]
          split
          · rename_i ha
            obtain ⟨a, a1, a2⟩ := hxn (j - 1) (by omega)
            obtain ⟨b, b1, b2⟩ := hxn j hj
            have hcl := part_closed hN hk (hfo k hk) a b a2 b2 (by rw [← adj_nat, ← a1, ← b1]; exact ha)
            rw [b1, Int.toNat_natCast] at j2
            exact absurd (by rw [a1, Int.toNat_natCast, hcl]; exact j2) (j3 (j - 1) (by omega))
          · rfl
      have := sig_ge (n := net.length) (j := j) (f := fun j => if (first (pk net) k = 1 ∧ (partN net k).testBit ((x.getD j 0)).toNat = true) ∧ strt net x j = 1 then (1 : Int) else 0) (fun i _ => by split <;> decide) hj
      rw [if_pos ⟨⟨c, j2⟩, hs⟩] at this
      exact this
    · rw [if_neg c]
      exact sig_nonneg fun i _ => by split <;> decide
  refine Int.le_trans h1 ?_
  rw [sig_swap]
  refine sig_le fun j hj => ?_
  by_cases c : strt net x j = 1
  · rw [c]
    refine sig_one fun a b hab hb ha hb' => ?_
    exact first_apart hN hab hb ha.1.1 hb'.1.1 ha.1.2 hb'.1.2
  · rw [sig_congr (g := fun _ => 0) fun k hk => if_neg fun d => c d.2, sig_none]
    unfold strt
    split
    · decide
    · split <;> decide

/-- Paths: at least the parts, at least the places less the wires; all places just without wires. -/
theorem cover_use {net : List Int} (hN : NetOk net) : partMany net ≤ cover net ∧ (net.length : Int) - qOf net ≤ cover net ∧ (cover net = net.length ↔ qOf net = 0) := by
  obtain ⟨⟨x, hx, e⟩, hmin⟩ := cover_is hN
  have hf := fact_use (all_fact hN)
  have h6 := hN.six
  have hpart : partMany net = (pm (pk net) 6 (2 ^ net.length - 1) 0 : Nat) := if_pos hN
  have h1 := hx.parts
  have hnp : (net.length : Int) ≤ partMany net + qOf net := by
    rw [hpart]
    have := hf.2.2.2.1
    unfold qOf
    omega
  refine ⟨by omega, by omega, ?_⟩
  constructor
  · intro hc
    refine Decidable.byContradiction fun hq => ?_
    have hq0 : 0 < (wires net).length := by unfold qOf at hq; omega
    obtain ⟨a, b, _, ha, hab, hb, hbit⟩ := wire_at hq0
    -- an order that begins with both ends of a wire
    have hO : OrdOk net ([(a : Int), (b : Int)] ++ (upN net.length).filter fun z => z ≠ (a : Int) ∧ z ≠ (b : Int)) := by
      refine ord_of_list hN ?_ fun z => ?_
      · refine List.nodup_append.2 ⟨by simp; omega, (once_iff_nodup.1 (upN_once _)).filter _, fun u hu v hv e => ?_⟩
        subst e
        have := (List.mem_filter.1 hv).2
        simp at hu this
        omega
      · rw [List.mem_append, List.mem_filter, upN_mem]
        simp
        omega
    have hlen := hO.len
    have hm := hmin _ hO
    have h0 : adj net (([(a : Int), (b : Int)] ++ (upN net.length).filter fun z => z ≠ (a : Int) ∧ z ≠ (b : Int)).getD 0 0) (([(a : Int), (b : Int)] ++ (upN net.length).filter fun z => z ≠ (a : Int) ∧ z ≠ (b : Int)).getD 1 0) = true := by
      show adj net (a : Int) (b : Int) = true
      rw [adj_nat]
      exact hbit
    generalize ([(a : Int), (b : Int)] ++ (upN net.length).filter fun z => z ≠ (a : Int) ∧ z ≠ (b : Int)) = y at *
    have hb1 : ∀ k, 1 ≤ k → brkTo net y k + 1 ≤ k := fun k => by
      induction k with
      | zero => intro c; omega
      | succ k ih =>
        intro _
        rw [brkTo_step]
        cases k with
        | zero => rw [if_pos h0]; exact Nat.le_refl _
        | succ k => have := ih (by omega); split <;> omega
    have := hb1 (y.length - 1) (by omega)
    unfold pathsOf brk at hm
    omega
  · intro hq
    have := (cover_range hN).2
    have : (net.length : Int) ≤ cover net := by omega
    omega

end Go.Abs
