/- Harmonious rows: moved harmony is harmony, how often they come. Own work; no condition. -/
import Derived.Test.YtljggfghllchnaaPart4
import Derived.Test.YtljggfghllchnaaGrace3
import Derived.Test.YtljggfghllchnaaCome
set_option maxRecDepth 100000
set_option linter.unusedSimpArgs false
set_option linter.unusedVariables false
namespace Go.Abs
open Go.Proofs
attribute [local irreducible] awp awpOps awpKeep KeepK awpKeepF KeepF aloop ALoop ACalls ACallq AQuiet retPost retPostA AExit.thn AExit.blk aApp aSt aStA

/-- How many pairs of places have the same number. -/
def twice (row : List Int) : Int := sig row.length fun k => sig k fun j => if (row.getD j 0) = (row.getD k 0) then 1 else 0
noncomputable def mayT (net : List Int) : Int := if treeOk net = true then 1 else 0
def resid (net row : List Int) : List Int := (sums net row).map fun z => z % (qOf net : Int)
structure Harm (net row : List Int) : Prop where
  ok : NetOk net
  pos : 0 < qOf net
  low : RowIn ((qOf net : Int) - 1) net row
  may : twice row = mayT net
  res : Once (resid net row)
theorem harm_iff (net row : List Int) : Harm net row ↔ (NetOk net ∧ 0 < qOf net ∧ RowIn ((qOf net : Int) - 1) net row ∧ twice row = mayT net ∧ Once (resid net row)) := ⟨fun h => ⟨h.1, h.2, h.3, h.4, h.5⟩, fun h => ⟨h.1, h.2.1, h.2.2.1, h.2.2.2.1, h.2.2.2.2⟩⟩
noncomputable instance (net row : List Int) : Decidable (Harm net row) := decidable_of_iff' _ (harm_iff net row)

theorem Harm.rowOk {net row : List Int} (h : Harm net row) : RowOk net row := rowIn_30 (by have := qOf_le h.ok; omega) h.low
theorem resid_len {net row : List Int} (h : RowOk net row) : (resid net row).length = qOf net := by rw [resid, List.length_map, sums, if_pos h, perWire_len]; rfl
theorem resid_get {net row : List Int} (h : RowOk net row) {i : Nat} (hi : i < qOf net) {x y : Nat} (hw : (wires net).getD i [] = [(x : Int), (y : Int)]) : ((resid net row).getD i 0) = ((row.getD x 0) + (row.getD y 0)) % (qOf net : Int) := by
  have hl : (sums net row).length = qOf net := by rw [sums, if_pos h, perWire_len]; rfl
  rw [resid, map_get _ (by omega), sums, if_pos h, perWire_get _ hi hw]

theorem twice_zero {row : List Int} (h : twice row = 0) : Once row := by
  intro k hk j hj e
  have h1 : ∀ n, n ≤ row.length → 0 ≤ sig n fun k => sig k fun j => if (row.getD j 0) = (row.getD k 0) then (1 : Int) else 0 := fun n _ => sig_nonneg fun i _ => sig_nonneg fun i _ => by split <;> decide
  have h2 : ∀ n, k < n → n ≤ row.length → 1 ≤ sig n fun k => sig k fun j => if (row.getD j 0) = (row.getD k 0) then (1 : Int) else 0 := fun n => by
    induction n with
    | zero => intro c _; omega
    | succ n ih =>
      intro c hn
      rw [sig_succ]
      rcases Nat.lt_succ_iff_lt_or_eq.1 c with c | rfl
      · have := ih c (by omega)
        have : 0 ≤ sig n fun j => if (row.getD j 0) = (row.getD n 0) then (1 : Int) else 0 := sig_nonneg fun i _ => by split <;> decide
        omega
      · have := h1 k (by omega)
        have h3 : ∀ n, j < n → n ≤ k → 1 ≤ sig n fun j => if (row.getD j 0) = (row.getD k 0) then (1 : Int) else 0 := fun n => by
          induction n with
          | zero => intro c _; omega
          | succ n ih =>
            intro c hn
            rw [sig_succ]
            rcases Nat.lt_succ_iff_lt_or_eq.1 c with c | rfl
            · have := ih c (by omega)
              split <;> omega
            · have : 0 ≤ sig j fun j => if (row.getD j 0) = (row.getD k 0) then (1 : Int) else 0 := sig_nonneg fun i _ => by split <;> decide
              rw [if_pos e]
              omega
        have := h3 k hj (Nat.le_refl _)
        omega
  have := h2 row.length hk (Nat.le_refl _)
  unfold twice at h
  omega
theorem once_few {row : List Int} {q : Nat} (ho : Once row) (hl : ∀ k, k < row.length → 0 ≤ (row.getD k 0) ∧ (row.getD k 0) ≤ (q : Int) - 1) : row.length ≤ q := by
  have := (nodup_range q (row.map fun z => z + 1) (once_iff_nodup.1 (once_map _ (fun a b e => by omega) ho)) fun x hx => by
    obtain ⟨z, hz, rfl⟩ := List.mem_map.1 hx
    obtain ⟨i, hi, rfl⟩ := mem_getI hz
    have := hl i hi
    omega).1
  rwa [List.length_map] at this
/-- Harmony needs as many wires as places. -/
theorem Harm.places {net row : List Int} (h : Harm net row) : net.length ≤ qOf net ∨ treeOk net = true := by
  cases hT : treeOk net with
  | true => exact .inr rfl
  | false =>
    refine .inl ?_
    have hm := h.may
    rw [mayT, if_neg (by rw [hT]; exact Bool.noConfusion)] at hm
    rw [← h.low.len]
    exact once_few (twice_zero hm) h.low.low

theorem twice_map {row : List Int} {f : Int → Int} (hf : ∀ i j, i < row.length → j < row.length → (f ((row.getD i 0)) = f ((row.getD j 0)) ↔ (row.getD i 0) = (row.getD j 0))) : twice (row.map f) = twice row := by
  unfold twice
  rw [List.length_map]
  refine sig_congr fun k hk => sig_congr fun j hj => ?_
  rw [map_get _ hk, map_get _ (by omega)]
  have := hf j k (by omega) hk
  by_cases c : (row.getD j 0) = (row.getD k 0)
  · rw [if_pos c, if_pos (this.2 c)]
  · rw [if_neg c, if_neg fun h => c (this.1 h)]

/-! ### Moved -/

theorem mod_inj {q : Nat} {f x y c : Int} (hq : 0 < q) (hg : Nat.gcd f.natAbs q = 1) (h : (x * f + c) % (q : Int) = (y * f + c) % (q : Int)) : x % (q : Int) = y % (q : Int) := by
  have h1 : ((x * f + c) - (y * f + c)) % (q : Int) = 0 := Int.emod_eq_emod_iff_emod_sub_eq_zero.1 h
  have h2 : (x - y) * f = (x * f + c) - (y * f + c) := by rw [Int.sub_mul]; omega
  rw [← h2] at h1
  have h3 : (q : Int) ∣ (x - y) * f := Int.dvd_of_emod_eq_zero h1
  have h4 : q ∣ (x - y).natAbs * f.natAbs := by rw [← Int.natAbs_mul]; exact Int.ofNat_dvd_left.1 h3
  have h5 : q ∣ (x - y).natAbs := Nat.Coprime.dvd_of_dvd_mul_right (by rw [Nat.coprime_comm]; exact hg) h4
  have h6 : (q : Int) ∣ x - y := Int.ofNat_dvd_left.2 h5
  exact Int.emod_eq_emod_iff_emod_sub_eq_zero.2 (Int.emod_eq_zero_of_dvd h6)

def moveH (q f b z : Int) : Int := (z * f + b) % q
theorem moveH_iff {q : Nat} {f b x y : Int} (hq : 0 < q) (hg : Nat.gcd f.natAbs q = 1) (hx : 0 ≤ x ∧ x ≤ (q : Int) - 1) (hy : 0 ≤ y ∧ y ≤ (q : Int) - 1) : moveH q f b x = moveH q f b y ↔ x = y := by
  constructor
  · intro h
    have := mod_inj hq hg h
    rw [Int.emod_eq_of_lt hx.1 (by omega), Int.emod_eq_of_lt hy.1 (by omega)] at this
    exact this
  · intro h; rw [h]

theorem Harm.move {net row : List Int} (h : Harm net row) {f b : Int} (hg : Nat.gcd f.natAbs (qOf net) = 1) : Harm net (row.map (moveH (qOf net) f b)) := by
  have hq := h.pos
  have hlen := h.low.len
  have hlow := h.low.low
  have hl' : (row.map (moveH (qOf net) f b)).length = row.length := List.length_map _
  have hI : RowIn ((qOf net : Int) - 1) net (row.map (moveH (qOf net) f b)) := ⟨h.ok, hl'.trans hlen, fun k hk => by
    rw [hl'] at hk
    rw [map_get _ hk]
    have h1 := Int.emod_nonneg ((row.getD k 0) * f + b) (show (qOf net : Int) ≠ 0 by omega)
    have h2 := Int.emod_lt_of_pos ((row.getD k 0) * f + b) (show 0 < (qOf net : Int) by omega)
    unfold moveH
    omega⟩
  have hR := h.rowOk
  have hR' := rowIn_30 (by have := qOf_le h.ok; omega) hI
  refine ⟨h.ok, hq, hI, (twice_map fun i j hi hj => moveH_iff hq hg (hlow i hi) (hlow j hj)).trans h.may, fun k hk j hj e => ?_⟩
  rw [resid_len hR'] at hk
  obtain ⟨x, y, e0, q1, q2, q3, _⟩ := wire_at (net := net) (i := k) hk
  obtain ⟨x', y', e0', q1', q2', q3', _⟩ := wire_at (net := net) (i := j) (show j < qOf net by omega)
  have ho := h.res k (by rw [resid_len hR]; exact hk) j hj
  rw [resid_get hR hk e0, resid_get hR (by omega) e0'] at ho
  rw [resid_get hR' hk e0, resid_get hR' (by omega) e0', map_get _ (by omega), map_get _ (by omega), map_get _ (by omega), map_get _ (by omega)] at e
  unfold moveH at e
  rw [← Int.add_emod, ← Int.add_emod] at e
  refine ho (mod_inj (f := f) (c := b + b) hq hg ?_)
  rw [Int.add_mul, Int.add_mul]
  rw [show (row.getD x' 0) * f + (row.getD y' 0) * f + (b + b) = (row.getD x' 0) * f + b + ((row.getD y' 0) * f + b) by omega, show (row.getD x 0) * f + (row.getD y 0) * f + (b + b) = (row.getD x 0) * f + b + ((row.getD y 0) * f + b) by omega]
  exact e

/-! ### How many there are -/

theorem filter_both {α : Type} (p : α → Bool) : ∀ l : List α, l.length = (l.filter p).length + (l.filter fun x => !p x).length
  | [] => rfl
  | a :: l => by
    have ih := filter_both p l
    cases h : p a <;> simp [List.filter_cons, h] <;> omega
/-- What is turned round with no rest comes as often as the ring is long. -/
theorem orbit_mod {α : Type} [DecidableEq α] {q : Nat} (hq : 0 < q) (sh : Nat → α → α) : ∀ (n : Nat) (l : List α), l.length ≤ n → l.Nodup → (∀ x ∈ l, sh 0 x = x ∧ (∀ k, k < q → sh k x ∈ l) ∧ (∀ i j, i < q → j < q → sh i x = sh j x → i = j) ∧ (∀ i j, i < q → j < q → sh i (sh j x) = sh ((i + j) % q) x)) → l.length % q = 0
  | _, [], _, _, _ => Nat.zero_mod _
  | 0, _ :: _, h, _, _ => absurd h (by simp)
  | n + 1, a :: l, hn, hd, hx => by
    obtain ⟨a0, a1, a2, a3⟩ := hx a (by simp)
    have hO : ((List.range q).map fun k => sh k a).Nodup := nodup_map' List.nodup_range fun i hi j hj e => a2 i j (List.mem_range.1 hi) (List.mem_range.1 hj) e
    have hOl : ((List.range q).map fun k => sh k a).length = q := by simp
    have hmO : ∀ x, x ∈ (List.range q).map (fun k => sh k a) ↔ ∃ k, k < q ∧ sh k a = x := fun x => by
      rw [List.mem_map]
      exact ⟨fun ⟨k, h1, h2⟩ => ⟨k, List.mem_range.1 h1, h2⟩, fun ⟨k, h1, h2⟩ => ⟨k, List.mem_range.2 h1, h2⟩⟩
    generalize hOe : ((List.range q).map fun k => sh k a) = O at hO hOl hmO
    have haO : a ∈ O := (hmO a).2 ⟨0, hq, a0⟩
    have hin : ∀ x ∈ O, x ∈ a :: l := fun x h => by obtain ⟨k, hk, e⟩ := (hmO x).1 h; rw [← e]; exact a1 k hk
    have hsplit : (a :: l).length = ((a :: l).filter fun x => !decide (x ∈ O)).length + ((a :: l).filter fun x => decide (x ∈ O)).length := by
      have := filter_both (fun x => decide (x ∈ O)) (a :: l)
      omega
    have hfO : ((a :: l).filter fun x => decide (x ∈ O)).length = q := by
      have h1 := nodup_few (A := (a :: l).filter fun x => decide (x ∈ O)) (B := O) (hd.filter _) fun x hx => of_decide_eq_true (List.mem_filter.1 hx).2
      have h2 := nodup_few (A := O) (B := (a :: l).filter fun x => decide (x ∈ O)) hO fun x hx => List.mem_filter.2 ⟨hin x hx, decide_eq_true hx⟩
      omega
    have ih := orbit_mod hq sh n ((a :: l).filter fun x => !decide (x ∈ O)) (by rw [List.length_cons] at hsplit hn; omega) (hd.filter _) fun x hxf => by
      obtain ⟨hxm, hxn⟩ := List.mem_filter.1 hxf
      have hxn : ¬ x ∈ O := by simpa using hxn
      obtain ⟨x0, x1, x2, x3⟩ := hx x hxm
      refine ⟨x0, fun k hk => List.mem_filter.2 ⟨x1 k hk, ?_⟩, x2, x3⟩
      simp only [Bool.not_eq_true', decide_eq_false_iff_not]
      intro c
      obtain ⟨i, hi, e⟩ := (hmO _).1 c
      rcases Nat.eq_zero_or_pos k with rfl | hk0
      · rw [x0] at e; exact hxn ((hmO x).2 ⟨i, hi, e⟩)
      · have h1 := x3 (q - k) k (by omega) hk
        rw [show (q - k + k) % q = 0 by rw [Nat.sub_add_cancel (Nat.le_of_lt hk), Nat.mod_self], x0, ← e, a3 (q - k) i (by omega) hi] at h1
        exact hxn ((hmO x).2 ⟨_, Nat.mod_lt _ hq, h1⟩)
    rw [hsplit, hfO, Nat.add_mod_right]
    exact ih

noncomputable def harmRows (net : List Int) : List (List Int) := if NetOk net ∧ 0 < qOf net then (extRows (qOf net - 1) net.length []).filter (fun row => decide (Harm net row)) else []
theorem mem_harmRows {net row : List Int} : row ∈ harmRows net ↔ Harm net row := by
  unfold harmRows
  by_cases hN : NetOk net ∧ 0 < qOf net
  · rw [if_pos hN, List.mem_filter, mem_extRows]
    constructor
    · rintro ⟨_, h⟩; exact of_decide_eq_true h
    · intro h
      refine ⟨⟨row, rfl, h.low.len, fun z hz => ?_⟩, decide_eq_true h⟩
      obtain ⟨i, hi, rfl⟩ := mem_getI hz
      have := h.low.low i hi
      omega
  · rw [if_neg hN]
    exact ⟨fun h => absurd h List.not_mem_nil, fun h => absurd ⟨h.ok, h.pos⟩ hN⟩
theorem harmRows_nodup (net : List Int) : (harmRows net).Nodup := by
  unfold harmRows
  split
  · exact ((ext_sorted _ _ _).imp fun h e => by subst e; exact rowLt_irrefl _ h).filter _
  · exact List.nodup_nil

def shiftH (q : Nat) (k : Nat) (row : List Int) : List Int := row.map fun z => (z + (k : Int)) % (q : Int)
theorem harm_mod {net : List Int} (hq : 0 < qOf net) : (harmRows net).length % qOf net = 0 := by
  refine orbit_mod hq (shiftH (qOf net)) _ _ (Nat.le_refl _) (harmRows_nodup net) fun x hx => ?_
  have h := mem_harmRows.1 hx
  have hlow := h.low.low
  have hlen := h.low.len
  have hp := h.ok.pos
  have hin : ∀ z ∈ x, 0 ≤ z ∧ z < (qOf net : Int) := fun z hz => by
    obtain ⟨i, hi, rfl⟩ := mem_getI hz
    have := hlow i hi
    omega
  refine ⟨?_, fun k hk => mem_harmRows.2 ?_, fun i j hi hj e => ?_, fun i j hi hj => ?_⟩
  · refine (List.map_congr_left fun z hz => ?_).trans (List.map_id x)
    rw [show ((0 : Nat) : Int) = 0 from rfl, Int.add_zero, Int.emod_eq_of_lt (hin z hz).1 (hin z hz).2]
    rfl
  · have := h.move (f := 1) (b := (k : Int)) (Nat.gcd_one_left _)
    rwa [show x.map (moveH (qOf net) 1 (k : Int)) = shiftH (qOf net) k x from List.map_congr_left fun z _ => by unfold moveH; rw [Int.mul_one]] at this
  · have h0 := hlow 0 (by omega)
    have e0 : (shiftH (qOf net) i x).getD 0 0 = (shiftH (qOf net) j x).getD 0 0 := by rw [e]
    unfold shiftH at e0
    rw [map_get _ (by omega), map_get _ (by omega)] at e0
    have r : ∀ k : Nat, k < qOf net → ((x.getD 0 0) + (k : Int)) % (qOf net : Int) = if (x.getD 0 0) + k < qOf net then (x.getD 0 0) + (k : Int) else (x.getD 0 0) + k - qOf net := fun k hk => by
      split
      · rw [Int.emod_eq_of_lt (by omega) (by assumption)]
      · have e : (x.getD 0 0) + (k : Int) = ((x.getD 0 0) + k - qOf net) + (qOf net : Int) * 1 := by omega
        rw [e, Int.add_mul_emod_self_left, Int.emod_eq_of_lt (by omega) (by omega)]
        omega
    rw [r i hi, r j hj] at e0
    split at e0 <;> split at e0 <;> omega
  · unfold shiftH
    rw [List.map_map]
    refine List.map_congr_left fun z _ => ?_
    simp only [Function.comp]
    rw [Int.natCast_emod, Int.emod_add_emod, Int.add_emod_emod]
    congr 1
    omega

/-- An even net of twice an odd number of wires has none. -/
theorem Harm.parity {net row : List Int} (h : Harm net row) (he : EvenNet net) : qOf net % 4 ≠ 2 := by
  intro h4
  have hR := h.rowOk
  have hs := sums_sum hR
  have hw : wsum net row net.length % 2 = 0 := sig_even fun k hk => by
    have := he k hk
    rw [Int.mul_emod, show ((pc ((net.getD k 0)).toNat : Nat) : Int) % 2 = 0 by omega]
    simp
  have hsl : (sums net row).length = qOf net := by rw [sums, if_pos hR, perWire_len]; rfl
  have hrl := resid_len hR
  have hp := sum_parity (sums net row) (resid net row) (by omega) fun i hi => by
    rw [resid, map_get _ hi]
    have := Int.emod_add_mul_ediv (((sums net row).getD i 0)) (qOf net : Int)
    obtain ⟨d, hd⟩ : ∃ d : Nat, qOf net = 2 * d := ⟨qOf net / 2, by omega⟩
    have e : ((sums net row).getD i 0) - ((sums net row).getD i 0) % (qOf net : Int) = 2 * ((d : Int) * (((sums net row).getD i 0) / (qOf net : Int))) := by
      have e2 : (qOf net : Int) * (((sums net row).getD i 0) / (qOf net : Int)) = 2 * ((d : Int) * (((sums net row).getD i 0) / (qOf net : Int))) := by
        generalize ((sums net row).getD i 0) / (qOf net : Int) = z
        rw [hd, Int.natCast_mul, Int.mul_assoc]
        rfl
      omega
    rw [e]
    exact Int.mul_emod_right _ _
  have hn := (nodup_range (qOf net) ((resid net row).map fun z => z + 1) (once_iff_nodup.1 (once_map _ (fun a b e => by omega) h.res)) fun x hx => by
    obtain ⟨z, hz, rfl⟩ := List.mem_map.1 hx
    obtain ⟨s, _, rfl⟩ := List.mem_map.1 hz
    have h1 := Int.emod_nonneg s (show (qOf net : Int) ≠ 0 by omega)
    have h2 := Int.emod_lt_of_pos s (show 0 < (qOf net : Int) by omega)
    omega).2 (by rw [List.length_map]; exact hrl)
  have hsum : ∀ l : List Int, (l.map fun z => z + 1).sum = l.sum + l.length := fun l => by
    induction l with
    | nil => rfl
    | cons a l ih => rw [List.map_cons, List.sum_cons, List.sum_cons, ih, List.length_cons]; omega
  have h2 := hn.2
  rw [hsum, hrl] at h2
  obtain ⟨d, hd⟩ : ∃ d : Nat, qOf net = 4 * d + 2 := ⟨qOf net / 4, by omega⟩
  have e1 : ((qOf net : Nat) : Int) = 4 * (d : Int) + 2 := by omega
  rw [e1] at h2
  have e2 : (4 * (d : Int) + 2) * (4 * (d : Int) + 2 + 1) = 16 * ((d : Int) * d) + 20 * d + 6 := by
    rw [Int.add_mul, Int.mul_add, Int.mul_add, show (4 : Int) * d * (4 * d) = 16 * (d * d) by rw [Int.mul_assoc, Int.mul_left_comm (d : Int) 4 d, ← Int.mul_assoc]; rfl]
    omega
  rw [e2] at h2
  generalize (d : Int) * d = z at h2
  omega

end Go.Abs
