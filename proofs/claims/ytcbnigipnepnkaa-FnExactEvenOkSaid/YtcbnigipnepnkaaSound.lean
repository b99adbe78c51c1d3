/- The quiet operations of the abstract machine are the program's. Own work; no condition. -/
import Derived.Test.YtcbnigipnepnkaaTr
import Derived.Laws.Append
namespace Go.Abs
open Go.RowKit (Below)

/-! ### Frames -/

theorem ev_tmp {μ : Mu} {n k : Nat} {σ : Frame} {a : Act} (hf : FRel μ n σ a.tmps k) {t : Nat} {x : XV} (h : σ.get t = some x) :
    a.eval (.tmp t) = concX μ x ∧ x.ok μ n := by
  obtain ⟨_, h2, h3⟩ := hf.slot t x h
  refine ⟨?_, h2⟩
  show a.tmps.getD t undef = _
  rw [Array.getD_eq_getD_getElem?, h3]
  rfl

theorem trVal_spec {v : Value} {x : AV} (h : trVal v = some x) (μ : Mu) (n : Nat) : v = conc μ x ∧ x.ok μ n := by
  unfold trVal at h
  split at h <;> first | (cases h; done) | (cases h; exact ⟨rfl, trivial⟩) | skip
  case h_4 => cases h; exact ⟨rfl, rfl⟩

theorem ev_spec {μ : Mu} {n k : Nat} {σ : Frame} {a : Act} (hf : FRel μ n σ a.tmps k) {o : Operand} {p : Opd} (ht : trOpd o = some p) {x : XV} (h : σ.ev p = some x) :
    a.eval o = concX μ x ∧ x.ok μ n := by
  unfold trOpd at ht
  split at ht
  · cases ht; exact ev_tmp hf h
  · rename_i v
    cases hv : trVal v with
    | none => simp [hv] at ht
    | some y =>
      simp [hv] at ht
      subst ht
      cases h
      obtain ⟨h1, h2⟩ := trVal_spec hv μ n
      exact ⟨h1, h2⟩
  · cases ht

theorem get_put {σ : Frame} {d : Option Nat} {v x : XV} {t : Nat} (h : (σ.put d v).get t = some x) : (d = some t ∧ x = v) ∨ (d ≠ some t ∧ σ.get t = some x) := by
  cases d with
  | none => exact .inr ⟨by simp, h⟩
  | some d =>
    simp only [Frame.put, Frame.get] at h
    by_cases e : d = t
    · subst e; simp at h; exact .inl ⟨rfl, h.symm⟩
    · rw [beq_false_of_ne e] at h; exact .inr ⟨by simpa using e, h⟩

theorem FRel.put {μ : Mu} {n k : Nat} {σ : Frame} {a : Act} (hf : FRel μ n σ a.tmps k) {d : Option Nat} (hd : d.all (· < k) = true) {x : XV} (hx : x.ok μ n) :
    FRel μ n (σ.put d x) (a.put d (concX μ x)).tmps k := by
  refine ⟨?_, fun t y h => ?_⟩
  · cases d <;> simp [Act.put, hf.size]
  · rcases get_put h with ⟨rfl, rfl⟩ | ⟨hne, hg⟩
    · have htk : t < k := by simpa using hd
      refine ⟨htk, hx, ?_⟩
      show (a.tmps.setIfInBounds t _)[t]? = _
      rw [Array.getElem?_setIfInBounds_self_of_lt (by rw [hf.size]; exact htk)]
    · obtain ⟨h1, h2, h3⟩ := hf.slot t y hg
      refine ⟨h1, h2, ?_⟩
      cases d with
      | none => exact h3
      | some d =>
        show (a.tmps.setIfInBounds d _)[t]? = _
        rw [Array.getElem?_setIfInBounds_ne (by intro e; exact hne (by rw [e]))]
        exact h3

/-! ### Agreement of places -/

theorem SV.conc_agree {n : Nat} {μ μ' : Mu} (h : Agree n μ μ') {s : SV} (hs : s.ok μ n) : s.conc μ' = s.conc μ ∧ s.ok μ' n := by
  obtain ⟨r, o, l⟩ := s
  cases r with
  | nil => exact ⟨rfl, hs⟩
  | far a => exact ⟨rfl, hs⟩
  | row id =>
    have hid := h id hs.1
    simp only [SV.conc, SV.ok, hid]
    exact ⟨trivial, hs⟩

theorem conc_agree {n : Nat} {μ μ' : Mu} (h : Agree n μ μ') {v : AV} (hv : v.ok μ n) : conc μ' v = conc μ v ∧ v.ok μ' n := by
  cases v with
  | sl s => exact SV.conc_agree h hv
  | ptr id off => have hid := h id hv; simp only [conc, hid]; exact ⟨trivial, hv⟩
  | psl id off len cap => have hid := h id hv; simp only [conc, hid]; exact ⟨trivial, hv⟩
  | _ => exact ⟨rfl, trivial⟩

theorem concX_agree {n : Nat} {μ μ' : Mu} (h : Agree n μ μ') {x : XV} (hx : x.ok μ n) : concX μ' x = concX μ x ∧ x.ok μ' n := by
  cases x with
  | one v => exact conc_agree h hx
  | tup l =>
    have : l.map (conc μ') = l.map (conc μ) := List.map_congr_left fun v hv => (conc_agree h (hx v hv)).1
    exact ⟨by simp [concX, this], fun v hv => (conc_agree h (hx v hv)).2⟩
  | agg l =>
    have : l.map (conc μ') = l.map (conc μ) := List.map_congr_left fun v hv => (conc_agree h (hx v hv)).1
    exact ⟨by simp [concX, this], fun v hv => (conc_agree h (hx v hv)).2⟩
  | undef => exact ⟨rfl, trivial⟩

theorem AV.ok_mono {μ : Mu} {n n' : Nat} (h : n ≤ n') {v : AV} (hv : v.ok μ n) : v.ok μ n' := by
  cases v with
  | sl s =>
    obtain ⟨r, o, l⟩ := s
    cases r with
    | nil => exact hv
    | far a => exact hv
    | row id => exact ⟨Nat.lt_of_lt_of_le hv.1 h, hv.2⟩
  | ptr id off => exact Nat.lt_of_lt_of_le hv h
  | psl id off len cap => exact Nat.lt_of_lt_of_le hv h
  | _ => trivial

theorem XV.ok_mono {μ : Mu} {n n' : Nat} (h : n ≤ n') {x : XV} (hx : x.ok μ n) : x.ok μ n' := by
  cases x with
  | one v => exact AV.ok_mono h hx
  | tup l => exact fun v hv => AV.ok_mono h (hx v hv)
  | agg l => exact fun v hv => AV.ok_mono h (hx v hv)
  | undef => trivial

theorem FRel.agree {μ μ' : Mu} {n n' k : Nat} {σ : Frame} {tmps : Array Value} (hf : FRel μ n σ tmps k) (h : Agree n μ μ') (hn : n ≤ n') : FRel μ' n' σ tmps k := by
  refine ⟨hf.size, fun t x hx => ?_⟩
  obtain ⟨h1, h2, h3⟩ := hf.slot t x hx
  obtain ⟨h4, h5⟩ := concX_agree h h2
  exact ⟨h1, XV.ok_mono hn h5, by rw [h4]; exact h3⟩

theorem Agree.refl (n : Nat) (μ : Mu) : Agree n μ μ := fun _ _ => rfl
theorem Agree.trans {n n' : Nat} {μ μ' μ'' : Mu} (h : Agree n μ μ') (h' : Agree n' μ' μ'') (hn : n ≤ n') : Agree n μ μ'' :=
  fun i hi => (h' i (Nat.lt_of_lt_of_le hi hn)).trans (h i hi)

/-! ### Rows -/

theorem RowRel.agree {B : Nat} {μ μ' : Mu} {n n' id : Nat} {r : Row} {w : World} (h : RowRel B μ n id r w) (ha : Agree n μ μ') (hn : n ≤ n') (hid : id < n) : RowRel B μ' n' id r w := by
  have hi := ha id hid
  refine ⟨h.fam, fun i hi => AV.ok_mono hn (conc_agree ha (h.ok i hi)).2, fun ho => ?_, fun ho => ?_⟩
  · obtain ⟨h1, h2, h3, cur, h4, h5, h6⟩ := h.own ho
    rw [hi]
    exact ⟨h1, h2, h3, cur, h4, h5, fun i hi => by rw [(conc_agree ha (h.ok i hi)).1]; exact h6 i hi⟩
  · obtain ⟨h1, h2⟩ := h.old ho
    rw [hi]
    exact ⟨h1, fun i hi => by rw [(conc_agree ha (h.ok i hi)).1]; exact h2 i hi⟩

/-- The rows of a beginning of memory, seen by the places of that beginning. -/
theorem HRel.restrict {B : Nat} {w0 w : World} {μ μ' : Mu} {m m' : Heap} (h : HRel B w0 μ' m' w) (hm : m <+: m') (ha : Agree m.length μ μ')
    (hok : ∀ (id : Nat) (r : Row), m[id]? = some r → ∀ i : Nat, i < r.vals.len → (r.vals.get i).ok μ m.length) : HRel B w0 μ m w := by
  obtain ⟨t, rfl⟩ := hm
  have hl : ∀ id r, m[id]? = some r → id < m.length := fun id r h => (List.getElem?_eq_some_iff.1 h).1
  have hg : ∀ id r, m[id]? = some r → (m ++ t)[id]? = some r := fun id r h => by rw [List.getElem?_append_left (hl id r h)]; exact h
  refine ⟨h.below, h.le, fun id r hr => ?_, fun i j r s hi hj ho hs hf => ?_⟩
  · have h0 := h.rows id r (hg id r hr)
    have hid := ha id (hl id r hr)
    have hc : ∀ i, i < r.vals.len → conc μ' (r.vals.get i) = conc μ (r.vals.get i) := fun i hi => (conc_agree ha (hok id r hr i hi)).1
    refine ⟨h0.fam, hok id r hr, fun ho => ?_, fun ho => ?_⟩
    · obtain ⟨h1, h2, h3, cur, h4, h5, h6⟩ := h0.own ho
      rw [hid] at h1 h2 h3 h4 h5
      exact ⟨h1, h2, h3, cur, h4, h5, fun i hi => by rw [← hc i hi]; exact h6 i hi⟩
    · obtain ⟨h1, h2⟩ := h0.old ho
      rw [hid] at h1 h2
      exact ⟨h1, fun i hi => by rw [← hc i hi]; exact h2 i hi⟩
  · have := h.sep i j r s (hg i r hi) (hg j s hj) ho hs hf
    rw [ha i (hl i r hi), ha j (hl j s hj)] at this
    exact this

theorem RowRel.cell {B : Nat} {μ : Mu} {n id : Nat} {r : Row} {w : World} (h : RowRel B μ n id r w) {i : Nat} (hi : i < r.vals.len) :
    w.cell? ⟨(μ id).blk, (μ id).off + i, none⟩ = some (conc μ (r.vals.get i)) := by
  cases ho : r.own with
  | false => exact (h.old ho).2 i hi
  | true =>
    obtain ⟨h1, h2, h3, cur, h4, h5, h6⟩ := h.own ho
    rw [h1, Nat.zero_add, cell_of_row w _ i cur _ _ h4]
    exact h6 i hi

/-- A draw changes no row. -/
theorem HRel.drew {B : Nat} {w0 w : World} {μ : Mu} {m : Heap} (h : HRel B w0 μ m w) : HRel B w0 μ m w.drew :=
  ⟨h.below.drew, h.le, fun id r hr => let q := h.rows id r hr; ⟨q.fam, q.ok, q.own, q.old⟩, h.sep⟩

end Go.Abs
