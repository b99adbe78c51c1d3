/- Memory that grows: what a call leaves alone, told by families of rows. Own work; no condition. -/
import Derived.Test.YtcbnigipnepnkaaLaws0
import Derived.Test.YtcbnigipnepnkaaHeap1
set_option maxRecDepth 100000
set_option linter.unusedSimpArgs false
set_option linter.unusedVariables false
namespace Go.Abs
open Go.Proofs
attribute [local irreducible] awp awpOps aloop ALoop ACalls ACallq AQuiet retPost retPostA AExit.thn AExit.blk aApp aSt aStA

theorem row_prefix0 {m m' : Heap} (h : m <+: m') {id : Nat} {r : Row} (hr : m[id]? = some r) : m'[id]? = some r := by
  obtain ⟨t, rfl⟩ := h
  rw [List.getElem?_append_left (List.getElem?_eq_some_iff.1 hr).1]
  exact hr
theorem Vals.take_len_le (v : Vals) (n : Nat) : (v.take n).len ≤ v.len := by rw [Vals.len_take]; exact Nat.min_le_right _ _

/-- From m to m' only rows of families in a..b have changed, and new rows are of new families, or of these. -/
structure Grow (a b : Nat) (m m' : Heap) : Prop where
  le : m.length ≤ m'.length
  keep : ∀ (id : Nat) (r : Row), m[id]? = some r → (r.fam < a ∨ b ≤ r.fam) → m'[id]? = some r
  old : ∀ (id : Nat) (r' : Row), id < m.length → m'[id]? = some r' → ∃ r, m[id]? = some r ∧ r.fam = r'.fam ∧ r.own = r'.own ∧ r'.vals.len ≤ r.vals.len
  new : ∀ (id : Nat) (r' : Row), m.length ≤ id → m'[id]? = some r' → m.length ≤ r'.fam ∨ (a ≤ r'.fam ∧ r'.fam < b)
  wf : m'.wf

theorem Grow.refl {m : Heap} (h : m.wf) (a b : Nat) : Grow a b m m :=
  ⟨Nat.le_refl _, fun _ _ h _ => h, fun _ r _ h => ⟨r, h, rfl, rfl, Nat.le_refl _⟩, fun id r hl h => absurd (get_lt h) (by omega), h⟩

theorem Grow.trans {a b : Nat} {m m' m'' : Heap} (h : Grow a b m m') (h' : Grow a b m' m'') : Grow a b m m'' := by
  refine ⟨Nat.le_trans h.le h'.le, fun id r hr hf => h'.keep id r (h.keep id r hr hf) hf, fun id r'' hl hr => ?_, fun id r'' hl hr => ?_, h'.wf⟩
  · have := h.le
    obtain ⟨r', g1, g2, g3, g4⟩ := h'.old id r'' (by omega) hr
    obtain ⟨r, e1, e2, e3, e4⟩ := h.old id r' hl g1
    exact ⟨r, e1, e2.trans g2, e3.trans g3, Nat.le_trans g4 e4⟩
  · by_cases hl' : id < m'.length
    · obtain ⟨r', g1, g2, _⟩ := h'.old id r'' hl' hr
      rw [← g2]
      exact h.new id r' hl g1
    · have := h.le
      rcases h'.new id r'' (by omega) hr with h1 | h1
      · exact .inl (by omega)
      · exact .inr h1

theorem Grow.mono {a b a' b' : Nat} {m m' : Heap} (h : Grow a b m m') (ha : a' ≤ a) (hb : b ≤ b') : Grow a' b' m m' :=
  ⟨h.le, fun id r hr hf => h.keep id r hr (by omega), h.old, fun id r hl hr => by rcases h.new id r hl hr with h1 | h1 <;> omega, h.wf⟩

/-- A call that leaves all rows alone. -/
theorem Grow.any {m m' : Heap} (h : Grow 0 0 m m') (a b : Nat) : Grow a b m m' :=
  ⟨h.le, fun id r hr _ => h.keep id r hr (.inr (Nat.zero_le _)), h.old, fun id r hl hr => by rcases h.new id r hl hr with h1 | h1 <;> omega, h.wf⟩

/-- What is done to families made since m is not seen in m. -/
theorem Grow.into {a b c d : Nat} {m m' m'' : Heap} (hwf : m.wf) (h : Grow a b m m') (h' : Grow c d m' m'') (hc : m.length ≤ c) : Grow a b m m'' := by
  refine ⟨Nat.le_trans h.le h'.le, fun id r hr hf => h'.keep id r (h.keep id r hr hf) (.inl ?_), fun id r'' hl hr => ?_, fun id r'' hl hr => ?_, h'.wf⟩
  · have := hwf id r hr
    have := get_lt hr
    omega
  · have := h.le
    obtain ⟨r', g1, g2, g3, g4⟩ := h'.old id r'' (by omega) hr
    obtain ⟨r, e1, e2, e3, e4⟩ := h.old id r' hl g1
    exact ⟨r, e1, e2.trans g2, e3.trans g3, Nat.le_trans g4 e4⟩
  · by_cases hl' : id < m'.length
    · obtain ⟨r', g1, g2, _⟩ := h'.old id r'' hl' hr
      rw [← g2]
      exact h.new id r' hl g1
    · have := h.le
      rcases h'.new id r'' (by omega) hr with h1 | h1 <;> exact .inl (by omega)

theorem Grow.push {m : Heap} (h : m.wf) (e : TypeId) (o : Bool) (v : Vals) : Grow 0 0 m (m ++ [⟨e, m.length, o, v⟩]) := by
  refine ⟨by simp, fun id r hr _ => row_at_push hr _, fun id r hl hr => ?_, fun id r hl hr => ?_, wf_push h (Nat.le_refl _)⟩
  · rcases get_push hr with ⟨_, h2⟩ | ⟨h1, _⟩
    · exact ⟨r, h2, rfl, rfl, Nat.le_refl _⟩
    · omega
  · rcases get_push hr with ⟨h1, _⟩ | ⟨_, rfl⟩
    · omega
    · exact .inl (Nat.le_refl _)

theorem grow00 {m m' : Heap} (hp : m <+: m') (h : Grow m.length m'.length m m') : Grow 0 0 m m' :=
  ⟨h.le, fun id r hr _ => row_prefix0 hp hr, h.old, fun id r hl hr => by rcases h.new id r hl hr with h1 | h1 <;> exact .inl (by omega), h.wf⟩

theorem prefix_of_get {m m' : Heap} (h : ∀ (id : Nat) (r : Row), m[id]? = some r → m'[id]? = some r) : m <+: m' := by
  refine ⟨m'.drop m.length, List.ext_getElem? fun i => ?_⟩
  by_cases hi : i < m.length
  · rw [List.getElem?_append_left hi, List.getElem?_eq_getElem hi]
    exact (h i _ (List.getElem?_eq_getElem hi)).symm
  · rw [List.getElem?_append_right (by omega), List.getElem?_drop, show m.length + (i - m.length) = i by omega]

/-- What was there ahead of the families that change is there still. -/
theorem Grow.pre {a b : Nat} {m0 m m' : Heap} (h : Grow a b m m') (h0 : m0 <+: m) (hwf : m0.wf) (ha : m0.length ≤ a) : m0 <+: m' :=
  prefix_of_get fun id r hr => h.keep id r (row_prefix0 h0 hr) (.inl (by have := hwf id r hr; have := get_lt hr; omega))
theorem Grow.pre0 {m m' : Heap} (h : Grow 0 0 m m') : m <+: m' := prefix_of_get fun id r hr => h.keep id r hr (.inr (Nat.zero_le _))

/-- A slice that is the whole of a row of the call's own, of a family in a..b; or nothing. -/
def Obj (e : TypeId) (a b : Nat) (m : Heap) (s : SV) (v : Vals) : Prop :=
  (s = SV.nil ∧ v.len = 0) ∨ ∃ id f, a ≤ f ∧ f < b ∧ s = ⟨.row id, 0, v.len⟩ ∧ m[id]? = some ⟨e, f, true, v⟩

theorem Obj.grow {e : TypeId} {a b c d : Nat} {m m' : Heap} {s : SV} {v : Vals} (h : Obj e c d m s v) (g : Grow a b m m') (hd : d ≤ a ∨ b ≤ c) : Obj e c d m' s v := by
  rcases h with h | ⟨id, f, h1, h2, h3, h4⟩
  · exact .inl h
  · exact .inr ⟨id, f, h1, h2, h3, g.keep id _ h4 (by simp only; omega)⟩
theorem Obj.grow0 {e : TypeId} {c d : Nat} {m m' : Heap} {s : SV} {v : Vals} (h : Obj e c d m s v) (g : Grow 0 0 m m') : Obj e c d m' s v := h.grow g (.inr (Nat.zero_le _))
theorem Obj.mono {e : TypeId} {a b a' b' : Nat} {m : Heap} {s : SV} {v : Vals} (h : Obj e a b m s v) (ha : a' ≤ a) (hb : b ≤ b') : Obj e a' b' m s v := by
  rcases h with h | ⟨id, f, h1, h2, h3, h4⟩
  · exact .inl h
  · exact .inr ⟨id, f, by omega, by omega, h3, h4⟩
theorem Obj.len {e : TypeId} {a b : Nat} {m : Heap} {s : SV} {v : Vals} (h : Obj e a b m s v) : s.len = v.len := by
  rcases h with ⟨rfl, h⟩ | ⟨id, f, h1, h2, rfl, h4⟩
  · exact h.symm
  · rfl
theorem Obj.isInts {e : TypeId} {k : IntKind} {a b : Nat} {m : Heap} {s : SV} {l : List Int} (h : Obj e a b m s (.ints k l)) : IsInts k m s l := by
  rcases h with ⟨rfl, h0⟩ | ⟨id, f, _, _, rfl, h4⟩
  · simp only [Vals.len] at h0
    rw [List.eq_nil_of_length_eq_zero h0]; exact isInts_nil k m
  · refine ⟨rfl, fun i hi => ?_⟩
    rw [Nat.zero_add]
    exact at_row h4 hi
theorem Obj.isSls {e : TypeId} {a b : Nat} {m : Heap} {s : SV} {l : List SV} (h : Obj e a b m s (.sls l)) : IsSls m s l := by
  rcases h with ⟨rfl, h0⟩ | ⟨id, f, _, _, rfl, h4⟩
  · simp only [Vals.len] at h0
    rw [List.eq_nil_of_length_eq_zero h0]; exact ⟨rfl, fun i hi => by simp at hi⟩
  · refine ⟨rfl, fun i hi => ?_⟩
    rw [Nat.zero_add]
    exact at_row h4 hi
theorem obj_new {m : Heap} (e : TypeId) (v : Vals) {n : Nat} (hn : n = v.len) {a b : Nat} (ha : a ≤ m.length) (hb : m.length < b) : Obj e a b (m ++ [⟨e, m.length, true, v⟩]) ⟨.row m.length, 0, n⟩ v := by
  subst hn
  exact .inr ⟨m.length, m.length, ha, hb, rfl, get_last _ _⟩
theorem obj_nil (e : TypeId) (k : IntKind) (a b : Nat) (m : Heap) : Obj e a b m SV.nil (.ints k []) := .inl ⟨rfl, rfl⟩

/-- A slice to which is appended: no longer row is of its family f. -/
def Acc (e : TypeId) (f : Nat) (m : Heap) (s : SV) (v : Vals) : Prop :=
  (s = SV.nil ∧ v.len = 0) ∨ ∃ id, s = ⟨.row id, 0, v.len⟩ ∧ m[id]? = some ⟨e, f, true, v⟩ ∧ ∀ (j : Nat) (r : Row), m[j]? = some r → r.own = true → r.fam = f → r.vals.len ≤ v.len

theorem Acc.obj {e : TypeId} {f a b : Nat} {m : Heap} {s : SV} {v : Vals} (h : Acc e f m s v) (ha : a ≤ f) (hb : f < b) : Obj e a b m s v := by
  rcases h with h | ⟨id, h3, h4, _⟩
  · exact .inl h
  · exact .inr ⟨id, f, ha, hb, h3, h4⟩
theorem Acc.grow {e : TypeId} {f a b : Nat} {m m' : Heap} {s : SV} {v : Vals} (h : Acc e f m s v) (g : Grow a b m m') (hd : f < a ∨ b ≤ f) (hf : f < m.length) : Acc e f m' s v := by
  rcases h with h | ⟨id, h3, h4, h5⟩
  · exact .inl h
  · refine .inr ⟨id, h3, g.keep id _ h4 (by simp only; omega), fun j r hr ho he => ?_⟩
    by_cases hj : j < m.length
    · obtain ⟨r0, e1, e2, e3, e4⟩ := g.old j r hj hr
      have := h5 j r0 e1 (by rw [e3]; exact ho) (by rw [e2]; exact he)
      omega
    · rcases g.new j r (by omega) hr with h1 | h1 <;> omega
theorem Acc.grow0 {e : TypeId} {f : Nat} {m m' : Heap} {s : SV} {v : Vals} (h : Acc e f m s v) (g : Grow 0 0 m m') (hf : f < m.length) : Acc e f m' s v := h.grow g (.inr (Nat.zero_le _)) hf
theorem acc_nil (e : TypeId) (k : IntKind) (f : Nat) (m : Heap) : Acc e f m SV.nil (.ints k []) := .inl ⟨rfl, rfl⟩
theorem acc_new {m : Heap} (hwf : m.wf) (e : TypeId) (v : Vals) {n : Nat} (hn : n = v.len) : Acc e m.length (m ++ [⟨e, m.length, true, v⟩]) ⟨.row m.length, 0, n⟩ v := by
  subst hn
  refine .inr ⟨m.length, rfl, get_last _ _, fun j r hr _ hf => ?_⟩
  rcases get_push hr with ⟨h1, h2⟩ | ⟨_, rfl⟩
  · have := hwf j r h2; omega
  · exact Nat.le_refl _

/-- append(s, x...), the row of x known. -/
theorem app_acc {e : TypeId} {s x : SV} {m : Heap} {K : XV → Heap → Prop} {v u t : Vals} {f xi : Nat} {rx : Row} (hwf : m.wf) (hs : Acc e f m s v) (hx : x = ⟨.row xi, 0, rx.vals.len⟩) (hrx : m[xi]? = some rx) (hu : rx.vals = u) (hpos : 0 < u.len)
    (hlen : v.len + u.len ≤ 1099511627776) (ht : v.app u = some t) (hk : ∀ (s' : SV) (m' : Heap) (f' : Nat), m <+: m' → (∀ a b, (s = SV.nil ∨ a ≤ f ∧ f < b) → Grow a b m m') → Acc e f' m' s' t → (f' = f ∧ s ≠ SV.nil) ∨ m.length ≤ f' → f' < m'.length → K (.one (.sl s')) m') : aApp e s x m K := by
  subst hx
  subst hu
  obtain ⟨t1, t2⟩ := Vals.app_spec ht
  rcases hs with ⟨rfl, hv0⟩ | ⟨id, rfl, hid, hfam⟩
  · simp only [aApp, hrx, Nat.zero_add, Vals.sub_len]
    refine ⟨⟨Nat.le_refl _, by omega⟩, fun h => absurd h (by omega), fun _ => ?_⟩
    have e1 : rx.vals = t := by
      cases v <;> cases hq : rx.vals <;> rw [hq] at ht <;> simp only [Vals.app] at ht <;> first | (cases ht; done) | skip
      case ints.ints k l k' l' =>
        split at ht
        · rename_i e; cases ht; subst e; simp only [Vals.len] at hv0; rw [List.eq_nil_of_length_eq_zero hv0]; rfl
        · cases ht
      all_goals (cases ht; simp only [Vals.len] at hv0; rw [List.eq_nil_of_length_eq_zero hv0]; rfl)
    rw [e1]
    exact hk _ _ _ (prefix_push _ _) (fun a b _ => (Grow.push hwf _ _ _).any _ _) (acc_new hwf e t rfl) (.inr (Nat.le_refl _)) (by simp)
  · simp only [aApp, hrx, hid, Nat.zero_add, Vals.sub_len, Vals.take_len, ht]
    refine ⟨⟨Nat.le_refl _, hlen⟩, ⟨trivial, trivial, Nat.le_refl _, trivial⟩, ?_⟩
    rw [cutFam_self hfam]
    have hil : id < m.length := get_lt hid
    have hfid := hwf id _ hid
    simp only at hfid
    refine hk _ _ f (prefix_push _ _) (fun a b hab => ⟨by simp, fun i r hr _ => row_at_push hr _, fun i r hl hr => ?_, fun i r hl hr => ?_, wf_push hwf (by omega)⟩) (.inr ⟨m.length, by rw [t1], get_last _ _, fun j r hr ho hf => ?_⟩) (.inl ⟨rfl, fun h => by cases h⟩) (by rw [List.length_append]; omega)
    · rcases get_push hr with ⟨_, h2⟩ | ⟨h1, _⟩
      · exact ⟨r, h2, rfl, rfl, Nat.le_refl _⟩
      · omega
    · rcases get_push hr with ⟨h1, _⟩ | ⟨_, rfl⟩
      · omega
      · rcases hab with h | h
        · cases h
        · exact .inr h
    · rcases get_push hr with ⟨_, h2⟩ | ⟨_, rfl⟩
      · have := hfam j r h2 ho hf; omega
      · exact Nat.le_refl _

/-- append(s, z), z boxed just ahead. -/
theorem app_box {s : SV} {m : Heap} {K : XV → Heap → Prop} {e : TypeId} {v u t : Vals} {f : Nat} (hwf : m.wf) (hs : Acc e f m s v) (hu : u.len = 1) (hlen : v.len ≤ 1000000000) (ht : v.app u = some t)
    (hk : ∀ (s' : SV) (m' : Heap) (f' : Nat), m <+: m' → (∀ a b, (s = SV.nil ∨ a ≤ f ∧ f < b) → Grow a b m m') → Acc e f' m' s' t → (f' = f ∧ s ≠ SV.nil) ∨ m.length ≤ f' → f' < m'.length → K (.one (.sl s')) m') : aApp e s ⟨.row m.length, 0, 1⟩ (m ++ [⟨e, m.length, true, u⟩]) K := by
  have g := Grow.push hwf e true u
  have hs2 : Acc e f (m ++ [⟨e, m.length, true, u⟩]) s v := by
    rcases hs with h | ⟨id, h1, h2, h3⟩
    · exact .inl h
    · exact Acc.grow0 (show Acc e f m s v from .inr ⟨id, h1, h2, h3⟩) g (by have := hwf id _ h2; have := get_lt h2; simp only at *; omega)
  refine app_acc (u := u) (t := t) g.wf hs2 (by rw [hu]) (get_last _ _) rfl (by omega) (by omega) ht fun s' m' f' hp hg ha hf' hl => ?_
  refine hk s' m' f' ((prefix_push _ _).trans hp) (fun a b hab => (g.any _ _).trans (hg a b hab)) ha ?_ hl
  rcases hf' with h | h
  · exact .inl h
  · exact .inr (by simp at h; omega)

theorem app_int {s : SV} {m : Heap} {K : XV → Heap → Prop} {e : TypeId} {l : List Int} {z : Int} {f : Nat} (hwf : m.wf) (hs : Acc e f m s (.ints .i64 l)) (hlen : l.length ≤ 1000000000)
    (hk : ∀ (s' : SV) (m' : Heap) (f' : Nat), m <+: m' → (∀ a b, (s = SV.nil ∨ a ≤ f ∧ f < b) → Grow a b m m') → Acc e f' m' s' (.ints .i64 (l ++ [z])) → (f' = f ∧ s ≠ SV.nil) ∨ m.length ≤ f' → f' < m'.length → K (.one (.sl s')) m') : aApp e s ⟨.row m.length, 0, 1⟩ (m ++ [⟨e, m.length, true, .ints .i64 [z]⟩]) K :=
  app_box hwf hs rfl (by simpa [Vals.len] using hlen) (by simp [Vals.app]) hk

theorem app_sl {s sv : SV} {m : Heap} {K : XV → Heap → Prop} {e : TypeId} {l : List SV} {f : Nat} (hwf : m.wf) (hs : Acc e f m s (.sls l)) (hlen : l.length ≤ 1000000000)
    (hk : ∀ (s' : SV) (m' : Heap) (f' : Nat), m <+: m' → (∀ a b, (s = SV.nil ∨ a ≤ f ∧ f < b) → Grow a b m m') → Acc e f' m' s' (.sls (l ++ [sv])) → (f' = f ∧ s ≠ SV.nil) ∨ m.length ≤ f' → f' < m'.length → K (.one (.sl s')) m') : aApp e s ⟨.row m.length, 0, 1⟩ (m ++ [⟨e, m.length, true, .sls [sv]⟩]) K :=
  app_box hwf hs rfl (by simpa [Vals.len] using hlen) (by simp [Vals.app]) hk

/-- A row of the call's own is known anew. -/
theorem setRow_grow {m : Heap} {id off e f : Nat} {v v' : Vals} {K : Heap → Prop} (hwf : m.wf) (hrow : m[id]? = some ⟨e, f, true, v⟩) (hlv : v'.len = v.len)
    (hk : ∀ m' : Heap, Grow f (f + 1) m m' → m'.length = m.length → m'[id]? = some ⟨e, f, true, v'⟩ → K m') : K (m.setRow id off ⟨e, f, true, v⟩ v') := by
  have hil := get_lt hrow
  have hid : (m.setRow id off ⟨e, f, true, v⟩ v')[id]? = some ⟨e, f, true, v'⟩ := by
    unfold Heap.setRow
    rw [List.getElem?_set, if_pos rfl, if_pos (by rw [cutFam_length]; exact hil)]
  have hne : ∀ j, j ≠ id → (m.setRow id off ⟨e, f, true, v⟩ v')[j]? = m[j]?.map (fun r => if r.own = true ∧ r.fam = f then r.cut off else r) := fun j hj => by
    unfold Heap.setRow
    rw [List.getElem?_set, if_neg (fun h => hj h.symm), cutFam_get]
  have hlen : (m.setRow id off ⟨e, f, true, v⟩ v').length = m.length := by unfold Heap.setRow; rw [List.length_set, cutFam_length]
  have hold : ∀ (j : Nat) (r' : Row), (m.setRow id off ⟨e, f, true, v⟩ v')[j]? = some r' → ∃ r, m[j]? = some r ∧ r.fam = r'.fam ∧ r.own = r'.own ∧ r'.vals.len ≤ r.vals.len := fun j r' hr => by
    by_cases hj : j = id
    · subst hj
      rw [hid] at hr
      cases hr
      exact ⟨_, hrow, rfl, rfl, Nat.le_of_eq hlv⟩
    · rw [hne j hj] at hr
      cases hm : m[j]? with
      | none => rw [hm] at hr; cases hr
      | some r =>
        rw [hm] at hr
        simp only [Option.map_some, Option.some.injEq] at hr
        refine ⟨r, rfl, ?_⟩
        subst hr
        split
        · refine ⟨rfl, rfl, ?_⟩
          unfold Row.cut
          exact Vals.take_len_le _ _
        · exact ⟨rfl, rfl, Nat.le_refl _⟩
  refine hk _ ⟨Nat.le_of_eq hlen.symm, fun j r hr hf => ?_, fun j r' _ hr => hold j r' hr, fun j r hl hr => absurd (get_lt hr) (by omega), fun j r' hr => ?_⟩ hlen hid
  · have hj : j ≠ id := fun h => by
      subst h
      rw [hrow] at hr
      cases hr
      simp only at hf
      omega
    rw [hne j hj, hr]
    simp only [Option.map_some]
    rw [if_neg (fun h => by omega)]
  · obtain ⟨r, h1, h2, _⟩ := hold j r' hr
    have := hwf j r h1
    omega

/-- A store into a row of the call's own. -/
theorem st_row {m : Heap} {id off e f : Nat} {x : AV} {v v' : Vals} {K : Heap → Prop} (hwf : m.wf) (hrow : m[id]? = some ⟨e, f, true, v⟩) (hlt : off < v.len) (hset : v.set off x = some v')
    (hk : ∀ m' : Heap, Grow f (f + 1) m m' → m'.length = m.length → m'[id]? = some ⟨e, f, true, v'⟩ → K m') : aSt m id off x K := by
  unfold aSt
  rw [hrow]
  simp only
  refine ⟨⟨trivial, hlt⟩, ?_⟩
  rw [hset]
  exact setRow_grow hwf hrow (Vals.set_spec hset hlt).1 hk

/-- A store of all cells of a variable. -/
theorem st_agg {m : Heap} {id e f n : Nat} {v : Vals} {l : List AV} {v' : Vals} {K : Heap → Prop} (hwf : m.wf) (hrow : m[id]? = some ⟨e, f, true, v⟩) (hn : n = l.length) (hlen : v.len = n) (hv : Vals.ofAgg l = v')
    (hk : ∀ m' : Heap, Grow f (f + 1) m m' → m'.length = m.length → m'[id]? = some ⟨e, f, true, v'⟩ → K m') : aStA m id 0 n l K := by
  unfold aStA
  rw [hrow]
  refine ⟨⟨rfl, rfl, hn, hlen⟩, ?_⟩
  rw [hv]
  exact setRow_grow hwf hrow (by rw [← hv, (ofAgg_spec l).1]; omega) hk

theorem Acc.st {e f id : Nat} {m m' : Heap} {v v' : Vals} {n : Nat} (h : Acc e f m ⟨.row id, 0, n⟩ v) (g : Grow f (f + 1) m m') (hl : m'.length = m.length) (hv : v'.len = v.len) (hr : m'[id]? = some ⟨e, f, true, v'⟩) : Acc e f m' ⟨.row id, 0, n⟩ v' := by
  rcases h with ⟨h, _⟩ | ⟨id', h3, h4, h5⟩
  · cases h
  · obtain ⟨rfl, rfl⟩ : id = id' ∧ n = v.len := by simpa using h3
    refine .inr ⟨id, by rw [hv], hr, fun j r hj ho hf => ?_⟩
    obtain ⟨r0, e1, e2, e3, e4⟩ := g.old j r (by have := get_lt hj; omega) hj
    have := h5 j r0 e1 (by rw [e3]; exact ho) (by rw [e2]; exact hf)
    omega

/-- A call that hands back a slice in new memory, and leaves all rows alone. -/
def ARet (P : Program) (f : FuncId) (args : List XV) (m : Heap) (e : TypeId) (v : Vals) : Prop :=
  ACalls P f args m fun x m' => ∃ s', x = .one (.sl s') ∧ Grow 0 0 m m' ∧ Obj e m.length m'.length m' s' v

theorem ARet.call {P : Program} {f : FuncId} {args : List XV} {m : Heap} {e : TypeId} {v : Vals} {K : XV → Heap → Prop} (h : ARet P f args m e v) (hk : ∀ (s' : SV) (m' : Heap), Grow 0 0 m m' → Obj e m.length m'.length m' s' v → K (.one (.sl s')) m') : ACalls P f args m K :=
  ACalls.mono h fun _ m' ⟨s', hx, hg, ho⟩ => hx ▸ hk s' m' hg ho

theorem ARet.eq {P : Program} {f : FuncId} {args : List XV} {m : Heap} {e : TypeId} {v v' : Vals} (h : ARet P f args m e v) (hv : v = v') : ARet P f args m e v' := hv ▸ h

theorem arn {P : Program} {f : FuncId} {n : Nat} {code : ACode} {res : List Nat} (ht : trFnC P f = some ⟨n, code, res⟩) {args : List XV} {m : Heap} {e : TypeId} {v : Vals} (hlen : Nat.ble args.length n = true)
    (h : m.wf → awp P code (retPost res fun x m' => ∃ s', x = .one (.sl s') ∧ Grow 0 0 m m' ∧ Obj e m.length m'.length m' s' v) (argFrame 0 args) m) : ARet P f args m e v :=
  ACalls.wf fun hwf => afn ht hlen (h hwf)

/-- The same of a slice and what comes with it. -/
def ARet2 (P : Program) (f : FuncId) (args : List XV) (m : Heap) (e : TypeId) (v : Vals) (b : AV) : Prop :=
  ACalls P f args m fun x m' => ∃ s', x = .tup [.sl s', b] ∧ Grow 0 0 m m' ∧ Obj e m.length m'.length m' s' v

end Go.Abs
