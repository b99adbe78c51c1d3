/- Stores into rows whose family is theirs alone. Own work; no condition. -/
import Derived.Test.YtcbnigipnepnkaaUse
namespace Go.Abs

/-- No other row of the call's own is of this row's family. -/
def Alone (m : Heap) (id : Nat) : Prop := ∀ (j : Nat) (r : Row), m[j]? = some r → r.own = true → r.fam = id → j = id

theorem get_lt {m : Heap} {id : Nat} {r : Row} (h : m[id]? = some r) : id < m.length := (List.getElem?_eq_some_iff.1 h).1

theorem alone_new {m : Heap} (hwf : m.wf) (e : TypeId) (o : Bool) (v : Vals) : Alone (m ++ [⟨e, m.length, o, v⟩]) m.length := by
  intro j r hr _ hf
  rcases get_push hr with ⟨h1, h2⟩ | ⟨h1, _⟩
  · have := hwf j r h2; omega
  · exact h1

theorem Alone.push {m : Heap} {id : Nat} (h : Alone m id) (hid : id < m.length) (e : TypeId) (o : Bool) (v : Vals) : Alone (m ++ [⟨e, m.length, o, v⟩]) id := by
  intro j r hr ho hf
  rcases get_push hr with ⟨_, h2⟩ | ⟨_, rfl⟩
  · exact h j r h2 ho hf
  · simp only at hf; omega

theorem Alone.set {m : Heap} {id i : Nat} {r r' : Row} (h : Alone m id) (hr : m[i]? = some r) (hf : r'.fam = r.fam) (ho : r'.own = r.own) : Alone (m.set i r') id := by
  intro j s hs hso hsf
  rw [List.getElem?_set] at hs
  split at hs
  · rename_i e
    subst e
    split at hs
    · cases hs
      exact h i r hr (by rw [← ho]; exact hso) (by rw [← hf]; exact hsf)
    · cases hs
  · exact h j s hs hso hsf

theorem wf_set {m : Heap} {i : Nat} {r : Row} (hwf : m.wf) (hf : r.fam ≤ i) : Heap.wf (m.set i r) := by
  intro j s hs
  rw [List.getElem?_set] at hs
  split at hs
  · rename_i e
    subst e
    split at hs
    · cases hs; exact hf
    · cases hs
  · exact hwf j s hs

theorem get_set_self {m : Heap} {i : Nat} {r : Row} (h : i < m.length) : (m.set i r)[i]? = some r := by
  rw [List.getElem?_set, if_pos rfl, if_pos h]
theorem get_set_ne {m : Heap} {i j : Nat} {r : Row} (h : i ≠ j) : (m.set i r)[j]? = m[j]? := by
  rw [List.getElem?_set, if_neg h]

theorem row_at_push {m : Heap} {i : Nat} {r : Row} (h : m[i]? = some r) (s : Row) : (m ++ [s])[i]? = some r := by
  rw [List.getElem?_append_left (get_lt h)]; exact h

theorem prefix_set {m0 m : Heap} {i : Nat} {r : Row} (h : m0 <+: m) (hi : m0.length ≤ i) : m0 <+: m.set i r := by
  obtain ⟨t, rfl⟩ := h
  rw [List.set_append_right _ _ hi]
  exact List.prefix_append _ _

theorem setRow_alone {m : Heap} {id e i : Nat} {v u : Vals} (hal : Alone m id) : m.setRow id i ⟨e, id, true, v⟩ u = m.set id ⟨e, id, true, u⟩ := by
  apply List.ext_getElem?
  intro j
  unfold Heap.setRow
  rw [List.getElem?_set, List.getElem?_set, cutFam_length]
  split
  · rfl
  · rw [cutFam_get]
    cases hr : m[j]? with
    | none => rfl
    | some r =>
      simp only [Option.map_some]
      rw [if_neg]
      rintro ⟨h1, h2⟩
      rename_i hne
      exact hne (hal j r hr h1 h2).symm

theorem st_alone {m : Heap} {id e off : Nat} {v : AV} {vals vs : Vals} {K : Heap → Prop} (hrow : m[id]? = some ⟨e, id, true, vals⟩) (hal : Alone m id) (hlt : off < vals.len) (hset : vals.set off v = some vs) (hk : K (m.set id ⟨e, id, true, vs⟩)) : aSt m id off v K := by
  unfold aSt
  rw [hrow]
  simp only
  refine ⟨⟨trivial, hlt⟩, ?_⟩
  rw [hset]
  simp only
  rw [setRow_alone hal]
  exact hk

/-- A slice of numbers that is the whole of a row of its own. -/
structure OwnInts (n0 : Nat) (m : Heap) (s : SV) (l : List Int) (id : Nat) : Prop where
  le : n0 ≤ id
  is : s = ⟨.row id, 0, l.length⟩
  row : m[id]? = some ⟨3, id, true, .ints .i64 l⟩
  alone : Alone m id

theorem OwnInts.isInts {n0 : Nat} {m : Heap} {s : SV} {l : List Int} {id : Nat} (h : OwnInts n0 m s l id) : IsInts .i64 m s l := by
  obtain ⟨_, rfl, hr, _⟩ := h
  refine ⟨rfl, fun i hi => ?_⟩
  rw [Nat.zero_add]
  exact at_row hr hi

theorem ownInts_new {m : Heap} (hwf : m.wf) (l : List Int) : OwnInts m.length (m ++ [⟨3, m.length, true, .ints .i64 l⟩]) ⟨.row m.length, 0, l.length⟩ l m.length :=
  ⟨Nat.le_refl _, rfl, get_last _ _, alone_new hwf _ _ _⟩

end Go.Abs
